/-
  Any bytes read as buckets, from any place on: the program tells what the document says; the document's examples hold. The call returns true, and its arguments read as they did.
  Conditions: none: every value of the parameters' types.
-/
import Derived.Test.YtjngpdhhkkambabHistAm
import Derived.Test.YtjngpdhhkkambabHistN
import Derived.Test.YtjngpdhhkkambabVintF
import Derived.Deep.RegionWith
import Derived.Deep.DrawnRows
import Derived.ProofKit
import Derived.OpenShut
import Derived.ShutString
import Derived.ChangeOld
import Derived.SizedLaws
namespace Go.Proofs.Ytjngpdhhkkambab
open Go.RowKit

theorem rb_made (w : World) (a : Option Addr) (n cap : Nat) (p : Int) : RB (w.alloc (.cells #[.slice a n cap, .int .i64 p, .bool false] 36)) w.heap.size a n cap p false := World.alloc_heap_new w _

set_option maxRecDepth 20000 in
set_option maxHeartbeats 8000000 in
theorem walk_reads (a : Option Addr) (n cap : Nat) (ys : List Int) (p : Int) (w : World) (hl : IsRow .u8 w a n cap ys) (hp : (Lit.int .i64 p).wf = true) :
    Calls Try.prog 4 #[.slice a n cap, .int .i64 p] w fun e w' => e = .returned (.bool true) ∧ Below w.heap.size w w' := by
  obtain ⟨hnc, hcap, hnone, hrow⟩ := row_of hl
  generalize ys.take n = zs at hrow
  have HR := hide hrow
  have hn := hrow.2.1
  replace hcap : cap * 1 ≤ 140737488351232 := hcap
  have hnb : n ≤ 140737488355328 := by omega
  have AW := hide awake_any
  have C5 := hide (bytes_any a n cap zs w hrow hnone hnb)
  have HE := hide (dGet_eq hrow.bytes (p := p) (fun l e h => parH_place hrow.bytes h))
  have HP := hide hp
  have HZ : Hid (Bytes8 zs) := hrow.bytes
  clear hl hrow hnone hcap hp
  go_enter Try.func4, Try.ntmps4
  go_wp2_with fail
  refine C5.out.mono ?_
  rintro e w1 ⟨a1, c1, rfl, o1, b1⟩
  have B1 := hide b1
  have G := hide (hget_any p a1 n c1 zs w1 HP.out o1.capped.1 (o1.row8 hn HZ.out))
  rw [HE.out] at G
  clear o1 b1 C5 HE
  go_wp2_with fail
  refine G.out.mono ?_
  rintro e w2 ⟨he, b2⟩
  have B2 := hide (below_to B1.out b2 (Nat.le_refl _))
  have hk2 : w.heap.size ≤ w2.heap.size := B2.out.size
  have N := hide (refgetH_any p w2.heap.size a n cap zs w (w2.alloc (.cells #[.slice a n cap, .int .i64 p, .bool false] 36)) HP.out hnc HR.out hk2 (B2.out.alloc hk2 _) (rb_made w2 a n cap p))
  have B3 : Hid (Below w.heap.size w (w2.alloc (.cells #[.slice a n cap, .int .i64 p, .bool false] 36))) := B2.out.alloc hk2 _
  have HK := hide hk2
  clear b2 B1 G hk2
  cases hg : getH zs p with
  | none =>
    rw [hg] at he N
    have he : e = .returned (.tuple #[.slice none 0 0, .int .i64 0, .bool false]) := he
    subst he
    clear hg
    go_wp2_with fail
    refine N.out.mono ?_
    rintro e w4 ⟨c4, rfl, p', hrb⟩
    obtain ⟨_, d1, d2, _⟩ := hrb.cell
    have B4 : Hid (Below w.heap.size w w4) := below_ch B3.out c4 (Nat.le_refl _) HK.out
    clear c4 hrb N B3
    go_wp2_with fail
    refine (AW.out _).mono ?_
    rintro e w5 ⟨rfl, b5⟩
    have B5 := hide (below_to B4.out b5 (Nat.le_refl _))
    clear b5 B4
    go_wp2
    go_ret
    exact ⟨rfl, B5.out⟩
  | some q =>
    obtain ⟨l, ed⟩ := q
    rw [hg] at he N
    obtain ⟨a3, c3, he, o3, hfit, hlen⟩ := he
    simp only at he o3 hfit hlen
    subst he
    have O3 := hide o3
    have R3 := hide (o3.row (by omega) hfit)
    have HF := hide hfit
    clear hg o3 hfit
    obtain ⟨nl, HNL⟩ : ∃ nl, Hid (l.length = nl) := ⟨_, rfl⟩
    rw [HNL.out] at R3 ⊢
    go_wp2_with fail
    refine N.out.mono ?_
    rintro e w4 ⟨c4, ⟨a4, c4', rfl, o4⟩, hrb⟩
    simp only at o4 hrb
    rw [HNL.out] at o4 ⊢
    obtain ⟨_, d1, d2, _⟩ := hrb.cell
    have B4 : Hid (Below w.heap.size w w4) := below_ch B3.out c4 (Nat.le_refl _) HK.out
    have R4 := hide (o4.row (by rw [← HNL.out]; omega) HF.out)
    have R34 := hide ((R3.out.alloc (.cells #[.slice a n cap, .int .i64 p, .bool false] 36)).ch c4 (fun h0 x hx => by
      subst hx
      exact Nat.ne_of_lt (R3.out.lt h0)))
    have HRB := hide hrb
    have SM := hide (samebks_any a3 nl c3 l a4 nl c4' l w4 R34.out R4.out)
    rw [decide_eq_true rfl] at SM
    clear c4 hrb N B3 o4 R3 R4 R34 O3
    have t1 : (ed == ed) = true := by simp
    obtain ⟨pb, HPE⟩ : ∃ p, Hid (w2.heap.size = p) := ⟨_, rfl⟩
    rw [HPE.out] at d1 d2 HRB ⊢
    go_wp2_with fail
    refine SM.out.mono ?_
    rintro e w5 ⟨rfl, b5⟩
    have B5 := hide (below_to B4.out b5 (Nat.le_refl _))
    have f1 : w5.cell? ⟨pb, 1, none⟩ = some (.int .i64 ed) := (b5.cell (p := ⟨pb, 1, none⟩) HRB.out.lt').trans d1
    clear b5 B4 SM d1 d2 HRB HPE
    go_wp2_with fail
    refine (AW.out _).mono ?_
    rintro e w6 ⟨rfl, b6⟩
    have B6 := hide (below_to B5.out b6 (Nat.le_refl _))
    clear b6 B5
    go_wp2
    go_ret
    exact ⟨rfl, B6.out⟩
end Go.Proofs.Ytjngpdhhkkambab

namespace Go.Proofs.Ytjngpdhhkkambab.histReads
open Go.ChangeShapes Go.WideShapes Go.ChangeAt Go.RowKit
open Go.ChangeMaps (open_string shut_string)
set_option linter.unusedVariables false

theorem own : ownKnob Try.prog.godebug = none := by kernel_rfl
theorem laidOut : laidOutB Try.prog = true := by kernel_rfl

set_option maxRecDepth 100000 in
theorem lifted (os : Os) (started : os.Started) (H : Type) (enc : TypeId × Value → H) :
    ReturnsInHanded {} Try.checked os 4 .any (Rows.histReadsSpec.pre6 enc Try.prog Try.f4 Rows.histReadsRow.domain false) (Rows.histReadsSpec.post enc Try.prog Try.f4 false true false false) := by
  refine returnsInHanded_of_change_sized (C := Try.checked) own started (by kernel_rfl) Try.func4
    (ChangeSpec.witness6 (enc := enc) (C := Try.checked) false ⟨#[], #[.slice none 0 0, .int .i64 0], []⟩ 8 (by kernel_rfl) (by kernel_rfl) (by kernel_rfl) (by kernel_rfl)) ?_
  intro W base args ds gs before hval0 hW hcnd hsz0 _
  have hsz : (DataW.weightsEach Try.prog (Try.f4.params.toList ++ Rows.histReadsSpec.plain.varTypes Try.prog) (ds ++ gs)).all (· ≤ reachBytes) = true := hsz0
  have hval : ∀ (j : Nat) t v, Try.f4.params[j]? = some t → args[j]? = some v → Value.okWide Try.prog W .any base t v := hval0
  have hW' := hW
  obtain ⟨p, q, hA0, hV, rfl, hfz, hnd⟩ := hW
  have hA : DataW.TrodAll enc Try.prog W 0 (fun _ => true) true Try.f4.params.toList args.toList ds p := hA0
  rw [Try.params4] at hA hval hsz
  obtain ⟨v0, vs0, d0, ds0, p0, q0, hargs, rfl, rfl, h0, r0⟩ := trodAll_cons hA
  obtain ⟨v1, vs1, d1, ds1, p1, q1, rfl, rfl, rfl, h1, r1⟩ := trodAll_cons r0
  obtain ⟨rfl, rfl, rfl⟩ := trodAll_nil r1
  obtain rfl : args = #[v0, v1] := by cases args; simp_all
  obtain ⟨rfl, rfl⟩ := trodVars_none hV
  obtain ⟨a0, len0, cap0, rfl⟩ := okWide_slice Try.underlying23 (hval 0 23 v0 rfl rfl)
  have k0 := h0
  have lt0 : ∀ x ∈ p0, x.block < W.heap.size := by obtain ⟨m, hm⟩ := k0; exact DataW.trod_lt m _ _ _ hm
  obtain ⟨z0, w0⟩ : ∃ zs, IsRow .u8 W a0 len0 cap0 zs := by
    obtain ⟨fuel, hf⟩ := h0
    rcases open_ints Try.underlying23 Try.underlying5 (by kernel_rfl) hf with ⟨hcs, _⟩ | ⟨x, l, c, zs, hcs, _, hl, hm, hz, hx, hcell, hwz⟩
    · simp [Value.cells] at hcs
      obtain ⟨rfl, rfl, rfl⟩ := hcs
      exact ⟨[], by decide, .inl ⟨rfl, rfl, rfl, rfl⟩⟩
    · simp [Value.cells] at hcs
      obtain ⟨rfl, rfl, rfl⟩ := hcs
      have hd := congrArg Prod.fst hx
      simp only at hd
      have hs := sized_slice hsz (j := 0) (t := 23) (e := 5) rfl (by rw [hd]; rfl) Try.underlying23
      rw [show Try.prog.bytesOf 5 = 1 from by kernel_rfl] at hs
      simp only [lits, List.length_map, List.length_take, List.length_drop, reachBytes] at hs
      have hzc : zs.length = cap0 := by simpa using hz
      exact ⟨zs, by show cap0 * 1 ≤ _; omega, .inr ⟨_, rfl, hl, hm, hzc, hcell, hwz⟩⟩
  obtain ⟨a1, rfl, rfl, rfl, w1⟩ := open_int Try.underlying3 (hval 1 3 v1 rfl rfl) h1
  clear hA0 hval0 hsz0 hsz
  refine (walk_reads a0 len0 cap0 z0 a1 W w0 w1).mono fun e W' ⟨he, bel⟩ => ?_
  subst he
  exact ⟨_, rfl, _, _, _, [], _, [], hW', trodAll_mk1 (shut_bool Try.underlying4 _), (trodAll_cons_mk (Below.trod laidOut (by kernel_rfl) (of_decide_eq_true (by kernel_rfl)) k0 bel lt0) (trodAll_cons_mk (shut_int Try.underlying3 w1) trodAll_mk0)), rfl, bel.frame _, fun h => by cases h⟩

theorem proved : Rows.HistReadsSaid :=
  OpenClaim.holds_of_wide 4 Try.f4 rfl rfl rfl rfl rfl rfl rfl ⟨rfl, rfl, rfl, rfl, rfl⟩ rfl rfl rfl rfl rfl (by kernel_rfl) Try.func4 (by kernel_rfl)
    (of_decide_eq_true (by kernel_rfl)) (by unfold Func.isWrapper; first | (rw [if_pos (by decide +kernel)]; kernel_rfl) | (rw [if_neg (by decide +kernel)]; exact ⟨rfl, rfl⟩))
    (fun os started H enc _ => lifted os started H enc)
end Go.Proofs.Ytjngpdhhkkambab.histReads
