/-
  Of the two forms the shorter one is put: never more bytes than the number of buckets says; what is put comes back, whatever stands behind it; the document's examples hold. The call returns true, and its arguments read as they did.
  Conditions: none: every value of the parameters' types.
-/
import Derived.Test.YtjngpdhhkkambacHistAl
import Derived.Test.YtjngpdhhkkambacHistAm
import Derived.Test.YtjngpdhhkkambacHistR
import Derived.Deep.RegionWith
import Derived.Deep.DrawnRows
import Derived.ProofKit
import Derived.OpenShut
import Derived.ShutString
import Derived.ChangeOld
import Derived.SizedLaws
namespace Go.Proofs.Ytjngpdhhkkambac
open Go.RowKit

theorem putH_first {l : Bks} (hl : Good l) : ((putH l).getD 0 0 = 0 ∨ (putH l).getD 0 0 = 1) ∧ (l = [] → (putH l).getD 0 0 = 0) := by
  rcases form_put hl with ⟨_, hne, h⟩ | ⟨_, h⟩
  · rw [h]
    exact ⟨Or.inr rfl, fun h => absurd h hne⟩
  · rw [h]
    exact ⟨Or.inl rfl, fun _ => rfl⟩
theorem seven_row (w : World) (m : Nat × Nat) : Row .u8 (w.alloc (.cells #[.int .u8 7, .int .u8 7] 5 m)) (some ⟨w.heap.size, 0, none⟩) 2 [7, 7] := by
  refine ⟨rfl, by omega, ?_, Or.inr ⟨_, 0, rfl, fun i hi => ?_⟩⟩
  · intro z hz
    simp at hz
    subst hz
    decide
  · rw [World.cell?_alloc_mark]
    match i, hi with
    | 0, _ => rfl
    | 1, _ => rfl

set_option maxRecDepth 20000 in
set_option maxHeartbeats 8000000 in
theorem walk_forms (ad : Option Addr) (n cap : Nat) (l : Bks) (w : World) (hl : IsBks w ad n cap l) :
    Calls Try.prog 4 #[.slice ad n cap] w fun e w' => e = .returned (.bool true) ∧ Below w.heap.size w w' := by
  obtain ⟨hcap, hnc, hnone, hrow⟩ := hl
  have HR := hide hrow
  have hn := hrow.2.1
  have HL := hide hrow.1
  have K := hide (refcheck_any ad n cap l w hrow)
  have AW := hide awake_any
  have HN := hide hnone
  clear hrow hnone
  by_cases hck : checkS l = false
  · rw [hck] at K
    clear hck
    go_enter Try.func4, Try.ntmps4
    go_wp2_with fail
    refine K.out.mono ?_
    rintro e w1 ⟨rfl, q, rfl⟩
    have B1 := hide (bel_drewN (Below.refl w.heap.size w) q)
    clear K
    generalize w.drewN q = w1 at *
    go_wp2_with fail
    refine (AW.out _).mono ?_
    rintro e w2 ⟨rfl, b2⟩
    have B2 := hide (below_to B1.out b2 (Nat.le_refl _))
    clear b2 B1
    go_wp2
    go_ret
    exact ⟨rfl, B2.out⟩
  have hck : checkS l = true := by simpa using hck
  rw [hck] at K
  by_cases hbig : 300 < n
  · have d0 : decide ((300 : Int) < (n : Int)) = true := decide_eq_true (by omega)
    clear hck
    go_enter Try.func4, Try.ntmps4
    go_wp2_with fail
    refine K.out.mono ?_
    rintro e w1 ⟨rfl, q, rfl⟩
    have B1 := hide (bel_drewN (Below.refl w.heap.size w) q)
    clear K
    generalize w.drewN q = w1 at *
    go_wp2_with fail
    refine (AW.out _).mono ?_
    rintro e w2 ⟨rfl, b2⟩
    have B2 := hide (below_to B1.out b2 (Nat.le_refl _))
    clear b2 B1
    go_wp2
    go_ret
    exact ⟨rfl, B2.out⟩
  have d0 : decide ((300 : Int) < (n : Int)) = false := decide_eq_false (by omega)
  have hn3 : n ≤ 300 := by omega
  have G := hide (good_from hck HR.out.2.2.1)
  have HCK := hide hck
  obtain ⟨i0, hi0⟩ := info_parts Try.info5
  have HI := hide hi0
  clear hbig hck hi0
  go_enter Try.func4, Try.ntmps4
  go_wp2_with fail
  refine K.out.mono ?_
  rintro e w1 ⟨rfl, q, rfl⟩
  have B1 := hide (bel_drewN (Below.refl w.heap.size w) q)
  clear K
  generalize w.drewN q = w1 at *
  have BK := hide (buckets_any ad n cap l w1 (HR.out.below B1.out (Nat.le_refl _)) (fun h => (HN.out h).2) (by omega))
  go_wp2_with fail
  refine BK.out.mono ?_
  rintro e w2 ⟨a2, c2, rfl, o2, b2⟩
  have B2 := hide (below_to B1.out b2 (Nat.le_refl _))
  have P := hide (hput_any none 0 0 [] a2 n c2 l w2 (nil_row _ _ _) (o2.row hn HR.out.2.2.1) o2.capped.1 (by omega) (by omega))
  have WSZ : Hid (w.heap.size ≤ w2.heap.size) := B2.out.size
  clear BK o2 b2 B1
  go_wp2_with fail
  refine P.out.mono ?_
  rintro e w3 ⟨a3, m, c3, Z, rfl, o3, b3, m1, hzl, hzb, hze⟩
  have hZ := hze HCK.out
  subst hZ
  rw [Nat.zero_add, List.nil_append] at o3
  rw [Nat.zero_add]
  obtain ⟨g3, rfl⟩ := mine_at o3 m1
  have B3 := hide (below_to B2.out b3 (Nat.le_refl _))
  have O3 := hide o3
  have R3 := hide (o3.row8 (by have := (putH_len G.out).1; have := good_len G.out; omega) hzb)
  obtain ⟨hfst, hfst0⟩ := putH_first G.out
  have hml : m ≤ 3 + 12 * n := by have := (putH_len G.out).1; rw [hzl, HL.out] at this; exact this
  have f0 : w3.cell? ⟨g3, 0, none⟩ = some (.int .u8 ((putH l).getD 0 0)) := by
    obtain ⟨_, _, _, h | ⟨b', off', hbo, hcell⟩⟩ := R3.out
    · omega
    · simp only [Option.some.injEq, Addr.mk.injEq, and_true] at hbo
      obtain ⟨rfl, rfl⟩ := hbo
      exact hcell 0 (by omega)
  have HDG : Hid (dGet (putH l ++ [7, 7]) 0 = some (l, (m : Int))) := by
    have := dGet_at G.out [] [7, 7]
    rw [hzl] at this
    show _ = _
    simpa using this
  have HZB : Hid (Bytes8 (putH l ++ [7, 7])) := Bytes8.append hzb (fun z hz => by simp at hz; subst hz; decide)
  have hn0 : n = 0 → (putH l).getD 0 0 = 0 := fun h => hfst0 (List.length_eq_zero_iff.1 (by rw [HL.out]; exact h))
  clear P o3 b3 B2 hze hzb hzl hfst0
  generalize (putH l).getD 0 0 = b0 at *
  generalize putH l = PH at *
  have e1 : ((m : Int) == 0) = false := by simp; omega
  have e2 : decide (1 < b0) = false := decide_eq_false (by omega)
  have e3 : decide ((3 : Int) + 12 * (n : Int) < (m : Int)) = false := decide_eq_false (by omega)
  have i3 : (0 : Int) < (m : Int) := by omega
  have HW3 : Hid (w.heap.size ≤ w3.heap.size) := B3.out.size
  have S3 : Hid (∀ o, Src 5 .u8 (w3.alloc o) w2.heap.size (some ⟨g3, 0, none⟩) m c3 PH) := fun o => Or.inl (O3.out.alloc o)
  have HW2 : Hid (w2.heap.size ≤ w3.heap.size) := by
    have := (row_cells O3.out (g := g3) rfl)
    have h1 := this.1.lt
    exact Nat.le_of_lt (Nat.lt_of_le_of_lt this.2 h1)
  by_cases hn0' : n = 0
  · have hb0 := hn0 hn0'
    subst hb0
    have e4 : ((n : Int) == 0) = true := by simpa using hn0'
    clear hn0 hfst hn0'
    go_wp2_with (at_builtin; refine wpList_append_src _ rfl _ _ 36 rfl w2.heap.size 5 i0 1 Try.underlying36 HI.out.1 HI.out.2.1 HI.out.2.2.1 HI.out.2.2.2 (some ⟨g3, 0, none⟩) m c3 PH rfl (S3.out _) ⟨w3.heap.size, 0, none⟩ 2 2 [7, 7] rfl (by omega) (seven_row w3 _) (by omega) (by decide) (by have := HW2.out; simp; omega) ?_)
    intro a4 c4 w4 o4 b4
    have B4 : Hid (Below w.heap.size w w4) := (bel_al B3.out (Nat.le_refl _) _).trans (b4.mono WSZ.out)
    have R4 := hide (o4.row8 (by omega) HZB.out)
    have GT := hide (hget_any 0 a4 (m + 2) c4 (PH ++ [7, 7]) w4 (by decide) o4.capped.1 R4.out)
    rw [HDG.out] at GT
    clear o4 b4 S3 f0 R3 O3 B3
    go_wp2_with fail
    refine GT.out.mono ?_
    rintro e w5 ⟨he, b5⟩
    obtain ⟨a5, c5, he, o5, hfit, hlen⟩ := he
    simp only at he o5 hfit hlen
    subst he
    have B5 := hide (below_to B4.out b5 (Nat.le_refl _))
    have R5 := hide (o5.row (by omega) hfit)
    have SM := hide (samebks_any a5 _ c5 l ad n cap l w5 R5.out (HR.out.below B5.out (Nat.le_refl _)))
    rw [decide_eq_true rfl] at SM
    have t1 : ((m : Int) == (m : Int)) = true := by simp
    clear o5 b5 hfit GT R4 B4
    go_wp2_with fail
    refine SM.out.mono ?_
    rintro e w6 ⟨rfl, b6⟩
    have B6 := hide (below_to B5.out b6 (Nat.le_refl _))
    clear b6 SM B5 R5
    go_wp2_with fail
    refine (AW.out _).mono ?_
    rintro e w7 ⟨rfl, b7⟩
    have B7 := hide (below_to B6.out b7 (Nat.le_refl _))
    clear b7 B6
    go_wp2
    go_ret
    exact ⟨rfl, B7.out⟩
  · have e4 : ((n : Int) == 0) = false := by simpa using hn0'
    clear hn0 hfst hn0'
    go_wp2_with (at_builtin; refine wpList_append_src _ rfl _ _ 36 rfl w2.heap.size 5 i0 1 Try.underlying36 HI.out.1 HI.out.2.1 HI.out.2.2.1 HI.out.2.2.2 (some ⟨g3, 0, none⟩) m c3 PH rfl (S3.out _) ⟨w3.heap.size, 0, none⟩ 2 2 [7, 7] rfl (by omega) (seven_row w3 _) (by omega) (by decide) (by have := HW2.out; simp; omega) ?_)
    intro a4 c4 w4 o4 b4
    have B4 : Hid (Below w.heap.size w w4) := (bel_al B3.out (Nat.le_refl _) _).trans (b4.mono WSZ.out)
    have R4 := hide (o4.row8 (by omega) HZB.out)
    have GT := hide (hget_any 0 a4 (m + 2) c4 (PH ++ [7, 7]) w4 (by decide) o4.capped.1 R4.out)
    rw [HDG.out] at GT
    clear o4 b4 S3 f0 R3 O3 B3
    go_wp2_with fail
    refine GT.out.mono ?_
    rintro e w5 ⟨he, b5⟩
    obtain ⟨a5, c5, he, o5, hfit, hlen⟩ := he
    simp only at he o5 hfit hlen
    subst he
    have B5 := hide (below_to B4.out b5 (Nat.le_refl _))
    have R5 := hide (o5.row (by omega) hfit)
    have SM := hide (samebks_any a5 _ c5 l ad n cap l w5 R5.out (HR.out.below B5.out (Nat.le_refl _)))
    rw [decide_eq_true rfl] at SM
    have t1 : ((m : Int) == (m : Int)) = true := by simp
    clear o5 b5 hfit GT R4 B4
    go_wp2_with fail
    refine SM.out.mono ?_
    rintro e w6 ⟨rfl, b6⟩
    have B6 := hide (below_to B5.out b6 (Nat.le_refl _))
    clear b6 SM B5 R5
    go_wp2_with fail
    refine (AW.out _).mono ?_
    rintro e w7 ⟨rfl, b7⟩
    have B7 := hide (below_to B6.out b7 (Nat.le_refl _))
    clear b7 B6
    go_wp2
    go_ret
    exact ⟨rfl, B7.out⟩
end Go.Proofs.Ytjngpdhhkkambac

namespace Go.Proofs.Ytjngpdhhkkambac.histForms
open Go.ChangeShapes Go.WideShapes Go.ChangeAt Go.RowKit
open Go.ChangeMaps (open_string shut_string)
set_option linter.unusedVariables false

theorem own : ownKnob Try.prog.godebug = none := by kernel_rfl
theorem laidOut : laidOutB Try.prog = true := by kernel_rfl

set_option maxRecDepth 100000 in
theorem lifted (os : Os) (started : os.Started) (H : Type) (enc : TypeId × Value → H) :
    ReturnsInHanded {} Try.checked os 4 .any (Rows.histFormsSpec.pre6 enc Try.prog Try.f4 Rows.histFormsRow.domain false) (Rows.histFormsSpec.post enc Try.prog Try.f4 false true false false) := by
  refine returnsInHanded_of_change_sized (C := Try.checked) own started (by kernel_rfl) Try.func4
    (ChangeSpec.witness6 (enc := enc) (C := Try.checked) false ⟨#[], #[.slice none 0 0], []⟩ 8 (by kernel_rfl) (by kernel_rfl) (by kernel_rfl) (by kernel_rfl)) ?_
  intro W base args ds gs before hval0 hW hcnd hsz0 _
  have hsz : (DataW.weightsEach Try.prog (Try.f4.params.toList ++ Rows.histFormsSpec.plain.varTypes Try.prog) (ds ++ gs)).all (· ≤ reachBytes) = true := hsz0
  have hval : ∀ (j : Nat) t v, Try.f4.params[j]? = some t → args[j]? = some v → Value.okWide Try.prog W .any base t v := hval0
  have hW' := hW
  obtain ⟨p, q, hA0, hV, rfl, hfz, hnd⟩ := hW
  have hA : DataW.TrodAll enc Try.prog W 0 (fun _ => true) true Try.f4.params.toList args.toList ds p := hA0
  rw [Try.params4] at hA hval hsz
  obtain ⟨v0, vs0, d0, ds0, p0, q0, hargs, rfl, rfl, h0, r0⟩ := trodAll_cons hA
  obtain ⟨rfl, rfl, rfl⟩ := trodAll_nil r0
  obtain rfl : args = #[v0] := by cases args; simp_all
  obtain ⟨rfl, rfl⟩ := trodVars_none hV
  obtain ⟨a0, len0, cap0, rfl⟩ := okWide_slice Try.underlying22 (hval 0 22 v0 rfl rfl)
  have k0 := h0
  have lt0 : ∀ x ∈ p0, x.block < W.heap.size := by obtain ⟨m, hm⟩ := k0; exact DataW.trod_lt m _ _ _ hm
  obtain ⟨z0, w0⟩ : ∃ l, IsBks W a0 len0 cap0 l := by
    obtain ⟨fuel, hf⟩ := h0
    rcases bks_trod hf with ⟨rfl, rfl, rfl⟩ | ⟨ad, l, elems, spare, rfl, hl, h1, h2, hd, hm, hc⟩
    · exact ⟨[], by decide, by decide, fun _ => ⟨rfl, rfl⟩, rfl, by decide, by simp, Or.inl rfl⟩
    · simp only at hd hm
      have hs := sized_slice hsz (j := 0) (t := 22) (e := 42) rfl (by rw [hd]; rfl) Try.underlying22
      rw [show Try.prog.bytesOf 42 = 16 from by kernel_rfl, hm] at hs
      simp only [if_true, reachBytes] at hs
      exact ⟨l, by omega, hl, fun h => by simp at h, bks_row h1 (by omega) h2 hc⟩
  clear hA0 hval0 hsz0 hsz
  refine (walk_forms a0 len0 cap0 z0 W w0).mono fun e W' ⟨he, bel⟩ => ?_
  subst he
  exact ⟨_, rfl, _, _, _, [], _, [], hW', trodAll_mk1 (shut_bool Try.underlying4 _), (trodAll_cons_mk (Below.trod laidOut (by kernel_rfl) (of_decide_eq_true (by kernel_rfl)) k0 bel lt0) trodAll_mk0), rfl, bel.frame _, fun h => by cases h⟩

theorem proved : Rows.HistFormsSaid :=
  OpenClaim.holds_of_wide 4 Try.f4 rfl rfl rfl rfl rfl rfl rfl ⟨rfl, rfl, rfl, rfl, rfl⟩ rfl rfl rfl rfl rfl (by kernel_rfl) Try.func4 (by kernel_rfl)
    (of_decide_eq_true (by kernel_rfl)) (by unfold Func.isWrapper; first | (rw [if_pos (by decide +kernel)]; kernel_rfl) | (rw [if_neg (by decide +kernel)]; exact ⟨rfl, rfl⟩))
    (fun os started H enc _ => lifted os started H enc)
end Go.Proofs.Ytjngpdhhkkambac.histForms
