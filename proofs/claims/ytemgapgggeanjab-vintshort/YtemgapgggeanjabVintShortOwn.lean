/-
  Without its last byte a number, a text, a list is none; the document's examples hold. The call returns true, and its arguments read as they did.
  Conditions: none: every value of the parameters' types.
-/
import Derived.Test.YtemgapgggeanjabVintE
import Derived.Test.YtemgapgggeanjabVintN
import Derived.ProofKit
import Derived.OpenShut
import Derived.ShutString
import Derived.ChangeOld
import Derived.SizedLaws
namespace Go.Proofs.Ytemgapgggeanjab
open Go.RowKit

theorem short_take {zs : List Int} {k : Nat} (h : zs.length = k + 1) : zs.take k = zs.dropLast := by
  rw [List.dropLast_eq_take, h]; rfl

set_option maxRecDepth 100000 in
set_option maxHeartbeats 2000000 in
theorem walk_short (v : Int) (s : ByteArray) (al : Option Addr) (nl cl : Nat) (zl : List Int) (w : World)
    (w0 : (Lit.int .u64 v).wf = true) (w1 : s.size ≤ 140737488351232) (w2 : IsRow .u64 w al nl cl zl) :
    Calls Try.prog 5 #[.int .u64 v, .string s, .slice al nl cl] w fun e w' => e = .returned (.bool true) ∧ Below w.heap.size w w' := by
  obtain ⟨hl1, hl2, hl3, rl⟩ := row_of w2
  replace hl2 : cl * 8 ≤ 140737488351232 := hl2
  have hv := u64_of_wf w0
  clear w0 w2
  generalize zl.take nl = ls at *
  have RL := hide rl
  have LL := hide rl.1
  have WL := hide rl.words
  have hs := numsOf_len s
  have hL1 := putS_len v
  have hL2 : 1 ≤ (putT (numsOf s)).length ∧ (putT (numsOf s)).length ≤ s.size + 10 := by
    have := putS_len ((numsOf s).length : Int)
    unfold putT
    rw [List.length_append]; omega
  have hL3 : 1 ≤ (putR ls).length ∧ (putR ls).length ≤ 10 * nl + 10 := by
    have h1 := putS_len (ls.length : Int)
    have h2 := (riseB_len 18446744073709551615 ls).2
    have h3 := rl.1
    unfold putR
    rw [List.length_append]; omega
  obtain ⟨k1, e1⟩ : ∃ k, (putS v).length = k + 1 := ⟨(putS v).length - 1, by omega⟩
  obtain ⟨k2, e2⟩ : ∃ k, (putT (numsOf s)).length = k + 1 := ⟨(putT (numsOf s)).length - 1, by omega⟩
  obtain ⟨k3, e3⟩ : ∃ k, (putR ls).length = k + 1 := ⟨(putR ls).length - 1, by omega⟩
  have Y1 : Hid (Bytes8 (putS v)) := putS_byte hv
  have Y2 : Hid (Bytes8 (putT (numsOf s))) := Bytes8.append (putS_byte (w64_len (by omega))) (fun z hz => u8_of_wf (numsOf_wf s z hz))
  have Y3 : Hid (Bytes8 (putR ls)) := putR_byte (by rw [rl.1]; omega)
  have N1 : Hid (getS ((putS v).take k1) 0 = none) := by
    show _ = _
    rw [short_take e1]
    exact getS_short_at v []
  have N2 : Hid (textS ((putT (numsOf s)).take k2) 0 (s.size : Int) = none) := by
    show _ = _
    rw [short_take e2, ← hs]
    exact textS_short (by omega)
  have N3 : Hid (riseS ((putR ls).take k3) 0 (nl : Int) = none) := by
    show _ = _
    rw [short_take e3, ← rl.1]
    exact riseS_short (by rw [rl.1]; omega)
  have C1 := hide (fun w' => put_any v none 0 0 [] w' hv (by omega) (by omega) (nil_row .u8 w' none))
  have C2 := hide (fun w' => puttext_any s none 0 0 [] w' (by omega) (by omega) (nil_row .u8 w' none))
  rw [Nat.zero_add, List.nil_append, e1] at C1
  rw [Nat.zero_add, List.nil_append, e2] at C2
  clear rl hs hv
  go_enter Try.func5, Try.ntmps5
  go_wp2_with fail
  refine (awake_any _).mono ?_
  rintro e wa ⟨rfl, ka⟩
  have KA := hide ka
  clear ka
  go_wp2_with fail
  refine (C1.out _).mono ?_
  rintro e wb ⟨a1, c1, rfl, o1, kb'⟩
  have R1 := hide ((o1.row (by omega) (fits_wf Y1.out)).to k1 (by omega))
  have p1 := o1.capped.1
  have KB : Hid (Below w.heap.size w wb) := bel_to KA.out (Nat.le_refl _) kb'
  clear o1 kb' C1 KA
  go_wp2_with fail
  refine (C2.out _).mono ?_
  rintro e wc ⟨a2, c2, rfl, o2, kc⟩
  have R2 := hide ((o2.row (by omega) (fits_wf Y2.out)).to k2 (by omega))
  have p2 := o2.capped.1
  have R1' := hide (R1.out.below kc (Nat.le_refl _))
  have KC : Hid (Below w.heap.size w wc) := bel_to KB.out (Nat.le_refl _) kc
  clear o2 kc C2 KB R1
  have C3 := hide (nums_any al nl cl ls wc (RL.out.below KC.out (Nat.le_refl _)) hl3 (by omega))
  go_wp2_with fail
  refine C3.out.mono ?_
  rintro e wd ⟨a3, c3, rfl, o3, kd⟩
  have R3 := hide (o3.row (by omega) (words_wf WL.out))
  have R1'' := hide (R1'.out.below kd (Nat.le_refl _))
  have R2' := hide (R2.out.below kd (Nat.le_refl _))
  have KD : Hid (Below w.heap.size w wd) := bel_to KC.out (Nat.le_refl _) kd
  clear o3 kd C3 KC R1' R2 RL
  have C4 := hide (putrise_any none 0 0 [] a3 nl c3 ls wd (by omega) (by omega) (nil_row .u8 _ none) R3.out)
  rw [Nat.zero_add, List.nil_append, e3] at C4
  go_wp2_with fail
  refine C4.out.mono ?_
  rintro e we ⟨a4, c4, rfl, o4, ke⟩
  have R4 := hide ((o4.row (by omega) (fits_wf Y3.out)).to k3 (by omega))
  have p4 := o4.capped.1
  have RA := hide (R1''.out.below ke (Nat.le_refl _))
  have RB := hide (R2'.out.below ke (Nat.le_refl _))
  have KE : Hid (Below w.heap.size w we) := bel_to KD.out (Nat.le_refl _) ke
  clear o4 ke C4 KD R1'' R2' R3
  have G1 := hide (get_any 0 a1 k1 c1 _ we (by decide) (by omega) RA.out)
  have G2 := hide (gettext_any 0 (s.size : Int) a2 k2 c2 _ we (by decide) (i64_wf (by omega) (by omega)) (by omega) RB.out)
  have G3 := hide (getrise_any 0 (nl : Int) a4 k3 c4 _ we (by decide) (i64_wf (by omega) (by omega)) (by omega) R4.out (Or.inl (by omega)))
  rw [N1.out] at G1
  rw [N2.out] at G2
  rw [N3.out] at G3
  simp only [gotE] at G1
  simp only [textE] at G2
  simp only [RiseP] at G3
  have f1 := slice_to a1 (k1 + 1) c1 k1 (by omega)
  have f2 := slice_to a2 (k2 + 1) c2 k2 (by omega)
  have f3 := slice_to a4 (k3 + 1) c4 k3 (by omega)
  have u1 : k1 ≤ 9 := by omega
  have u2 : k2 ≤ 140737488351242 := by omega
  have u3 : k3 ≤ 211106232532992 := by omega
  have t1 : ((k1 : Int) + 1 == 0) = false := by simp; omega
  have t2 : ((k2 : Int) + 1 == 0) = false := by simp; omega
  have t3 : ((k3 : Int) + 1 == 0) = false := by simp; omega
  clear RA RB R4 N1 N2 N3 Y1 Y2 Y3 e1 e2 e3 p1 p2 p4
  go_wp2_with fail
  refine G1.out.mono ?_
  rintro e wf ⟨rfl, rfl⟩
  go_wp2_with fail
  refine G2.out.mono ?_
  rintro e wg ⟨rfl, rfl⟩
  go_wp2_with fail
  refine G3.out.mono ?_
  rintro e wh ⟨rfl, kh⟩
  go_wp2
  go_ret
  exact ⟨rfl, bel_to KE.out (Nat.le_refl _) kh⟩
end Go.Proofs.Ytemgapgggeanjab

namespace Go.Proofs.Ytemgapgggeanjab.vintShort
open Go.ChangeShapes Go.WideShapes Go.ChangeAt Go.RowKit
open Go.ChangeMaps (open_string shut_string)
set_option linter.unusedVariables false

theorem own : ownKnob Try.prog.godebug = none := by kernel_rfl
theorem laidOut : laidOutB Try.prog = true := by kernel_rfl

set_option maxRecDepth 100000 in
theorem lifted (os : Os) (started : os.Started) (H : Type) (enc : TypeId × Value → H) :
    ReturnsInHanded {} Try.checked os 5 .any (Rows.vintShortSpec.pre6 enc Try.prog Try.f5 Rows.vintShortRow.domain false) (Rows.vintShortSpec.post enc Try.prog Try.f5 false true false false) := by
  refine returnsInHanded_of_change_sized (C := Try.checked) own started (by kernel_rfl) Try.func5
    (ChangeSpec.witness6 (enc := enc) (C := Try.checked) false ⟨#[], #[.int .u64 0, .string .empty, .slice none 0 0], []⟩ 8 (by kernel_rfl) (by kernel_rfl) (by kernel_rfl) (by kernel_rfl)) ?_
  intro W base args ds gs before hval0 hW hcnd hsz0 _
  have hsz : (DataW.weightsEach Try.prog (Try.f5.params.toList ++ Rows.vintShortSpec.plain.varTypes Try.prog) (ds ++ gs)).all (· ≤ reachBytes) = true := hsz0
  have hval : ∀ (j : Nat) t v, Try.f5.params[j]? = some t → args[j]? = some v → Value.okWide Try.prog W .any base t v := hval0
  have hW' := hW
  obtain ⟨p, q, hA0, hV, rfl, hfz, hnd⟩ := hW
  have hA : DataW.TrodAll enc Try.prog W 0 (fun _ => true) true Try.f5.params.toList args.toList ds p := hA0
  rw [Try.params5] at hA hval hsz
  obtain ⟨v0, vs0, d0, ds0, p0, q0, hargs, rfl, rfl, h0, r0⟩ := trodAll_cons hA
  obtain ⟨v1, vs1, d1, ds1, p1, q1, rfl, rfl, rfl, h1, r1⟩ := trodAll_cons r0
  obtain ⟨v2, vs2, d2, ds2, p2, q2, rfl, rfl, rfl, h2, r2⟩ := trodAll_cons r1
  obtain ⟨rfl, rfl, rfl⟩ := trodAll_nil r2
  obtain rfl : args = #[v0, v1, v2] := by cases args; simp_all
  obtain ⟨rfl, rfl⟩ := trodVars_none hV
  obtain ⟨a0, rfl, rfl, rfl, w0⟩ := open_int Try.underlying22 (hval 0 22 v0 rfl rfl) h0
  obtain ⟨a1, rfl, rfl, rfl, w1⟩ := open_string Try.underlying9 (hval 1 9 v1 rfl rfl) h1
  have e1 : a1.data.toList.length = a1.size := by rw [Array.length_toList]; rfl
  have s1 : a1.size ≤ 140737488351232 := by
    have hs := sized_string hsz (j := 1) (t := 9) rfl rfl
    rw [e1] at hs
    simpa only [reachBytes] using hs
  obtain ⟨a2, len2, cap2, rfl⟩ := okWide_slice Try.underlying27 (hval 2 27 v2 rfl rfl)
  have k2 := h2
  have lt2 : ∀ x ∈ p2, x.block < W.heap.size := by obtain ⟨m, hm⟩ := k2; exact DataW.trod_lt m _ _ _ hm
  obtain ⟨z2, w2⟩ : ∃ zs, IsRow .u64 W a2 len2 cap2 zs := by
    obtain ⟨fuel, hf⟩ := h2
    rcases open_ints Try.underlying27 Try.underlying22 (by kernel_rfl) hf with ⟨hcs, _⟩ | ⟨x, l, c, zs, hcs, _, hl, hm, hz, hx, hcell, hwz⟩
    · simp [Value.cells] at hcs
      obtain ⟨rfl, rfl, rfl⟩ := hcs
      exact ⟨[], by decide, .inl ⟨rfl, rfl, rfl, rfl⟩⟩
    · simp [Value.cells] at hcs
      obtain ⟨rfl, rfl, rfl⟩ := hcs
      have hd := congrArg Prod.fst hx
      simp only at hd
      have hs := sized_slice hsz (j := 2) (t := 27) (e := 22) rfl (by rw [hd]; rfl) Try.underlying27
      rw [show Try.prog.bytesOf 22 = 8 from by kernel_rfl] at hs
      simp only [lits, List.length_map, List.length_take, List.length_drop, reachBytes] at hs
      have hzc : zs.length = cap2 := by simpa using hz
      exact ⟨zs, by show cap2 * 8 ≤ _; omega, .inr ⟨_, rfl, hl, hm, hzc, hcell, hwz⟩⟩
  clear hA0 hval0 hsz0 hsz
  refine (walk_short a0 a1 a2 len2 cap2 z2 W w0 s1 w2).mono fun e W' ⟨he, bel⟩ => ?_
  subst he
  exact ⟨_, rfl, _, _, _, [], _, [], hW', trodAll_mk1 (shut_bool Try.underlying4 _), (trodAll_cons_mk (shut_int Try.underlying22 w0) (trodAll_cons_mk (shut_string Try.underlying9 w1) (trodAll_cons_mk (Below.trod laidOut (by kernel_rfl) (of_decide_eq_true (by kernel_rfl)) k2 bel lt2) trodAll_mk0))), rfl, bel.frame _, fun h => by cases h⟩

theorem proved : Rows.VintShortSaid :=
  OpenClaim.holds_of_wide 5 Try.f5 rfl rfl rfl rfl rfl rfl rfl ⟨rfl, rfl, rfl, rfl, rfl⟩ rfl rfl rfl rfl rfl (by kernel_rfl) Try.func5 (by kernel_rfl)
    (of_decide_eq_true (by kernel_rfl)) (by unfold Func.isWrapper; first | (rw [if_pos (by decide +kernel)]; kernel_rfl) | (rw [if_neg (by decide +kernel)]; exact ⟨rfl, rfl⟩))
    (fun os started H enc _ => lifted os started H enc)
end Go.Proofs.Ytemgapgggeanjab.vintShort
