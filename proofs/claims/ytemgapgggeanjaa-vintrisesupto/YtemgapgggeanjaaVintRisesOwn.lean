/-
  Any list, put; any bytes read as a list that rises: as the document's own answer; the document's examples hold. The call returns true, and its arguments read as they did.
  Conditions: the input is of bulk at most 1048576 (the second form).
-/
import Derived.Test.YtemgapgggeanjaaVintF
import Derived.Test.YtemgapgggeanjaaVintN
import Derived.Test.YtemgapgggeanjaaVintS
import Derived.Test.YtemgapgggeanjaaVintP
import Derived.Test.YtemgapgggeanjaaVintT
import Derived.Test.YtemgapgggeanjaaVintU
import Derived.Deep.CondSized
import Derived.ProofKit
import Derived.OpenShut
import Derived.ShutString
import Derived.ChangeOld
import Derived.SizedLaws
namespace Go.Proofs.Ytemgapgggeanjaa
open Go.RowKit

theorem putR_len (l : List Int) : (putR l).length ≤ 10 * l.length + 10 := by
  have h1 := (putS_len (l.length : Int)).2
  have h2 := (riseB_len 18446744073709551615 l).2
  unfold putR
  rw [List.length_append]; omega

theorem refrise_str (b : Option Addr) (m capb : Nat) (ls : List Int) (w : World) (hm : m ≤ 1048576) (hl : Row .u64 w b m ls) :
    Calls Try.prog 25 #[.slice b m capb] w fun e w' => ∃ a' cap', e = .returned (.slice a' (putR ls).length cap') ∧
      (convert 23 9 (.slice a' (putR ls).length cap')).run Try.prog w' = .ok (.string (strOfNums (putR ls))) w' ∧ Below w.heap.size w w' := by
  have hll := hl.1
  have hlen := putR_len ls
  refine (refrise_any b m capb ls w hm hl).mono ?_
  rintro e w' ⟨a', cap', rfl, h1, h2⟩
  exact ⟨a', cap', rfl, mine_string h1 (by omega) (putR_byte (by omega)), h2⟩

set_option maxRecDepth 100000 in
set_option maxHeartbeats 4000000 in
theorem walk_rises (al : Option Addr) (nl cl : Nat) (zl : List Int) (a : Option Addr) (n cap : Nat) (z : List Int) (p most : Int) (w : World) (w0 : IsRow .u64 w al nl cl zl) (b0 : cl ≤ 1048576) (w1 : IsRow .u8 w a n cap z) (b1 : cap ≤ 1048576) (w2 : (Lit.int .i64 p).wf = true) (w3 : (Lit.int .i64 most).wf = true) :
    Calls Try.prog 6 #[.slice al nl cl, .slice a n cap, .int .i64 p, .int .i64 most] w fun e w' => e = .returned (.bool true) ∧ Below w.heap.size w w' := by
  obtain ⟨hl1, _, hl3, rl⟩ := row_of w0
  obtain ⟨hcap, _, hnil, hr⟩ := row_of w1
  clear w0 w1
  generalize zl.take nl = ls at *
  generalize z.take n = bs at *
  have HZ : Hid (Bytes8 bs) := hr.bytes
  have R := hide hr
  have HL := hide hr.1
  have RL := hide rl
  have LL := hide rl.1
  have WL := hide rl.words
  have hL := putR_len ls
  rw [rl.1] at hL
  have HV : Hid (Bytes8 (putR ls)) := putR_byte (by rw [rl.1]; omega)
  have C1 := hide (bytes_any a n cap bs w hr hnil (by omega))
  clear hr rl
  go_enter Try.func6, Try.ntmps6
  go_wp2_with fail
  refine C1.out.mono ?_
  rintro e x1 ⟨a1, c1, rfl, o1, k1⟩
  have p1 := o1.capped.1
  have R1 := hide (o1.row (by omega) (fits_wf HZ.out))
  have K1 := hide k1
  have C2 := hide (nums_any al nl cl ls x1 (RL.out.below k1 (Nat.le_refl _)) hl3 (by omega))
  clear o1 k1 C1 hl3
  go_wp2_with fail
  refine C2.out.mono ?_
  rintro e x2 ⟨a2, c2, rfl, o2, k2⟩
  have R2 := hide (o2.row (by omega) (words_wf WL.out))
  have R1' := hide (R1.out.below k2 (Nat.le_refl _))
  have K2 : Hid (Below w.heap.size w x2) := bel_to K1.out (Nat.le_refl _) k2
  clear o2 k2 C2 R1 K1
  have C3 := hide (putrise_any a1 n c1 bs a2 nl c2 ls x2 (by omega) p1 R1'.out R2.out)
  clear R1' R2
  go_wp2_with fail
  refine C3.out.mono ?_
  rintro e x3 ⟨a3, c3, rfl, o3, k3⟩
  have hBX : Hid (Bytes8 (bs ++ putR ls)) := Bytes8.append HZ.out HV.out
  have R3 := hide (o3.row (by omega) (fits_wf hBX.out))
  have K3 : Hid (Below w.heap.size w x3) := bel_to K2.out (Nat.le_refl _) k3
  have RB3 := hide (R.out.below K3.out (Nat.le_refl _))
  have RL3 := hide (RL.out.below K3.out (Nat.le_refl _))
  clear o3 k3 C3 K2
  have F1 := hide (fun w' (h : Row .u8 w' a3 (n + (putR ls).length) (bs ++ putR ls)) => row_string (cap := c3) h)
  have F2 := hide (fun w' (h : Row .u8 w' a n bs) => row_string (cap := cap) h)
  have PP := hide (refrise_str al nl cl ls x3.drew (by omega) RL3.out.drew)
  have hadd := add_str bs (putR ls) (by rw [HL.out]; omega)
  generalize strOfNums (bs ++ putR ls) = X at F1 hadd
  generalize strOfNums bs = X1 at F2 hadd
  generalize strOfNums (putR ls) = X2 at PP hadd
  generalize (putR ls).length = L at *
  go_upto_region 2 with fail
  refine wp_region_held_drew (S := fun w' => (convert 23 9 (.slice a3 (n + L) c3)).run Try.prog w' = .ok (.string X) w' ∧ (convert 23 9 (.slice a n cap)).run Try.prog w' = .ok (.string X1) w') (by kernel_rfl) ⟨F1.out _ R3.out.drew, F2.out _ RB3.out.drew⟩ (fun hHeld => ?_)
  refine held_take (i := 0) (d := (some 20)) (v := ?_) rfl rfl (by kernel_rfl) (by kernel_rfl) (by kernel_rfl) (fun _ _ _ h => h) (Or.inl ⟨by rfl, ?_⟩) (by first | assumption | rfl) ?_
  rotate_left 1
  · (intro w hSw; (try dsimp only at hSw); (try subst hSw); go_simp; try with_reducible rfl)
  simp only [Act.put, List.setIfInBounds_toArray, List.set_cons_zero, List.set_cons_succ]
  refine held_take (i := 1) (d := (some 21)) (v := ?_) rfl rfl (by kernel_rfl) (by kernel_rfl) (by kernel_rfl) (fun _ _ _ h => h) (Or.inl ⟨by rfl, ?_⟩) (by first | assumption | rfl) ?_
  rotate_left 1
  · (intro w hSw; (try dsimp only at hSw); (try subst hSw); go_simp; try with_reducible rfl)
  simp only [Act.put, List.setIfInBounds_toArray, List.set_cons_zero, List.set_cons_succ]
  refine held_take (i := 2) (d := (some 22)) (v := ?_) rfl rfl (by kernel_rfl) (by kernel_rfl) (by kernel_rfl) (fun _ _ _ h => h) (Or.inl ⟨by rfl, ?_⟩) (by first | assumption | rfl) ?_
  rotate_left 1
  · (intro w hSw; (try dsimp only at hSw); (try subst hSw); go_simp; try with_reducible rfl)
  simp only [Act.put, List.setIfInBounds_toArray, List.set_cons_zero, List.set_cons_succ]
  refine held_take (i := 3) (d := (some 23)) (v := ?_) rfl rfl (by kernel_rfl) (by kernel_rfl) (by kernel_rfl) (fun _ _ _ h => h) (Or.inl ⟨by rfl, ?_⟩) (by first | assumption | rfl) ?_
  rotate_left 1
  · (intro w hSw; (try dsimp only at hSw); (try subst hSw); go_simp; try with_reducible rfl)
  simp only [Act.put, List.setIfInBounds_toArray, List.set_cons_zero, List.set_cons_succ]
  refine held_take (i := 4) (d := (some 24)) (v := ?_) rfl rfl (by kernel_rfl) (by kernel_rfl) (by kernel_rfl) (fun _ _ _ h => h) (Or.inl ⟨by rfl, ?_⟩) (by first | assumption | rfl) ?_
  rotate_left 1
  · (intro w hSw; (try dsimp only at hSw); (try subst hSw); go_simp; try with_reducible rfl)
  simp only [Act.put, List.setIfInBounds_toArray, List.set_cons_zero, List.set_cons_succ]
  refine held_call (i := 5) (by kernel_rfl) rfl (by rfl) (fun K hK => ?_)
  go_simp
  refine PP.out.mono ?_
  rintro e x4 ⟨ap, cp, rfl, hst, k4⟩
  have R4 := hide (R3.out.drew.below k4 (Nat.le_refl _))
  have RB4 := hide (RB3.out.drew.below k4 (Nat.le_refl _))
  have K4 : Hid (Below w.heap.size w x4) := bel_to K3.out.drew (Nat.le_refl _) k4
  clear k4 PP hHeld R3 RB3 RL3 K3
  go_wp2_with fail
  refine hK.out _ _ ⟨F1.out _ R4.out, F2.out _ RB4.out⟩ ?_
  clear F1 F2
  refine held_take (i := 6) (d := (some 26)) (v := ?_) rfl rfl (by kernel_rfl) (by kernel_rfl) (by kernel_rfl) (fun _ _ _ h => h) (Or.inl ⟨by rfl, ?_⟩) (by first | assumption | rfl) ?_
  rotate_left 1
  · (intro w hSw; (try dsimp only at hSw); (try subst hSw); go_simp; try with_reducible rfl)
  simp only [Act.put, List.setIfInBounds_toArray, List.set_cons_zero, List.set_cons_succ]
  refine held_take (i := 7) (d := (some 27)) (v := ?_) rfl rfl (by kernel_rfl) (by kernel_rfl) (by kernel_rfl) (fun _ _ _ h => h) (Or.inl ⟨by rfl, ?_⟩) (by first | assumption | rfl) ?_
  rotate_left 1
  · (intro w hSw; (try dsimp only at hSw); (try subst hSw); go_simp; try with_reducible rfl)
  simp only [Act.put, List.setIfInBounds_toArray, List.set_cons_zero, List.set_cons_succ]
  refine held_take (i := 8) (d := (some 28)) (v := ?_) rfl rfl (by kernel_rfl) (by kernel_rfl) (by kernel_rfl) (fun _ _ _ h => h) (Or.inl ⟨by rfl, ?_⟩) (by first | assumption | rfl) ?_
  rotate_left 1
  · (intro w hSw; (try dsimp only at hSw); (try subst hSw); go_simp; try with_reducible rfl)
  simp only [Act.put, List.setIfInBounds_toArray, List.set_cons_zero, List.set_cons_succ]
  refine wpAnyH_done (by kernel_rfl) ?_ _
  have C5 := hide (bytes_any a n cap bs x4 RB4.out hnil (by omega))
  clear hst hadd R4
  go_wp2_with fail
  refine C5.out.mono ?_
  rintro e x6 ⟨a6, c6, rfl, o6, k6⟩
  have p6 := o6.capped.1
  have C6 := hide (getrise_any p most a6 n c6 bs x6 w2 w3 p6 (o6.row (by omega) (fits_wf HZ.out)) (Or.inr (by omega)))
  have K6 : Hid (Below w.heap.size w x6) := bel_to K4.out (Nat.le_refl _) k6
  clear o6 k6 C5 RB4 K4 hnil
  have N := hide (fun (x7 : World) (K7 : Below w.heap.size w x7) => rrise_any p most x7.heap.size a n cap bs w (x7.alloc (.cells #[.slice a n cap, .int .i64 p, .bool false] 31)) w2 w3 hcap (by omega) R.out K7.size (K7.alloc K7.size _) (rb_new x7 a n cap p))
  cases hg : riseS bs p most with
  | none =>
    rw [hg] at C6 N
    simp only [RiseP] at C6
    simp only [ReadP] at N
    clear hg w2 w3
    go_wp2_with fail
    refine C6.out.mono ?_
    rintro e x7 ⟨rfl, k7⟩
    have K7 : Hid (Below w.heap.size w x7) := bel_to K6.out (Nat.le_refl _) k7
    have N7 := hide (N.out x7 K7.out)
    clear k7 N C6 K6
    go_wp2_with fail
    refine N7.out.mono ?_
    rintro e x8 ⟨k8, rfl, p', hrb⟩
    obtain ⟨_, d1, d2, _⟩ := hrb.cell
    have K8 : Hid (Below w.heap.size w x8) := (K7.out.alloc K7.out.size _).trans (k8.mono K7.out.size)
    clear k8 hrb N7
    go_wp2_with fail
    refine (awake_any _).mono ?_
    rintro e x9 ⟨rfl, k9⟩
    go_wp2
    go_ret
    exact ⟨rfl, bel_to K8.out (Nat.le_refl _) k9⟩
  | some q =>
    obtain ⟨l, nx⟩ := q
    obtain ⟨_, hwl, _, hll, _⟩ := riseS_back HZ.out hg
    have hl20 : l.length ≤ 1048576 := by rw [HL.out] at hll; omega
    have HWL := hide hwl
    rw [hg] at C6 N
    simp only [RiseP] at C6
    simp only [ReadP] at N
    clear hg w2 w3 hwl hll
    have tx : (nx == nx) = true := by simp
    go_wp2_with fail
    refine C6.out.mono ?_
    rintro e x7 ⟨⟨a7, c7, rfl, o7⟩, k7⟩
    have R7 := hide (o7.row (by omega) (words_wf HWL.out))
    have K7 : Hid (Below w.heap.size w x7) := bel_to K6.out (Nat.le_refl _) k7
    have N7 := hide (N.out x7 K7.out)
    clear k7 N C6 K6 o7
    generalize hll : l.length = ll at *
    have HLL := hide hll
    clear hll
    go_wp2_with fail
    refine N7.out.mono ?_
    rintro e x8 ⟨k8, a8, c8, rfl, o8, hrb⟩
    obtain ⟨_, d1, d2, _⟩ := hrb.cell
    have K8 : Hid (Below w.heap.size w x8) := (K7.out.alloc K7.out.size _).trans (k8.mono K7.out.size)
    have HRB := hide hrb
    have R8 := hide (R7.out.below (((Below.refl x7.heap.size x7).alloc (Nat.le_refl _) (.cells #[.slice a n cap, .int .i64 p, .bool false] 31)).trans k8) (Nat.le_refl _))
    have S := hide (same_any a7 ll c7 l a8 ll c8 l x8 R8.out (o8.row (by omega) (words_wf HWL.out)))
    have hd : decide (l = l) = true := by simp
    rw [hd] at S
    clear k8 hrb N7 o8 hd
    go_wp2_with fail
    refine S.out.mono ?_
    rintro e x9 ⟨rfl, k9⟩
    obtain ⟨_, d4, d5, _⟩ := (HRB.out.below k9 HRB.out.lt).cell
    have K9 : Hid (Below w.heap.size w x9) := bel_to K8.out (Nat.le_refl _) k9
    clear k9 S d1 d2 HRB
    go_wp2_with fail
    refine (awake_any _).mono ?_
    rintro e x10 ⟨rfl, k10⟩
    go_wp2
    go_ret
    exact ⟨rfl, bel_to K9.out (Nat.le_refl _) k10⟩
end Go.Proofs.Ytemgapgggeanjaa

namespace Go.Proofs.Ytemgapgggeanjaa.vintRises
open Go.ChangeShapes Go.WideShapes Go.ChangeAt Go.RowKit
open Go.ChangeMaps (open_string shut_string)
set_option linter.unusedVariables false

theorem own : ownKnob Try.prog.godebug = none := by kernel_rfl
theorem laidOut : laidOutB Try.prog = true := by kernel_rfl

set_option maxRecDepth 100000 in
theorem lifted (os : Os) (started : os.Started) (H : Type) (enc : TypeId × Value → H) (F : Stop.Interp) :
    ReturnsInHanded {} Try.checked os 6 .any ((Rows.OpenSpec.upto Rows.vintRisesSpec).pre6 enc Try.prog Try.f6 Rows.vintRisesUptoRow.domain false) (((Rows.OpenSpec.upto Rows.vintRisesSpec).at F).post enc Try.prog Try.f6 false true false false) := by
  refine returnsInHanded_of_cond_sized (C := Try.checked) (s := Rows.OpenSpec.upto Rows.vintRisesSpec) (k := Rows.uptoSmall) rfl own started (by kernel_rfl) Try.func6
    (OpenSpec.witness (enc := enc) (C := Try.checked) (s := Rows.OpenSpec.upto Rows.vintRisesSpec) (k := Rows.uptoSmall) rfl false ⟨#[], #[.slice none 0 0, .slice none 0 0, .int .i64 0, .int .i64 0], []⟩ 8 (by kernel_rfl) (by kernel_rfl) (by kernel_rfl)
      (x := ([.nil, .nil, .lit (.int .i64 0), .lit (.int .i64 0)], [], [])) (by kernel_rfl) rfl (by kernel_rfl)) ?_
  intro W base args ds gs before hval0 hW _ hk0 hsz0 _
  have hk : Rows.uptoSmall H (ds ++ gs) = true := hk0
  have hsz : (DataW.weightsEach Try.prog (Try.f6.params.toList ++ Rows.vintRisesSpec.plain.varTypes Try.prog) (ds ++ gs)).all (· ≤ reachBytes) = true := hsz0
  have hval : ∀ (j : Nat) t v, Try.f6.params[j]? = some t → args[j]? = some v → Value.okWide Try.prog W .any base t v := hval0
  have hW' := hW
  obtain ⟨p, q, hA0, hV, rfl, hfz, hnd⟩ := hW
  have hA : DataW.TrodAll enc Try.prog W 0 (fun _ => true) true Try.f6.params.toList args.toList ds p := hA0
  rw [Try.params6] at hA hval hsz
  obtain ⟨v0, vs0, d0, ds0, p0, q0, hargs, rfl, rfl, h0, r0⟩ := trodAll_cons hA
  obtain ⟨v1, vs1, d1, ds1, p1, q1, rfl, rfl, rfl, h1, r1⟩ := trodAll_cons r0
  obtain ⟨v2, vs2, d2, ds2, p2, q2, rfl, rfl, rfl, h2, r2⟩ := trodAll_cons r1
  obtain ⟨v3, vs3, d3, ds3, p3, q3, rfl, rfl, rfl, h3, r3⟩ := trodAll_cons r2
  obtain ⟨rfl, rfl, rfl⟩ := trodAll_nil r3
  obtain rfl : args = #[v0, v1, v2, v3] := by cases args; simp_all
  obtain ⟨rfl, rfl⟩ := trodVars_none hV
  obtain ⟨a0, len0, cap0, rfl⟩ := okWide_slice Try.underlying47 (hval 0 47 v0 rfl rfl)
  have k0 := h0
  have lt0 : ∀ x ∈ p0, x.block < W.heap.size := by obtain ⟨m, hm⟩ := k0; exact DataW.trod_lt m _ _ _ hm
  obtain ⟨z0, w0, b0⟩ : ∃ zs, IsRow .u64 W a0 len0 cap0 zs ∧ cap0 ≤ 1048576 := by
    obtain ⟨fuel, hf⟩ := h0
    rcases open_ints Try.underlying47 Try.underlying22 (by kernel_rfl) hf with ⟨hcs, _⟩ | ⟨x, l, c, zs, hcs, _, hl, hm, hz, hx, hcell, hwz⟩
    · simp [Value.cells] at hcs
      obtain ⟨rfl, rfl, rfl⟩ := hcs
      exact ⟨[], ⟨by decide, .inl ⟨rfl, rfl, rfl, rfl⟩⟩, by decide⟩
    · simp [Value.cells] at hcs
      obtain ⟨rfl, rfl, rfl⟩ := hcs
      have hd := congrArg Prod.fst hx
      simp only at hd
      have hs := sized_slice hsz (j := 0) (t := 47) (e := 22) rfl (by rw [hd]; rfl) Try.underlying47
      rw [show Try.prog.bytesOf 22 = 8 from by kernel_rfl] at hs
      simp only [lits, List.length_map, List.length_take, List.length_drop, reachBytes] at hs
      have hzc : zs.length = cap0 := by simpa using hz
      have hs2 := small_slice hk (j := 0) (by rw [hd]; rfl)
      simp only [lits, List.length_map, List.length_take, List.length_drop] at hs2
      exact ⟨zs, ⟨by show cap0 * 8 ≤ _; omega, .inr ⟨_, rfl, hl, hm, hzc, hcell, hwz⟩⟩, by omega⟩
  obtain ⟨a1, len1, cap1, rfl⟩ := okWide_slice Try.underlying23 (hval 1 23 v1 rfl rfl)
  have k1 := h1
  have lt1 : ∀ x ∈ p1, x.block < W.heap.size := by obtain ⟨m, hm⟩ := k1; exact DataW.trod_lt m _ _ _ hm
  obtain ⟨z1, w1, b1⟩ : ∃ zs, IsRow .u8 W a1 len1 cap1 zs ∧ cap1 ≤ 1048576 := by
    obtain ⟨fuel, hf⟩ := h1
    rcases open_ints Try.underlying23 Try.underlying5 (by kernel_rfl) hf with ⟨hcs, _⟩ | ⟨x, l, c, zs, hcs, _, hl, hm, hz, hx, hcell, hwz⟩
    · simp [Value.cells] at hcs
      obtain ⟨rfl, rfl, rfl⟩ := hcs
      exact ⟨[], ⟨by decide, .inl ⟨rfl, rfl, rfl, rfl⟩⟩, by decide⟩
    · simp [Value.cells] at hcs
      obtain ⟨rfl, rfl, rfl⟩ := hcs
      have hd := congrArg Prod.fst hx
      simp only at hd
      have hs := sized_slice hsz (j := 1) (t := 23) (e := 5) rfl (by rw [hd]; rfl) Try.underlying23
      rw [show Try.prog.bytesOf 5 = 1 from by kernel_rfl] at hs
      simp only [lits, List.length_map, List.length_take, List.length_drop, reachBytes] at hs
      have hzc : zs.length = cap1 := by simpa using hz
      have hs2 := small_slice hk (j := 1) (by rw [hd]; rfl)
      simp only [lits, List.length_map, List.length_take, List.length_drop] at hs2
      exact ⟨zs, ⟨by show cap1 * 1 ≤ _; omega, .inr ⟨_, rfl, hl, hm, hzc, hcell, hwz⟩⟩, by omega⟩
  obtain ⟨a2, rfl, rfl, rfl, w2⟩ := open_int Try.underlying3 (hval 2 3 v2 rfl rfl) h2
  obtain ⟨a3, rfl, rfl, rfl, w3⟩ := open_int Try.underlying3 (hval 3 3 v3 rfl rfl) h3
  clear hA0 hval0 hsz0 hsz
  refine (walk_rises a0 len0 cap0 z0 a1 len1 cap1 z1 a2 a3 W w0 b0 w1 b1 w2 w3).mono fun e W' ⟨he, bel⟩ => ?_
  subst he
  exact ⟨_, rfl, _, _, _, [], _, [], hW', trodAll_mk1 (shut_bool Try.underlying4 _), (trodAll_cons_mk (Below.trod laidOut (by kernel_rfl) (of_decide_eq_true (by kernel_rfl)) k0 bel lt0) (trodAll_cons_mk (Below.trod laidOut (by kernel_rfl) (of_decide_eq_true (by kernel_rfl)) k1 bel lt1) (trodAll_cons_mk (shut_int Try.underlying3 w2) (trodAll_cons_mk (shut_int Try.underlying3 w3) trodAll_mk0)))), rfl, bel.frame _, fun h => by cases h⟩

theorem proved : Rows.VintRisesUptoSaid :=
  OpenClaim.holds_of_cond 6 Try.f6 rfl rfl rfl rfl rfl rfl rfl ⟨rfl, rfl, rfl, rfl, rfl⟩ rfl rfl rfl rfl rfl (by kernel_rfl) Try.func6 (by kernel_rfl)
    (of_decide_eq_true (by kernel_rfl)) (by unfold Func.isWrapper; first | (rw [if_pos (by decide +kernel)]; kernel_rfl) | (rw [if_neg (by decide +kernel)]; exact ⟨rfl, rfl⟩))
    (fun os started H enc _ F => lifted os started H enc F)
end Go.Proofs.Ytemgapgggeanjaa.vintRises
