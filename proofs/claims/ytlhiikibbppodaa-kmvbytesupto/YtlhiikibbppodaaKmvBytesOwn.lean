/-
  A list that may be, put behind any bytes, is the document's bytes, and comes back; any bytes are read as a list as the document says; the document's example holds. The call returns true, and its arguments read as they did.
  Conditions: the input is of bulk at most 1048576 (the second form).
-/
import Derived.Test.YtlhiikibbppodaaKmvG
import Derived.Test.YtlhiikibbppodaaVintU
import Derived.Deep.DeepCutAuto
import Derived.Deep.CondSized
import Derived.ProofKit
import Derived.OpenShut
import Derived.ShutString
import Derived.ChangeOld
import Derived.SizedLaws
namespace Go.Proofs.Ytlhiikibbppodaa
open Go.RowKit

theorem putR_len (l : List Int) : (putR l).length ≤ 10 * l.length + 10 := by
  have h1 := (putS_len (l.length : Int)).2
  have h2 := (riseB_len 18446744073709551615 l).2
  unfold putR
  rw [List.length_append]; omega

theorem refrise_row (b : Option Addr) (m capb : Nat) (ls : List Int) (w : World) (hm : m ≤ 1048576) (hl : Row .u64 w b m ls) :
    Calls Try.prog 32 #[.slice b m capb] w fun e w' => ∃ a' cap', e = .returned (.slice a' (putR ls).length cap') ∧ Row .u8 w' a' (putR ls).length (putR ls) ∧ Below w.heap.size w w' := by
  have hll := hl.1
  have hlen := putR_len ls
  refine (refrise_any b m capb ls w hm hl).mono ?_
  rintro e w' ⟨a', cap', rfl, h1, h2⟩
  exact ⟨a', cap', rfl, h1.row (by omega) (fits_wf (putR_byte (by omega))), h2⟩

set_option maxRecDepth 100000 in
set_option maxHeartbeats 8000000 in
theorem walk_bytes (al : Option Addr) (nl cl : Nat) (zl : List Int) (a : Option Addr) (n cap : Nat) (z : List Int) (p : Int) (w : World) (w0 : IsRow .u64 w al nl cl zl) (b0 : cl ≤ 1048576) (w1 : IsRow .u8 w a n cap z) (b1 : cap ≤ 1048576) (w2 : (Lit.int .i64 p).wf = true) :
    Calls Try.prog 8 #[.slice al nl cl, .slice a n cap, .int .i64 p] w fun e w' => e = .returned (.bool true) ∧ Below w.heap.size w w' := by
  obtain ⟨hl1, _, hl3, rl⟩ := row_of w0
  obtain ⟨hcap, _, hnil, hr⟩ := row_of w1
  clear w0 w1
  generalize zl.take nl = ls at *
  generalize z.take n = bs at *
  have HZ : Hid (Bytes8 bs) := hr.bytes
  have R := hide hr
  have HL := hide hr.1
  have RL := hide rl
  have LL := hide rl.1
  have WL := hide rl.words
  have hL := putR_len ls
  rw [rl.1] at hL
  have HV : Hid (Bytes8 (putR ls)) := putR_byte (by rw [rl.1]; omega)
  have C1 := hide (bytes_any a n cap bs w hr hnil (by omega))
  have AW := hide (fun W (bl : Below w.heap.size w W) => (awakeK_any kmvI W).mono (fun e W' (h : e = .returned (.bool true) ∧ Below W.heap.size W W') => (⟨h.1, bl.trans (h.2.mono bl.size)⟩ : e = .returned (.bool true) ∧ Below w.heap.size w W')))
  clear hr rl
  go_enter Try.func8, Try.ntmps8
  go_wp2_with fail
  refine C1.out.mono ?_
  rintro e x1 ⟨a1, c1, rfl, o1, k1⟩
  have p1 := o1.capped.1
  have R1 := hide (o1.row (by omega) (fits_wf HZ.out))
  have K1 := hide k1
  have C2 := hide (numsK_any al nl cl ls x1 (RL.out.below k1 (Nat.le_refl _)) hl3 (by omega))
  clear o1 k1 C1 hl3
  go_wp2_with fail
  refine C2.out.mono ?_
  rintro e x2 ⟨a2, c2, rfl, o2, k2⟩
  have R2 := hide (o2.row (by omega) (words_wf WL.out))
  have R1' := hide (R1.out.below k2 (Nat.le_refl _))
  have K2 : Hid (Below w.heap.size w x2) := bel_to K1.out (Nat.le_refl _) k2
  clear o2 k2 C2 R1 K1
  have C3 := hide (kput_any a1 n c1 bs a2 nl c2 ls x2 (by omega) p1 R1'.out R2.out)
  obtain ⟨NL, HNL⟩ : ∃ NL, Hid (n + (putR ls).length = NL) := ⟨_, rfl⟩
  have hNL := HNL.out
  have hNLs : NL ≤ 20000000 := by omega
  rw [HNL.out] at C3
  clear R1' R2 hNL
  go_wp2_with fail
  refine C3.out.mono ?_
  rintro e x3 ⟨a3, c3, rfl, o3, k3⟩
  have p3 := o3.capped.1
  have hBX : Hid (Bytes8 (bs ++ putR ls)) := Bytes8.append HZ.out HV.out
  have R3 := hide (o3.row (by omega) (fits_wf hBX.out))
  have K3 : Hid (Below w.heap.size w x3) := bel_to K2.out (Nat.le_refl _) k3
  have RB3 := hide (R.out.below K3.out (Nat.le_refl _))
  have RL3 := hide (RL.out.below K3.out (Nat.le_refl _))
  have CK := hide (refchk_any al nl cl ls x3 RL3.out)
  clear o3 k3 C3 K2
  go_wp2_with fail
  refine CK.out.mono ?_
  rintro e x4 ⟨rfl, q, rfl⟩
  have DQ : Hid (Below x3.heap.size x3 (x3.drewN q)) := bel_drewN (Below.refl _ _) q
  have R4 := hide (R3.out.below DQ.out (Nat.le_refl _))
  have RB4 := hide (RB3.out.below DQ.out (Nat.le_refl _))
  have RL4 := hide (RL3.out.below DQ.out (Nat.le_refl _))
  have K4 : Hid (Below w.heap.size w (x3.drewN q)) := bel_to K3.out (Nat.le_refl _) DQ.out
  generalize x3.drewN q = x4 at *
  clear DQ R3 RB3 RL3 K3 CK
  go_upto_if 22 with fail
  go_cut [7] (fun _ wx => Hid (Below w.heap.size w wx))
  case first =>
    by_cases hck : chkK ls = true
    · rw [hck]
      have RBk := hide (rise_back (xs := bs) hck WL.out)
      rw [HL.out] at RBk
      have hlm := (chk_up hck).2
      rw [LL.out] at hlm
      have G1 := hide (kget_any (n : Int) a3 NL c3 (bs ++ putR ls) x4 (i64_wf (by omega) (by omega)) p3 R4.out)
      rw [RBk.out] at G1
      simp only [RiseP] at G1
      rw [LL.out, HNL.out] at G1
      have PP := hide (fun W (h : Row .u64 W al nl ls) => refrise_row al nl cl ls W (by omega) h)
      have F1 := hide (fun w' (h : Row .u8 w' a3 NL (bs ++ putR ls)) => row_string (cap := c3) h)
      have F2 := hide (fun w' (h : Row .u8 w' a n bs) => row_string (cap := cap) h)
      have F3 := hide (fun w' a' c' (h : Row .u8 w' a' (putR ls).length (putR ls)) => row_string (cap := c') h)
      have hadd := add_str bs (putR ls) (by rw [HL.out]; omega)
      generalize strOfNums (bs ++ putR ls) = X at F1 hadd
      generalize strOfNums bs = X1 at F2 hadd
      generalize strOfNums (putR ls) = X2 at F3 hadd
      obtain ⟨L, HLL⟩ : ∃ L, Hid ((putR ls).length = L) := ⟨_, rfl⟩
      rw [HLL.out] at PP F3
      have tq : ((NL : Int) != (NL : Int)) = false := by simp
      clear hck RBk hlm
      go_wp2_with fail
      refine G1.out.mono ?_
      rintro e x5 ⟨⟨a5, c5, rfl, o5⟩, k5⟩
      have R5 := hide (o5.row (by omega) (words_wf WL.out))
      have RX5 := hide (R4.out.below k5 (Nat.le_refl _))
      have RB5 := hide (RB4.out.below k5 (Nat.le_refl _))
      have RL5 := hide (RL4.out.below k5 (Nat.le_refl _))
      have K5 : Hid (Below w.heap.size w x5) := bel_to K4.out (Nat.le_refl _) k5
      clear o5 k5 G1 R4 RB4 RL4 K4
      go_upto_region 4 with fail
      refine wp_region_held_drew (S := fun w' => (convert 55 9 (.slice a3 NL c3)).run Try.prog w' = .ok (.string X) w' ∧ (convert 55 9 (.slice a n cap)).run Try.prog w' = .ok (.string X1) w') (by kernel_rfl) ⟨F1.out _ RX5.out.drew, F2.out _ RB5.out.drew⟩ (fun hHeld => ?_)
      refine held_take (i := 0) (d := (some 31)) (v := ?_) rfl rfl (by kernel_rfl) (by kernel_rfl) (by kernel_rfl) (fun _ _ _ h => h) (Or.inl ⟨by rfl, ?_⟩) (by first | assumption | rfl | trivial) ?_
      rotate_left 1
      · (intro w hSw; (try dsimp only at hSw); (try subst hSw); go_simp; try with_reducible rfl)
      simp only [Act.put, List.setIfInBounds_toArray, List.set_cons_zero, List.set_cons_succ]
      refine held_take (i := 1) (d := (some 32)) (v := ?_) rfl rfl (by kernel_rfl) (by kernel_rfl) (by kernel_rfl) (fun _ _ _ h => h) (Or.inl ⟨by rfl, ?_⟩) (by first | assumption | rfl | trivial) ?_
      rotate_left 1
      · (intro w hSw; (try dsimp only at hSw); (try subst hSw); go_simp; try with_reducible rfl)
      simp only [Act.put, List.setIfInBounds_toArray, List.set_cons_zero, List.set_cons_succ]
      refine held_take (i := 2) (d := (some 33)) (v := ?_) rfl rfl (by kernel_rfl) (by kernel_rfl) (by kernel_rfl) (fun _ _ _ h => h) (Or.inl ⟨by rfl, ?_⟩) (by first | assumption | rfl | trivial) ?_
      rotate_left 1
      · (intro w hSw; (try dsimp only at hSw); (try subst hSw); go_simp; try with_reducible rfl)
      simp only [Act.put, List.setIfInBounds_toArray, List.set_cons_zero, List.set_cons_succ]
      refine held_take (i := 3) (d := (some 34)) (v := ?_) rfl rfl (by kernel_rfl) (by kernel_rfl) (by kernel_rfl) (fun _ _ _ h => h) (Or.inl ⟨by rfl, ?_⟩) (by first | assumption | rfl | trivial) ?_
      rotate_left 1
      · (intro w hSw; (try dsimp only at hSw); (try subst hSw); go_simp; try with_reducible rfl)
      simp only [Act.put, List.setIfInBounds_toArray, List.set_cons_zero, List.set_cons_succ]
      refine held_take (i := 4) (d := (some 35)) (v := ?_) rfl rfl (by kernel_rfl) (by kernel_rfl) (by kernel_rfl) (fun _ _ _ h => h) (Or.inl ⟨by rfl, ?_⟩) (by first | assumption | rfl | trivial) ?_
      rotate_left 1
      · (intro w hSw; (try dsimp only at hSw); (try subst hSw); go_simp; try with_reducible rfl)
      simp only [Act.put, List.setIfInBounds_toArray, List.set_cons_zero, List.set_cons_succ]
      refine held_call2 (i := 5) (by kernel_rfl) rfl (by rfl) (fun K hK => ?_)
      go_simp
      refine (PP.out _ RL5.out.drew).mono ?_
      rintro e x6 ⟨a6, c6, rfl, R6, k6⟩
      have HR6 := hide R6
      have RX6 := hide (RX5.out.drew.below k6 (Nat.le_refl _))
      have RB6 := hide (RB5.out.drew.below k6 (Nat.le_refl _))
      have RL6 := hide (RL5.out.drew.below k6 (Nat.le_refl _))
      have R56 := hide (R5.out.drew.below k6 (Nat.le_refl _))
      have K6 : Hid (Below w.heap.size w x6) := bel_to K5.out.drew (Nat.le_refl _) k6
      clear R6 k6 PP hHeld RX5 RB5 RL5 R5 K5
      have hS6 : (convert 55 9 (.slice a3 NL c3)).run Try.prog x6 = .ok (.string X) x6 ∧ (convert 55 9 (.slice a n cap)).run Try.prog x6 = .ok (.string X1) x6 ∧ (convert 55 9 (.slice a6 L c6)).run Try.prog x6 = .ok (.string X2) x6 := ⟨F1.out _ RX6.out, F2.out _ RB6.out, F3.out _ _ _ HR6.out⟩
      go_wp2_with fail
      refine hK.out (fun w' => (convert 55 9 (.slice a3 NL c3)).run Try.prog w' = .ok (.string X) w' ∧ (convert 55 9 (.slice a n cap)).run Try.prog w' = .ok (.string X1) w' ∧ (convert 55 9 (.slice a6 L c6)).run Try.prog w' = .ok (.string X2) w') _ _ (fun _ h => ⟨h.1, h.2.1⟩) hS6 ?_
      clear hK
      refine held_take (i := 6) (d := (some 37)) (v := ?_) rfl rfl (by kernel_rfl) (by kernel_rfl) (by kernel_rfl) (fun _ _ _ h => h) (Or.inl ⟨by rfl, ?_⟩) (by first | assumption | rfl | trivial) ?_
      rotate_left 1
      · (intro w hSw; (try dsimp only at hSw); (try subst hSw); go_simp; try with_reducible rfl)
      simp only [Act.put, List.setIfInBounds_toArray, List.set_cons_zero, List.set_cons_succ]
      refine held_take (i := 7) (d := (some 38)) (v := ?_) rfl rfl (by kernel_rfl) (by kernel_rfl) (by kernel_rfl) (fun _ _ _ h => h) (Or.inl ⟨by rfl, ?_⟩) (by first | assumption | rfl | trivial) ?_
      rotate_left 1
      · (intro w hSw; (try dsimp only at hSw); (try subst hSw); go_simp; try with_reducible rfl)
      simp only [Act.put, List.setIfInBounds_toArray, List.set_cons_zero, List.set_cons_succ]
      refine held_take (i := 8) (d := (some 39)) (v := ?_) rfl rfl (by kernel_rfl) (by kernel_rfl) (by kernel_rfl) (fun _ _ _ h => h) (Or.inl ⟨by rfl, ?_⟩) (by first | assumption | rfl | trivial) ?_
      rotate_left 1
      · (intro w hSw; (try dsimp only at hSw); (try subst hSw); go_simp; try with_reducible rfl)
      simp only [Act.put, List.setIfInBounds_toArray, List.set_cons_zero, List.set_cons_succ]
      refine held_take (i := 9) (d := (some 40)) (v := ?_) rfl rfl (by kernel_rfl) (by kernel_rfl) (by kernel_rfl) (fun _ _ _ h => h) (Or.inl ⟨by rfl, ?_⟩) (by first | assumption | rfl | trivial) ?_
      rotate_left 1
      · (intro w hSw; (try dsimp only at hSw); (try subst hSw); go_simp; try with_reducible rfl)
      simp only [Act.put, List.setIfInBounds_toArray, List.set_cons_zero, List.set_cons_succ]
      refine held_take (i := 10) (d := (some 41)) (v := ?_) rfl rfl (by kernel_rfl) (by kernel_rfl) (by kernel_rfl) (fun _ _ _ h => h) (Or.inl ⟨by rfl, ?_⟩) (by first | assumption | rfl | trivial) ?_
      rotate_left 1
      · (intro w hSw; (try dsimp only at hSw); (try subst hSw); go_simp; try with_reducible rfl)
      simp only [Act.put, List.setIfInBounds_toArray, List.set_cons_zero, List.set_cons_succ]
      refine held_take (i := 11) (d := (some 42)) (v := ?_) rfl rfl (by kernel_rfl) (by kernel_rfl) (by kernel_rfl) (fun _ _ _ h => h) (Or.inl ⟨by rfl, ?_⟩) (by first | assumption | rfl | trivial) ?_
      rotate_left 1
      · (intro w hSw; (try dsimp only at hSw); (try subst hSw); go_simp; try with_reducible rfl)
      simp only [Act.put, List.setIfInBounds_toArray, List.set_cons_zero, List.set_cons_succ]
      have SM := hide (same_any a5 nl c5 ls al nl cl ls x6 R56.out RL6.out)
      have hd : decide (ls = ls) = true := by simp
      rw [hd] at SM
      refine held_next (i := 12) (by kernel_rfl) rfl (by rfl) (fun K hK => ?_)
      go_simp
      refine SM.out.mono ?_
      rintro e x7 ⟨rfl, k7⟩
      have K7 : Hid (Below w.heap.size w x7) := bel_to K6.out (Nat.le_refl _) k7
      have hS7 : (convert 55 9 (.slice a3 NL c3)).run Try.prog x7 = .ok (.string X) x7 ∧ (convert 55 9 (.slice a n cap)).run Try.prog x7 = .ok (.string X1) x7 ∧ (convert 55 9 (.slice a6 L c6)).run Try.prog x7 = .ok (.string X2) x7 := ⟨F1.out _ (RX6.out.below k7 (Nat.le_refl _)), F2.out _ (RB6.out.below k7 (Nat.le_refl _)), F3.out _ _ _ (HR6.out.below k7 (Nat.le_refl _))⟩
      clear hS6
      go_wp2_with fail
      refine hK.out _ _ hS7 ?_
      clear hK k7 SM hd hadd
      refine held_take (i := 13) (d := (some 44)) (v := ?_) rfl rfl (by kernel_rfl) (by kernel_rfl) (by kernel_rfl) (fun _ _ _ h => h) (Or.inl ⟨by rfl, ?_⟩) (by first | assumption | rfl | trivial) ?_
      rotate_left 1
      · (intro w hSw; (try dsimp only at hSw); (try subst hSw); go_simp; try with_reducible rfl)
      simp only [Act.put, List.setIfInBounds_toArray, List.set_cons_zero, List.set_cons_succ]
      refine held_take (i := 14) (d := (some 45)) (v := ?_) rfl rfl (by kernel_rfl) (by kernel_rfl) (by kernel_rfl) (fun _ _ _ h => h) (Or.inl ⟨by rfl, ?_⟩) (by first | assumption | rfl | trivial) ?_
      rotate_left 1
      · (intro w hSw; (try dsimp only at hSw); (try subst hSw); go_simp; try with_reducible rfl)
      simp only [Act.put, List.setIfInBounds_toArray, List.set_cons_zero, List.set_cons_succ]
      refine held_take (i := 15) (d := (some 46)) (v := ?_) rfl rfl (by kernel_rfl) (by kernel_rfl) (by kernel_rfl) (fun _ _ _ h => h) (Or.inl ⟨by rfl, ?_⟩) (by first | assumption | rfl | trivial) ?_
      rotate_left 1
      · (intro w hSw; (try dsimp only at hSw); (try subst hSw); go_simp; try with_reducible rfl)
      simp only [Act.put, List.setIfInBounds_toArray, List.set_cons_zero, List.set_cons_succ]
      refine held_take (i := 16) (d := (some 47)) (v := ?_) rfl rfl (by kernel_rfl) (by kernel_rfl) (by kernel_rfl) (fun _ _ _ h => h) (Or.inl ⟨by rfl, ?_⟩) (by first | assumption | rfl | trivial) ?_
      rotate_left 1
      · (intro w hSw; (try dsimp only at hSw); (try subst hSw); go_simp; try with_reducible rfl)
      simp only [Act.put, List.setIfInBounds_toArray, List.set_cons_zero, List.set_cons_succ]
      refine held_take (i := 17) (d := (some 48)) (v := ?_) rfl rfl (by kernel_rfl) (by kernel_rfl) (by kernel_rfl) (fun _ _ _ h => h) (Or.inl ⟨by rfl, ?_⟩) (by first | assumption | rfl | trivial) ?_
      rotate_left 1
      · (intro w hSw; (try dsimp only at hSw); (try subst hSw); go_simp; try with_reducible rfl)
      simp only [Act.put, List.setIfInBounds_toArray, List.set_cons_zero, List.set_cons_succ]
      refine held_take (i := 18) (d := (some 49)) (v := ?_) rfl rfl (by kernel_rfl) (by kernel_rfl) (by kernel_rfl) (fun _ _ _ h => h) (Or.inl ⟨by rfl, ?_⟩) (by first | assumption | rfl | trivial) ?_
      rotate_left 1
      · (intro w hSw; (try dsimp only at hSw); (try subst hSw); go_simp; try with_reducible rfl)
      simp only [Act.put, List.setIfInBounds_toArray, List.set_cons_zero, List.set_cons_succ]
      refine held_take (i := 19) (d := (some 50)) (v := ?_) rfl rfl (by kernel_rfl) (by kernel_rfl) (by kernel_rfl) (fun _ _ _ h => h) (Or.inl ⟨by rfl, ?_⟩) (by first | assumption | rfl | trivial) ?_
      rotate_left 1
      · (intro w hSw; (try dsimp only at hSw); (try subst hSw); go_simp; try with_reducible rfl)
      simp only [Act.put, List.setIfInBounds_toArray, List.set_cons_zero, List.set_cons_succ]
      refine held_take (i := 20) (d := (some 51)) (v := ?_) rfl rfl (by kernel_rfl) (by kernel_rfl) (by kernel_rfl) (fun _ _ _ h => h) (Or.inl ⟨by rfl, ?_⟩) (by first | assumption | rfl | trivial) ?_
      rotate_left 1
      · (intro w hSw; (try dsimp only at hSw); (try subst hSw); go_simp; try with_reducible rfl)
      simp only [Act.put, List.setIfInBounds_toArray, List.set_cons_zero, List.set_cons_succ]
      refine held_take (i := 21) (d := (some 52)) (v := ?_) rfl rfl (by kernel_rfl) (by kernel_rfl) (by kernel_rfl) (fun _ _ _ h => h) (Or.inl ⟨by rfl, ?_⟩) (by first | assumption | rfl | trivial) ?_
      rotate_left 1
      · (intro w hSw; (try dsimp only at hSw); (try subst hSw); go_simp; try with_reducible rfl)
      simp only [Act.put, List.setIfInBounds_toArray, List.set_cons_zero, List.set_cons_succ]
      refine held_take (i := 22) (d := (some 53)) (v := ?_) rfl rfl (by kernel_rfl) (by kernel_rfl) (by kernel_rfl) (fun _ _ _ h => h) (Or.inl ⟨by rfl, ?_⟩) (by first | assumption | rfl | trivial) ?_
      rotate_left 1
      · (intro w hSw; (try dsimp only at hSw); (try subst hSw); go_simp; try with_reducible rfl)
      simp only [Act.put, List.setIfInBounds_toArray, List.set_cons_zero, List.set_cons_succ]
      refine held_take (i := 23) (d := (some 54)) (v := ?_) rfl rfl (by kernel_rfl) (by kernel_rfl) (by kernel_rfl) (fun _ _ _ h => h) (Or.inl ⟨by rfl, ?_⟩) (by first | assumption | rfl | trivial) ?_
      rotate_left 1
      · (intro w hSw; (try dsimp only at hSw); (try subst hSw); go_simp; try with_reducible rfl)
      simp only [Act.put, List.setIfInBounds_toArray, List.set_cons_zero, List.set_cons_succ]
      refine held_take (i := 24) (d := (some 55)) (v := ?_) rfl rfl (by kernel_rfl) (by kernel_rfl) (by kernel_rfl) (fun _ _ _ h => h) (Or.inl ⟨by rfl, ?_⟩) (by first | assumption | rfl | trivial) ?_
      rotate_left 1
      · (intro w hSw; (try dsimp only at hSw); (try subst hSw); go_simp; try with_reducible rfl)
      simp only [Act.put, List.setIfInBounds_toArray, List.set_cons_zero, List.set_cons_succ]
      refine wpAnyH_done (by kernel_rfl) ?_ _
      go_wp2
      go_meet
      case rel => exact K7.out
    · rw [show chkK ls = false by simpa using hck]
      go_wp2
      go_meet
      case rel => exact K4.out
  case rest =>
    have RBc := hide (R.out.below hcut.out (Nat.le_refl _))
    have Kc := hcut
    clear R4 RB4 RL4 K4 hcut
    have C5 := hide (bytes_any a n cap bs wc RBc.out hnil (by omega))
    go_wp2_with fail
    refine C5.out.mono ?_
    rintro e x6 ⟨a6, c6, rfl, o6, k6⟩
    have p6 := o6.capped.1
    have C6 := hide (kget_any p a6 n c6 bs x6 w2 p6 (o6.row (by omega) (fits_wf HZ.out)))
    have K6 : Hid (Below w.heap.size w x6) := bel_to Kc.out (Nat.le_refl _) k6
    clear o6 k6 C5 RBc Kc hnil
    have N := hide (fun (x7 : World) (K7 : Below w.heap.size w x7) => rrise_any p 1024 x7.heap.size a n cap bs w (x7.alloc (.cells #[.slice a n cap, .int .i64 p, .bool false] 63)) w2 (by decide) hcap (by omega) R.out K7.size (K7.alloc K7.size _) (rb_new x7 a n cap p))
    cases hg : riseS bs p 1024 with
    | none =>
      rw [hg] at C6 N
      simp only [RiseP] at C6
      simp only [ReadP] at N
      clear hg w2
      go_wp2_with fail
      refine C6.out.mono ?_
      rintro e x7 ⟨rfl, k7⟩
      have K7 : Hid (Below w.heap.size w x7) := bel_to K6.out (Nat.le_refl _) k7
      have N7 := hide (N.out x7 K7.out)
      clear k7 N C6 K6
      go_wp2_with fail
      refine N7.out.mono ?_
      rintro e x8 ⟨k8, rfl, p', hrb⟩
      obtain ⟨_, d1, d2, _⟩ := hrb.cell
      have K8 : Hid (Below w.heap.size w x8) := (K7.out.alloc K7.out.size _).trans (k8.mono K7.out.size)
      clear k8 hrb N7
      go_wp2_with fail
      refine (AW.out _ K8.out).mono ?_
      rintro e x9 ⟨rfl, k9⟩
      have K9 := hide k9
      clear k9
      go_wp2
      go_ret
      exact ⟨rfl, K9.out⟩
    | some q =>
      obtain ⟨l, nx⟩ := q
      obtain ⟨_, hwl, _, hll, _⟩ := riseS_back HZ.out hg
      have hl20 : l.length ≤ 1048576 := by rw [HL.out] at hll; omega
      have HWL := hide hwl
      rw [hg] at C6 N
      simp only [RiseP] at C6
      simp only [ReadP] at N
      clear hg w2 hwl hll
      have tx : (nx == nx) = true := by simp
      go_wp2_with fail
      refine C6.out.mono ?_
      rintro e x7 ⟨⟨a7, c7, rfl, o7⟩, k7⟩
      have R7 := hide (o7.row (by omega) (words_wf HWL.out))
      have K7 : Hid (Below w.heap.size w x7) := bel_to K6.out (Nat.le_refl _) k7
      have N7 := hide (N.out x7 K7.out)
      clear k7 N C6 K6 o7
      generalize hll : l.length = ll at *
      have HLL := hide hll
      clear hll
      go_wp2_with fail
      refine N7.out.mono ?_
      rintro e x8 ⟨k8, a8, c8, rfl, o8, hrb⟩
      obtain ⟨_, d1, d2, _⟩ := hrb.cell
      have K8 : Hid (Below w.heap.size w x8) := (K7.out.alloc K7.out.size _).trans (k8.mono K7.out.size)
      have HRB := hide hrb
      have R8 := hide (R7.out.below (((Below.refl x7.heap.size x7).alloc (Nat.le_refl _) (.cells #[.slice a n cap, .int .i64 p, .bool false] 63)).trans k8) (Nat.le_refl _))
      have S := hide (same_any a7 ll c7 l a8 ll c8 l x8 R8.out (o8.row (by omega) (words_wf HWL.out)))
      have hd : decide (l = l) = true := by simp
      rw [hd] at S
      clear k8 hrb N7 o8 hd
      go_wp2_with fail
      refine S.out.mono ?_
      rintro e x9 ⟨rfl, k9⟩
      obtain ⟨_, d4, d5, _⟩ := (HRB.out.below k9 HRB.out.lt).cell
      have K9 : Hid (Below w.heap.size w x9) := bel_to K8.out (Nat.le_refl _) k9
      clear k9 S d1 d2 HRB
      go_wp2_with fail
      refine (AW.out _ K9.out).mono ?_
      rintro e x10 ⟨rfl, k10⟩
      have K10 := hide k10
      clear k10
      go_wp2
      go_ret
      exact ⟨rfl, K10.out⟩
end Go.Proofs.Ytlhiikibbppodaa

namespace Go.Proofs.Ytlhiikibbppodaa.kmvBytes
open Go.ChangeShapes Go.WideShapes Go.ChangeAt Go.RowKit
open Go.ChangeMaps (open_string shut_string)
set_option linter.unusedVariables false

theorem own : ownKnob Try.prog.godebug = none := by kernel_rfl
theorem laidOut : laidOutB Try.prog = true := by kernel_rfl

set_option maxRecDepth 100000 in
theorem lifted (os : Os) (started : os.Started) (H : Type) (enc : TypeId × Value → H) (F : Stop.Interp) :
    ReturnsInHanded {} Try.checked os 8 .any ((Rows.OpenSpec.upto Rows.kmvBytesSpec).pre6 enc Try.prog Try.f8 Rows.kmvBytesUptoRow.domain false) (((Rows.OpenSpec.upto Rows.kmvBytesSpec).at F).post enc Try.prog Try.f8 false true false false) := by
  refine returnsInHanded_of_cond_sized (C := Try.checked) (s := Rows.OpenSpec.upto Rows.kmvBytesSpec) (k := Rows.uptoSmall) rfl own started (by kernel_rfl) Try.func8
    (OpenSpec.witness (enc := enc) (C := Try.checked) (s := Rows.OpenSpec.upto Rows.kmvBytesSpec) (k := Rows.uptoSmall) rfl false ⟨#[], #[.slice none 0 0, .slice none 0 0, .int .i64 0], []⟩ 8 (by kernel_rfl) (by kernel_rfl) (by kernel_rfl)
      (x := ([.nil, .nil, .lit (.int .i64 0)], [], [])) (by kernel_rfl) rfl (by kernel_rfl)) ?_
  intro W base args ds gs before hval0 hW _ hk0 hsz0 _
  have hk : Rows.uptoSmall H (ds ++ gs) = true := hk0
  have hsz : (DataW.weightsEach Try.prog (Try.f8.params.toList ++ Rows.kmvBytesSpec.plain.varTypes Try.prog) (ds ++ gs)).all (· ≤ reachBytes) = true := hsz0
  have hval : ∀ (j : Nat) t v, Try.f8.params[j]? = some t → args[j]? = some v → Value.okWide Try.prog W .any base t v := hval0
  have hW' := hW
  obtain ⟨p, q, hA0, hV, rfl, hfz, hnd⟩ := hW
  have hA : DataW.TrodAll enc Try.prog W 0 (fun _ => true) true Try.f8.params.toList args.toList ds p := hA0
  rw [Try.params8] at hA hval hsz
  obtain ⟨v0, vs0, d0, ds0, p0, q0, hargs, rfl, rfl, h0, r0⟩ := trodAll_cons hA
  obtain ⟨v1, vs1, d1, ds1, p1, q1, rfl, rfl, rfl, h1, r1⟩ := trodAll_cons r0
  obtain ⟨v2, vs2, d2, ds2, p2, q2, rfl, rfl, rfl, h2, r2⟩ := trodAll_cons r1
  obtain ⟨rfl, rfl, rfl⟩ := trodAll_nil r2
  obtain rfl : args = #[v0, v1, v2] := by cases args; simp_all
  obtain ⟨rfl, rfl⟩ := trodVars_none hV
  obtain ⟨a0, len0, cap0, rfl⟩ := okWide_slice Try.underlying22 (hval 0 22 v0 rfl rfl)
  have k0 := h0
  have lt0 : ∀ x ∈ p0, x.block < W.heap.size := by obtain ⟨m, hm⟩ := k0; exact DataW.trod_lt m _ _ _ hm
  obtain ⟨z0, w0, b0⟩ : ∃ zs, IsRow .u64 W a0 len0 cap0 zs ∧ cap0 ≤ 1048576 := by
    obtain ⟨fuel, hf⟩ := h0
    rcases open_ints Try.underlying22 Try.underlying31 (by kernel_rfl) hf with ⟨hcs, _⟩ | ⟨x, l, c, zs, hcs, _, hl, hm, hz, hx, hcell, hwz⟩
    · simp [Value.cells] at hcs
      obtain ⟨rfl, rfl, rfl⟩ := hcs
      exact ⟨[], ⟨by decide, .inl ⟨rfl, rfl, rfl, rfl⟩⟩, by decide⟩
    · simp [Value.cells] at hcs
      obtain ⟨rfl, rfl, rfl⟩ := hcs
      have hd := congrArg Prod.fst hx
      simp only at hd
      have hs := sized_slice hsz (j := 0) (t := 22) (e := 31) rfl (by rw [hd]; rfl) Try.underlying22
      rw [show Try.prog.bytesOf 31 = 8 from by kernel_rfl] at hs
      simp only [lits, List.length_map, List.length_take, List.length_drop, reachBytes] at hs
      have hzc : zs.length = cap0 := by simpa using hz
      have hs2 := small_slice hk (j := 0) (by rw [hd]; rfl)
      simp only [lits, List.length_map, List.length_take, List.length_drop] at hs2
      exact ⟨zs, ⟨by show cap0 * 8 ≤ _; omega, .inr ⟨_, rfl, hl, hm, hzc, hcell, hwz⟩⟩, by omega⟩
  obtain ⟨a1, len1, cap1, rfl⟩ := okWide_slice Try.underlying55 (hval 1 55 v1 rfl rfl)
  have k1 := h1
  have lt1 : ∀ x ∈ p1, x.block < W.heap.size := by obtain ⟨m, hm⟩ := k1; exact DataW.trod_lt m _ _ _ hm
  obtain ⟨z1, w1, b1⟩ : ∃ zs, IsRow .u8 W a1 len1 cap1 zs ∧ cap1 ≤ 1048576 := by
    obtain ⟨fuel, hf⟩ := h1
    rcases open_ints Try.underlying55 Try.underlying5 (by kernel_rfl) hf with ⟨hcs, _⟩ | ⟨x, l, c, zs, hcs, _, hl, hm, hz, hx, hcell, hwz⟩
    · simp [Value.cells] at hcs
      obtain ⟨rfl, rfl, rfl⟩ := hcs
      exact ⟨[], ⟨by decide, .inl ⟨rfl, rfl, rfl, rfl⟩⟩, by decide⟩
    · simp [Value.cells] at hcs
      obtain ⟨rfl, rfl, rfl⟩ := hcs
      have hd := congrArg Prod.fst hx
      simp only at hd
      have hs := sized_slice hsz (j := 1) (t := 55) (e := 5) rfl (by rw [hd]; rfl) Try.underlying55
      rw [show Try.prog.bytesOf 5 = 1 from by kernel_rfl] at hs
      simp only [lits, List.length_map, List.length_take, List.length_drop, reachBytes] at hs
      have hzc : zs.length = cap1 := by simpa using hz
      have hs2 := small_slice hk (j := 1) (by rw [hd]; rfl)
      simp only [lits, List.length_map, List.length_take, List.length_drop] at hs2
      exact ⟨zs, ⟨by show cap1 * 1 ≤ _; omega, .inr ⟨_, rfl, hl, hm, hzc, hcell, hwz⟩⟩, by omega⟩
  obtain ⟨a2, rfl, rfl, rfl, w2⟩ := open_int Try.underlying3 (hval 2 3 v2 rfl rfl) h2
  clear hA0 hval0 hsz0 hsz
  refine (walk_bytes a0 len0 cap0 z0 a1 len1 cap1 z1 a2 W w0 b0 w1 b1 w2).mono fun e W' ⟨he, bel⟩ => ?_
  subst he
  exact ⟨_, rfl, _, _, _, [], _, [], hW', trodAll_mk1 (shut_bool Try.underlying4 _), (trodAll_cons_mk (Below.trod laidOut (by kernel_rfl) (of_decide_eq_true (by kernel_rfl)) k0 bel lt0) (trodAll_cons_mk (Below.trod laidOut (by kernel_rfl) (of_decide_eq_true (by kernel_rfl)) k1 bel lt1) (trodAll_cons_mk (shut_int Try.underlying3 w2) trodAll_mk0))), rfl, bel.frame _, fun h => by cases h⟩

theorem proved : Rows.KmvBytesUptoSaid :=
  OpenClaim.holds_of_cond 8 Try.f8 rfl rfl rfl rfl rfl rfl rfl ⟨rfl, rfl, rfl, rfl, rfl⟩ rfl rfl rfl rfl rfl (by kernel_rfl) Try.func8 (by kernel_rfl)
    (of_decide_eq_true (by kernel_rfl)) (by unfold Func.isWrapper; first | (rw [if_pos (by decide +kernel)]; kernel_rfl) | (rw [if_neg (by decide +kernel)]; exact ⟨rfl, rfl⟩))
    (fun os started H enc _ F => lifted os started H enc F)
end Go.Proofs.Ytlhiikibbppodaa.kmvBytes
