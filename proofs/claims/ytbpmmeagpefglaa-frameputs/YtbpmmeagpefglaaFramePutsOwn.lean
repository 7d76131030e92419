/-
  Any body behind any bytes is put as the document's own answer says, the caller's room untouched; where the body is empty or too long, the bytes and an error; the document's examples hold. The call returns true, and its arguments read as they did.
  Conditions: none: every value of the parameters' types.
-/
import Derived.Test.YtbpmmeagpefglaaFrameE
import Derived.Test.YtbpmmeagpefglaaFrameR
import Derived.ProofKit
import Derived.OpenShut
import Derived.ShutString
import Derived.ChangeOld
import Derived.SizedLaws
namespace Go.Proofs.Ytbpmmeagpefglaa
open Go.RowKit

set_option maxRecDepth 100000 in
set_option maxHeartbeats 4000000 in
theorem walk_puts (a : Option Addr) (n cap : Nat) (z : List Int) (b : Option Addr) (m capb : Nat) (zb : List Int) (w : World) (w0 : IsRow .u8 w a n cap z) (w1 : IsRow .u8 w b m capb zb) :
    Calls Try.prog 4 #[.slice a n cap, .slice b m capb] w fun e w' => e = .returned (.bool true) ∧ Below w.heap.size w w' := by
  obtain ⟨hcap, hreach, hnil, hr⟩ := row_of w0
  obtain ⟨hcapb, hreachb, hnilb, hrb⟩ := row_of w1
  replace hreach : cap * 1 ≤ 140737488351232 := hreach
  replace hreachb : capb * 1 ≤ 140737488351232 := hreachb
  generalize z.take n = bs at hr
  generalize zb.take m = ds at hrb
  have HZ : Hid (Bytes8 bs) := hr.bytes
  have HZB : Hid (Bytes8 ds) := hrb.bytes
  have R := hide hr
  have RB := hide hrb
  have HL := hide hr.1
  have HLB := hide hrb.1
  obtain ⟨i0, hi, hz0, hz1, hz2⟩ := info_parts Try.info5
  clear hr hrb w0 w1
  go_enter Try.func4, Try.ntmps4
  go_wp2_with (at_builtin; refine wpList_append_row _ rfl _ _ 25 rfl w.heap.size 5 i0 Try.underlying25 hi hz0 hz1 hz2 none 0 0 [] rfl (own_nil _ _ _ _) a n cap bs rfl R.out hnil (by omega) (Nat.le_refl _) ?_)
  intro a1 c1 x1 o1 k1
  have O1 := hide o1
  have K1 := hide k1
  have S1 : Hid (Src 5 .u8 (x1.alloc (.cells #[.int .u8 99] 5)) w.heap.size a1 n c1 bs) := Or.inl (O1.out.alloc _)
  have HO := hide (one_row (k := .u8) x1 99 (by decide) 5 (0, 0))
  have HBW : Hid (w.heap.size ≤ (x1.alloc (.cells #[.int .u8 99] 5)).heap.size) := by
    have := K1.out.size
    show _ ≤ _
    simp; omega
  clear o1 k1
  go_wp2_with (at_builtin; refine wpList_append_one _ rfl _ _ 25 rfl w.heap.size 5 i0 Try.underlying25 hi hz0 hz1 hz2 a1 n c1 bs (by first | rfl | simp) S1.out _ 1 99 rfl HO.out (by omega) HBW.out ?_)
  intro a2 c2 x2 o2 k2
  have hB99 : Bytes8 (bs ++ [99]) := Bytes8.append HZ.out (fun z hz => by simp at hz; omega)
  have RC := hide (o2.row8 (by omega) hB99)
  have p2 := o2.capped.1
  have K2 : Hid (Below w.heap.size w x2) := (K1.out.alloc K1.out.size _).trans k2
  have f1 := slice_to a2 (n + 1) c2 n (by omega)
  clear o2 k2 O1 K1 S1 HO HBW hB99 hi hz0 hz1 hz2
  have C3 := hide (bytes_any b m capb ds x2 (RB.out.below K2.out (Nat.le_refl _)) hnilb (by omega))
  go_wp2_with fail
  refine C3.out.mono ?_
  rintro e x3 ⟨a3, c3, rfl, o3, k3⟩
  have R3 := hide (o3.row8 (by omega) HZB.out)
  have RC3 := hide (RC.out.below k3 (Nat.le_refl _))
  have K3 : Hid (Below w.heap.size w x3) := bel_to K2.out (Nat.le_refl _) k3
  have RC0 : Hid (Row .u8 x3 a2 n bs) := by
    have := RC3.out.to n (by omega)
    rw [← HL.out, List.take_left, HL.out] at this
    exact this
  clear o3 k3 C3 RC K2 f1
  by_cases bad : m = 0 ∨ 1048576 < m
  · have C4 := hide (putno_any a2 n c2 bs a3 m c3 x3 RC0.out (by omega) bad)
    go_wp2_with fail
    refine C4.out.mono ?_
    rintro e x4 ⟨a4, c4, rfl, o4, k4⟩
    have K4 : Hid (Below w.heap.size w x4) := bel_to K3.out (Nat.le_refl _) k4
    have hs1 : (convert 25 9 (.slice a4 n c4)).run Try.prog x4 = _ := mine_string o4 (by omega) HZ.out
    have hs2 : (convert 25 9 (.slice a n cap)).run Try.prog x4 = _ := row_string (R.out.below K4.out (Nat.le_refl _))
    clear o4 k4 C4 K3 R3 RC3 RC0
    generalize strOfNums bs = X at *
    rcases bad with rfl | bad
    · go_wp2_with fail
      refine (awake_any _).mono ?_
      rintro e x5 ⟨rfl, k5⟩
      go_wp2
      go_ret
      exact ⟨rfl, bel_to K4.out (Nat.le_refl _) k5⟩
    · have t1 : ¬ ((m : Int) < 1) := by omega
      have t2 : (1048576 : Int) < m := by omega
      go_wp2_with fail
      refine (awake_any _).mono ?_
      rintro e x5 ⟨rfl, k5⟩
      go_wp2
      go_ret
      exact ⟨rfl, bel_to K4.out (Nat.le_refl _) k5⟩
  have m1 : 1 ≤ m := by omega
  have m2 : m ≤ 1048576 := by omega
  clear bad
  have C4 := hide (put_frame a2 n c2 bs a3 m c3 ds x3 RC0.out R3.out (by omega) m1 m2)
  have hqm := putS_len (m : Int)
  have HFL : Hid ((frameS ds).length = (putS (m : Int)).length + 4 + m) := by show _ = _; rw [frameS_len, HLB.out, Nat.add_assoc]
  have HFB : Hid (Bytes8 (bs ++ frameS ds)) := Bytes8.append HZ.out (frameS_byte HZB.out (by rw [HLB.out]; omega))
  have HFB2 : Hid (Bytes8 (frameS ds)) := frameS_byte HZB.out (by rw [HLB.out]; omega)
  have PP := hide (fun w' h => refframe_any b m capb ds w' h hnilb m2)
  have hadd := add_str bs (frameS ds) (by rw [HL.out, HFL.out]; omega)
  generalize frameS ds = F at *
  obtain ⟨q, hq⟩ : ∃ q, F.length = q := ⟨_, rfl⟩
  have HFL' := HFL.out
  rw [hq] at C4 HFL' PP
  go_wp2_with fail
  refine C4.out.mono ?_
  rintro e x4 ⟨a4, c4, rfl, o4, k4⟩
  have R4 := hide (o4.row8 (by omega) HFB.out)
  have RC4 := hide (RC3.out.below k4 (Nat.le_refl _))
  have K4 : Hid (Below w.heap.size w x4) := bel_to K3.out (Nat.le_refl _) k4
  have RA4 := hide (R.out.below K4.out (Nat.le_refl _))
  have RB4 := hide (RB.out.below K4.out (Nat.le_refl _))
  clear o4 k4 C4 RC3 RC0 R3 K3
  obtain ⟨_, _, _, h | ⟨g2, off2, hA2, hcell2⟩⟩ := RC4.out
  · omega
  subst hA2
  have HC4 := hide (hcell2 n (by omega))
  have e99 : List.getD (bs ++ [(99 : Int)]) n 0 = 99 := by rw [← HL.out]; simp
  rw [e99] at HC4
  clear e99 hcell2
  have hlt2 : Hid (g2 < x4.heap.size) := World.block_lt_of_cell? x4 _ HC4.out
  have F1 := hide (fun w' (h : Row .u8 w' a4 (n + q) (bs ++ F)) => row_string (cap := c4) h)
  have F2 := hide (fun w' (h : Row .u8 w' a n bs) => row_string (cap := cap) h)
  have f2 := slice_to (some ⟨g2, off2, none⟩) n c2 (n + 1) (by omega)
  rw [show ((n + 1 : Nat) : Int) = (n : Int) + 1 from rfl] at f2
  have F3 := hide (fun w' ap cp (h : Mine w' x4.drew.heap.size ap q cp F) => mine_string h (by omega) HFB2.out)
  generalize strOfNums (bs ++ F) = X at *
  generalize strOfNums bs = X1 at *
  generalize strOfNums F = X2 at *
  have PQ := hide (PP.out x4.drew RB4.out.drew)
  have t1 : ¬ ((m : Int) < 1) := by omega
  have t2 : ¬ ((1048576 : Int) < m) := by omega
  clear PP hq HFL HFL' HFB HFB2 HL HLB
  go_upto_region 5 with fail
  refine wp_region_held_drew (S := fun w' => (convert 25 9 (.slice a4 (n + q) c4)).run Try.prog w' = .ok (.string X) w' ∧ (convert 25 9 (.slice a n cap)).run Try.prog w' = .ok (.string X1) w') (by kernel_rfl) ⟨F1.out _ R4.out.drew, F2.out _ RA4.out.drew⟩ (fun hHeld => ?_)
  refine held_take (i := 0) (d := (some 42)) (v := ?_) rfl rfl (by kernel_rfl) (by kernel_rfl) (by kernel_rfl) (fun _ _ _ h => h) (Or.inl ⟨by rfl, ?_⟩) (by first | assumption | rfl) ?_
  rotate_left 1
  · (intro w hSw; (try dsimp only at hSw); (try subst hSw); go_simp; try with_reducible rfl)
  simp only [Act.put, List.setIfInBounds_toArray, List.set_cons_zero, List.set_cons_succ]
  refine held_take (i := 1) (d := (some 43)) (v := ?_) rfl rfl (by kernel_rfl) (by kernel_rfl) (by kernel_rfl) (fun _ _ _ h => h) (Or.inl ⟨by rfl, ?_⟩) (by first | assumption | rfl) ?_
  rotate_left 1
  · (intro w hSw; (try dsimp only at hSw); (try subst hSw); go_simp; try with_reducible rfl)
  simp only [Act.put, List.setIfInBounds_toArray, List.set_cons_zero, List.set_cons_succ]
  refine held_take (i := 2) (d := (some 44)) (v := ?_) rfl rfl (by kernel_rfl) (by kernel_rfl) (by kernel_rfl) (fun _ _ _ h => h) (Or.inl ⟨by rfl, ?_⟩) (by first | assumption | rfl) ?_
  rotate_left 1
  · (intro w hSw; (try dsimp only at hSw); (try subst hSw); go_simp; try with_reducible rfl)
  simp only [Act.put, List.setIfInBounds_toArray, List.set_cons_zero, List.set_cons_succ]
  refine held_take (i := 3) (d := (some 45)) (v := ?_) rfl rfl (by kernel_rfl) (by kernel_rfl) (by kernel_rfl) (fun _ _ _ h => h) (Or.inl ⟨by rfl, ?_⟩) (by first | assumption | rfl) ?_
  rotate_left 1
  · (intro w hSw; (try dsimp only at hSw); (try subst hSw); go_simp; try with_reducible rfl)
  simp only [Act.put, List.setIfInBounds_toArray, List.set_cons_zero, List.set_cons_succ]
  refine held_take (i := 4) (d := (some 46)) (v := ?_) rfl rfl (by kernel_rfl) (by kernel_rfl) (by kernel_rfl) (fun _ _ _ h => h) (Or.inl ⟨by rfl, ?_⟩) (by first | assumption | rfl) ?_
  rotate_left 1
  · (intro w hSw; (try dsimp only at hSw); (try subst hSw); go_simp; try with_reducible rfl)
  simp only [Act.put, List.setIfInBounds_toArray, List.set_cons_zero, List.set_cons_succ]
  refine held_take (i := 5) (d := (some 47)) (v := ?_) rfl rfl (by kernel_rfl) (by kernel_rfl) (by kernel_rfl) (fun _ _ _ h => h) (Or.inl ⟨by rfl, ?_⟩) (by first | assumption | rfl) ?_
  rotate_left 1
  · (intro w hSw; (try dsimp only at hSw); (try subst hSw); go_simp; try with_reducible rfl)
  simp only [Act.put, List.setIfInBounds_toArray, List.set_cons_zero, List.set_cons_succ]
  refine held_take (i := 6) (d := (some 48)) (v := ?_) rfl rfl (by kernel_rfl) (by kernel_rfl) (by kernel_rfl) (fun _ _ _ h => h) (Or.inl ⟨by rfl, ?_⟩) (by first | assumption | rfl) ?_
  rotate_left 1
  · (intro w hSw; (try dsimp only at hSw); (try subst hSw); go_simp; try with_reducible rfl)
  simp only [Act.put, List.setIfInBounds_toArray, List.set_cons_zero, List.set_cons_succ]
  refine held_take (i := 7) (d := (some 49)) (v := ?_) rfl rfl (by kernel_rfl) (by kernel_rfl) (by kernel_rfl) (fun _ _ _ h => h) (Or.inl ⟨by rfl, ?_⟩) (by first | assumption | rfl) ?_
  rotate_left 1
  · (intro w hSw; (try dsimp only at hSw); (try subst hSw); go_simp; try with_reducible rfl)
  simp only [Act.put, List.setIfInBounds_toArray, List.set_cons_zero, List.set_cons_succ]
  refine held_next (i := 8) (by kernel_rfl) rfl (by rfl) (fun K hK => ?_)
  go_simp
  refine PQ.out.mono ?_
  rintro e x5 ⟨ap, cp, rfl, o5, k5⟩
  have R5 := hide (R4.out.drew.below k5 (Nat.le_refl _))
  have RA5 := hide (RA4.out.drew.below k5 (Nat.le_refl _))
  have hc5 : x5.cell? ⟨g2, off2 + n, none⟩ = some (.int .u8 99) := by
    rw [k5.cell (p := ⟨g2, off2 + n, none⟩) hlt2.out]
    exact HC4.out
  have O5 := hide o5
  have K5 : Hid (Below w.heap.size w x5) := bel_to K4.out.drew (Nat.le_refl _) k5
  have hst := F3.out _ _ _ o5
  have hlt5 : Hid (g2 < x5.heap.size) := World.block_lt_of_cell? x5 _ hc5
  have j1 : (0 : Int) ≤ (n : Int) := by omega
  have j2 : (n : Int) < (n : Int) + 1 := by omega
  have hwr : IntKind.i64.wrap ((n : Int) + 1) = (n : Int) + 1 := by rw [IntKind.wrap_i64]; omega
  clear k5 o5 PQ hHeld R4 RA4 RC4 HC4 hlt2 K4
  go_wp2_with fail
  refine hK.out _ _ ⟨F1.out _ R5.out, F2.out _ RA5.out⟩ ?_
  refine held_mono (S' := fun w' => (convert 25 9 (.slice a4 (n + q) c4)).run Try.prog w' = .ok (.string X) w' ∧ (convert 25 9 (.slice a n cap)).run Try.prog w' = .ok (.string X1) w' ∧ (convert 25 9 (.slice ap q cp)).run Try.prog w' = .ok (.string X2) w' ∧ w'.cell? ⟨g2, off2 + n, none⟩ = some (.int .u8 99)) (fun w' h => ⟨h.1, h.2.1⟩) _ _ _ _ ?_
  have HS : (convert 25 9 (.slice a4 (n + q) c4)).run Try.prog x5 = .ok (.string X) x5 ∧ (convert 25 9 (.slice a n cap)).run Try.prog x5 = .ok (.string X1) x5 ∧ (convert 25 9 (.slice ap q cp)).run Try.prog x5 = .ok (.string X2) x5 ∧ x5.cell? ⟨g2, off2 + n, none⟩ = some (.int .u8 99) := ⟨F1.out _ R5.out, F2.out _ RA5.out, hst, hc5⟩
  clear hst hK
  refine held_take (i := 9) (d := (some 51)) (v := ?_) rfl rfl (by kernel_rfl) (by kernel_rfl) (by kernel_rfl) (fun _ _ _ h => h) (Or.inl ⟨by rfl, ?_⟩) (by first | assumption | rfl) ?_
  rotate_left 1
  · (intro w hSw; (try dsimp only at hSw); (try subst hSw); go_simp; try with_reducible rfl)
  simp only [Act.put, List.setIfInBounds_toArray, List.set_cons_zero, List.set_cons_succ]
  refine held_take (i := 10) (d := (some 52)) (v := ?_) rfl rfl (by kernel_rfl) (by kernel_rfl) (by kernel_rfl) (fun _ _ _ h => h) (Or.inl ⟨by rfl, ?_⟩) (by first | assumption | rfl) ?_
  rotate_left 1
  · (intro w hSw; (try dsimp only at hSw); (try subst hSw); go_simp; try with_reducible rfl)
  simp only [Act.put, List.setIfInBounds_toArray, List.set_cons_zero, List.set_cons_succ]
  refine held_take (i := 11) (d := (some 53)) (v := ?_) rfl rfl (by kernel_rfl) (by kernel_rfl) (by kernel_rfl) (fun _ _ _ h => h) (Or.inl ⟨by rfl, ?_⟩) (by first | assumption | rfl) ?_
  rotate_left 1
  · (intro w hSw; (try dsimp only at hSw); (try subst hSw); go_simp; try with_reducible rfl)
  simp only [Act.put, List.setIfInBounds_toArray, List.set_cons_zero, List.set_cons_succ]
  refine held_take (i := 12) (d := (some 54)) (v := ?_) rfl rfl (by kernel_rfl) (by kernel_rfl) (by kernel_rfl) (fun _ _ _ h => h) (Or.inl ⟨by rfl, ?_⟩) (by first | assumption | rfl) ?_
  rotate_left 1
  · (intro w hSw; (try dsimp only at hSw); (try subst hSw); go_simp; try with_reducible rfl)
  simp only [Act.put, List.setIfInBounds_toArray, List.set_cons_zero, List.set_cons_succ]
  refine held_take (i := 13) (d := (some 55)) (v := ?_) rfl rfl (by kernel_rfl) (by kernel_rfl) (by kernel_rfl) (fun _ _ _ h => h) (Or.inl ⟨by rfl, ?_⟩) (by first | assumption | rfl) ?_
  rotate_left 1
  · (intro w hSw; (try dsimp only at hSw); (try subst hSw); go_simp; try with_reducible rfl)
  simp only [Act.put, List.setIfInBounds_toArray, List.set_cons_zero, List.set_cons_succ]
  refine held_take (i := 14) (d := (some 56)) (v := ?_) rfl rfl (by kernel_rfl) (by kernel_rfl) (by kernel_rfl) (fun _ _ _ h => h) (Or.inl ⟨by rfl, ?_⟩) (by first | assumption | rfl) ?_
  rotate_left 1
  · (intro w hSw; (try dsimp only at hSw); (try subst hSw); go_simp; try with_reducible rfl)
  simp only [Act.put, List.setIfInBounds_toArray, List.set_cons_zero, List.set_cons_succ]
  refine held_take (i := 15) (d := (some 57)) (v := ?_) rfl rfl (by kernel_rfl) (by kernel_rfl) (by kernel_rfl) (fun _ _ _ h => h) (Or.inl ⟨by rfl, ?_⟩) (by first | assumption | rfl) ?_
  rotate_left 1
  · (intro w hSw; (try dsimp only at hSw); (try subst hSw); go_simp; try with_reducible rfl)
  simp only [Act.put, List.setIfInBounds_toArray, List.set_cons_zero, List.set_cons_succ]
  refine held_take (i := 16) (d := (some 58)) (v := ?_) rfl rfl (by kernel_rfl) (by kernel_rfl) (by kernel_rfl) (fun _ _ _ h => h) (Or.inl ⟨by rfl, ?_⟩) (by first | assumption | rfl) ?_
  rotate_left 1
  · (intro w hSw; (try dsimp only at hSw); (try subst hSw); go_simp; try with_reducible rfl)
  simp only [Act.put, List.setIfInBounds_toArray, List.set_cons_zero, List.set_cons_succ]
  refine held_take (i := 17) (d := (some 59)) (v := ?_) rfl rfl (by kernel_rfl) (by kernel_rfl) (by kernel_rfl) (fun _ _ _ h => h) (Or.inl ⟨by rfl, ?_⟩) (by first | assumption | rfl) ?_
  rotate_left 1
  · (intro w hSw; (try dsimp only at hSw); (try subst hSw); go_simp; try with_reducible rfl)
  simp only [Act.put, List.setIfInBounds_toArray, List.set_cons_zero, List.set_cons_succ]
  refine held_take (i := 18) (d := (some 60)) (v := ?_) rfl rfl (by kernel_rfl) (by kernel_rfl) (by kernel_rfl) (fun _ _ _ h => h) (Or.inl ⟨by rfl, ?_⟩) (by first | assumption | rfl) ?_
  rotate_left 1
  · (intro w hSw; (try dsimp only at hSw); (try subst hSw); go_simp; try with_reducible rfl)
  simp only [Act.put, List.setIfInBounds_toArray, List.set_cons_zero, List.set_cons_succ]
  refine held_take (i := 19) (d := (some 61)) (v := ?_) rfl rfl (by kernel_rfl) (by kernel_rfl) (by kernel_rfl) (fun _ _ _ h => h) (Or.inl ⟨by rfl, ?_⟩) (by first | assumption | rfl) ?_
  rotate_left 1
  · (intro w hSw; (try dsimp only at hSw); (try subst hSw); go_simp; try with_reducible rfl)
  simp only [Act.put, List.setIfInBounds_toArray, List.set_cons_zero, List.set_cons_succ]
  refine held_take (i := 20) (d := (some 62)) (v := ?_) rfl rfl (by kernel_rfl) (by kernel_rfl) (by kernel_rfl) (fun _ _ _ h => h) (Or.inl ⟨by rfl, ?_⟩) (by first | assumption | rfl) ?_
  rotate_left 1
  · (intro w hSw; (try dsimp only at hSw); (try subst hSw); go_simp; try with_reducible rfl)
  simp only [Act.put, List.setIfInBounds_toArray, List.set_cons_zero, List.set_cons_succ]
  refine held_take (i := 21) (d := (some 63)) (v := ?_) rfl rfl (by kernel_rfl) (by kernel_rfl) (by kernel_rfl) (fun _ _ _ h => h) (Or.inl ⟨by rfl, ?_⟩) (by first | assumption | rfl) ?_
  rotate_left 1
  · (intro w hSw; (try dsimp only at hSw); (try subst hSw); go_simp; try with_reducible rfl)
  simp only [Act.put, List.setIfInBounds_toArray, List.set_cons_zero, List.set_cons_succ]
  refine held_take (i := 22) (d := (some 64)) (v := ?_) rfl rfl (by kernel_rfl) (by kernel_rfl) (by kernel_rfl) (fun _ _ _ h => h) (Or.inl ⟨by rfl, ?_⟩) (by first | assumption | rfl) ?_
  rotate_left 1
  · (intro w hSw; (try dsimp only at hSw); (try subst hSw); go_simp; try with_reducible rfl)
  simp only [Act.put, List.setIfInBounds_toArray, List.set_cons_zero, List.set_cons_succ]
  refine held_take (i := 23) (d := (some 65)) (v := ?_) rfl rfl (by kernel_rfl) (by kernel_rfl) (by kernel_rfl) (fun _ _ _ h => h) (Or.inl ⟨by rfl, ?_⟩) (by first | assumption | rfl) ?_
  rotate_left 1
  · (intro w hSw; (try dsimp only at hSw); (try subst hSw); go_simp; try with_reducible rfl)
  simp only [Act.put, List.setIfInBounds_toArray, List.set_cons_zero, List.set_cons_succ]
  refine held_take (i := 24) (d := (some 66)) (v := ?_) rfl rfl (by kernel_rfl) (by kernel_rfl) (by kernel_rfl) (fun _ _ _ h => h) (Or.inl ⟨by rfl, ?_⟩) (by first | assumption | rfl) ?_
  rotate_left 1
  · (intro w hSw; (try dsimp only at hSw); (try subst hSw); go_simp; try with_reducible rfl)
  simp only [Act.put, List.setIfInBounds_toArray, List.set_cons_zero, List.set_cons_succ]
  refine held_take (i := 25) (d := (some 67)) (v := ?_) rfl rfl (by kernel_rfl) (by kernel_rfl) (by kernel_rfl) (fun _ _ _ h => h) (Or.inl ⟨by rfl, ?_⟩) (by first | assumption | rfl) ?_
  rotate_left 1
  · (intro w hSw; (try dsimp only at hSw); (try subst hSw); go_simp; try with_reducible rfl)
  simp only [Act.put, List.setIfInBounds_toArray, List.set_cons_zero, List.set_cons_succ]
  refine held_next (i := 26) (by kernel_rfl) rfl (by rfl) (fun K hK => ?_)
  go_simp
  refine (awake_any _).mono ?_
  rintro e x6 ⟨rfl, k6⟩
  have K6 : Hid (Below w.heap.size w x6) := bel_to K5.out (Nat.le_refl _) k6
  have HS6 : (convert 25 9 (.slice a4 (n + q) c4)).run Try.prog x6 = .ok (.string X) x6 ∧ (convert 25 9 (.slice a n cap)).run Try.prog x6 = .ok (.string X1) x6 ∧ (convert 25 9 (.slice ap q cp)).run Try.prog x6 = .ok (.string X2) x6 ∧ x6.cell? ⟨g2, off2 + n, none⟩ = some (.int .u8 99) :=
    ⟨F1.out _ (R5.out.below k6 (Nat.le_refl _)), F2.out _ (RA5.out.below k6 (Nat.le_refl _)), F3.out _ _ _ (O5.out.below k6 (Nat.le_refl _)), by rw [k6.cell (p := ⟨g2, off2 + n, none⟩) hlt5.out]; exact hc5⟩
  clear k6 F1 F2 F3 R5 RA5 O5 K5 HS
  go_wp2_with fail
  refine hK.out _ _ HS6 ?_
  clear hK
  refine held_take (i := 27) (d := (some 69)) (v := ?_) rfl rfl (by kernel_rfl) (by kernel_rfl) (by kernel_rfl) (fun _ _ _ h => h) (Or.inl ⟨by rfl, ?_⟩) (by first | assumption | rfl) ?_
  rotate_left 1
  · (intro w hSw; (try dsimp only at hSw); (try subst hSw); go_simp; try with_reducible rfl)
  simp only [Act.put, List.setIfInBounds_toArray, List.set_cons_zero, List.set_cons_succ]
  refine held_take (i := 28) (d := (some 4)) (v := ?_) rfl rfl (by kernel_rfl) (by kernel_rfl) (by kernel_rfl) (fun _ _ _ h => h) (Or.inl ⟨by rfl, ?_⟩) (by first | assumption | rfl) ?_
  rotate_left 1
  · (intro w hSw; (try dsimp only at hSw); (try subst hSw); go_simp; try with_reducible rfl)
  simp only [Act.put, List.setIfInBounds_toArray, List.set_cons_zero, List.set_cons_succ]
  refine wpAnyH_done (by kernel_rfl) ?_ _
  clear HS6 hadd f2 hc5 hwr
  go_wp2
  go_ret
  exact ⟨rfl, K6⟩
end Go.Proofs.Ytbpmmeagpefglaa

namespace Go.Proofs.Ytbpmmeagpefglaa.framePuts
open Go.ChangeShapes Go.WideShapes Go.ChangeAt Go.RowKit
open Go.ChangeMaps (open_string shut_string)
set_option linter.unusedVariables false

theorem own : ownKnob Try.prog.godebug = none := by kernel_rfl
theorem laidOut : laidOutB Try.prog = true := by kernel_rfl

set_option maxRecDepth 100000 in
theorem lifted (os : Os) (started : os.Started) (H : Type) (enc : TypeId × Value → H) :
    ReturnsInHanded {} Try.checked os 4 .any (Rows.framePutsSpec.pre6 enc Try.prog Try.f4 Rows.framePutsRow.domain false) (Rows.framePutsSpec.post enc Try.prog Try.f4 false true false false) := by
  refine returnsInHanded_of_change_sized (C := Try.checked) own started (by kernel_rfl) Try.func4
    (ChangeSpec.witness6 (enc := enc) (C := Try.checked) false ⟨#[], #[.slice none 0 0, .slice none 0 0], []⟩ 8 (by kernel_rfl) (by kernel_rfl) (by kernel_rfl) (by kernel_rfl)) ?_
  intro W base args ds gs before hval0 hW hcnd hsz0 _
  have hsz : (DataW.weightsEach Try.prog (Try.f4.params.toList ++ Rows.framePutsSpec.plain.varTypes Try.prog) (ds ++ gs)).all (· ≤ reachBytes) = true := hsz0
  have hval : ∀ (j : Nat) t v, Try.f4.params[j]? = some t → args[j]? = some v → Value.okWide Try.prog W .any base t v := hval0
  have hW' := hW
  obtain ⟨p, q, hA0, hV, rfl, hfz, hnd⟩ := hW
  have hA : DataW.TrodAll enc Try.prog W 0 (fun _ => true) true Try.f4.params.toList args.toList ds p := hA0
  rw [Try.params4] at hA hval hsz
  obtain ⟨v0, vs0, d0, ds0, p0, q0, hargs, rfl, rfl, h0, r0⟩ := trodAll_cons hA
  obtain ⟨v1, vs1, d1, ds1, p1, q1, rfl, rfl, rfl, h1, r1⟩ := trodAll_cons r0
  obtain ⟨rfl, rfl, rfl⟩ := trodAll_nil r1
  obtain rfl : args = #[v0, v1] := by cases args; simp_all
  obtain ⟨rfl, rfl⟩ := trodVars_none hV
  obtain ⟨a0, len0, cap0, rfl⟩ := okWide_slice Try.underlying25 (hval 0 25 v0 rfl rfl)
  have k0 := h0
  have lt0 : ∀ x ∈ p0, x.block < W.heap.size := by obtain ⟨m, hm⟩ := k0; exact DataW.trod_lt m _ _ _ hm
  obtain ⟨z0, w0⟩ : ∃ zs, IsRow .u8 W a0 len0 cap0 zs := by
    obtain ⟨fuel, hf⟩ := h0
    rcases open_ints Try.underlying25 Try.underlying5 (by kernel_rfl) hf with ⟨hcs, _⟩ | ⟨x, l, c, zs, hcs, _, hl, hm, hz, hx, hcell, hwz⟩
    · simp [Value.cells] at hcs
      obtain ⟨rfl, rfl, rfl⟩ := hcs
      exact ⟨[], by decide, .inl ⟨rfl, rfl, rfl, rfl⟩⟩
    · simp [Value.cells] at hcs
      obtain ⟨rfl, rfl, rfl⟩ := hcs
      have hd := congrArg Prod.fst hx
      simp only at hd
      have hs := sized_slice hsz (j := 0) (t := 25) (e := 5) rfl (by rw [hd]; rfl) Try.underlying25
      rw [show Try.prog.bytesOf 5 = 1 from by kernel_rfl] at hs
      simp only [lits, List.length_map, List.length_take, List.length_drop, reachBytes] at hs
      have hzc : zs.length = cap0 := by simpa using hz
      exact ⟨zs, by show cap0 * 1 ≤ _; omega, .inr ⟨_, rfl, hl, hm, hzc, hcell, hwz⟩⟩
  obtain ⟨a1, len1, cap1, rfl⟩ := okWide_slice Try.underlying25 (hval 1 25 v1 rfl rfl)
  have k1 := h1
  have lt1 : ∀ x ∈ p1, x.block < W.heap.size := by obtain ⟨m, hm⟩ := k1; exact DataW.trod_lt m _ _ _ hm
  obtain ⟨z1, w1⟩ : ∃ zs, IsRow .u8 W a1 len1 cap1 zs := by
    obtain ⟨fuel, hf⟩ := h1
    rcases open_ints Try.underlying25 Try.underlying5 (by kernel_rfl) hf with ⟨hcs, _⟩ | ⟨x, l, c, zs, hcs, _, hl, hm, hz, hx, hcell, hwz⟩
    · simp [Value.cells] at hcs
      obtain ⟨rfl, rfl, rfl⟩ := hcs
      exact ⟨[], by decide, .inl ⟨rfl, rfl, rfl, rfl⟩⟩
    · simp [Value.cells] at hcs
      obtain ⟨rfl, rfl, rfl⟩ := hcs
      have hd := congrArg Prod.fst hx
      simp only at hd
      have hs := sized_slice hsz (j := 1) (t := 25) (e := 5) rfl (by rw [hd]; rfl) Try.underlying25
      rw [show Try.prog.bytesOf 5 = 1 from by kernel_rfl] at hs
      simp only [lits, List.length_map, List.length_take, List.length_drop, reachBytes] at hs
      have hzc : zs.length = cap1 := by simpa using hz
      exact ⟨zs, by show cap1 * 1 ≤ _; omega, .inr ⟨_, rfl, hl, hm, hzc, hcell, hwz⟩⟩
  clear hA0 hval0 hsz0 hsz
  refine (walk_puts a0 len0 cap0 z0 a1 len1 cap1 z1 W w0 w1).mono fun e W' ⟨he, bel⟩ => ?_
  subst he
  exact ⟨_, rfl, _, _, _, [], _, [], hW', trodAll_mk1 (shut_bool Try.underlying4 _), (trodAll_cons_mk (Below.trod laidOut (by kernel_rfl) (of_decide_eq_true (by kernel_rfl)) k0 bel lt0) (trodAll_cons_mk (Below.trod laidOut (by kernel_rfl) (of_decide_eq_true (by kernel_rfl)) k1 bel lt1) trodAll_mk0)), rfl, bel.frame _, fun h => by cases h⟩

theorem proved : Rows.FramePutsSaid :=
  OpenClaim.holds_of_wide 4 Try.f4 rfl rfl rfl rfl rfl rfl rfl ⟨rfl, rfl, rfl, rfl, rfl⟩ rfl rfl rfl rfl rfl (by kernel_rfl) Try.func4 (by kernel_rfl)
    (of_decide_eq_true (by kernel_rfl)) (by unfold Func.isWrapper; first | (rw [if_pos (by decide +kernel)]; kernel_rfl) | (rw [if_neg (by decide +kernel)]; exact ⟨rfl, rfl⟩))
    (fun os started H enc _ => lifted os started H enc)
end Go.Proofs.Ytbpmmeagpefglaa.framePuts
