/-
  The bytes of any buckets that may be, behind any bytes, are the document's, and come back; buckets that may not be are put, too; the document's examples hold. The call returns true, and its arguments read as they did.
  Conditions: the input is of bulk at most 1048576 (the second form).
-/
import Derived.Test.YtjngpdhhkkambabHistAl
import Derived.Test.YtjngpdhhkkambabHistAm
import Derived.Test.YtjngpdhhkkambabHistE
import Derived.Test.YtjngpdhhkkambabVintF
import Derived.Test.YtjngpdhhkkambabVintR
import Derived.Test.YtjngpdhhkkambabVintU
import Derived.Deep.CondSized
import Derived.Laws.Concat
import Derived.Deep.RegionWith
import Derived.Deep.DrawnRows
import Derived.ProofKit
import Derived.OpenShut
import Derived.ShutString
import Derived.ChangeOld
import Derived.SizedLaws
namespace Go.Proofs.Ytjngpdhhkkambab
open Go.RowKit

theorem add_str (xs ys : List Int) (h : xs.length + ys.length ≤ 281474976710656) (w : World) :
    (Op.stringOp .add (strOfNums xs) (strOfNums ys)).run Try.prog w = .ok (.string (strOfNums (xs ++ ys))) w := by
  rw [run_string_add_sum (P := Try.prog) w _ _ (by rw [strOfNums_size, strOfNums_size]; omega), strOf_append]

set_option maxRecDepth 100000 in
set_option maxHeartbeats 8000000 in
theorem walk_bytes (ad : Option Addr) (n cap : Nat) (l : Bks) (a : Option Addr) (nb cb : Nat) (ys : List Int) (w : World) (hl : IsBks w ad n cap l) (hlb : cap ≤ 1048576) (hb : IsRow .u8 w a nb cb ys) (hbb : cb ≤ 1048576) :
    Calls Try.prog 3 #[.slice ad n cap, .slice a nb cb] w fun e w' => e = .returned (.bool true) ∧ Below w.heap.size w w' := by
  obtain ⟨hcap, hnc, hnone, hrow⟩ := hl
  obtain ⟨hbc, hbcap, hbnone, hbrow⟩ := row_of hb
  generalize ys.take nb = zb at hbrow
  have HR := hide hrow
  have HB := hide hbrow
  have HBL := hide hbrow.1
  have HBZ : Hid (Bytes8 zb) := hbrow.bytes
  have hn := hrow.2.1
  have HL := hide hrow.1
  have HN := hide hnone
  have AW := hide awake_any
  have C1 := hide (bytes_any a nb cb zb w hbrow hbnone (by omega))
  clear hb hbrow hrow hnone hbcap hcap
  go_enter Try.func3, Try.ntmps3
  go_wp2_with fail
  refine C1.out.mono ?_
  rintro e w1 ⟨a1, c1, rfl, o1, b1⟩
  have B1 := hide b1
  have O1 := hide o1
  have BK := hide (buckets_any ad n cap l w1 (HR.out.below b1 (Nat.le_refl _)) (fun h => (HN.out h).2) (by omega))
  clear o1 b1 C1
  go_wp2_with fail
  refine BK.out.mono ?_
  rintro e w2 ⟨a2, c2, rfl, o2, b2⟩
  have B2 := hide (below_to B1.out b2 (Nat.le_refl _))
  have P := hide (hput_any a1 nb c1 zb a2 n c2 l w2 ((O1.out.row8 (by omega) HBZ.out).below b2 (Nat.le_refl _)) (o2.row hn HR.out.2.2.1) o2.capped.1 (by omega) (by omega))
  clear BK o2 b2 B1 O1
  go_wp2_with fail
  refine P.out.mono ?_
  rintro e w3 ⟨a3, m, c3, Z, rfl, o3, b3, m1, hzl, hzb, hze⟩
  have B3 := hide (below_to B2.out b3 (Nat.le_refl _))
  have K := hide (refcheck_any ad n cap l w3 (HR.out.below B3.out (Nat.le_refl _)))
  have O3 := hide o3
  have HZL := hide hzl
  have HZB := hide hzb
  have HZE := hide hze
  clear P o3 b3 B2 hzl hzb hze
  by_cases hck : checkS l = false
  · rw [hck] at K
    clear hck
    go_wp2_with fail
    refine K.out.mono ?_
    rintro e w4 ⟨rfl, q, rfl⟩
    have B4 := hide (bel_drewN B3.out q)
    clear K B3 O3
    generalize w3.drewN q = w4 at *
    go_wp2_with fail
    refine (AW.out _).mono ?_
    rintro e w5 ⟨rfl, b5⟩
    have B5 := hide (below_to B4.out b5 (Nat.le_refl _))
    clear b5 B4
    go_wp2
    go_ret
    exact ⟨rfl, B5.out⟩
  have hck : checkS l = true := by simpa using hck
  have hZ := HZE.out hck
  subst hZ
  rw [hck] at K
  have G := hide (good_from hck HR.out.2.2.1)
  have HCK := hide hck
  have hm2 : m ≤ 100000 := by
    have := (putH_len G.out).1
    have h7 := good_len G.out
    rw [HZL.out] at this
    omega
  have HDG : Hid (dGet (zb ++ putH l) (nb : Int) = some (l, ((nb + m : Nat) : Int))) := by
    have := dGet_at G.out zb []
    rw [List.append_nil, HZL.out, HBL.out] at this
    exact this
  have HBX : Hid (Bytes8 (zb ++ putH l)) := Bytes8.append HBZ.out HZB.out
  have hadd := add_str zb (putH l) (by rw [HBL.out, HZL.out]; omega)
  have RP := hide (fun W (b : Below w.heap.size w W) => refputH_any ad n cap l W (HR.out.below b (Nat.le_refl _)) HCK.out)
  rw [HZL.out] at RP
  clear hck HZE
  go_wp2_with fail
  refine K.out.mono ?_
  rintro e w4 ⟨rfl, q, rfl⟩
  have B4 := hide (bel_drewN B3.out q)
  have O4 : Hid (Mine (w3.drewN q) w2.heap.size a3 (nb + m) c3 (zb ++ putH l)) := O3.out
  clear K B3 O3
  generalize w3.drewN q = w4 at *
  have R4 := hide (O4.out.row8 (by omega) HBX.out)
  have GT := hide (hget_any (nb : Int) a3 (nb + m) c3 (zb ++ putH l) w4 (i64_fit (by omega) (by omega)) O4.out.capped.1 R4.out)
  rw [HDG.out] at GT
  clear O4
  go_wp2_with fail
  refine GT.out.mono ?_
  rintro e w5 ⟨he, b5⟩
  obtain ⟨a5, c5, he, o5, hfit, hlen⟩ := he
  simp only at he o5 hfit hlen
  subst he
  have B5 := hide (below_to B4.out b5 (Nat.le_refl _))
  have RX := hide (R4.out.below b5 (Nat.le_refl _))
  have RB5 := hide (HB.out.below B5.out (Nat.le_refl _))
  have R5 := hide (o5.row (by omega) hfit)
  clear o5 b5 hfit GT R4 B4
  rw [HL.out] at R5 ⊢
  have F1 := hide (fun w' (h : Row .u8 w' a3 (nb + m) (zb ++ putH l)) => row_string (cap := c3) h)
  have F2 := hide (fun w' (h : Row .u8 w' a nb zb) => row_string (cap := cb) h)
  have F3 := hide (fun W0 w' ap cp (h : Mine w' W0 ap m cp (putH l)) => mine_string h (by omega) HZB.out)
  have PQ := hide (RP.out w5.drew B5.out.drew)
  generalize strOfNums (zb ++ putH l) = X at *
  generalize strOfNums zb = X1 at *
  generalize strOfNums (putH l) = X2 at *
  have tn : (((nb : Int) + (m : Int)) == ((nb : Int) + (m : Int))) = true := by simp
  have hnl : ((nb + m : Nat) : Int) = (nb : Int) + (m : Int) := rfl
  clear RP HDG HBX
  generalize putH l = PH at *
  go_upto_region 5 with fail
  refine wp_region_held_drew (S := fun w' => (convert 23 9 (.slice a3 (nb + m) c3)).run Try.prog w' = .ok (.string X) w' ∧ (convert 23 9 (.slice a nb cb)).run Try.prog w' = .ok (.string X1) w') (by kernel_rfl) ⟨F1.out _ RX.out.drew, F2.out _ RB5.out.drew⟩ (fun hHeld => ?_)
  refine held_take (i := 0) (d := (some 26)) (v := ?_) rfl rfl (by kernel_rfl) (by kernel_rfl) (by kernel_rfl) (fun _ _ _ h => h) (Or.inl ⟨by rfl, ?_⟩) (by first | assumption | rfl | trivial) ?_
  rotate_left 1
  · (intro w hSw; (try dsimp only at hSw); (try subst hSw); go_simp; try with_reducible rfl)
  simp only [Act.put, List.setIfInBounds_toArray, List.set_cons_zero, List.set_cons_succ]
  refine held_take (i := 1) (d := (some 27)) (v := ?_) rfl rfl (by kernel_rfl) (by kernel_rfl) (by kernel_rfl) (fun _ _ _ h => h) (Or.inl ⟨by rfl, ?_⟩) (by first | assumption | rfl | trivial) ?_
  rotate_left 1
  · (intro w hSw; (try dsimp only at hSw); (try subst hSw); go_simp; try with_reducible rfl)
  simp only [Act.put, List.setIfInBounds_toArray, List.set_cons_zero, List.set_cons_succ]
  refine held_take (i := 2) (d := (some 28)) (v := ?_) rfl rfl (by kernel_rfl) (by kernel_rfl) (by kernel_rfl) (fun _ _ _ h => h) (Or.inl ⟨by rfl, ?_⟩) (by first | assumption | rfl | trivial) ?_
  rotate_left 1
  · (intro w hSw; (try dsimp only at hSw); (try subst hSw); go_simp; try with_reducible rfl)
  simp only [Act.put, List.setIfInBounds_toArray, List.set_cons_zero, List.set_cons_succ]
  refine held_take (i := 3) (d := (some 29)) (v := ?_) rfl rfl (by kernel_rfl) (by kernel_rfl) (by kernel_rfl) (fun _ _ _ h => h) (Or.inl ⟨by rfl, ?_⟩) (by first | assumption | rfl | trivial) ?_
  rotate_left 1
  · (intro w hSw; (try dsimp only at hSw); (try subst hSw); go_simp; try with_reducible rfl)
  simp only [Act.put, List.setIfInBounds_toArray, List.set_cons_zero, List.set_cons_succ]
  refine held_take (i := 4) (d := (some 30)) (v := ?_) rfl rfl (by kernel_rfl) (by kernel_rfl) (by kernel_rfl) (fun _ _ _ h => h) (Or.inl ⟨by rfl, ?_⟩) (by first | assumption | rfl | trivial) ?_
  rotate_left 1
  · (intro w hSw; (try dsimp only at hSw); (try subst hSw); go_simp; try with_reducible rfl)
  simp only [Act.put, List.setIfInBounds_toArray, List.set_cons_zero, List.set_cons_succ]
  refine held_next (i := 5) (by kernel_rfl) rfl (by rfl) (fun K hK => ?_)
  go_simp
  refine PQ.out.mono ?_
  rintro e x6 ⟨ap, cp, rfl, o6, k6⟩
  have RX6 := hide (RX.out.drew.below k6 (Nat.le_refl _))
  have RB6 := hide (RB5.out.drew.below k6 (Nat.le_refl _))
  have R6 := hide (R5.out.drew.below k6 (Nat.le_refl _))
  have B6 : Hid (Below w.heap.size w x6) := bel_to B5.out.drew (Nat.le_refl _) k6
  have hst := F3.out _ _ _ _ o6
  have SM := hide (samebks_any a5 n c5 l ad n cap l x6 R6.out (HR.out.below B6.out (Nat.le_refl _)))
  rw [decide_eq_true rfl] at SM
  have RC := hide (fun W (b : Below x6.heap.size x6 W) => F1.out W (RX6.out.below b (Nat.le_refl _)))
  have RD := hide (fun W (b : Below x6.heap.size x6 W) => F2.out W (RB6.out.below b (Nat.le_refl _)))
  have RE := hide (fun W (b : Below x6.heap.size x6 W) => F3.out _ W _ _ (o6.below b (Nat.le_refl _)))
  clear k6 o6 PQ hHeld RX RB5 R5 B5
  go_wp2_with fail
  refine hK.out _ _ ⟨F1.out _ RX6.out, F2.out _ RB6.out⟩ ?_
  refine held_mono (S' := fun w' => (convert 23 9 (.slice a3 (nb + m) c3)).run Try.prog w' = .ok (.string X) w' ∧ (convert 23 9 (.slice a nb cb)).run Try.prog w' = .ok (.string X1) w' ∧ (convert 23 9 (.slice ap m cp)).run Try.prog w' = .ok (.string X2) w') (fun w' h => ⟨h.1, h.2.1⟩) _ _ _ _ ?_
  have HS : (convert 23 9 (.slice a3 (nb + m) c3)).run Try.prog x6 = .ok (.string X) x6 ∧ (convert 23 9 (.slice a nb cb)).run Try.prog x6 = .ok (.string X1) x6 ∧ (convert 23 9 (.slice ap m cp)).run Try.prog x6 = .ok (.string X2) x6 := ⟨F1.out _ RX6.out, F2.out _ RB6.out, hst⟩
  clear hst hK
  refine held_take (i := 6) (d := (some 32)) (v := ?_) rfl rfl (by kernel_rfl) (by kernel_rfl) (by kernel_rfl) (fun _ _ _ h => h) (Or.inl ⟨by rfl, ?_⟩) (by first | assumption | rfl | trivial) ?_
  rotate_left 1
  · (intro w hSw; (try dsimp only at hSw); (try subst hSw); go_simp; try with_reducible rfl)
  simp only [Act.put, List.setIfInBounds_toArray, List.set_cons_zero, List.set_cons_succ]
  refine held_take (i := 7) (d := (some 33)) (v := ?_) rfl rfl (by kernel_rfl) (by kernel_rfl) (by kernel_rfl) (fun _ _ _ h => h) (Or.inl ⟨by rfl, ?_⟩) (by first | assumption | rfl | trivial) ?_
  rotate_left 1
  · (intro w hSw; (try dsimp only at hSw); (try subst hSw); go_simp; try with_reducible rfl)
  simp only [Act.put, List.setIfInBounds_toArray, List.set_cons_zero, List.set_cons_succ]
  refine held_take (i := 8) (d := (some 34)) (v := ?_) rfl rfl (by kernel_rfl) (by kernel_rfl) (by kernel_rfl) (fun _ _ _ h => h) (Or.inl ⟨by rfl, ?_⟩) (by first | assumption | rfl | trivial) ?_
  rotate_left 1
  · (intro w hSw; (try dsimp only at hSw); (try subst hSw); go_simp; try with_reducible rfl)
  simp only [Act.put, List.setIfInBounds_toArray, List.set_cons_zero, List.set_cons_succ]
  refine held_take (i := 9) (d := (some 35)) (v := ?_) rfl rfl (by kernel_rfl) (by kernel_rfl) (by kernel_rfl) (fun _ _ _ h => h) (Or.inl ⟨by rfl, ?_⟩) (by first | assumption | rfl | trivial) ?_
  rotate_left 1
  · (intro w hSw; (try dsimp only at hSw); (try subst hSw); go_simp; try with_reducible rfl)
  simp only [Act.put, List.setIfInBounds_toArray, List.set_cons_zero, List.set_cons_succ]
  refine held_take (i := 10) (d := (some 36)) (v := ?_) rfl rfl (by kernel_rfl) (by kernel_rfl) (by kernel_rfl) (fun _ _ _ h => h) (Or.inl ⟨by rfl, ?_⟩) (by first | assumption | rfl | trivial) ?_
  rotate_left 1
  · (intro w hSw; (try dsimp only at hSw); (try subst hSw); go_simp; try with_reducible rfl)
  simp only [Act.put, List.setIfInBounds_toArray, List.set_cons_zero, List.set_cons_succ]
  refine held_take (i := 11) (d := (some 37)) (v := ?_) rfl rfl (by kernel_rfl) (by kernel_rfl) (by kernel_rfl) (fun _ _ _ h => h) (Or.inl ⟨by rfl, ?_⟩) (by first | assumption | rfl | trivial) ?_
  rotate_left 1
  · (intro w hSw; (try dsimp only at hSw); (try subst hSw); go_simp; try with_reducible rfl)
  simp only [Act.put, List.setIfInBounds_toArray, List.set_cons_zero, List.set_cons_succ]
  refine held_next (i := 12) (by kernel_rfl) rfl (by rfl) (fun K hK => ?_)
  go_simp
  refine SM.out.mono ?_
  rintro e x7 ⟨rfl, k7⟩
  have B7 : Hid (Below w.heap.size w x7) := bel_to B6.out (Nat.le_refl _) k7
  have HS7 : (convert 23 9 (.slice a3 (nb + m) c3)).run Try.prog x7 = .ok (.string X) x7 ∧ (convert 23 9 (.slice a nb cb)).run Try.prog x7 = .ok (.string X1) x7 ∧ (convert 23 9 (.slice ap m cp)).run Try.prog x7 = .ok (.string X2) x7 := ⟨RC.out _ k7, RD.out _ k7, RE.out _ k7⟩
  have HBX7 : Hid (Below x6.heap.size x6 x7) := k7
  clear k7 SM HS B6 R6 RX6 RB6
  go_wp2_with fail
  refine hK.out _ _ HS7 ?_
  clear hK
  refine held_take (i := 13) (d := (some 39)) (v := ?_) rfl rfl (by kernel_rfl) (by kernel_rfl) (by kernel_rfl) (fun _ _ _ h => h) (Or.inl ⟨by rfl, ?_⟩) (by first | assumption | rfl | trivial) ?_
  rotate_left 1
  · (intro w hSw; (try dsimp only at hSw); (try subst hSw); go_simp; try with_reducible rfl)
  simp only [Act.put, List.setIfInBounds_toArray, List.set_cons_zero, List.set_cons_succ]
  refine held_take (i := 14) (d := (some 40)) (v := ?_) rfl rfl (by kernel_rfl) (by kernel_rfl) (by kernel_rfl) (fun _ _ _ h => h) (Or.inl ⟨by rfl, ?_⟩) (by first | assumption | rfl | trivial) ?_
  rotate_left 1
  · (intro w hSw; (try dsimp only at hSw); (try subst hSw); go_simp; try with_reducible rfl)
  simp only [Act.put, List.setIfInBounds_toArray, List.set_cons_zero, List.set_cons_succ]
  refine held_take (i := 15) (d := (some 41)) (v := ?_) rfl rfl (by kernel_rfl) (by kernel_rfl) (by kernel_rfl) (fun _ _ _ h => h) (Or.inl ⟨by rfl, ?_⟩) (by first | assumption | rfl | trivial) ?_
  rotate_left 1
  · (intro w hSw; (try dsimp only at hSw); (try subst hSw); go_simp; try with_reducible rfl)
  simp only [Act.put, List.setIfInBounds_toArray, List.set_cons_zero, List.set_cons_succ]
  refine held_take (i := 16) (d := (some 42)) (v := ?_) rfl rfl (by kernel_rfl) (by kernel_rfl) (by kernel_rfl) (fun _ _ _ h => h) (Or.inl ⟨by rfl, ?_⟩) (by first | assumption | rfl | trivial) ?_
  rotate_left 1
  · (intro w hSw; (try dsimp only at hSw); (try subst hSw); go_simp; try with_reducible rfl)
  simp only [Act.put, List.setIfInBounds_toArray, List.set_cons_zero, List.set_cons_succ]
  refine held_take (i := 17) (d := (some 43)) (v := ?_) rfl rfl (by kernel_rfl) (by kernel_rfl) (by kernel_rfl) (fun _ _ _ h => h) (Or.inl ⟨by rfl, ?_⟩) (by first | assumption | rfl | trivial) ?_
  rotate_left 1
  · (intro w hSw; (try dsimp only at hSw); (try subst hSw); go_simp; try with_reducible rfl)
  simp only [Act.put, List.setIfInBounds_toArray, List.set_cons_zero, List.set_cons_succ]
  refine held_take (i := 18) (d := (some 44)) (v := ?_) rfl rfl (by kernel_rfl) (by kernel_rfl) (by kernel_rfl) (fun _ _ _ h => h) (Or.inl ⟨by rfl, ?_⟩) (by first | assumption | rfl | trivial) ?_
  rotate_left 1
  · (intro w hSw; (try dsimp only at hSw); (try subst hSw); go_simp; try with_reducible rfl)
  simp only [Act.put, List.setIfInBounds_toArray, List.set_cons_zero, List.set_cons_succ]
  refine held_take (i := 19) (d := (some 45)) (v := ?_) rfl rfl (by kernel_rfl) (by kernel_rfl) (by kernel_rfl) (fun _ _ _ h => h) (Or.inl ⟨by rfl, ?_⟩) (by first | assumption | rfl | trivial) ?_
  rotate_left 1
  · (intro w hSw; (try dsimp only at hSw); (try subst hSw); go_simp; try with_reducible rfl)
  simp only [Act.put, List.setIfInBounds_toArray, List.set_cons_zero, List.set_cons_succ]
  refine held_take (i := 20) (d := (some 46)) (v := ?_) rfl rfl (by kernel_rfl) (by kernel_rfl) (by kernel_rfl) (fun _ _ _ h => h) (Or.inl ⟨by rfl, ?_⟩) (by first | assumption | rfl | trivial) ?_
  rotate_left 1
  · (intro w hSw; (try dsimp only at hSw); (try subst hSw); go_simp; try with_reducible rfl)
  simp only [Act.put, List.setIfInBounds_toArray, List.set_cons_zero, List.set_cons_succ]
  refine held_take (i := 21) (d := (some 47)) (v := ?_) rfl rfl (by kernel_rfl) (by kernel_rfl) (by kernel_rfl) (fun _ _ _ h => h) (Or.inl ⟨by rfl, ?_⟩) (by first | assumption | rfl | trivial) ?_
  rotate_left 1
  · (intro w hSw; (try dsimp only at hSw); (try subst hSw); go_simp; try with_reducible rfl)
  simp only [Act.put, List.setIfInBounds_toArray, List.set_cons_zero, List.set_cons_succ]
  refine held_take (i := 22) (d := (some 48)) (v := ?_) rfl rfl (by kernel_rfl) (by kernel_rfl) (by kernel_rfl) (fun _ _ _ h => h) (Or.inl ⟨by rfl, ?_⟩) (by first | assumption | rfl | trivial) ?_
  rotate_left 1
  · (intro w hSw; (try dsimp only at hSw); (try subst hSw); go_simp; try with_reducible rfl)
  simp only [Act.put, List.setIfInBounds_toArray, List.set_cons_zero, List.set_cons_succ]
  refine held_take (i := 23) (d := (some 49)) (v := ?_) rfl rfl (by kernel_rfl) (by kernel_rfl) (by kernel_rfl) (fun _ _ _ h => h) (Or.inl ⟨by rfl, ?_⟩) (by first | assumption | rfl | trivial) ?_
  rotate_left 1
  · (intro w hSw; (try dsimp only at hSw); (try subst hSw); go_simp; try with_reducible rfl)
  simp only [Act.put, List.setIfInBounds_toArray, List.set_cons_zero, List.set_cons_succ]
  refine held_next (i := 24) (by kernel_rfl) rfl (by rfl) (fun K hK => ?_)
  go_simp
  refine (AW.out _).mono ?_
  rintro e x8 ⟨rfl, k8⟩
  have B8 : Hid (Below w.heap.size w x8) := bel_to B7.out (Nat.le_refl _) k8
  have k68 : Below x6.heap.size x6 x8 := HBX7.out.trans (k8.mono HBX7.out.size)
  have HS8 : (convert 23 9 (.slice a3 (nb + m) c3)).run Try.prog x8 = .ok (.string X) x8 ∧ (convert 23 9 (.slice a nb cb)).run Try.prog x8 = .ok (.string X1) x8 ∧ (convert 23 9 (.slice ap m cp)).run Try.prog x8 = .ok (.string X2) x8 := ⟨RC.out _ k68, RD.out _ k68, RE.out _ k68⟩
  clear k8 HS7 B7 k68
  go_wp2_with fail
  refine hK.out _ _ HS8 ?_
  clear hK
  refine held_take (i := 25) (d := (some 51)) (v := ?_) rfl rfl (by kernel_rfl) (by kernel_rfl) (by kernel_rfl) (fun _ _ _ h => h) (Or.inl ⟨by rfl, ?_⟩) (by first | assumption | rfl | trivial) ?_
  rotate_left 1
  · (intro w hSw; (try dsimp only at hSw); (try subst hSw); go_simp; try with_reducible rfl)
  simp only [Act.put, List.setIfInBounds_toArray, List.set_cons_zero, List.set_cons_succ]
  refine held_take (i := 26) (d := (some 4)) (v := ?_) rfl rfl (by kernel_rfl) (by kernel_rfl) (by kernel_rfl) (fun _ _ _ h => h) (Or.inl ⟨by rfl, ?_⟩) (by first | assumption | rfl | trivial) ?_
  rotate_left 1
  · (intro w hSw; (try dsimp only at hSw); (try subst hSw); go_simp; try with_reducible rfl)
  simp only [Act.put, List.setIfInBounds_toArray, List.set_cons_zero, List.set_cons_succ]
  refine wpAnyH_done (by kernel_rfl) ?_ _
  clear HS8
  go_wp2
  go_ret
  exact ⟨rfl, B8.out⟩
end Go.Proofs.Ytjngpdhhkkambab

namespace Go.Proofs.Ytjngpdhhkkambab.histBytes
open Go.ChangeShapes Go.WideShapes Go.ChangeAt Go.RowKit
open Go.ChangeMaps (open_string shut_string)
set_option linter.unusedVariables false

theorem own : ownKnob Try.prog.godebug = none := by kernel_rfl
theorem laidOut : laidOutB Try.prog = true := by kernel_rfl

set_option maxRecDepth 100000 in
theorem lifted (os : Os) (started : os.Started) (H : Type) (enc : TypeId × Value → H) (F : Stop.Interp) :
    ReturnsInHanded {} Try.checked os 3 .any ((Rows.OpenSpec.upto Rows.histBytesSpec).pre6 enc Try.prog Try.f3 Rows.histBytesUptoRow.domain false) (((Rows.OpenSpec.upto Rows.histBytesSpec).at F).post enc Try.prog Try.f3 false true false false) := by
  refine returnsInHanded_of_cond_sized (C := Try.checked) (s := Rows.OpenSpec.upto Rows.histBytesSpec) (k := Rows.uptoSmall) rfl own started (by kernel_rfl) Try.func3
    (OpenSpec.witness (enc := enc) (C := Try.checked) (s := Rows.OpenSpec.upto Rows.histBytesSpec) (k := Rows.uptoSmall) rfl false ⟨#[], #[.slice none 0 0, .slice none 0 0], []⟩ 8 (by kernel_rfl) (by kernel_rfl) (by kernel_rfl)
      (x := ([.nil, .nil], [], [])) (by kernel_rfl) rfl (by kernel_rfl)) ?_
  intro W base args ds gs before hval0 hW _ hk0 hsz0 _
  have hk : Rows.uptoSmall H (ds ++ gs) = true := hk0
  have hsz : (DataW.weightsEach Try.prog (Try.f3.params.toList ++ Rows.histBytesSpec.plain.varTypes Try.prog) (ds ++ gs)).all (· ≤ reachBytes) = true := hsz0
  have hval : ∀ (j : Nat) t v, Try.f3.params[j]? = some t → args[j]? = some v → Value.okWide Try.prog W .any base t v := hval0
  have hW' := hW
  obtain ⟨p, q, hA0, hV, rfl, hfz, hnd⟩ := hW
  have hA : DataW.TrodAll enc Try.prog W 0 (fun _ => true) true Try.f3.params.toList args.toList ds p := hA0
  rw [Try.params3] at hA hval hsz
  obtain ⟨v0, vs0, d0, ds0, p0, q0, hargs, rfl, rfl, h0, r0⟩ := trodAll_cons hA
  obtain ⟨v1, vs1, d1, ds1, p1, q1, rfl, rfl, rfl, h1, r1⟩ := trodAll_cons r0
  obtain ⟨rfl, rfl, rfl⟩ := trodAll_nil r1
  obtain rfl : args = #[v0, v1] := by cases args; simp_all
  obtain ⟨rfl, rfl⟩ := trodVars_none hV
  obtain ⟨a0, len0, cap0, rfl⟩ := okWide_slice Try.underlying22 (hval 0 22 v0 rfl rfl)
  have k0 := h0
  have lt0 : ∀ x ∈ p0, x.block < W.heap.size := by obtain ⟨m, hm⟩ := k0; exact DataW.trod_lt m _ _ _ hm
  obtain ⟨z0, w0, b0⟩ : ∃ l, IsBks W a0 len0 cap0 l ∧ cap0 ≤ 1048576 := by
    obtain ⟨fuel, hf⟩ := h0
    rcases bks_trod hf with ⟨rfl, rfl, rfl⟩ | ⟨ad, l, elems, spare, rfl, hl, h1, h2, hd, hm, hc⟩
    · exact ⟨[], ⟨by decide, by decide, fun _ => ⟨rfl, rfl⟩, rfl, by decide, by simp, Or.inl rfl⟩, by decide⟩
    · simp only at hd hm
      have hs := sized_slice hsz (j := 0) (t := 22) (e := 54) rfl (by rw [hd]; rfl) Try.underlying22
      rw [show Try.prog.bytesOf 54 = 16 from by kernel_rfl, hm] at hs
      simp only [if_true, reachBytes] at hs
      have hs2 := small_slice hk (j := 0) (by rw [hd]; rfl)
      rw [hm] at hs2
      simp only [if_true] at hs2
      exact ⟨l, ⟨by omega, hl, fun h => by simp at h, bks_row h1 (by omega) h2 hc⟩, by omega⟩
  obtain ⟨a1, len1, cap1, rfl⟩ := okWide_slice Try.underlying23 (hval 1 23 v1 rfl rfl)
  have k1 := h1
  have lt1 : ∀ x ∈ p1, x.block < W.heap.size := by obtain ⟨m, hm⟩ := k1; exact DataW.trod_lt m _ _ _ hm
  obtain ⟨z1, w1, b1⟩ : ∃ zs, IsRow .u8 W a1 len1 cap1 zs ∧ cap1 ≤ 1048576 := by
    obtain ⟨fuel, hf⟩ := h1
    rcases open_ints Try.underlying23 Try.underlying5 (by kernel_rfl) hf with ⟨hcs, _⟩ | ⟨x, l, c, zs, hcs, _, hl, hm, hz, hx, hcell, hwz⟩
    · simp [Value.cells] at hcs
      obtain ⟨rfl, rfl, rfl⟩ := hcs
      exact ⟨[], ⟨by decide, .inl ⟨rfl, rfl, rfl, rfl⟩⟩, by decide⟩
    · simp [Value.cells] at hcs
      obtain ⟨rfl, rfl, rfl⟩ := hcs
      have hd := congrArg Prod.fst hx
      simp only at hd
      have hs := sized_slice hsz (j := 1) (t := 23) (e := 5) rfl (by rw [hd]; rfl) Try.underlying23
      rw [show Try.prog.bytesOf 5 = 1 from by kernel_rfl] at hs
      simp only [lits, List.length_map, List.length_take, List.length_drop, reachBytes] at hs
      have hzc : zs.length = cap1 := by simpa using hz
      have hs2 := small_slice hk (j := 1) (by rw [hd]; rfl)
      simp only [lits, List.length_map, List.length_take, List.length_drop] at hs2
      exact ⟨zs, ⟨by show cap1 * 1 ≤ _; omega, .inr ⟨_, rfl, hl, hm, hzc, hcell, hwz⟩⟩, by omega⟩
  clear hA0 hval0 hsz0 hsz
  refine (walk_bytes a0 len0 cap0 z0 a1 len1 cap1 z1 W w0 b0 w1 b1).mono fun e W' ⟨he, bel⟩ => ?_
  subst he
  exact ⟨_, rfl, _, _, _, [], _, [], hW', trodAll_mk1 (shut_bool Try.underlying4 _), (trodAll_cons_mk (Below.trod laidOut (by kernel_rfl) (of_decide_eq_true (by kernel_rfl)) k0 bel lt0) (trodAll_cons_mk (Below.trod laidOut (by kernel_rfl) (of_decide_eq_true (by kernel_rfl)) k1 bel lt1) trodAll_mk0)), rfl, bel.frame _, fun h => by cases h⟩

theorem proved : Rows.HistBytesUptoSaid :=
  OpenClaim.holds_of_cond 3 Try.f3 rfl rfl rfl rfl rfl rfl rfl ⟨rfl, rfl, rfl, rfl, rfl⟩ rfl rfl rfl rfl rfl (by kernel_rfl) Try.func3 (by kernel_rfl)
    (of_decide_eq_true (by kernel_rfl)) (by unfold Func.isWrapper; first | (rw [if_pos (by decide +kernel)]; kernel_rfl) | (rw [if_neg (by decide +kernel)]; exact ⟨rfl, rfl⟩))
    (fun os started H enc _ F => lifted os started H enc F)
end Go.Proofs.Ytjngpdhhkkambab.histBytes
