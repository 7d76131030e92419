/-
  More in a histogram's bucket: Add, Merge, From: contracts, for every world.
  Conditions: numbers are words of 64 bits; the slice shows its buckets and lies elsewhere than the histogram.
-/
import Derived.Test.YtjngpdhhkkambabHistA
import Derived.Test.YtjngpdhhkkambabHistAb
import Derived.Test.YtjngpdhhkkambabWideA
import Derived.Test.YtjngpdhhkkambabVintR
import Derived.Deep.Cut
namespace Go.Proofs.Ytjngpdhhkkambab
open Go.RowKit

theorem RowB.ch {S : Nat → Prop} {w w' : World} {a : Option Addr} {n : Nat} {l : Bks} (h : RowB w a n l) (c : Ch S w w') (hn : 0 < n → ∀ x, a = some x → ¬ S x.block) : RowB w' a n l := by
  obtain ⟨h1, h2, h3, h4⟩ := h
  refine ⟨h1, h2, h3, ?_⟩
  rcases h4 with h4 | ⟨b, off, rfl, hc⟩
  · exact Or.inl h4
  · right
    refine ⟨b, off, rfl, fun i hi => ?_⟩
    have hlt : b < w.heap.size := World.block_lt_of_cell? w _ (hc i hi).1
    have hb := c.block b hlt (hn (by omega) _ rfl)
    have e : ∀ o, w'.cell? ⟨b, o, none⟩ = w.cell? ⟨b, o, none⟩ := fun o => by simp only [World.cell?, hb]
    rw [e, e]
    exact hc i hi
theorem RowB.lt {w : World} {x : Addr} {n : Nat} {l : Bks} (h : RowB w (some x) n l) (hn : 0 < n) : x.block < w.heap.size := by
  obtain ⟨-, -, -, h | ⟨b, off, he, hc⟩⟩ := h
  · omega
  · simp only [Option.some.injEq] at he
    subst he
    exact World.block_lt_of_cell? w _ (hc 0 hn).1

set_option maxHeartbeats 2000000 in
theorem more_any (g : Nat) (H : List Int) (bk n : Int) (w : World) (b0 : 0 ≤ bk) (b1 : bk ≤ 7423) (hn : 0 ≤ n ∧ n < 18446744073709551616) (hH : HistAt w g H) :
    Calls Try.prog 42 #[.pointer (some ⟨g, 0, none⟩), .int .i64 bk, .int .u64 n] w fun e w' => e = .returned (.tuple #[]) ∧ HistAt w' g (H.set bk.toNat (satS (atH H bk) n)) ∧ Ch (fun k => k = g) w w' := by
  obtain ⟨k, rfl⟩ := Int.eq_ofNat_of_zero_le b0
  have hk : k < 7424 := by omega
  have hc := hH.cell hk
  have hf := hH.frozen k
  have hw := hH.getD k
  have A := hide (fun w => add_any (H.getD k 0) n hw hn w)
  have HS := hide (hH.set k (satS_word hw hn))
  rw [Int.toNat_natCast, ← getD_atH]
  have hx : addS (H.getD k 0) n = satS (H.getD k 0) n := rfl
  rw [hx] at A
  have HC : Hid (∀ u, Ch (fun j => j = g) w (w.setCell ⟨g, k, none⟩ u)) := fun u => ⟨rfl, rfl, rfl, (KeepsWalks.setCell w _ u).size, fun j _ hn => Below.heap_setCell _ ⟨g, k, none⟩ _ j hn⟩
  have i1 : (0 : Int) ≤ (k : Int) := by omega
  have i2 : (k : Int) < 7424 := by omega
  clear hH hx hw
  generalize satS (H.getD k 0) n = Z at *
  generalize H.getD k 0 = y at *
  generalize H.set k Z = H2 at *
  go_enter Try.func42, Try.ntmps42
  go_upto_region 0 with fail
  refine wp_region_held_drew (S := fun _ => True) (by kernel_rfl) trivial (fun hHeld => ?_)
  refine held_take (i := 0) (d := (some 6)) (v := ?_) rfl rfl (by kernel_rfl) (by kernel_rfl) (by kernel_rfl) (fun _ _ _ h => h) (Or.inl ⟨by rfl, ?_⟩) (by first | assumption | rfl | trivial) ?_
  rotate_left 1
  · (intro w hSw; (try dsimp only at hSw); (try subst hSw); go_simp; try with_reducible rfl)
  simp only [Act.put, List.setIfInBounds_toArray, List.set_cons_zero, List.set_cons_succ]
  refine held_take (i := 1) (d := (some 7)) (v := ?_) rfl rfl (by kernel_rfl) (by kernel_rfl) (by kernel_rfl) (fun _ _ _ h => h) (Or.inl ⟨by rfl, ?_⟩) (by first | assumption | rfl | trivial) ?_
  rotate_left 1
  · (intro w hSw; (try dsimp only at hSw); (try subst hSw); go_simp; try with_reducible rfl)
  simp only [Act.put, List.setIfInBounds_toArray, List.set_cons_zero, List.set_cons_succ]
  refine held_take (i := 2) (d := (some 8)) (v := ?_) rfl rfl (by kernel_rfl) (by kernel_rfl) (by kernel_rfl) (fun _ _ _ h => h) (Or.inl ⟨by rfl, ?_⟩) (by first | assumption | rfl | trivial) ?_
  rotate_left 1
  · (intro w hSw; (try dsimp only at hSw); (try subst hSw); go_simp; try with_reducible rfl)
  simp only [Act.put, List.setIfInBounds_toArray, List.set_cons_zero, List.set_cons_succ]
  refine held_take (i := 3) (d := (some 9)) (v := ?_) rfl rfl (by kernel_rfl) (by kernel_rfl) (by kernel_rfl) (fun _ _ _ h => h) (Or.inl ⟨by rfl, ?_⟩) (by first | assumption | rfl | trivial) ?_
  rotate_left 1
  · (intro w hSw; (try dsimp only at hSw); (try subst hSw); go_simp; try with_reducible rfl)
  simp only [Act.put, List.setIfInBounds_toArray, List.set_cons_zero, List.set_cons_succ]
  refine held_take (i := 4) (d := (some 10)) (v := ?_) rfl rfl (by kernel_rfl) (by kernel_rfl) (by kernel_rfl) (fun _ _ _ h => h) (Or.inl ⟨by rfl, ?_⟩) (by first | assumption | rfl | trivial) ?_
  rotate_left 1
  · (intro w hSw; (try dsimp only at hSw); (try subst hSw); go_simp; try with_reducible rfl)
  simp only [Act.put, List.setIfInBounds_toArray, List.set_cons_zero, List.set_cons_succ]
  refine held_take (i := 5) (d := (some 11)) (v := ?_) rfl rfl (by kernel_rfl) (by kernel_rfl) (by kernel_rfl) (fun _ _ _ h => h) (Or.inl ⟨by rfl, ?_⟩) (by first | assumption | rfl | trivial) ?_
  rotate_left 1
  · (intro w hSw; (try dsimp only at hSw); (try subst hSw); go_simp; try with_reducible rfl)
  simp only [Act.put, List.setIfInBounds_toArray, List.set_cons_zero, List.set_cons_succ]
  refine held_take (i := 6) (d := (some 12)) (v := ?_) rfl rfl (by kernel_rfl) (by kernel_rfl) (by kernel_rfl) (fun _ _ _ h => h) (Or.inl ⟨by rfl, ?_⟩) (by first | assumption | rfl | trivial) ?_
  rotate_left 1
  · (intro w hSw; (try dsimp only at hSw); (try subst hSw); go_simp; try with_reducible rfl)
  simp only [Act.put, List.setIfInBounds_toArray, List.set_cons_zero, List.set_cons_succ]
  refine held_take (i := 8) (d := (some 14)) (v := ?_) rfl rfl (by kernel_rfl) (by kernel_rfl) (by kernel_rfl) (fun _ _ _ h => h) (Or.inl ⟨by rfl, ?_⟩) (by first | assumption | rfl | trivial) ?_
  rotate_left 1
  · (intro w hSw; (try dsimp only at hSw); (try subst hSw); go_simp; try with_reducible rfl)
  simp only [Act.put, List.setIfInBounds_toArray, List.set_cons_zero, List.set_cons_succ]
  refine held_take (i := 10) (d := (some 16)) (v := ?_) rfl rfl (by kernel_rfl) (by kernel_rfl) (by kernel_rfl) (fun _ _ _ h => h) (Or.inl ⟨by rfl, ?_⟩) (by first | assumption | rfl | trivial) ?_
  rotate_left 1
  · (intro w hSw; (try dsimp only at hSw); (try subst hSw); go_simp; try with_reducible rfl)
  simp only [Act.put, List.setIfInBounds_toArray, List.set_cons_zero, List.set_cons_succ]
  refine held_take (i := 11) (d := (some 17)) (v := ?_) rfl rfl (by kernel_rfl) (by kernel_rfl) (by kernel_rfl) (fun _ _ _ h => h) (Or.inl ⟨by rfl, ?_⟩) (by first | assumption | rfl | trivial) ?_
  rotate_left 1
  · (intro w hSw; (try dsimp only at hSw); (try subst hSw); go_simp; try with_reducible rfl)
  simp only [Act.put, List.setIfInBounds_toArray, List.set_cons_zero, List.set_cons_succ]
  refine held_next (i := 7) (by kernel_rfl) rfl (by rfl) (fun K hK => ?_)
  go_simp
  refine hK.out _ _ trivial ?_
  clear hK
  refine held_next (i := 9) (by kernel_rfl) rfl (by rfl) (fun K hK => ?_)
  go_simp
  refine (A.out _).mono ?_
  rintro e W4 ⟨rfl, rfl⟩
  go_wp2_with fail
  refine hK.out _ _ trivial ?_
  clear hK
  refine held_take (i := 12) (d := (some 18)) (v := ?_) rfl rfl (by kernel_rfl) (by kernel_rfl) (by kernel_rfl) (fun _ _ _ h => h) (Or.inl ⟨by rfl, ?_⟩) (by first | assumption | rfl | trivial) ?_
  rotate_left 1
  · (intro w hSw; (try dsimp only at hSw); (try subst hSw); go_simp; try with_reducible rfl)
  simp only [Act.put, List.setIfInBounds_toArray, List.set_cons_zero, List.set_cons_succ]
  refine held_next (i := 13) (by kernel_rfl) rfl (by rfl) (fun K hK => ?_)
  go_simp
  refine hK.out _ _ trivial ?_
  clear hK
  refine wpAnyH_done (by kernel_rfl) ?_ _
  go_wp2
  go_end0
  have hC := HC.out (.int .u64 Z)
  exact ⟨rfl, HS.out.drew, ⟨hC.os, hC.tape, hC.output, hC.size, hC.block⟩⟩

/-- One number more. -/
def addH (H : List Int) (v n : Int) : List Int := H.set (bucketS v).toNat (satS (atH H (bucketS v)) n)
theorem hadd_any (g : Nat) (H : List Int) (v n : Int) (w : World) (hv : W64 v) (hn : 0 ≤ n ∧ n < 18446744073709551616) (hH : HistAt w g H) :
    Calls Try.prog 19 #[.pointer (some ⟨g, 0, none⟩), .int .u64 v, .int .u64 n] w fun e w' => e = .returned (.tuple #[]) ∧ HistAt w' g (addH H v n) ∧ Ch (fun k => k = g) w w' := by
  have B := hide (bucket_any v w hv)
  obtain ⟨b0, b1⟩ := bucketS_range hv.1 hv.2
  have M := hide (more_any g H (bucketS v) n w b0 b1 hn hH)
  unfold addH
  clear hH hv
  generalize bucketS v = bk at *
  go_enter Try.func19, Try.ntmps19
  go_wp2_with fail
  refine B.out.mono ?_
  rintro e w' ⟨rfl, rfl⟩
  go_wp2_with fail
  refine M.out.mono ?_
  rintro e w2 ⟨rfl, h1, h2⟩
  have H1 := hide h1
  have H2 := hide h2
  clear h1 h2 M B
  go_wp2
  go_end0
  exact ⟨rfl, H1.out, H2.out⟩

theorem addAll_snoc (H : List Int) (l : Bks) (x : Int × Int) : addAll H (l ++ [x]) = (addAll H l).set x.1.toNat (satS (atH (addAll H l) x.1) x.2) := by
  unfold addAll
  rw [List.foldl_append]
  rfl
theorem HistAt.challoc {S : Nat → Prop} {w wr : World} {g : Nat} {H : List Int} (h : HistAt wr g H) (_c : Ch S w wr) (o : Obj) : HistAt (wr.alloc o) g H := h.alloc o
set_option maxHeartbeats 4000000 in
theorem hmerge_ok (g : Nat) (H : List Int) (a : Option Addr) (n cap : Nat) (l : Bks) (w : World) (hr : RowB w a n l) (hd : 0 < n → ∀ x, a = some x → x.block ≠ g) (hH : HistAt w g H) (hck : checkS l = true) :
    Calls Try.prog 26 #[.pointer (some ⟨g, 0, none⟩), .slice a n cap] w fun e w' =>
      e = .returned (.int .i64 0) ∧ HistAt w' g (addAll H l) ∧ Ch (fun k => k = g) w w' := by
  have HR := hide hr
  have HL := hide hr.1
  have HD := hide hd
  have HH := hide hH
  have hn := hr.2.1
  have C := hide (check_any a n cap l w hr)
  have HCK := hide hck
  rw [hck] at C
  clear hr hd hH hck
  go_enter Try.func26, Try.ntmps26
  go_wp2_with fail
  refine C.out.mono ?_
  rintro e w1 ⟨rfl, hb1⟩
  have HB1 := hide hb1
  clear hb1 C
  have HW1 : Hid (RowB w1 a n l ∧ HistAt w1 g H ∧ Ch (fun k => k = g) w w1) := ⟨HR.out.below HB1.out (Nat.le_refl _), HH.out.below HB1.out HH.out.lt, (Ch.of_below HB1.out).more (fun _ _ h => h.elim)⟩
  clear HB1 HH HR
  go_wp2
  go_loopw [12] (fun i wr => ∃ k : Nat, k ≤ n ∧ i = .int .i64 k ∧ Hid (HistAt wr g (addAll H (l.take k)) ∧ Ch (fun k => k = g) w1 wr)) (fun i _ => n - (intOf i).toNat)
  case atStart => exact ⟨0, by omega, rfl, ⟨HW1.out.2.1, Ch.refl _ _⟩⟩
  case round =>
    obtain ⟨k, hk, rfl, HT⟩ := hrel
    by_cases hlt : k < n
    · obtain ⟨b, off, rfl, hcc⟩ := (HW1.out.1.ch HT.out.2 HD.out).at' hlt
      obtain ⟨f0, f1⟩ := hcc wr (Below.refl _ _)
      have HFit := hide (getD_fit HW1.out.1.2.2.1 k)
      have hrg := checkF_range (Int.le_refl _) HCK.out (k := k) (by rw [HL.out]; exact hlt)
      have HTK := hide (take_bks (l := l) (k := k) (by rw [HL.out]; exact hlt))
      have i1 : (0 : Int) ≤ (k : Int) := by omega
      have i2 : (k : Int) < (n : Int) := by omega
      clear hcc
      generalize l.getD k (0, 0) = x at *
      obtain ⟨x, y⟩ := x
      simp only at f0 f1 hrg
      have hy := u64_of_wf HFit.out.2
      obtain ⟨x0, x1⟩ := hrg
      have M := hide (fun o => more_any g (addAll H (l.take k)) x y (wr.alloc o) x0 x1 hy (HT.out.1.alloc o))
      clear HFit hy
      go_wp2_with fail
      refine (M.out _).mono ?_
      rintro e w2 ⟨rfl, h1, h2⟩
      have HN : Hid (HistAt w2 g (addAll H (l.take (k + 1))) ∧ Ch (fun k => k = g) w1 w2) := by
        refine ⟨?_, (HT.out.2.alloc _).trans h2⟩
        rw [HTK.out, addAll_snoc]
        exact h1
      clear h1 h2 M HT HTK
      go_wp2
      go_roundw
      case rel => exact ⟨k + 1, by omega, by go_num, HN⟩
      case measure => simp [intOf]; omega
    · have : k = n := by omega
      subst this
      have HE : Hid (HistAt wr g (addAll H l) ∧ Ch (fun k => k = g) w wr) := by
        have h1 := HT.out.1
        rw [List.take_of_length_le (by rw [HL.out]; omega)] at h1
        exact ⟨h1, HW1.out.2.2.trans HT.out.2⟩
      clear HT
      go_wp2
      go_ret
      exact ⟨rfl, HE.out.1, HE.out.2⟩
set_option maxHeartbeats 4000000 in
theorem hmerge_no (g : Nat) (H : List Int) (a : Option Addr) (n cap : Nat) (l : Bks) (w : World) (hr : RowB w a n l) (hH : HistAt w g H) (hck : checkS l = false) :
    Calls Try.prog 26 #[.pointer (some ⟨g, 0, none⟩), .slice a n cap] w fun e w' =>
      e = .returned (.int .i64 5) ∧ HistAt w' g H ∧ Ch (fun k => k = g) w w' := by
  have HH := hide hH
  have C := hide (check_any a n cap l w hr)
  rw [hck] at C
  clear hr hH hck
  go_enter Try.func26, Try.ntmps26
  go_wp2_with fail
  refine C.out.mono ?_
  rintro e w1 ⟨rfl, hb1⟩
  have HB1 := hide hb1
  clear hb1 C
  have HE : Hid (HistAt w1 g H ∧ Ch (fun k => k = g) w w1) := ⟨HH.out.below HB1.out HH.out.lt, (Ch.of_below HB1.out).more (fun _ _ h => h.elim)⟩
  clear HB1 HH
  go_wp2
  go_ret
  exact ⟨rfl, HE.out.1, HE.out.2⟩
set_option maxHeartbeats 1000000 in
theorem hfrom_ok (a : Option Addr) (n cap : Nat) (l : Bks) (w : World) (hr : RowB w a n l) (hck : checkS l = true) :
    Calls Try.prog 23 #[.slice a n cap] w fun e w' =>
      e = .returned (.tuple #[.pointer (some ⟨w.heap.size, 0, none⟩), .int .i64 0]) ∧ HistAt w' w.heap.size (addAll H0 l) ∧ Below w.heap.size w w' := by
  have HR := hide hr
  have N := hide (new_any w)
  have HCK := hide hck
  clear hr hck
  go_enter Try.func23, Try.ntmps23
  go_wp2_with fail
  refine N.out.mono ?_
  rintro e w1 ⟨rfl, h1, h2⟩
  have HB := hide h2
  have M := hide (hmerge_ok w.heap.size H0 a n cap l w1 (HR.out.below h2 (Nat.le_refl _)) (fun h0 x hx => by
    subst hx
    exact Nat.ne_of_lt (HR.out.lt h0)) h1 HCK.out)
  clear N h1 h2
  go_wp2_with fail
  refine M.out.mono ?_
  rintro e w2 ⟨rfl, h1, h2⟩
  have H1 := hide h1
  have HB2 : Hid (Below w.heap.size w w2) := HB.out.trans (h2.below (HB.out.size) (fun k hk e => by omega))
  clear h1 h2 M HB
  go_wp2
  go_ret2
  exact ⟨rfl, H1.out, HB2.out⟩
set_option maxHeartbeats 1000000 in
theorem hfrom_no (a : Option Addr) (n cap : Nat) (l : Bks) (w : World) (hr : RowB w a n l) (hck : checkS l = false) :
    Calls Try.prog 23 #[.slice a n cap] w fun e w' =>
      e = .returned (.tuple #[.pointer none, .int .i64 5]) ∧ Below w.heap.size w w' := by
  have HR := hide hr
  have N := hide (new_any w)
  have HCK := hide hck
  clear hr hck
  go_enter Try.func23, Try.ntmps23
  go_wp2_with fail
  refine N.out.mono ?_
  rintro e w1 ⟨rfl, h1, h2⟩
  have HB := hide h2
  have M := hide (hmerge_no w.heap.size H0 a n cap l w1 (HR.out.below h2 (Nat.le_refl _)) h1 HCK.out)
  clear N h1 h2
  go_wp2_with fail
  refine M.out.mono ?_
  rintro e w2 ⟨rfl, h1, h2⟩
  have HB2 : Hid (Below w.heap.size w w2) := HB.out.trans (h2.below (HB.out.size) (fun k hk e => by omega))
  clear h1 h2 M HB
  go_wp2
  go_ret2
  exact ⟨rfl, HB2.out⟩
end Go.Proofs.Ytjngpdhhkkambab
