/-
  A gauge that may be, put behind any bytes, is the document's bytes, and comes back; any bytes are read as a gauge as the document says; the document's examples hold. The call returns true, and its arguments read as they did.
  Conditions: none: every value of the parameters' types.
-/
import Derived.Test.YtnhjjdgdffjdcaaGaugeU
import Derived.Test.YtnhjjdgdffjdcaaGaugeY
import Derived.Test.YtnhjjdgdffjdcaaVintF
import Derived.Test.YtnhjjdgdffjdcaaVintR
import Derived.Deep.CondSized
import Derived.Laws.Concat
import Derived.Deep.RegionWith
import Derived.Deep.DrawnRows
import Derived.Deep.DeepCutAuto
import Derived.ProofKit
import Derived.OpenShut
import Derived.ShutString
import Derived.ChangeOld
import Derived.SizedLaws
namespace Go.Proofs.Ytnhjjdgdffjdcaa
open Go.RowKit

theorem add_str (xs ys : List Int) (h : xs.length + ys.length ≤ 281474976710656) (w : World) :
    (Op.stringOp .add (strOfNums xs) (strOfNums ys)).run Try.prog w = .ok (.string (strOfNums (xs ++ ys))) w := by
  rw [run_string_add_sum (P := Try.prog) w _ _ (by rw [strOfNums_size, strOfNums_size]; omega), strOf_append]

section
variable {P : Program} {ops : Array Oper} {Q : Exit → Act → World → Prop} {md : Region.Mode} {S : World → Prop}
/-- A call in a region that draws its order: what holds from then on is told behind the call. -/
theorem held_call2 {i : Nat} {o : Oper} {fuel : Nat} {listed : Array Bool} {a : Act} {w : World} (hr : Region.ready md ops listed = [i]) (ho : ops[i]? = some o) (hw : Region.wanted o (yielded ops a.tmps) = true)
    (h : ∀ K' : Act → World → Prop, Shut (∀ (S2 : World → Prop) a w, (∀ w, S2 w → S w) → S2 w → wpAnyH P md ops Q S2 fuel (listed.setIfInBounds i true) a w → K' a w) → Oper.wp P o a w K' Q) : wpAnyH P md ops Q S (fuel + 1) listed a w := by
  refine wpAnyH_all hr (by simp) ?_
  intro j hj
  have : j = i := by simpa using hj
  subst this
  unfold wpOp
  simp only [ho]
  rw [if_pos hw]
  refine Or.inl (h _ ?_)
  intro S2 a' w' hi hS h'
  exact ⟨hi _ hS, held_mono hi _ _ _ _ h'⟩
end

theorem rb_made (w : World) (a : Option Addr) (n cap : Nat) (p : Int) : RB (w.alloc (.cells #[.slice a n cap, .int .i64 p, .bool false] 41)) w.heap.size a n cap p false := by
  exact heap_alloc_new w _

set_option maxRecDepth 100000 in
set_option maxHeartbeats 8000000 in
theorem walk_bytes (g : Gz) (a : Option Addr) (n cap : Nat) (z : List Int) (p : Int) (w : World) (hg : GW g) (w1 : IsRow .u8 w a n cap z) (w2 : (Lit.int .i64 p).wf = true) :
    Calls Try.prog 6 #[(Value.agg #[.int .u64 (Gz.n g), .int .u64 (Gz.nans g), .int .u64 (Gz.lo g), .int .u64 (Gz.hi g)]), .slice a n cap, .int .i64 p] w fun e w' => e = .returned (.bool true) ∧ Below w.heap.size w w' := by
  obtain ⟨hcap, hcb, hnil, hr⟩ := row_of w1
  have hn47 : n ≤ 140737488351232 := by
    have : cap ≤ 140737488351232 := by simpa [kb] using hcb
    omega
  clear w1 hcb
  generalize z.take n = bs at *
  have HZ : Hid (Bytes8 bs) := hr.bytes
  have R := hide hr
  have HL := hide hr.1
  have hL := putG_len g
  have HV : Hid (Bytes8 (putG g)) := putG_byte hg
  have HN := hide hnil
  have AW := hide (fun W (bl : Below w.heap.size w W) => (awakeG_any gaA W).mono (fun e W' (h : e = .returned (.bool true) ∧ Below W.heap.size W W') => (⟨h.1, bl.trans (h.2.mono bl.size)⟩ : e = .returned (.bool true) ∧ Below w.heap.size w W')))
  obtain ⟨w0, hw0⟩ : ∃ w0, Hid (w.alloc (.cells #[.int .u64 g.n, .int .u64 g.nans, .int .u64 g.lo, .int .u64 g.hi] 24) = w0) := ⟨_, rfl⟩
  have G : Hid (GBox w0 w.heap.size g.n g.nans g.lo g.hi) := by rw [← hw0.out]; exact GBox.new w _ _ _ _ _
  have Z0 : Hid (w.heap.size + 1 ≤ w0.heap.size) := G.out.lt
  have S0 : Hid (((World.cell? w0.drew ⟨w.heap.size, 0, none⟩ = some (.int .u64 (Gz.n g))) ∧ (World.cell? w0.drew ⟨w.heap.size, 1, none⟩ = some (.int .u64 (Gz.nans g))) ∧ (World.cell? w0.drew ⟨w.heap.size, 2, none⟩ = some (.int .u64 (Gz.lo g))) ∧ (World.cell? w0.drew ⟨w.heap.size, 3, none⟩ = some (.int .u64 (Gz.hi g)))) ∧ Hid (Below (w.heap.size + 1) w0 w0.drew)) := ⟨G.out.drew.gc, (Below.refl _ _).drew⟩
  have B0 : Hid (Below w.heap.size w w0) := by rw [← hw0.out]; exact (Below.refl _ _).alloc (Nat.le_refl _) _
  have R0 : Hid (Row .u8 w0.drew a n bs) := (R.out.below B0.out (Nat.le_refl _)).drew
  have C1 := hide (fun W (h : Row .u8 W a n bs) => bytes_any a n cap bs W h HN.out (by omega))
  obtain ⟨NL, HNL⟩ : ∃ NL, Hid (n + (putG g).length = NL) := ⟨_, rfl⟩
  have hNL := HNL.out
  have hNLs : NL ≤ 140737488355328 := by omega
  have C3 := hide (fun W a1 c1 (h : Row .u8 W a1 n bs) => gput_any a1 n c1 bs g W hg (by omega) h)
  rw [HNL.out] at C3
  have CK := hide (fun W => refgchk_any g hg W)
  have BX : Hid (Bytes8 (bs ++ putG g)) := Bytes8.append HZ.out HV.out
  have BE : Hid (chkG g = true → getG (bs ++ putG g) (n : Int) = some (g, (NL : Int))) := fun c => by
    have h := getG_back hg c bs
    rw [HL.out, HNL.out] at h
    exact h
  have PP := hide (fun W => refgput_any g W hg)
  clear hr G hNL hnil
  go_enter Try.func6, Try.ntmps6
  go_upto_region 1 with fail
  rw [hw0.out]
  clear hw0
  obtain ⟨k, hk⟩ : ∃ k, Hid (w.heap.size = k) := ⟨_, rfl⟩
  rw [hk.out] at S0 Z0
  rw [hk.out]
  go_cut [7] (fun x wx => ∃ a3 c3, x = .slice a3 NL c3 ∧ Hid (Mine wx (k + 1) a3 NL c3 (bs ++ putG g)) ∧ Hid (((World.cell? wx ⟨k, 0, none⟩ = some (.int .u64 (Gz.n g))) ∧ (World.cell? wx ⟨k, 1, none⟩ = some (.int .u64 (Gz.nans g))) ∧ (World.cell? wx ⟨k, 2, none⟩ = some (.int .u64 (Gz.lo g))) ∧ (World.cell? wx ⟨k, 3, none⟩ = some (.int .u64 (Gz.hi g)))) ∧ Hid (Below (k + 1) w0 wx)))
  case first =>
    go_region_held3 (fun w' => ((World.cell? w' ⟨k, 0, none⟩ = some (.int .u64 (Gz.n g))) ∧ (World.cell? w' ⟨k, 1, none⟩ = some (.int .u64 (Gz.nans g))) ∧ (World.cell? w' ⟨k, 2, none⟩ = some (.int .u64 (Gz.lo g))) ∧ (World.cell? w' ⟨k, 3, none⟩ = some (.int .u64 (Gz.hi g)))) ∧ Hid (Below (k + 1) w0 w')) (first | exact S0.out | exact keepH Z0 (by assumption) (by assumption)) (first
      | (go_at_call 17; with_reducible refine (C1.out _ R0.out).mono ?_; rintro e v1 ⟨a1, c1, rfl, o1, b1⟩; have O1 := hide (o1.row (by omega) (fits_wf HZ.out)); have z1 := hide (Nat.le_trans Z0.out b1.size))
      | (go_at_call 16; with_reducible refine (C3.out _ _ _ O1.out).mono ?_; rintro e v2 ⟨a2, c2, rfl, o2, b2⟩; have O2 := hide (o2.mono z1.out)))
    go_wp2_with fail
    go_meet
    case rel => exact ⟨a2, c2, rfl, O2, by assumption⟩
  case rest =>
    obtain ⟨a3, c3, rfl, O3, S3⟩ := hcut
    have p3 := O3.out.capped.1
    have R3 := hide (O3.out.row (by omega) (fits_wf BX.out))
    have KB : Hid (∀ W, Below (k + 1) w0 W → Below w.heap.size w W) := by
      intro W h
      rw [hk.out] at B0 ⊢
      exact B0.out.trans (h.mono (Nat.le_succ _))
    obtain ⟨⟨d0, d1, d2, d3⟩, HB3⟩ := S3.out
    clear O3 C1 C3 R0 S0
    go_wp2_with fail
    with_reducible refine (CK.out _).mono ?_
    rintro e x4 ⟨rfl, k4⟩
    have S4 := hide (keepH Z0 k4 S3.out)
    have R4 := hide (R3.out.below k4 (Nat.le_refl _))
    clear k4 d0 d1 d2 d3 HB3 S3 R3 CK
    go_upto_if 21 with fail
    go_cut [7] (fun _ wx => Hid (Below w.heap.size w wx))
    case first =>
      have K4 : Hid (Below w.heap.size w x4) := KB.out _ S4.out.2.out
      by_cases hck : chkG g = true
      · rw [hck]
        have G1 := hide (gget_any (n : Int) a3 NL c3 (bs ++ putG g) x4 (i64_wf (by omega) (by omega)) p3 R4.out)
        rw [BE.out hck] at G1
        simp only [gotG] at G1
        have F1 := hide (fun w' (h : Row .u8 w' a3 NL (bs ++ putG g)) => row_string (cap := c3) h)
        have F2 := hide (fun w' (h : Row .u8 w' a n bs) => row_string (cap := cap) h)
        have F3 := hide (fun w' base a' c' (h : Mine w' base a' (putG g).length c' (putG g)) => row_string (cap := c') (h.row (by omega) (fits_wf HV.out)))
        have hadd := add_str bs (putG g) (by rw [HL.out]; omega)
        generalize strOfNums (bs ++ putG g) = X at F1 hadd
        generalize strOfNums bs = X1 at F2 hadd
        generalize strOfNums (putG g) = X2 at F3 hadd
        obtain ⟨L, HLL⟩ : ∃ L, Hid ((putG g).length = L) := ⟨_, rfl⟩
        rw [HLL.out] at PP F3
        have tq : ((NL : Int) != (NL : Int)) = false := by simp
        clear hck BE hL
        go_wp2_with fail
        with_reducible refine G1.out.mono ?_
        rintro e x5 ⟨rfl, k5⟩
        have S5 := hide (keepH Z0 k5 S4.out)
        have R5 := hide (R4.out.below k5 (Nat.le_refl _))
        have K5 : Hid (Below w.heap.size w x5) := KB.out _ S5.out.2.out
        clear k5 G1 S4 R4 K4
        go_upto_region 4 with fail
        obtain ⟨j, hj⟩ : ∃ j, Hid (x5.heap.size = j) := ⟨_, rfl⟩
        have GJ := hide (GBox.new x5 24 g.n g.nans g.lo g.hi)
        have S6 := hide (keepH Z0 ((Below.refl _ _).alloc (Nat.le_refl _) (.cells #[.int .u64 g.n, .int .u64 g.nans, .int .u64 g.lo, .int .u64 g.hi] 24)) S5.out)
        have R6 := hide (R5.out.alloc (.cells #[.int .u64 g.n, .int .u64 g.nans, .int .u64 g.lo, .int .u64 g.hi] 24))
        generalize x5.alloc (.cells #[.int .u64 g.n, .int .u64 g.nans, .int .u64 g.lo, .int .u64 g.hi] 24) = x6 at GJ S6 R6 ⊢
        rw [hj.out] at GJ
        rw [hj.out]
        have K6 : Hid (Below w.heap.size w x6) := KB.out _ S6.out.2.out
        have RB6 := hide (R.out.below K6.out (Nat.le_refl _))
        clear S5 R5 K5
        refine wp_region_held_drew (S := fun w' => (convert 33 9 (.slice a3 NL c3)).run Try.prog w' = .ok (.string X) w' ∧ (convert 33 9 (.slice a n cap)).run Try.prog w' = .ok (.string X1) w' ∧ ((World.cell? w' ⟨k, 0, none⟩ = some (.int .u64 (Gz.n g))) ∧ (World.cell? w' ⟨k, 1, none⟩ = some (.int .u64 (Gz.nans g))) ∧ (World.cell? w' ⟨k, 2, none⟩ = some (.int .u64 (Gz.lo g))) ∧ (World.cell? w' ⟨k, 3, none⟩ = some (.int .u64 (Gz.hi g)))) ∧ ((World.cell? w' ⟨j, 0, none⟩ = some (.int .u64 (Gz.n g))) ∧ (World.cell? w' ⟨j, 1, none⟩ = some (.int .u64 (Gz.nans g))) ∧ (World.cell? w' ⟨j, 2, none⟩ = some (.int .u64 (Gz.lo g))) ∧ (World.cell? w' ⟨j, 3, none⟩ = some (.int .u64 (Gz.hi g))))) (by kernel_rfl) ⟨F1.out _ R6.out.drew, F2.out _ RB6.out.drew, S6.out.1, GJ.out.gc⟩ (fun hHeld => ?_)
        refine held_take (i := 0) (d := (some 30)) (v := ?_) rfl rfl (by kernel_rfl) (by kernel_rfl) (by kernel_rfl) (fun _ _ _ h => h) (Or.inl ⟨by rfl, ?_⟩) (by first | assumption | rfl | trivial) ?_
        rotate_left 1
        · (intro w hSw; (try dsimp only at hSw); (try subst hSw); go_simp; try with_reducible rfl)
        simp only [Act.put, List.setIfInBounds_toArray, List.set_cons_zero, List.set_cons_succ]
        refine held_take (i := 1) (d := (some 31)) (v := ?_) rfl rfl (by kernel_rfl) (by kernel_rfl) (by kernel_rfl) (fun _ _ _ h => h) (Or.inl ⟨by rfl, ?_⟩) (by first | assumption | rfl | trivial) ?_
        rotate_left 1
        · (intro w hSw; (try dsimp only at hSw); (try subst hSw); go_simp; try with_reducible rfl)
        simp only [Act.put, List.setIfInBounds_toArray, List.set_cons_zero, List.set_cons_succ]
        refine held_take (i := 2) (d := (some 32)) (v := ?_) rfl rfl (by kernel_rfl) (by kernel_rfl) (by kernel_rfl) (fun _ _ _ h => h) (Or.inl ⟨by rfl, ?_⟩) (by first | assumption | rfl | trivial) ?_
        rotate_left 1
        · (intro w hSw; (try dsimp only at hSw); (try subst hSw); go_simp; try with_reducible rfl)
        simp only [Act.put, List.setIfInBounds_toArray, List.set_cons_zero, List.set_cons_succ]
        refine held_take (i := 3) (d := (some 33)) (v := ?_) rfl rfl (by kernel_rfl) (by kernel_rfl) (by kernel_rfl) (fun _ _ _ h => h) (Or.inl ⟨by rfl, ?_⟩) (by first | assumption | rfl | trivial) ?_
        rotate_left 1
        · (intro w hSw; (try dsimp only at hSw); (try subst hSw); go_simp; try with_reducible rfl)
        simp only [Act.put, List.setIfInBounds_toArray, List.set_cons_zero, List.set_cons_succ]
        refine held_take (i := 4) (d := (some 34)) (v := ?_) rfl rfl (by kernel_rfl) (by kernel_rfl) (by kernel_rfl) (fun _ _ _ h => h) (Or.inl ⟨by rfl, ?_⟩) (by first | assumption | rfl | trivial) ?_
        rotate_left 1
        · (intro w hSw; (try dsimp only at hSw); (try subst hSw); go_simp; try with_reducible rfl)
        simp only [Act.put, List.setIfInBounds_toArray, List.set_cons_zero, List.set_cons_succ]
        refine held_call2 (i := 5) (by kernel_rfl) rfl (by rfl) (fun K hK => ?_)
        go_simp
        with_reducible refine (PP.out _).mono ?_
        rintro e x7 ⟨a7, c7, rfl, o7, k7⟩
        have R7 := hide (R6.out.drew.below k7 (Nat.le_refl _))
        have RB7 := hide (RB6.out.drew.below k7 (Nat.le_refl _))
        have S7 := hide (keepH (w0 := w0) Z0 k7 (⟨S6.out.1, S6.out.2.out.drew⟩ : ((World.cell? x6.drew ⟨k, 0, none⟩ = some (.int .u64 (Gz.n g))) ∧ (World.cell? x6.drew ⟨k, 1, none⟩ = some (.int .u64 (Gz.nans g))) ∧ (World.cell? x6.drew ⟨k, 2, none⟩ = some (.int .u64 (Gz.lo g))) ∧ (World.cell? x6.drew ⟨k, 3, none⟩ = some (.int .u64 (Gz.hi g)))) ∧ Hid (Below (k + 1) w0 x6.drew)))
        have GJ7 := hide (GJ.out.drew.below k7 GJ.out.lt)
        have K7 : Hid (Below w.heap.size w x7) := KB.out _ S7.out.2.out
        have hS7 : (convert 33 9 (.slice a3 NL c3)).run Try.prog x7 = .ok (.string X) x7 ∧ (convert 33 9 (.slice a n cap)).run Try.prog x7 = .ok (.string X1) x7 ∧ ((World.cell? x7 ⟨k, 0, none⟩ = some (.int .u64 (Gz.n g))) ∧ (World.cell? x7 ⟨k, 1, none⟩ = some (.int .u64 (Gz.nans g))) ∧ (World.cell? x7 ⟨k, 2, none⟩ = some (.int .u64 (Gz.lo g))) ∧ (World.cell? x7 ⟨k, 3, none⟩ = some (.int .u64 (Gz.hi g)))) ∧ ((World.cell? x7 ⟨j, 0, none⟩ = some (.int .u64 (Gz.n g))) ∧ (World.cell? x7 ⟨j, 1, none⟩ = some (.int .u64 (Gz.nans g))) ∧ (World.cell? x7 ⟨j, 2, none⟩ = some (.int .u64 (Gz.lo g))) ∧ (World.cell? x7 ⟨j, 3, none⟩ = some (.int .u64 (Gz.hi g)))) ∧ (convert 33 9 (.slice a7 L c7)).run Try.prog x7 = .ok (.string X2) x7 := ⟨F1.out _ R7.out, F2.out _ RB7.out, S7.out.1, GJ7.out.gc, F3.out _ _ _ _ o7⟩
        clear o7 k7 PP hHeld R6 RB6 S6 GJ K6 R7 RB7 S7 GJ7
        go_wp2_with fail
        refine hK.out (fun w' => (convert 33 9 (.slice a3 NL c3)).run Try.prog w' = .ok (.string X) w' ∧ (convert 33 9 (.slice a n cap)).run Try.prog w' = .ok (.string X1) w' ∧ ((World.cell? w' ⟨k, 0, none⟩ = some (.int .u64 (Gz.n g))) ∧ (World.cell? w' ⟨k, 1, none⟩ = some (.int .u64 (Gz.nans g))) ∧ (World.cell? w' ⟨k, 2, none⟩ = some (.int .u64 (Gz.lo g))) ∧ (World.cell? w' ⟨k, 3, none⟩ = some (.int .u64 (Gz.hi g)))) ∧ ((World.cell? w' ⟨j, 0, none⟩ = some (.int .u64 (Gz.n g))) ∧ (World.cell? w' ⟨j, 1, none⟩ = some (.int .u64 (Gz.nans g))) ∧ (World.cell? w' ⟨j, 2, none⟩ = some (.int .u64 (Gz.lo g))) ∧ (World.cell? w' ⟨j, 3, none⟩ = some (.int .u64 (Gz.hi g)))) ∧ (convert 33 9 (.slice a7 L c7)).run Try.prog w' = .ok (.string X2) w') _ _ (fun _ h => ⟨h.1, h.2.1, h.2.2.1, h.2.2.2.1⟩) hS7 ?_
        clear hK
        refine held_take (i := 6) (d := (some 36)) (v := ?_) rfl rfl (by kernel_rfl) (by kernel_rfl) (by kernel_rfl) (fun _ _ _ h => h) (Or.inl ⟨by rfl, ?_⟩) (by first | assumption | rfl | trivial) ?_
        rotate_left 1
        · (intro w hSw; (try dsimp only at hSw); (try subst hSw); go_simp; try with_reducible rfl)
        simp only [Act.put, List.setIfInBounds_toArray, List.set_cons_zero, List.set_cons_succ]
        refine held_take (i := 7) (d := (some 37)) (v := ?_) rfl rfl (by kernel_rfl) (by kernel_rfl) (by kernel_rfl) (fun _ _ _ h => h) (Or.inl ⟨by rfl, ?_⟩) (by first | assumption | rfl | trivial) ?_
        rotate_left 1
        · (intro w hSw; (try dsimp only at hSw); (try subst hSw); go_simp; try with_reducible rfl)
        simp only [Act.put, List.setIfInBounds_toArray, List.set_cons_zero, List.set_cons_succ]
        refine held_take (i := 8) (d := (some 38)) (v := ?_) rfl rfl (by kernel_rfl) (by kernel_rfl) (by kernel_rfl) (fun _ _ _ h => h) (Or.inl ⟨by rfl, ?_⟩) (by first | assumption | rfl | trivial) ?_
        rotate_left 1
        · (intro w hSw; (try dsimp only at hSw); (try subst hSw); go_simp; try with_reducible rfl)
        simp only [Act.put, List.setIfInBounds_toArray, List.set_cons_zero, List.set_cons_succ]
        refine held_take (i := 9) (d := (some 39)) (v := ?_) rfl rfl (by kernel_rfl) (by kernel_rfl) (by kernel_rfl) (fun _ _ _ h => h) (Or.inl ⟨by rfl, ?_⟩) (by first | assumption | rfl | trivial) ?_
        rotate_left 1
        · (intro w hSw; (try dsimp only at hSw); (try subst hSw); go_simp; try with_reducible rfl)
        simp only [Act.put, List.setIfInBounds_toArray, List.set_cons_zero, List.set_cons_succ]
        refine held_take (i := 10) (d := (some 40)) (v := ?_) rfl rfl (by kernel_rfl) (by kernel_rfl) (by kernel_rfl) (fun _ _ _ h => h) (Or.inl ⟨by rfl, ?_⟩) (by first | assumption | rfl | trivial) ?_
        rotate_left 1
        · (intro w hSw; (try dsimp only at hSw); (try subst hSw); go_simp; try with_reducible rfl)
        simp only [Act.put, List.setIfInBounds_toArray, List.set_cons_zero, List.set_cons_succ]
        refine held_take (i := 11) (d := (some 41)) (v := ?_) rfl rfl (by kernel_rfl) (by kernel_rfl) (by kernel_rfl) (fun _ _ _ h => h) (Or.inl ⟨by rfl, ?_⟩) (by first | assumption | rfl | trivial) ?_
        rotate_left 1
        · (intro w hSw; (try dsimp only at hSw); (try subst hSw); go_simp; try with_reducible rfl)
        simp only [Act.put, List.setIfInBounds_toArray, List.set_cons_zero, List.set_cons_succ]
        refine held_take (i := 12) (d := (some 42)) (v := ?_) rfl rfl (by kernel_rfl) (by kernel_rfl) (by kernel_rfl) (fun _ _ _ h => h) (Or.inl ⟨by rfl, ?_⟩) (by first | assumption | rfl | trivial) ?_
        rotate_left 1
        · (intro w hSw; (try dsimp only at hSw); (try subst hSw); go_simp; try with_reducible rfl)
        simp only [Act.put, List.setIfInBounds_toArray, List.set_cons_zero, List.set_cons_succ]
        refine held_take (i := 13) (d := (some 43)) (v := ?_) rfl rfl (by kernel_rfl) (by kernel_rfl) (by kernel_rfl) (fun _ _ _ h => h) (Or.inl ⟨by rfl, ?_⟩) (by first | assumption | rfl | trivial) ?_
        rotate_left 1
        · (intro w hSw; (try dsimp only at hSw); (try subst hSw); go_simp; try with_reducible rfl)
        simp only [Act.put, List.setIfInBounds_toArray, List.set_cons_zero, List.set_cons_succ]
        refine held_take (i := 14) (d := (some 44)) (v := ?_) rfl rfl (by kernel_rfl) (by kernel_rfl) (by kernel_rfl) (fun _ _ _ h => h) (Or.inl ⟨by rfl, ?_⟩) (by first | assumption | rfl | trivial) ?_
        rotate_left 1
        · (intro w hSw; (try dsimp only at hSw); (try subst hSw); go_simp; try with_reducible rfl)
        simp only [Act.put, List.setIfInBounds_toArray, List.set_cons_zero, List.set_cons_succ]
        refine held_take (i := 15) (d := (some 45)) (v := ?_) rfl rfl (by kernel_rfl) (by kernel_rfl) (by kernel_rfl) (fun _ _ _ h => h) (Or.inl ⟨by rfl, ?_⟩) (by first | assumption | rfl | trivial) ?_
        rotate_left 1
        · (intro w hSw; (try dsimp only at hSw); (try subst hSw); go_simp; try with_reducible rfl)
        simp only [Act.put, List.setIfInBounds_toArray, List.set_cons_zero, List.set_cons_succ]
        refine held_take (i := 16) (d := (some 46)) (v := ?_) rfl rfl (by kernel_rfl) (by kernel_rfl) (by kernel_rfl) (fun _ _ _ h => h) (Or.inl ⟨by rfl, ?_⟩) (by first | assumption | rfl | trivial) ?_
        rotate_left 1
        · (intro w hSw; (try dsimp only at hSw); (try subst hSw); go_simp; try with_reducible rfl)
        simp only [Act.put, List.setIfInBounds_toArray, List.set_cons_zero, List.set_cons_succ]
        refine held_take (i := 17) (d := (some 47)) (v := ?_) rfl rfl (by kernel_rfl) (by kernel_rfl) (by kernel_rfl) (fun _ _ _ h => h) (Or.inl ⟨by rfl, ?_⟩) (by first | assumption | rfl | trivial) ?_
        rotate_left 1
        · (intro w hSw; (try dsimp only at hSw); (try subst hSw); go_simp; try with_reducible rfl)
        simp only [Act.put, List.setIfInBounds_toArray, List.set_cons_zero, List.set_cons_succ]
        refine held_take (i := 18) (d := (some 48)) (v := ?_) rfl rfl (by kernel_rfl) (by kernel_rfl) (by kernel_rfl) (fun _ _ _ h => h) (Or.inl ⟨by rfl, ?_⟩) (by first | assumption | rfl | trivial) ?_
        rotate_left 1
        · (intro w hSw; (try dsimp only at hSw); (try subst hSw); go_simp; try with_reducible rfl)
        simp only [Act.put, List.setIfInBounds_toArray, List.set_cons_zero, List.set_cons_succ]
        refine held_take (i := 19) (d := (some 49)) (v := ?_) rfl rfl (by kernel_rfl) (by kernel_rfl) (by kernel_rfl) (fun _ _ _ h => h) (Or.inl ⟨by rfl, ?_⟩) (by first | assumption | rfl | trivial) ?_
        rotate_left 1
        · (intro w hSw; (try dsimp only at hSw); (try subst hSw); go_simp; try with_reducible rfl)
        simp only [Act.put, List.setIfInBounds_toArray, List.set_cons_zero, List.set_cons_succ]
        refine held_take (i := 20) (d := (some 50)) (v := ?_) rfl rfl (by kernel_rfl) (by kernel_rfl) (by kernel_rfl) (fun _ _ _ h => h) (Or.inl ⟨by rfl, ?_⟩) (by first | assumption | rfl | trivial) ?_
        rotate_left 1
        · (intro w hSw; (try dsimp only at hSw); (try subst hSw); go_simp; try with_reducible rfl)
        simp only [Act.put, List.setIfInBounds_toArray, List.set_cons_zero, List.set_cons_succ]
        refine held_take (i := 21) (d := (some 51)) (v := ?_) rfl rfl (by kernel_rfl) (by kernel_rfl) (by kernel_rfl) (fun _ _ _ h => h) (Or.inl ⟨by rfl, ?_⟩) (by first | assumption | rfl | trivial) ?_
        rotate_left 1
        · (intro w hSw; (try dsimp only at hSw); (try subst hSw); go_simp; try with_reducible rfl)
        simp only [Act.put, List.setIfInBounds_toArray, List.set_cons_zero, List.set_cons_succ]
        refine held_take (i := 22) (d := (some 52)) (v := ?_) rfl rfl (by kernel_rfl) (by kernel_rfl) (by kernel_rfl) (fun _ _ _ h => h) (Or.inl ⟨by rfl, ?_⟩) (by first | assumption | rfl | trivial) ?_
        rotate_left 1
        · (intro w hSw; (try dsimp only at hSw); (try subst hSw); go_simp; try with_reducible rfl)
        simp only [Act.put, List.setIfInBounds_toArray, List.set_cons_zero, List.set_cons_succ]
        refine held_take (i := 23) (d := (some 53)) (v := ?_) rfl rfl (by kernel_rfl) (by kernel_rfl) (by kernel_rfl) (fun _ _ _ h => h) (Or.inl ⟨by rfl, ?_⟩) (by first | assumption | rfl | trivial) ?_
        rotate_left 1
        · (intro w hSw; (try dsimp only at hSw); (try subst hSw); go_simp; try with_reducible rfl)
        simp only [Act.put, List.setIfInBounds_toArray, List.set_cons_zero, List.set_cons_succ]
        refine wpAnyH_done (by kernel_rfl) ?_ _
        go_wp2
        go_meet
        case rel => exact K7.out
      · rw [show chkG g = false by simpa using hck]
        go_wp2
        go_meet
        case rel => exact K4.out
    case rest =>
      have RBc := hide (R.out.below hcut.out (Nat.le_refl _))
      have Kc := hcut
      clear R4 S4 hcut PP BE
      have C5 := hide (bytes_any a n cap bs wc RBc.out HN.out (by omega))
      go_wp2_with fail
      with_reducible refine C5.out.mono ?_
      rintro e x6 ⟨a6, c6, rfl, o6, k6⟩
      have p6 := o6.capped.1
      have C6 := hide (gget_any p a6 n c6 bs x6 w2 p6 (o6.row (by omega) (fits_wf HZ.out)))
      have K6 : Hid (Below w.heap.size w x6) := bel_to Kc.out (Nat.le_refl _) k6
      clear o6 k6 C5 RBc Kc
      have N := hide (fun (W : World) (K : Below w.heap.size w W) => refgget_any p W.heap.size a n cap bs w (W.alloc (.cells #[.slice a n cap, .int .i64 p, .bool false] 41)) w2 R.out K.size (K.alloc K.size _) (rb_made W a n cap p))
      cases hgg : getG bs p with
      | none =>
        rw [hgg] at C6 N
        simp only [gotG] at C6
        simp only [GotP] at N
        clear hgg w2
        go_wp2_with fail
        with_reducible refine C6.out.mono ?_
        rintro e x7 ⟨rfl, k7⟩
        have K7 : Hid (Below w.heap.size w x7) := bel_to K6.out (Nat.le_refl _) k7
        have G7 := hide (GBox.new x7 24 0 0 0 0)
        have K8 : Hid (Below w.heap.size w (x7.alloc (.cells #[.int .u64 0, .int .u64 0, .int .u64 0, .int .u64 0] 24))) := K7.out.alloc K7.out.size _
        clear k7 C6 K6
        go_upto_region 7 with fail
        obtain ⟨b, hb⟩ : ∃ b, Hid (x7.heap.size = b) := ⟨_, rfl⟩
        generalize x7.alloc (.cells #[.int .u64 0, .int .u64 0, .int .u64 0, .int .u64 0] 24) = x8 at G7 K8 ⊢
        rw [hb.out] at G7
        rw [hb.out]
        have N8 := hide (N.out x8 K8.out)
        clear N K7 hb
        go_wp2_with fail
        with_reducible refine N8.out.mono ?_
        rintro e x9 ⟨k9, rfl, p', hrb⟩
        have G9 := hide ((G7.out.alloc _).below k9 G7.out.lt)
        have K9 : Hid (Below w.heap.size w x9) := (K8.out.alloc K8.out.size _).trans (k9.mono K8.out.size)
        have HRB := hide hrb
        clear k9 hrb N8 G7
        generalize x8.heap.size = q at HRB ⊢
        go_upto_region 9 with fail
        have G10 := hide (G9.out.alloc (.cells #[.int .u64 0, .int .u64 0, .int .u64 0, .int .u64 0] 24))
        have K10 := hide (K9.out.alloc K9.out.size (.cells #[.int .u64 0, .int .u64 0, .int .u64 0, .int .u64 0] 24))
        have HR10 := hide (HRB.out.block (((Below.refl x9.heap.size x9).alloc (Nat.le_refl _) (.cells #[.int .u64 0, .int .u64 0, .int .u64 0, .int .u64 0] 24)).block _ HRB.out.lt'))
        generalize x9.alloc (.cells #[.int .u64 0, .int .u64 0, .int .u64 0, .int .u64 0] 24) = x10 at G10 K10 HR10 ⊢
        obtain ⟨_, d1, d2, _⟩ := HR10.out.cell
        obtain ⟨_, c0, c1, c2, c3, _, _, _, _⟩ := G10.out
        clear G9 K9 HRB
        go_wp2_with fail
        with_reducible refine (AW.out _ K10.out).mono ?_
        rintro e x11 ⟨rfl, k11⟩
        have K11 := hide k11
        clear k11
        go_wp2
        go_ret
        exact ⟨rfl, K11.out⟩
      | some q =>
        obtain ⟨y, nx⟩ := q
        rw [hgg] at C6 N
        simp only [gotG] at C6
        simp only [GotP] at N
        clear hgg w2
        have tx : (nx == nx) = true := by simp
        go_wp2_with fail
        with_reducible refine C6.out.mono ?_
        rintro e x7 ⟨rfl, k7⟩
        have K7 : Hid (Below w.heap.size w x7) := bel_to K6.out (Nat.le_refl _) k7
        have G7 := hide (GBox.new x7 24 y.n y.nans y.lo y.hi)
        have K8 : Hid (Below w.heap.size w (x7.alloc (.cells #[.int .u64 y.n, .int .u64 y.nans, .int .u64 y.lo, .int .u64 y.hi] 24))) := K7.out.alloc K7.out.size _
        clear k7 C6 K6
        go_upto_region 7 with fail
        obtain ⟨b, hb⟩ : ∃ b, Hid (x7.heap.size = b) := ⟨_, rfl⟩
        generalize x7.alloc (.cells #[.int .u64 y.n, .int .u64 y.nans, .int .u64 y.lo, .int .u64 y.hi] 24) = x8 at G7 K8 ⊢
        rw [hb.out] at G7
        rw [hb.out]
        have N8 := hide (N.out x8 K8.out)
        clear N K7 hb
        go_wp2_with fail
        with_reducible refine N8.out.mono ?_
        rintro e x9 ⟨k9, rfl, hrb⟩
        have G9 := hide ((G7.out.alloc _).below k9 G7.out.lt)
        have K9 : Hid (Below w.heap.size w x9) := (K8.out.alloc K8.out.size _).trans (k9.mono K8.out.size)
        have HRB := hide hrb
        clear k9 hrb N8 G7
        generalize x8.heap.size = q at HRB ⊢
        go_upto_region 9 with fail
        obtain ⟨bb, hbb⟩ : ∃ bb, Hid (x9.heap.size = bb) := ⟨_, rfl⟩
        have G10 := hide (G9.out.alloc (.cells #[.int .u64 y.n, .int .u64 y.nans, .int .u64 y.lo, .int .u64 y.hi] 24))
        have H10 := hide (GBox.new x9 24 y.n y.nans y.lo y.hi)
        have K10 := hide (K9.out.alloc K9.out.size (.cells #[.int .u64 y.n, .int .u64 y.nans, .int .u64 y.lo, .int .u64 y.hi] 24))
        have HR10 := hide (HRB.out.block (((Below.refl x9.heap.size x9).alloc (Nat.le_refl _) (.cells #[.int .u64 y.n, .int .u64 y.nans, .int .u64 y.lo, .int .u64 y.hi] 24)).block _ HRB.out.lt'))
        generalize x9.alloc (.cells #[.int .u64 y.n, .int .u64 y.nans, .int .u64 y.lo, .int .u64 y.hi] 24) = x10 at G10 H10 K10 HR10 ⊢
        rw [hbb.out] at H10
        rw [hbb.out]
        obtain ⟨_, d1, d2, _⟩ := HR10.out.cell
        obtain ⟨_, c0, c1, c2, c3, _, _, _, _⟩ := G10.out
        obtain ⟨_, f0, f1, f2, f3, _, _, _, _⟩ := H10.out
        clear G9 K9 HRB
        go_wp2_with fail
        with_reducible refine (AW.out _ K10.out).mono ?_
        rintro e x11 ⟨rfl, k11⟩
        have K11 := hide k11
        clear k11
        go_wp2
        go_ret
        exact ⟨rfl, K11.out⟩
end Go.Proofs.Ytnhjjdgdffjdcaa
namespace Go.Proofs.Ytnhjjdgdffjdcaa.gaugeBytes
open Go.ChangeShapes Go.WideShapes Go.ChangeAt Go.RowKit
open Go.ChangeMaps (open_string shut_string)
set_option linter.unusedVariables false

theorem own : ownKnob Try.prog.godebug = none := by kernel_rfl
theorem laidOut : laidOutB Try.prog = true := by kernel_rfl

set_option maxRecDepth 100000 in
theorem lifted (os : Os) (started : os.Started) (H : Type) (enc : TypeId × Value → H) :
    ReturnsInHanded {} Try.checked os 6 .any (Rows.gaugeBytesSpec.pre6 enc Try.prog Try.f6 Rows.gaugeBytesRow.domain false) (Rows.gaugeBytesSpec.post enc Try.prog Try.f6 false true false false) := by
  refine returnsInHanded_of_change_sized (C := Try.checked) own started (by kernel_rfl) Try.func6
    (ChangeSpec.witness6 (enc := enc) (C := Try.checked) false ⟨#[], #[.agg #[.int .u64 0, .int .u64 0, .int .u64 0, .int .u64 0], .slice none 0 0, .int .i64 0], []⟩ 8 (by kernel_rfl) (by kernel_rfl) (by kernel_rfl) (by kernel_rfl)) ?_
  intro W base args ds gs before hval0 hW hcnd hsz0 _
  have hsz : (DataW.weightsEach Try.prog (Try.f6.params.toList ++ Rows.gaugeBytesSpec.plain.varTypes Try.prog) (ds ++ gs)).all (· ≤ reachBytes) = true := hsz0
  have hval : ∀ (j : Nat) t v, Try.f6.params[j]? = some t → args[j]? = some v → Value.okWide Try.prog W .any base t v := hval0
  have hW' := hW
  obtain ⟨p, q, hA0, hV, rfl, hfz, hnd⟩ := hW
  have hA : DataW.TrodAll enc Try.prog W 0 (fun _ => true) true Try.f6.params.toList args.toList ds p := hA0
  rw [Try.params6] at hA hval hsz
  obtain ⟨v0, vs0, d0, ds0, p0, q0, hargs, rfl, rfl, h0, r0⟩ := trodAll_cons hA
  obtain ⟨v1, vs1, d1, ds1, p1, q1, rfl, rfl, rfl, h1, r1⟩ := trodAll_cons r0
  obtain ⟨v2, vs2, d2, ds2, p2, q2, rfl, rfl, rfl, h2, r2⟩ := trodAll_cons r1
  obtain ⟨rfl, rfl, rfl⟩ := trodAll_nil r2
  obtain rfl : args = #[v0, v1, v2] := by cases args; simp_all
  obtain ⟨rfl, rfl⟩ := trodVars_none hV
  have k0 := h0
  have lt0 : ∀ x ∈ p0, x.block < W.heap.size := by obtain ⟨m, hm⟩ := k0; exact DataW.trod_lt m _ _ _ hm
  obtain ⟨x0_0, x0_1, x0_2, x0_3, y0_0, y0_1, y0_2, y0_3, m0, rfl, rfl, rfl, hy0_0, hy0_1, hy0_2, hy0_3⟩ := Go.Joins.open_agg4 Try.underlying24 (by kernel_rfl) (by kernel_rfl) (hval 0 24 v0 rfl rfl) h0
  obtain ⟨a0_0, e0_0, -, w0_0⟩ := DataW.trod_int Try.underlying22 hy0_0
  obtain rfl : x0_0 = .int .u64 a0_0 := by simpa using e0_0
  obtain ⟨a0_1, e0_1, -, w0_1⟩ := DataW.trod_int Try.underlying22 hy0_1
  obtain rfl : x0_1 = .int .u64 a0_1 := by simpa using e0_1
  obtain ⟨a0_2, e0_2, -, w0_2⟩ := DataW.trod_int Try.underlying22 hy0_2
  obtain rfl : x0_2 = .int .u64 a0_2 := by simpa using e0_2
  obtain ⟨a0_3, e0_3, -, w0_3⟩ := DataW.trod_int Try.underlying22 hy0_3
  obtain rfl : x0_3 = .int .u64 a0_3 := by simpa using e0_3
  obtain ⟨a1, len1, cap1, rfl⟩ := okWide_slice Try.underlying33 (hval 1 33 v1 rfl rfl)
  have k1 := h1
  have lt1 : ∀ x ∈ p1, x.block < W.heap.size := by obtain ⟨m, hm⟩ := k1; exact DataW.trod_lt m _ _ _ hm
  obtain ⟨z1, w1⟩ : ∃ zs, IsRow .u8 W a1 len1 cap1 zs := by
    obtain ⟨fuel, hf⟩ := h1
    rcases open_ints Try.underlying33 Try.underlying5 (by kernel_rfl) hf with ⟨hcs, _⟩ | ⟨x, l, c, zs, hcs, _, hl, hm, hz, hx, hcell, hwz⟩
    · simp [Value.cells] at hcs
      obtain ⟨rfl, rfl, rfl⟩ := hcs
      exact ⟨[], by decide, .inl ⟨rfl, rfl, rfl, rfl⟩⟩
    · simp [Value.cells] at hcs
      obtain ⟨rfl, rfl, rfl⟩ := hcs
      have hd := congrArg Prod.fst hx
      simp only at hd
      have hs := sized_slice hsz (j := 1) (t := 33) (e := 5) rfl (by rw [hd]; rfl) Try.underlying33
      rw [show Try.prog.bytesOf 5 = 1 from by kernel_rfl] at hs
      simp only [lits, List.length_map, List.length_take, List.length_drop, reachBytes] at hs
      have hzc : zs.length = cap1 := by simpa using hz
      exact ⟨zs, by show cap1 * 1 ≤ _; omega, .inr ⟨_, rfl, hl, hm, hzc, hcell, hwz⟩⟩
  obtain ⟨a2, rfl, rfl, rfl, w2⟩ := open_int Try.underlying3 (hval 2 3 v2 rfl rfl) h2
  clear hA0 hval0 hsz0 hsz
  refine (walk_bytes ⟨a0_0, a0_1, a0_2, a0_3⟩ a1 len1 cap1 z1 a2 W ⟨word_of_wf w0_0, word_of_wf w0_1, word_of_wf w0_2, word_of_wf w0_3⟩ w1 w2).mono fun e W' ⟨he, bel⟩ => ?_
  subst he
  exact ⟨_, rfl, _, _, _, [], _, [], hW', trodAll_mk1 (shut_bool Try.underlying4 _), (trodAll_cons_mk (Below.trod laidOut (by kernel_rfl) (of_decide_eq_true (by kernel_rfl)) k0 bel lt0) (trodAll_cons_mk (Below.trod laidOut (by kernel_rfl) (of_decide_eq_true (by kernel_rfl)) k1 bel lt1) (trodAll_cons_mk (shut_int Try.underlying3 w2) trodAll_mk0))), rfl, bel.frame _, fun h => by cases h⟩

theorem proved : Rows.GaugeBytesSaid :=
  OpenClaim.holds_of_wide 6 Try.f6 rfl rfl rfl rfl rfl rfl rfl ⟨rfl, rfl, rfl, rfl, rfl⟩ rfl rfl rfl rfl rfl (by kernel_rfl) Try.func6 (by kernel_rfl)
    (of_decide_eq_true (by kernel_rfl)) (by unfold Func.isWrapper; first | (rw [if_pos (by decide +kernel)]; kernel_rfl) | (rw [if_neg (by decide +kernel)]; exact ⟨rfl, rfl⟩))
    (fun os started H enc _ => lifted os started H enc)
end Go.Proofs.Ytnhjjdgdffjdcaa.gaugeBytes
