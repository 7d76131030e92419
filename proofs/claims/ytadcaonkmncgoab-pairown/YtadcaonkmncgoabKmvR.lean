/-
  The document's own answer of layer 8 (the laws' reference): whether hashes may be, one more hash: contracts, for every world.
  Conditions: the slice shows its numbers; one more hash: of a list that may be.
-/
import Derived.Test.YtadcaonkmncgoabKmvA
import Derived.Test.YtadcaonkmncgoabChK
import Derived.Deep.QuietTactic
import Derived.BigQuiet
namespace Go.Proofs.Ytadcaonkmncgoab
open Go.RowKit
set_option maxRecDepth 20000

theorem row_at {k : IntKind} {w : World} {a : Option Addr} {n : Nat} {zs : List Int} (h : Row k w a n zs) {j : Nat} (hj : j < n) :
    ∃ b off, a = some ⟨b, off, none⟩ ∧ ∀ i, i < n → ∀ W, Below w.heap.size w W → W.cell? ⟨b, off + i, none⟩ = some (.int k (zs.getD i 0)) := by
  obtain ⟨-, -, -, h0 | ⟨b, off, rfl, hc⟩⟩ := id h
  · omega
  · refine ⟨b, off, rfl, fun i hi W hW => ?_⟩
    have hlt : b < w.heap.size := World.block_lt_of_cell? w _ (hc i hi)
    rw [hW.cell (p := ⟨b, off + i, none⟩) hlt]
    exact hc i hi

set_option maxHeartbeats 2000000 in
theorem refchk_any (a : Option Addr) (n cap : Nat) (l : List Int) (w : World) (hr : Row .u64 w a n l) :
    Calls Try.prog 14 #[.slice a n cap] w fun e w' => e = .returned (.bool (chkK l)) ∧ ∃ q, w' = w.drewN q := by
  have HR := hide hr
  have HL := hide hr.1
  have hn := hr.2.1
  have HWd := hide (fun i => hr.word i)
  clear hr
  have HU1 : Hid (upT (-1) (l.take 1) = true) := by
    show _ = _
    cases l with
    | nil => rfl
    | cons x t =>
      have := (HWd.out 0).1
      simp only [List.getD_cons_zero] at this
      simp only [List.take_succ_cons, List.take_zero, upT, Bool.and_true, decide_eq_true_eq]
      omega
  go_enter Try.func14, Try.ntmps14
  go_wp2
  go_loopw [3] (fun i wr => ∃ k : Nat, 1 ≤ k ∧ (k ≤ n ∨ k = 1) ∧ i = .int .i64 k ∧ Hid (upT (-1) (l.take k) = true) ∧ Hid (∃ q, wr = w.drewN q)) (fun i _ => n - (intOf i).toNat)
  case atStart => exact ⟨1, by omega, Or.inr rfl, rfl, HU1, ⟨0, rfl⟩⟩
  case round =>
    obtain ⟨k, k1, hk, rfl, HT, HW⟩ := hrel
    obtain ⟨q, hq⟩ := HW.out
    have HQ : Hid (∀ j, ∃ q, wr.drewN j = w.drewN q) := fun j => ⟨q + j, by rw [hq]; simp [World.drewN, Nat.add_assoc]⟩
    by_cases hlt : k < n
    · obtain ⟨j, rfl⟩ : ∃ j, k = j + 1 := ⟨k - 1, by omega⟩
      obtain ⟨b, off, rfl, hcc⟩ := row_at HR.out (j := j) (by omega)
      have hwr : Below w.heap.size w wr := by rw [hq]; exact ⟨rfl, rfl, rfl, Nat.le_refl _, fun _ _ => rfl⟩
      have f1 := hcc (j + 1) hlt wr hwr
      have f0 := hcc j (by omega) wr hwr
      have HTK : Hid (upT (-1) (l.take (j + 1 + 1)) = decide (l.getD j 0 < l.getD (j + 1) 0)) := by
        show _ = _
        rw [take_num (by rw [HL.out]; exact hlt), upT_snoc, HT.out, Bool.true_and, take_num (k := j) (by rw [HL.out]; omega), endK_snoc]
      clear hcc hwr hq
      generalize l.getD (j + 1) 0 = x at *
      generalize l.getD j 0 = y at *
      have i1 : (0 : Int) ≤ (j : Int) := by omega
      have i2 : (j : Int) < (n : Int) := by omega
      have i3 : (j : Int) + 1 < (n : Int) := by omega
      by_cases hxy : x ≤ y
      · have HF : Hid (chkK l = false) := by
          show _ = _
          unfold chkK
          rw [upT_prefix (j + 1 + 1) (by rw [HTK.out]; exact decide_eq_false (by omega)), Bool.false_and]
        have d1 : decide (x ≤ y) = true := decide_eq_true hxy
        clear HT HTK
        go_wp2
        go_quiet (fail)
        go_wp2
        go_ret
        rw [HF.out]
        exact ⟨rfl, HQ.out _⟩
      · have HN : Hid (upT (-1) (l.take (j + 1 + 1)) = true) := by
          show _ = _
          rw [HTK.out]; exact decide_eq_true (by omega)
        have d1 : decide (x ≤ y) = false := decide_eq_false hxy
        clear HT HTK
        go_wp2
        go_quiet (fail)
        go_wp2
        go_roundw
        case rel => exact ⟨j + 1 + 1, by omega, by omega, by go_num, HN, HQ.out _⟩
        case measure => simp [intOf]; omega
    · have HE : Hid (chkK l = decide ((n : Int) ≤ 1024)) := by
        show _ = _
        have h := HT.out
        rw [List.take_of_length_le (by rw [HL.out]; omega)] at h
        unfold chkK
        rw [h, Bool.true_and, HL.out]
        simp only [decide_eq_decide]
        omega
      have i3 : ¬ (k : Int) < (n : Int) := by omega
      clear hq
      go_wp2
      go_ret
      rw [HE.out]
      exact ⟨rfl, HW.out⟩

set_option maxRecDepth 20000 in
theorem slice_toU (a : Option Addr) (n cap k : Nat) (hk : k ≤ cap) (w : World) :
    (Instr.slice 23 (.slice a n cap) none (some (.int .i64 (k : Int))) none).run Try.prog w = .ok (.slice a k cap) w := by
  rw [run_slice_h (P := Try.prog) w 23 a n cap Try.underlying23 .i64 (k : Int) (by omega) (by omega)]
  have hs : (sizeOf (Try.prog.elem 23)).run Try.prog w = .ok 1 w := by kernel_rfl
  rw [hs]
  simp only [Result.andThen, sliced, Int.toNat_natCast, Nat.zero_mul, Nat.sub_zero]
  cases a with
  | none => simp
  | some x => simp [Addr.add]
set_option maxRecDepth 20000 in
theorem slice_fromU (a : Option Addr) (n cap k : Nat) (hk : k ≤ n) (w : World) :
    (Instr.slice 23 (.slice a n cap) (some (.int .i64 (k : Int))) none none).run Try.prog w = .ok (.slice (if cap = k then a else a.map (·.add k)) (n - k) (cap - k)) w := by
  rw [run_slice_l (P := Try.prog) w 23 a n cap Try.underlying23 .i64 (k : Int) (by omega) (by omega)]
  have hs : (sizeOf (Try.prog.elem 23)).run Try.prog w = .ok 1 w := by kernel_rfl
  rw [hs]
  simp only [Result.andThen, sliced, Int.toNat_natCast, Nat.mul_one]

/-- Where a row of the call's own lies. -/
theorem own_lies {e : TypeId} {k : IntKind} {w : World} {base n cap : Nat} {a : Option Addr} {zs : List Int} (h : Own e k w base a n cap zs) {x : Addr} (hx : a = some x) : base ≤ x.block ∧ x.block < w.heap.size := by
  have := row_cells h (g := x.block) (by rw [hx]; rfl)
  exact ⟨this.2, this.1.lt⟩
/-- A list of words that a call hands back: the one that it was given, or one in new memory. -/
def BackU (w w' : World) (e : Ending) (a : Option Addr) (l : List Int) : Prop := ∃ a' c', e = .returned (.slice a' l.length c') ∧ Row .u64 w' a' l.length l ∧ l.length ≤ c' ∧ (a' = none → c' = 0) ∧ Below w.heap.size w w' ∧ (a' = a ∨ ∀ x, a' = some x → w.heap.size ≤ x.block ∧ x.block < w'.heap.size)

end Go.Proofs.Ytadcaonkmncgoab
