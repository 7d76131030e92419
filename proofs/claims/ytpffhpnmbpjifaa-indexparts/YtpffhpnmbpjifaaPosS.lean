/-
  Rising lists by the document (put, Less, Most): contracts, for every world.
  Conditions: the slices show their numbers; at most so many as each theorem says.
-/
import Derived.Test.YtpffhpnmbpjifaaPosR
import Derived.Deep.RegionHeld3
import Derived.Deep.DeepCutAuto
import Derived.Deep.CutBlock
namespace Go.Proofs.Ytpffhpnmbpjifaa
open Go.RowKit
set_option maxRecDepth 20000

theorem slice_toI (a : Option Addr) (n cap k : Nat) (hk : k ≤ cap) (w : World) :
    (Instr.slice 38 (.slice a n cap) none (some (.int .i64 (k : Int))) none).run Try.prog w = .ok (.slice a k cap) w := by
  rw [run_slice_h (P := Try.prog) w 38 a n cap Try.underlying38 .i64 (k : Int) (by omega) (by omega)]
  have hs : (sizeOf (Try.prog.elem 38)).run Try.prog w = .ok 1 w := by kernel_rfl
  rw [hs]
  simp only [Result.andThen, sliced, Int.toNat_natCast, Nat.zero_mul, Nat.sub_zero]
  cases a with
  | none => simp
  | some x => simp [Addr.add]
theorem slice_fromI (a : Option Addr) (n cap k : Nat) (hk : k ≤ n) (w : World) :
    (Instr.slice 38 (.slice a n cap) (some (.int .i64 (k : Int))) none none).run Try.prog w = .ok (.slice (if cap = k then a else a.map (·.add k)) (n - k) (cap - k)) w := by
  rw [run_slice_l (P := Try.prog) w 38 a n cap Try.underlying38 .i64 (k : Int) (by omega) (by omega)]
  have hs : (sizeOf (Try.prog.elem 38)).run Try.prog w = .ok 1 w := by kernel_rfl
  rw [hs]
  simp only [Result.andThen, sliced, Int.toNat_natCast, Nat.mul_one]
theorem insI_mem {v : Int} {l : List Int} (hu : upI l) (h : v ∈ l) : insI v l = l := upI_ext (upI_insI hu) hu (fun x => by
  rw [mem_insI]
  exact ⟨fun q => q.elim (fun e => e ▸ h) id, Or.inr⟩)
theorem insI_cut {v : Int} {l : List Int} {k : Nat} (hu : upI l) (h1 : ∀ x ∈ l.take k, x < v) (h2 : ∀ x ∈ l.drop k, v < x) : l.take k ++ [v] ++ l.drop k = insI v l := by
  refine upI_ext ?_ (upI_insI hu) (fun x => ?_)
  · have hu' : upI (l.take k ++ l.drop k) := by rw [List.take_append_drop]; exact hu
    unfold upI at hu' ⊢
    rw [List.pairwise_append] at hu'
    rw [List.pairwise_append, List.pairwise_append]
    obtain ⟨p1, p2, p3⟩ := hu'
    refine ⟨⟨p1, by simp, fun x hx y hy => ?_⟩, p2, fun x hx y hy => ?_⟩
    · simp at hy
      rw [hy]
      exact h1 x hx
    · rcases List.mem_append.1 hx with hx | hx
      · exact p3 x hx y hy
      · simp at hx
        rw [hx]
        exact h2 y hy
  · rw [mem_insI, List.append_assoc, List.mem_append, List.mem_append]
    have e : x ∈ l ↔ x ∈ l.take k ∨ x ∈ l.drop k := by rw [← List.mem_append, List.take_append_drop]
    rw [e]
    simp only [List.mem_singleton]
    constructor
    · rintro (h | h | h)
      · exact Or.inr (Or.inl h)
      · exact Or.inl h
      · exact Or.inr (Or.inr h)
    · rintro (h | h | h)
      · exact Or.inr (Or.inl h)
      · exact Or.inl h
      · exact Or.inr (Or.inr h)
theorem drop_get {l : List Int} {k : Nat} (h : k < l.length) : l.drop k = l.getD k 0 :: l.drop (k + 1) := by
  rw [List.drop_eq_getElem_cons h, getD_is h]
theorem take_below {v : Int} {l : List Int} {k : Nat} (hu : upI l) (hv : v ∉ l) (hk : k + 1 ≤ l.length) (h : ¬ v < l.getD k 0) : ∀ x ∈ l.take (k + 1), x < v := by
  intro x hx
  have hne : x ≠ v := fun e => hv (e ▸ List.mem_of_mem_take hx)
  rw [take_get (by omega)] at hx
  have hu2 := upI_take (k + 1) hu
  rw [take_get (by omega)] at hu2
  rcases List.mem_append.1 hx with h1 | h1
  · have := (upI_snoc.1 hu2).2 x h1
    omega
  · rw [List.mem_singleton] at h1
    omega

/-- Is it not among these? -/
def outB (ys : List Int) (x : Int) : Bool := decide (x ∉ ys)
end Go.Proofs.Ytpffhpnmbpjifaa
