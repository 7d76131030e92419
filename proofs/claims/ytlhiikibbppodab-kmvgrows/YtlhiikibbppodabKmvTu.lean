/-
  The law of layer 8 that to merge may be turned round and grouped, of any layer that keeps its contracts.
  Conditions: the contracts.
-/
import Derived.Test.YtlhiikibbppodabKmvT
namespace Go.Proofs.Ytlhiikibbppodab
open Go.RowKit

/-- What is asked of Merge. -/
structure KmvIM (At : World → Nat → (Nat → Prop) → List Int → Prop) : Prop where
  mergeOk : ∀ (g : Nat) (S : Nat → Prop) (l : List Int) (a : Option Addr) (n cap : Nat) (m : List Int) (w : World), At w g S l → Row .u64 w a n m → (0 < n → ∀ x, a = some x → ¬ S x.block) → chkK m = true →
    Calls Try.prog 14 #[.pointer (some ⟨g, 0, none⟩), .slice a n cap] w fun e w' => e = .returned (.int .i64 0) ∧ StepK At w w' g S (hashAll 1024 l m)
  mergeNo : ∀ (g : Nat) (S : Nat → Prop) (l : List Int) (a : Option Addr) (n cap : Nat) (m : List Int) (w : World), At w g S l → Row .u64 w a n m → chkK m = false →
    Calls Try.prog 14 #[.pointer (some ⟨g, 0, none⟩), .slice a n cap] w fun e w' => e = .returned (.int .i64 5) ∧ Below w.heap.size w w'

section
variable {At : World → Nat → (Nat → Prop) → List Int → Prop}
/-- Numbers of a call's own are merged. -/
theorem PoolB.merge (I : KmvI At) (IM : KmvIM At) {w W : World} {N : Nat} (q1 q2 : List (Nat × List Int)) {g : Nat} {l : List Int} (h : PoolB At w W N (q1 ++ (g, l) :: q2)) {a : Option Addr} {n cap : Nat} {m : List Int} (o : OwnU W N a n cap m) (hn : n ≤ 281474976710656) (hw : ∀ x ∈ m, W64 x) (hck : chkK m = true) :
    Calls Try.prog 14 #[.pointer (some ⟨g, 0, none⟩), .slice a n cap] W fun e W' => e = .returned (.int .i64 0) ∧ PoolK At w W' (q1 ++ (g, hashAll 1024 l m) :: q2) := by
  obtain ⟨S, h1, h2, h3⟩ := h.step I (l' := hashAll 1024 l m)
  refine (IM.mergeOk g S l a n cap m W h1 (OwnU.rowU o hn hw) (fun _ x hx hs => ?_) hck).mono ?_
  · subst hx
    have hb := own_block o x.block rfl
    have := (h2 _ hs).2
    omega
  · rintro e W' ⟨rfl, st⟩
    exact ⟨rfl, h3 W' st⟩
/-- .. with numbers that came in. -/
theorem PoolK.merge (I : KmvI At) (IM : KmvIM At) {w W : World} (q1 q2 : List (Nat × List Int)) {g : Nat} {l : List Int} (h : PoolK At w W (q1 ++ (g, l) :: q2)) {a : Option Addr} {n : Nat} (cap : Nat) {m : List Int} (hr : Row .u64 w a n m) (hck : chkK m = true) :
    Calls Try.prog 14 #[.pointer (some ⟨g, 0, none⟩), .slice a n cap] W fun e W' => e = .returned (.int .i64 0) ∧ PoolK At w W' (q1 ++ (g, hashAll 1024 l m) :: q2) := by
  obtain ⟨S, h1, h2, h3⟩ := (h.bound I).step I (l' := hashAll 1024 l m)
  refine (IM.mergeOk g S l a n cap m W h1 (hr.below h.low (Nat.le_refl _)) ?_ hck).mono (by
    rintro e W' ⟨rfl, st⟩
    exact ⟨rfl, h3 W' st⟩)
  intro hn x hx hs
  subst hx
  obtain ⟨b, off, hb, hc⟩ := row_at hr hn
  have hlt : b < w.heap.size := World.block_lt_of_cell? w _ (hc 0 hn w (Below.refl _ _))
  simp only [Option.some.injEq] at hb
  subst hb
  have := (h2 _ hs).1
  simp only at this
  omega
end
theorem merge_again {n : Nat} {a b c : List Int} (ha : Up a) (hb : Up b) (hc : Up c) (la : a.length ≤ n) (lb : b.length ≤ n) (lc : c.length ≤ n) : hashAll n (hashAll n a (hashAll n b c)) b = hashAll n (hashAll n a b) c := by
  rw [← (merge_turn ha hb hc la lb lc).2]
  rw [hashAll_uni (hashAll_len (hashAll_len la)), hashAll_uni (hashAll_len la), uni_take_left, hashAll_uni la]
  rw [uni_take_left (a := uni a b) (b := c), ← uni_take_left (a := uni ((uni a b).take n) c), uni_take_left (a := uni a b) (b := c), uni_take_left (a := uni (uni a b) c)]
  congr 1
  exact uni_same (up_uni (up_uni ha)) (fun x hx => mem_uni.2 (Or.inl (mem_uni.2 (Or.inr hx))))

end Go.Proofs.Ytlhiikibbppodab
