/-
  The document's Make of labels: its contract, for every world.
  Conditions: the labels lie in memory.
-/
import Derived.Test.YtpffhpnmbpjifaaLabR
namespace Go.Proofs.Ytpffhpnmbpjifaa
open Go.RowKit
set_option maxRecDepth 20000

theorem slice_toL (a : Option Addr) (n cap k : Nat) (hk : k ≤ cap) (w : World) :
    (Instr.slice 23 (.slice a n cap) none (some (.int .i64 (k : Int))) none).run Try.prog w = .ok (.slice a k cap) w := by
  rw [run_slice_h (P := Try.prog) w 23 a n cap Try.underlying23 .i64 (k : Int) (by omega) (by omega)]
  have hs : (sizeOf (Try.prog.elem 23)).run Try.prog w = .ok 2 w := by kernel_rfl
  rw [hs]
  simp only [Result.andThen, sliced, Int.toNat_natCast, Nat.zero_mul, Nat.sub_zero]
  cases a with
  | none => simp
  | some x => simp [Addr.add]
theorem slice_fromL (a : Option Addr) (n cap k : Nat) (hk : k ≤ n) (w : World) :
    (Instr.slice 23 (.slice a n cap) (some (.int .i64 (k : Int))) none none).run Try.prog w = .ok (.slice (if cap = k then a else a.map (·.add (k * 2))) (n - k) (cap - k)) w := by
  rw [run_slice_l (P := Try.prog) w 23 a n cap Try.underlying23 .i64 (k : Int) (by omega) (by omega)]
  have hs : (sizeOf (Try.prog.elem 23)).run Try.prog w = .ok 2 w := by kernel_rfl
  rw [hs]
  simp only [Result.andThen, sliced, Int.toNat_natCast]

theorem insL_at {x : Lb} : ∀ {m : List Lb} {k : Nat}, k ≤ m.length → (∀ j y, j < k → m[j]? = some y → Op.bytesLess x.1.toList y.1.toList = false) → (∀ y, m[k]? = some y → Op.bytesLess x.1.toList y.1.toList = true) → insL x m = m.take k ++ x :: m.drop k
  | [], k, hk, _, _ => by
    have : k = 0 := by simpa using hk
    subst this
    rfl
  | y :: t, 0, _, _, h2 => by
    show (if Op.bytesLess x.1.toList y.1.toList then x :: y :: t else y :: insL x t) = _
    rw [if_pos (h2 y rfl)]
    rfl
  | y :: t, k + 1, hk, h1, h2 => by
    show (if Op.bytesLess x.1.toList y.1.toList then x :: y :: t else y :: insL x t) = _
    rw [if_neg (by rw [h1 0 y (by omega) rfl]; decide), insL_at (m := t) (k := k) (by simpa using hk) (fun j z hj hz => h1 (j + 1) z (by omega) (by simpa using hz)) (fun z hz => h2 z (by simpa using hz))]
    rfl
theorem insL_sortedAt {x y : Lb} {m : List Lb} {k : Nat} (hs : m.Pairwise notLess) (hy : m[k]? = some y) (h1 : Op.bytesLess x.1.toList y.1.toList = false) : ∀ j z, j < k + 1 → m[j]? = some z → Op.bytesLess x.1.toList z.1.toList = false := by
  intro j z hj hz
  by_cases e : j = k
  · subst e
    rw [hy] at hz
    simp only [Option.some.injEq] at hz
    subst hz
    exact h1
  · have hlt : j < m.length := (List.getElem?_eq_some_iff.1 hz).1
    have hlk : k < m.length := (List.getElem?_eq_some_iff.1 hy).1
    have hp := List.pairwise_iff_getElem.1 hs j k hlt hlk (by omega)
    rw [List.getElem?_eq_getElem hlt] at hz
    rw [List.getElem?_eq_getElem hlk] at hy
    simp only [Option.some.injEq] at hy hz
    rw [hy, hz] at hp
    exact notLess_trans hp h1
theorem fulL_step {l : List Lb} {k : Nat} {x : Lb} (hx : l[k]? = some x) : fulL (l.take (k + 1)) = if x.2 = .empty then fulL (l.take k) else fulL (l.take k) ++ [x] := by
  have e : l.take (k + 1) = l.take k ++ [x] := by
    rw [List.take_add_one, hx]
    rfl
  rw [e]
  unfold fulL
  rw [List.filter_append]
  by_cases h : x.2 = .empty
  · simp [h]
  · simp [h]
theorem ba_void {a : ByteArray} (h : a.toList = []) : a = .empty := ba_ext (by rw [h, ByteArray.toList_eq]; rfl)
theorem sortL_snoc (l : List Lb) (x : Lb) : sortL (l ++ [x]) = insL x (sortL l) := by
  unfold sortL
  rw [List.foldl_append]
  rfl
theorem makeL_many {l : List Lb} {k : Nat} (h : 8 < (sortL (fulL (l.take k))).length) : makeL l = none := by
  unfold makeL
  rw [if_neg]
  intro hc
  have h1 := (sortL_perm (fulL l)).length_eq
  have h2 := (sortL_perm (fulL (l.take k))).length_eq
  have h3 : (fulL (l.take k)).length ≤ (fulL l).length := (List.Sublist.filter _ (List.take_sublist k l)).length_le
  unfold chkL at hc
  simp only [Bool.and_eq_true, decide_eq_true_eq] at hc
  omega
theorem sortL_mem {l : List Lb} {P : Lb → Prop} (h : ∀ x ∈ l, P x) (k : Nat) : ∀ x ∈ sortL (fulL (l.take k)), P x := fun x hx =>
  h x (List.mem_of_mem_take (List.mem_filter.1 ((sortL_perm _).mem_iff.1 hx)).1)

theorem quietB0 {P : Program} {f : Nat} {args : Array Value} {v : Value} {w : World} (h : Calls P f args w (fun e w' => e = .returned v ∧ ∃ q, w' = w.drewN q)) : Calls P f args w fun e w' => e = .returned v ∧ Below w.heap.size w w' :=
  h.mono fun e w' ⟨he, q, hq⟩ => ⟨he, by rw [hq]; exact bel_drewN (Below.refl _ _) q⟩
theorem RowL.hrow {w : World} {a : Option Addr} {n : Nat} {l : List Lb} (h : RowL w a n l) : ∀ ad, a = some ad → ∀ j u, (flatL l)[j]? = some u → w.cell? (ad.add j) = some u := by
  rintro ad rfl
  exact h.cells
theorem one_hrow (w : World) (x : Lb) (e : TypeId) : ∀ ad, some (⟨w.heap.size, 0, none⟩ : Addr) = some ad → ∀ j u, (flatL [x])[j]? = some u → (w.alloc (.cells #[.string x.1, .string x.2] e)).cell? (ad.add j) = some u := by
  rintro ad h j u hu
  simp only [Option.some.injEq] at h
  subst h
  exact lab_cells w x e j u hu
/-- What the document's Make, Parse tell. -/
def DocL (r : Option (List Lb)) (w w' : World) (e : Ending) : Prop :=
  Below w.heap.size w w' ∧ match r with
  | none => e = .returned (.tuple #[.slice none 0 0, .bool false])
  | some m => ∃ a c, e = .returned (.tuple #[.slice a m.length c, .bool true]) ∧ RowL w' a m.length m

end Go.Proofs.Ytpffhpnmbpjifaa
