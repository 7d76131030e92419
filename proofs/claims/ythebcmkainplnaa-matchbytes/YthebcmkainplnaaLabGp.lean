/-
  A set's bytes put: the program's own Put and the document's: contracts, for every world: the bytes lie in new memory.
  Conditions: at most eight labels, names of at most 32 bytes, values of at most 64; at most 2^47 bytes ahead.
-/
import Derived.Test.YthebcmkainplnaaLabG
import Derived.Test.YthebcmkainplnaaLabM
import Derived.Test.YthebcmkainplnaaChK
import Derived.Test.YthebcmkainplnaaCatK
import Derived.Test.YthebcmkainplnaaTxtB
namespace Go.Proofs.Ythebcmkainplnaa
open Go.RowKit
set_option maxRecDepth 20000

/-- A set whose bytes are few. -/
def SmL (l : List Lb) : Prop := l.length ≤ 8 ∧ ∀ x ∈ l, x.1.size ≤ 32 ∧ x.2.size ≤ 64
theorem putT_len {s : ByteArray} : 1 ≤ (putT (numsOf s)).length ∧ (putT (numsOf s)).length ≤ 10 + s.size := by
  have := putS_len (((numsOf s).length : Nat) : Int)
  unfold putT
  rw [List.length_append, numsOf_len]
  rw [numsOf_len] at this
  omega
theorem putT_byte {s : ByteArray} (h : s.size ≤ 64) : Bytes8 (putT (numsOf s)) := Bytes8.append (putS_byte (w64_len (by rw [numsOf_len]; omega))) (fun z hz => u8_of_wf (numsOf_wf s z hz))
theorem bodyL_fit : ∀ {l : List Lb}, (∀ x ∈ l, x.1.size ≤ 32 ∧ x.2.size ≤ 64) → (bodyL l).length ≤ 116 * l.length ∧ Bytes8 (bodyL l)
  | [], _ => ⟨by simp [bodyL], by intro z hz; simp [bodyL] at hz⟩
  | x :: l, h => by
    have hx := h x (by simp)
    obtain ⟨i1, i2⟩ := bodyL_fit (l := l) (fun y hy => h y (by simp [hy]))
    have p1 := putT_len (s := x.1)
    have p2 := putT_len (s := x.2)
    rw [bodyL_cons]
    refine ⟨?_, Bytes8.append (putT_byte (by omega)) (Bytes8.append (putT_byte hx.2) i2)⟩
    simp only [List.length_append, List.length_cons]
    omega
theorem putL_fit {l : List Lb} (h : SmL l) : 1 ≤ (putL l).length ∧ (putL l).length ≤ 938 ∧ Bytes8 (putL l) := by
  have i := bodyL_fit h.2
  have h1 := h.1
  have p := putS_len ((l.length : Nat) : Int)
  unfold putL
  refine ⟨?_, ?_, Bytes8.append (putS_byte (w64_len (by omega))) i.2⟩
  · rw [List.length_append]; omega
  · rw [List.length_append]; omega
theorem take_lab {l : List Lb} {k : Nat} {x : Lb} (h : l[k]? = some x) : l.take (k + 1) = l.take k ++ [x] := by
  rw [List.take_add_one, h]
  rfl
theorem bodyL_one (x : Lb) : bodyL [x] = putT (numsOf x.1) ++ putT (numsOf x.2) := by simp [bodyL]

/-- The append of a row's bytes behind bytes of the call's own: these alone turn. -/
theorem wpList_append_rowC {P : Program} (w : World) {ops : Array Oper} {rest : List Oper} {o : Oper} {a : Act} {Q : Exit → Act → World → Prop} (hgd : o.guard = none) (s x : Operand) (t : TypeId)
    (ho : o.op = .call { callee := .builtin .append, args := #[s, x], argTypes := #[t, t] })
    (base : Nat) (e : TypeId) (i : TypeInfo) (ht : P.underlying t = some (.slice e)) (hi : P.info? e = some i) (hz : i.zero = some (.int .u8 0)) (hsize : i.size = 1) (hby : i.bytes = 1)
    (ao : Option Addr) (n cap : Nat) (zs : List Int) (hs : a.eval s = .slice ao n cap) (hown : Own e .u8 w base ao n cap zs)
    (bo : Option Addr) (m c : Nat) (news : List Int) (hx : a.eval x = .slice bo m c) (hrow : Row .u8 w bo m news) (hbo : bo = none → c = 0)
    (hbytes : n + m ≤ 140737488355328) (hbase : base ≤ w.heap.size)
    (h : ∀ a' cap' w', Own e .u8 w' base a' (n + m) cap' (zs ++ news) → Below base w w' → Ch (fun k => (Value.slice ao n cap).ownBlock = some k) w w' → wpList P ops Q rest (a.put o.dst (.slice a' (n + m) cap')) w') : wpList P ops Q (o :: rest) a w := by
  cases bo with
  | none =>
    have h0 := hrow.nz rfl
    subst h0
    obtain rfl := hbo rfl
    have hz : news = [] := List.length_eq_zero_iff.1 hrow.1
    subst hz
    refine wpList_append_own_none hgd s x t ho base e i 1 ht hi _ n (zs.map (Value.int .u8)) hs hown hx ?_
    have := h ao cap w (by rw [List.append_nil]; exact hown) (Below.refl _ _) (Ch.refl _ _)
    exact this
  | some ad =>
    refine wpList_append_own w hgd s x t ho base e i (.int .u8 0) 1 1 ht hi hz hsize hby rfl (by decide) _ n (zs.map (Value.int .u8)) hs hown ad m c (news.map (Value.int .u8)) hx (by simp [hrow.1]) hrow.cells (one_cell .u8 news) (by unfold maxLen; omega) (by omega) hbase ?_
    intro v' w' h1 h2 _
    rw [← List.map_append] at h1
    obtain ⟨a', cap', rfl, h3⟩ := own_form h1
    exact h a' cap' w' h3 ((Below.refl _ _).grown h2 hbase (own_block hown)) (Ch.grown h2)

/-- A text put behind none. -/
theorem puttext0 (s : ByteArray) (hs : s.size ≤ 64) (w : World) :
    Calls Try.prog 70 #[.slice none 0 0, .string s] w fun e w' => ∃ a' m cap', e = .returned (.slice a' m cap') ∧ m ≤ 10 + s.size ∧ Mine w' w.heap.size a' m cap' (putT (numsOf s)) ∧ Row .u8 w' a' m (putT (numsOf s)) ∧ (a' = none → cap' = 0) ∧ Below w.heap.size w w' := by
  have h := puttext_any s none 0 0 [] w (by omega) (Nat.le_refl _) (nil_row _ _ _)
  rw [List.nil_append, Nat.zero_add] at h
  have hl := putT_len (s := s)
  refine h.mono ?_
  rintro e w' ⟨a', c', rfl, o, b⟩
  exact ⟨a', _, c', rfl, hl.2, o, o.row (by omega) (fits_wf (putT_byte hs)), o.capped.2, b⟩
theorem put0 (v : Int) (hv : W64 v) (w : World) :
    Calls Try.prog 40 #[.slice none 0 0, .int .u64 v] w fun e w' => ∃ a' m cap', e = .returned (.slice a' m cap') ∧ m ≤ 10 ∧ Mine w' w.heap.size a' m cap' (putS v) ∧ Below w.heap.size w w' := by
  have h := put_any v none 0 0 [] w hv (by omega) (Nat.le_refl _) (nil_row _ _ _)
  rw [List.nil_append, Nat.zero_add] at h
  refine h.mono ?_
  rintro e w' ⟨a', c', rfl, o, b⟩
  exact ⟨a', _, c', rfl, (putS_len v).2, o, b⟩

end Go.Proofs.Ythebcmkainplnaa
