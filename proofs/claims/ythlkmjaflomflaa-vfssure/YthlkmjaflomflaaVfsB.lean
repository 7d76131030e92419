/-
  The document's bytes of a file: a contract, for every world.
  Conditions: as each theorem says.
-/
import Derived.Test.YthlkmjaflomflaaVfsM
import Derived.Deep.Cut
import Derived.BigQuiet
import Derived.Deep.QuietTactic
namespace Go.Proofs.Ythlkmjaflomflaa
open Go.RowKit
set_option maxRecDepth 20000
set_option linter.unusedVariables false

def byV (z : Int) : List Value := [.int .u8 z]
theorem byV_len (z : Int) : (byV z).length = 1 := rfl
theorem byV_one1 (z : Int) : ∀ u ∈ byV z, u.oneCell' = true := by
  intro u hu
  obtain rfl := List.mem_singleton.1 hu
  rfl
theorem Try.infoU8 : (Try.prog.info? 5).map (fun i => (i.zero, i.size, i.bytes)) = some (some (.int .u8 0), 1, 1) := by kernel_rfl
abbrev OwnB (w : World) (base : Nat) (a : Option Addr) (n cap : Nat) (l : List Int) : Prop := OwnG 5 1 byV w base a n cap l
/-- A slice by its three words. -/
abbrev H3 := Option Addr × Nat × Nat
def h3V (h : H3) : Value := .slice h.1 h.2.1 h.2.2
/-- What Read tells. -/
def ReadP (x : Option (List Int)) (w : World) (e : Ending) (w' : World) : Prop := Below w.heap.size w w' ∧ match x with
  | none => e = .returned (.tuple #[.slice none 0 0, .int .i64 3])
  | some b => ∃ a c, e = .returned (.tuple #[.slice a b.length c, .int .i64 0]) ∧ OwnB w' w.heap.size a b.length c b
/-- Behind a call that may turn these blocks alone. -/
def StepV {α : Type} (At : World → Nat → (Nat → Prop) → α → Prop) (w w' : World) (g : Nat) (S : Nat → Prop) (F : α) : Prop :=
  ∃ S', At w' g S' F ∧ (∀ k, S' k → S k ∨ w.heap.size ≤ k) ∧ Ch S w w'
/-- One that is made. -/
def MadeV {α : Type} (At : World → Nat → (Nat → Prop) → α → Prop) (w w' : World) (g : Nat) (F : α) : Prop :=
  ∃ S, At w' g S F ∧ (∀ k, S k → w.heap.size ≤ k) ∧ Below w.heap.size w w'
def stV (s : ByteArray) : List Value := [.string s]
theorem stV_len (s : ByteArray) : (stV s).length = 1 := rfl
theorem stV_one1 (s : ByteArray) : ∀ u ∈ stV s, u.oneCell' = true := by
  intro u hu
  obtain rfl := List.mem_singleton.1 hu
  rfl
theorem Try.infoS16 : (Try.prog.info? 9).map (fun i => (i.zero, i.size, i.bytes)) = some (some (.string .empty), 1, 16) := by kernel_rfl
abbrev OwnS (w : World) (base : Nat) (a : Option Addr) (n cap : Nat) (l : List ByteArray) : Prop := OwnG 9 1 stV w base a n cap l
theorem OwnS.at' {w : World} {base n cap : Nat} {a : Option Addr} {l : List ByteArray} (h : OwnS w base a n cap l) {i : Nat} (hi : i < n) : ∃ g, a = some ⟨g, 0, none⟩ ∧ n ≤ cap ∧ w.cell? ⟨g, i, none⟩ = some (.string (l.getD i ByteArray.empty)) := by
  have hl := OwnG.len stV_len (by decide) h
  obtain ⟨g, h1, h2, h3, h4⟩ := OwnG.at stV_len (by decide) h (List.getElem?_eq_getElem (show i < l.length by omega))
  refine ⟨g, h1, h3, ?_⟩
  have := h4 0 _ rfl
  rw [Nat.mul_one, Nat.add_zero] at this
  rw [this, List.getD_eq_getElem?_getD, List.getElem?_eq_getElem (show i < l.length by omega)]
  rfl
theorem st_cells (w : World) (s : ByteArray) (e : TypeId) : ∀ ad, (some (⟨w.heap.size, 0, none⟩ : Addr)) = some ad → ∀ j u, ([s].flatMap stV)[j]? = some u → (w.alloc (.cells #[.string s] e)).cell? (ad.add j) = some u := by
  intro ad ha j u h
  obtain rfl := Option.some.inj ha
  match j, h with
  | 0, h => simp [stV] at h; subst h; rw [Addr.add_lit, World.cell?_alloc_mark]; rfl
theorem by_cells (w : World) (z : Int) (e : TypeId) : ∀ ad, (some (⟨w.heap.size, 0, none⟩ : Addr)) = some ad → ∀ j u, ([z].flatMap byV)[j]? = some u → (w.alloc (.cells #[.int .u8 z] e)).cell? (ad.add j) = some u := by
  intro ad ha j u h
  obtain rfl := Option.some.inj ha
  match j, h with
  | 0, h => simp [byV] at h; subst h; rw [Addr.add_lit, World.cell?_alloc_mark]; rfl
theorem unsB_take {b : List Int} {us : List Un} {k : Nat} {u : Un} (h : us[k]? = some u) : unsB b (us.take (k + 1)) = unB (unsB b (us.take k)) u := by
  obtain ⟨hk, e⟩ := List.getElem?_eq_some_iff.1 h
  unfold unsB
  rw [List.take_succ_eq_append_getElem hk, List.foldl_append, e]
  rfl
theorem okUs_at {us : List Un} : ∀ {b : List Int} {k : Nat} {u : Un}, okUs b us → us[k]? = some u → u.cut = true → 0 ≤ u.n ∧ u.n ≤ (unsB b (us.take k)).length := by
  induction us with
  | nil => intro b k u _ h; simp at h
  | cons x t ih =>
    intro b k u ok h hc
    cases k with
    | zero =>
      simp at h
      subst h
      simpa [unsB] using ok.1 hc
    | succ k =>
      have := ih ok.2 (by simpa using h) hc
      rw [List.take_succ_cons]
      unfold unsB at this ⊢
      rw [List.foldl_cons]
      exact this
theorem slice_to16 (a : Option Addr) (n cap k : Nat) (hk : k ≤ cap) (w : World) :
    (Instr.slice 22 (.slice a n cap) none (some (.int .i64 (k : Int))) none).run Try.prog w = .ok (.slice a k cap) w := by
  rw [run_slice_h (P := Try.prog) w 22 a n cap Try.underlying22 .i64 (k : Int) (by omega) (by omega)]
  have hs : (sizeOf (Try.prog.elem 22)).run Try.prog w = .ok 1 w := by kernel_rfl
  rw [hs]
  simp only [Result.andThen, sliced, Int.toNat_natCast, Nat.zero_mul, Nat.sub_zero]
  cases a with
  | none => simp
  | some x => simp [Addr.add]

end Go.Proofs.Ythlkmjaflomflaa
