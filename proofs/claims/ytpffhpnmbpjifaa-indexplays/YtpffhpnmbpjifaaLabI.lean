/-
  What the laws ask of the program's own functions on labels (contracts, for every world; what was there before stays), and the laws' awake over them.
  Conditions: the labels lie in memory.
-/
import Derived.Test.YtpffhpnmbpjifaaLabR
namespace Go.Proofs.Ytpffhpnmbpjifaa
open Go.RowKit
set_option maxRecDepth 20000

structure LaN : Prop where
  name : ∀ s w, s.size ≤ 9223372036854775807 → Calls Try.prog 43 #[.string s] w fun e w' => e = .returned (.bool (nameB s)) ∧ Below w.heap.size w w'
structure LaC : Prop where
  chk : ∀ a n cap l w, RowL w a n l → Calls Try.prog 26 #[.slice a n cap] w fun e w' => e = .returned (.bool (chkL l)) ∧ Below w.heap.size w w'
/-- What Make tells. -/
def MadeL (r : Option (List Lb)) (err : Int) (w w' : World) (e : Ending) : Prop :=
  Below w.heap.size w w' ∧ match r with
  | none => ∃ a c, e = .returned (.tuple #[.slice a 0 c, .int .i64 err])
  | some m => ∃ a c, e = .returned (.tuple #[.slice a m.length c, .int .i64 0]) ∧ RowL w' a m.length m ∧ m.length ≤ c ∧ (a = none → c = 0)
structure LaT : Prop where
  text : ∀ a n cap l w, RowL w a n l → chkL l = true → Calls Try.prog 27 #[.slice a n cap] w fun e w' => e = .returned (.string (textL l)) ∧ Below w.heap.size w w'
def bB : ByteArray := ⟨#[98]⟩
def aB : ByteArray := ⟨#[97]⟩
def ex3 : List Lb := [(⟨#[98]⟩, ⟨#[50]⟩), (⟨#[97]⟩, ⟨#[49]⟩), (⟨#[99]⟩, .empty)]
def ex2 : List Lb := [(⟨#[97]⟩, ⟨#[49]⟩), (⟨#[98]⟩, ⟨#[50]⟩)]
theorem ex_make : makeL ex3 = some ex2 := by decide +kernel
theorem ex_chk : chkL ex2 = true := by decide +kernel
theorem ex_text : textL ex2 = ⟨#[97, 61, 34, 49, 34, 44, 98, 61, 34, 50, 34]⟩ := by decide +kernel
theorem ex_val : valL ex2 ⟨#[98]⟩ = ⟨#[50]⟩ := by decide +kernel
theorem ex_name : nameB ⟨#[57]⟩ = false := by decide +kernel
theorem ex_row (w : World) : RowL (w.alloc (.cells #[.string ⟨#[98]⟩, .string ⟨#[50]⟩, .string ⟨#[97]⟩, .string ⟨#[49]⟩, .string ⟨#[99]⟩, .string ⟨#[]⟩] 41)) (some ⟨w.heap.size, 0, none⟩) 3 ex3 := by
  refine ⟨rfl, by decide, ?_, Or.inr ⟨_, _, rfl, ?_⟩⟩
  · intro x hx
    simp only [ex3, List.mem_cons, List.not_mem_nil, or_false] at hx
    rcases hx with rfl | rfl | rfl <;> exact ⟨by decide, by decide⟩
  · intro i x hx
    match i, hx with
    | 0, hx => obtain rfl : _ = x := by simpa [ex3] using hx
               exact ⟨by simp [go_sem], by simp [go_sem]⟩
    | 1, hx => obtain rfl : _ = x := by simpa [ex3] using hx
               exact ⟨by simp [go_sem], by simp [go_sem]⟩
    | 2, hx => obtain rfl : _ = x := by simpa [ex3] using hx
               exact ⟨by simp [go_sem], by simp [go_sem]; rfl⟩
    | i + 3, hx => simp [ex3] at hx

end Go.Proofs.Ytpffhpnmbpjifaa
