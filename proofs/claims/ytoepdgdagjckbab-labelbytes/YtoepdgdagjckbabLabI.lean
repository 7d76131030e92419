/-
  What the laws ask of the program's own functions on labels (contracts, for every world; what was there before stays), and the laws' awake over them.
  Conditions: the labels lie in memory.
-/
import Derived.Test.YtoepdgdagjckbabLabR
namespace Go.Proofs.Ytoepdgdagjckbab
open Go.RowKit
set_option maxRecDepth 20000

structure LaN : Prop where
  name : ∀ s w, s.size ≤ 9223372036854775807 → Calls Try.prog 34 #[.string s] w fun e w' => e = .returned (.bool (nameB s)) ∧ Below w.heap.size w w'
structure LaC : Prop where
  chk : ∀ a n cap l w, RowL w a n l → Calls Try.prog 19 #[.slice a n cap] w fun e w' => e = .returned (.bool (chkL l)) ∧ Below w.heap.size w w'
structure LaV : Prop where
  val : ∀ a n cap l nm w, RowL w a n l → nm.size ≤ 9223372036854775807 → Calls Try.prog 20 #[.slice a n cap, .string nm] w fun e w' => e = .returned (.string (valL l nm)) ∧ Below w.heap.size w w'
structure LaP : Prop where
  cmp : ∀ a n cap l b m capb r w, RowL w a n l → RowL w b m r → Calls Try.prog 21 #[.slice a n cap, .slice b m capb] w fun e w' => e = .returned (.int .i64 (cmpL l r)) ∧ Below w.heap.size w w'
/-- What Make tells. -/
def MadeL (r : Option (List Lb)) (err : Int) (w w' : World) (e : Ending) : Prop :=
  Below w.heap.size w w' ∧ match r with
  | none => ∃ a c, e = .returned (.tuple #[.slice a 0 c, .int .i64 err])
  | some m => ∃ a c, e = .returned (.tuple #[.slice a m.length c, .int .i64 0]) ∧ RowL w' a m.length m ∧ m.length ≤ c ∧ (a = none → c = 0)
structure LaM : Prop where
  make : ∀ a n cap l w, RowL w a n l → n ≤ 100 → Calls Try.prog 18 #[.slice a n cap] w fun e w' => MadeL (makeL l) 5 w w' e
structure LaT : Prop where
  text : ∀ a n cap l w, RowL w a n l → chkL l = true → Calls Try.prog 22 #[.slice a n cap] w fun e w' => e = .returned (.string (textL l)) ∧ Below w.heap.size w w'
structure LaS : Prop where
  parse : ∀ s w, s.size ≤ 20000 → Calls Try.prog 23 #[.string s] w fun e w' => MadeL (parseL s) 17 w w' e

def bB : ByteArray := ⟨#[98]⟩
def aB : ByteArray := ⟨#[97]⟩
def ex3 : List Lb := [(⟨#[98]⟩, ⟨#[50]⟩), (⟨#[97]⟩, ⟨#[49]⟩), (⟨#[99]⟩, .empty)]
def ex2 : List Lb := [(⟨#[97]⟩, ⟨#[49]⟩), (⟨#[98]⟩, ⟨#[50]⟩)]
theorem ex_make : makeL ex3 = some ex2 := by decide +kernel
theorem ex_chk : chkL ex2 = true := by decide +kernel
theorem ex_text : textL ex2 = ⟨#[97, 61, 34, 49, 34, 44, 98, 61, 34, 50, 34]⟩ := by decide +kernel
theorem ex_val : valL ex2 ⟨#[98]⟩ = ⟨#[50]⟩ := by decide +kernel
theorem ex_name : nameB ⟨#[57]⟩ = false := by decide +kernel
theorem ex_row (w : World) : RowL (w.alloc (.cells #[.string ⟨#[98]⟩, .string ⟨#[50]⟩, .string ⟨#[97]⟩, .string ⟨#[49]⟩, .string ⟨#[99]⟩, .string ⟨#[]⟩] 40)) (some ⟨w.heap.size, 0, none⟩) 3 ex3 := by
  refine ⟨rfl, by decide, ?_, Or.inr ⟨_, _, rfl, ?_⟩⟩
  · intro x hx
    simp only [ex3, List.mem_cons, List.not_mem_nil, or_false] at hx
    rcases hx with rfl | rfl | rfl <;> exact ⟨by decide, by decide⟩
  · intro i x hx
    match i, hx with
    | 0, hx => obtain rfl : _ = x := by simpa [ex3] using hx
               exact ⟨by simp [go_sem], by simp [go_sem]⟩
    | 1, hx => obtain rfl : _ = x := by simpa [ex3] using hx
               exact ⟨by simp [go_sem], by simp [go_sem]⟩
    | 2, hx => obtain rfl : _ = x := by simpa [ex3] using hx
               exact ⟨by simp [go_sem], by simp [go_sem]; rfl⟩
    | i + 3, hx => simp [ex3] at hx

set_option maxHeartbeats 2000000 in
theorem awakeL_any (N : LaN) (C : LaC) (V : LaV) (M : LaM) (T : LaT) (w : World) :
    Calls Try.prog 16 #[] w fun e w' => e = .returned (.bool true) ∧ Below w.heap.size w w' := by
  have C1 := hide (M.make _ 3 3 _ _ (ex_row w) (by decide))
  rw [ex_make] at C1
  unfold MadeL at C1
  simp only at C1
  have C2 := hide (fun W a c (q : RowL W a 2 ex2) => T.text a 2 c ex2 W q ex_chk)
  have C3 := hide (fun W a c (q : RowL W a 2 ex2) => V.val a 2 c ex2 ⟨#[98]⟩ W q (by decide))
  rw [ex_val] at C3
  have C4 := hide (fun W a c (q : RowL W a 2 ex2) => C.chk a 2 c ex2 W q)
  rw [ex_chk] at C4
  have C5 := hide (fun W => N.name ⟨#[57]⟩ W (by decide))
  rw [ex_name] at C5
  rw [ex_text] at C2
  have hl : ex2.length = 2 := rfl
  rw [hl] at C1
  clear hl
  go_enter Try.func16, Try.ntmps16
  go_wp2_with fail
  with_reducible refine C1.out.mono ?_
  rintro e v1 ⟨b1, a1, c1, rfl, r1, _, _⟩
  have L1 : Hid (Below w.heap.size w v1) := bel_to (bel_al (Below.refl w.heap.size w) (Nat.le_refl _) _) (Nat.le_refl _) b1
  have R1 := hide r1
  clear b1 r1 C1
  go_wp2_with fail
  with_reducible refine (C2.out _ _ _ R1.out).mono ?_
  rintro e v2 ⟨rfl, b2⟩
  have L2 : Hid (Below w.heap.size w v2) := bel_to L1.out (Nat.le_refl _) b2
  have R2 := hide (R1.out.below b2 (Nat.le_refl _))
  clear b2 C2 R1 L1
  go_wp2_with fail
  with_reducible refine (C3.out _ _ _ R2.out).mono ?_
  rintro e v3 ⟨rfl, b3⟩
  have L3 : Hid (Below w.heap.size w v3) := bel_to L2.out (Nat.le_refl _) b3
  have R3 := hide (R2.out.below b3 (Nat.le_refl _))
  clear b3 C3 R2 L2
  go_wp2_with fail
  with_reducible refine (C4.out _ _ _ R3.out).mono ?_
  rintro e v4 ⟨rfl, b4⟩
  have L4 : Hid (Below w.heap.size w v4) := bel_to L3.out (Nat.le_refl _) b4
  clear b4 C4 R3 L3
  go_wp2_with fail
  with_reducible refine (C5.out _).mono ?_
  rintro e v5 ⟨rfl, b5⟩
  have L5 : Hid (Below w.heap.size w v5) := bel_to L4.out (Nat.le_refl _) b5
  clear b5 C5 L4
  go_wp2
  go_ret
  exact ⟨rfl, L5.out⟩
end Go.Proofs.Ytoepdgdagjckbab
