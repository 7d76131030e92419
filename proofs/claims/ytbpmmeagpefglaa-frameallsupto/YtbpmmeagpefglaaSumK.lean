/-
  Plain arithmetic: one bit's step of the sum's register, many of them, four at once by the table, eight at once by a byte; a string of bytes as one whole number, and the register behind it.
  Conditions: as each theorem says; whole numbers alone.
-/
import Derived.WalkKit
namespace Go.Proofs.Ytbpmmeagpefglaa.Cr

/-- One bit down; if the bit that went out was 1: the constant upon it. -/
def step (r : Nat) : Nat := (r / 2) ^^^ (if r % 2 = 1 then 2197175160 else 0)
def it : Nat → Nat → Nat
  | 0, r => r
  | n + 1, r => it n (step r)

theorem xor_half (a b : Nat) : (a ^^^ b) / 2 = (a / 2) ^^^ (b / 2) := by
  have := Nat.shiftRight_xor_distrib (a := a) (b := b) (i := 1)
  simpa [Nat.shiftRight_eq_div_pow] using this

theorem xor_cancel (a b : Nat) : a ^^^ (a ^^^ b) = b := by rw [← Nat.xor_assoc, Nat.xor_self, Nat.zero_xor]
theorem xor_swap (a b c d : Nat) : (a ^^^ b) ^^^ (c ^^^ d) = (a ^^^ c) ^^^ (b ^^^ d) := by
  rw [Nat.xor_assoc, ← Nat.xor_assoc b c d, Nat.xor_comm b c, Nat.xor_assoc c b d, ← Nat.xor_assoc]

theorem step_xor (a b : Nat) : step (a ^^^ b) = step a ^^^ step b := by
  unfold step
  rw [xor_half]
  have h := Nat.xor_mod_two_eq_one (a := a) (b := b)
  by_cases ha : a % 2 = 1 <;> by_cases hb : b % 2 = 1
  · rw [if_neg (by rw [h]; simp [ha, hb]), if_pos ha, if_pos hb, xor_swap, Nat.xor_self]
  · rw [if_pos (by rw [h]; simp [ha]; omega), if_pos ha, if_neg hb, xor_swap, Nat.xor_zero]
  · rw [if_pos (by rw [h]; simp [hb]; omega), if_neg ha, if_pos hb, xor_swap, Nat.zero_xor]
  · rw [if_neg (by rw [h]; simp [ha, hb]), if_neg ha, if_neg hb, Nat.xor_zero, Nat.xor_zero, Nat.xor_zero]

theorem it_xor (n : Nat) : ∀ a b : Nat, it n (a ^^^ b) = it n a ^^^ it n b := by
  induction n with
  | zero => intro a b; rfl
  | succ n ih => intro a b; show it n (step _) = _; rw [step_xor, ih]; rfl

theorem it_add (m n : Nat) : ∀ r, it (m + n) r = it n (it m r) := by
  induction m with
  | zero => intro r; rw [Nat.zero_add]; rfl
  | succ m ih => intro r; rw [show m + 1 + n = (m + n) + 1 from by omega]; show it (m + n) (step r) = _; rw [ih]; rfl

theorem it_succ (n r : Nat) : it (n + 1) r = step (it n r) := by rw [it_add]; rfl

theorem step_two (x : Nat) : step (2 * x) = x := by
  unfold step
  rw [if_neg (by omega), Nat.xor_zero]
  omega

theorem it_shl (n : Nat) : ∀ x, it n (x * 2 ^ n) = x := by
  induction n with
  | zero => intro x; show x * 1 = x; omega
  | succ n ih => intro x; show it n (step _) = _; rw [show x * 2 ^ (n + 1) = 2 * (x * 2 ^ n) from by rw [Nat.pow_succ]; ac_rfl, step_two, ih]

theorem step_lt {r : Nat} (h : r < 4294967296) : step r < 4294967296 := by
  unfold step
  exact Nat.xor_lt_two_pow (n := 32) (by omega) (by split <;> omega)

theorem it_lt (n : Nat) : ∀ {r : Nat}, r < 4294967296 → it n r < 4294967296 := by
  induction n with
  | zero => intro r h; exact h
  | succ n ih => intro r h; exact ih (step_lt h)

theorem xor_zero_eq {a b : Nat} (h : a ^^^ b = 0) : a = b := by
  have := xor_cancel a b
  rw [h, Nat.xor_zero] at this
  exact this

theorem step_none {r : Nat} (h : r < 4294967296) (e : step r = 0) : r = 0 := by
  unfold step at e
  have := xor_zero_eq e
  by_cases k : r % 2 = 1
  · rw [if_pos k] at this; omega
  · rw [if_neg k] at this; omega

theorem it_none (n : Nat) : ∀ {r : Nat}, r < 4294967296 → it n r = 0 → r = 0 := by
  induction n with
  | zero => intro r _ e; exact e
  | succ n ih => intro r h e; exact step_none h (ih (step_lt h) e)

theorem it_zero (n : Nat) : it n 0 = 0 := by
  induction n with
  | zero => rfl
  | succ n ih => exact ih

/-- A number cut at a bit: both parts, upon each other. -/
theorem cut_xor (n x y : Nat) (h : y < 2 ^ n) : x * 2 ^ n + y = (x * 2 ^ n) ^^^ y := by
  apply Nat.eq_of_testBit_eq
  intro j
  rw [Nat.testBit_xor, Nat.mul_comm x, Nat.testBit_two_pow_mul_add x h, Nat.testBit_two_pow_mul]
  by_cases hj : j < n
  · have hn : ¬ n ≤ j := by omega
    simp [hj, hn]
  · have hy : y.testBit j = false := Nat.testBit_lt_two_pow (Nat.lt_of_lt_of_le h (Nat.pow_le_pow_right (by omega) (by omega)))
    have hn : n ≤ j := by omega
    simp [hj, hn, hy]

def tab (i : Nat) : Nat := it 4 i

/-- Four bits at once. -/
theorem it_four (r : Nat) : it 4 r = (r / 16) ^^^ tab (r % 16) := by
  have e : r = (r / 16) * 2 ^ 4 + r % 16 := by omega
  have c := cut_xor 4 (r / 16) (r % 16) (by omega)
  have s := it_shl 4 (r / 16)
  unfold tab
  conv => lhs; rw [e, c, it_xor, s]

/-- A byte put in, eight bits at once. -/
def byte (r z : Nat) : Nat := it 8 (r ^^^ z)

theorem byte_tab (r z : Nat) : byte r z = it 4 (it 4 (r ^^^ z)) := it_add 4 4 _

theorem byte_lt {r z : Nat} (h : r < 4294967296) (hz : z < 256) : byte r z < 4294967296 :=
  it_lt 8 (Nat.xor_lt_two_pow (n := 32) (by omega) (by omega))

/-- The document's own way: bit by bit of the byte, held against the bit that goes out. -/
theorem bit_next (r z k : Nat) :
    it (k + 1) (r ^^^ (z % 2 ^ (k + 1))) = step (it k (r ^^^ (z % 2 ^ k)) ^^^ (z / 2 ^ k % 2)) := by
  have e : z % 2 ^ (k + 1) = (z / 2 ^ k % 2) * 2 ^ k + z % 2 ^ k := by
    rw [Nat.pow_succ, Nat.mod_mul]; rw [Nat.mul_comm (2 ^ k)]; omega
  have c := cut_xor k (z / 2 ^ k % 2) (z % 2 ^ k) (Nat.mod_lt _ (Nat.two_pow_pos k))
  rw [e, c, Nat.xor_comm (_ * 2 ^ k), ← Nat.xor_assoc, it_succ, it_xor, it_shl]

theorem step_bit (y b : Nat) (hb : b < 2) : step (y ^^^ b) = (y / 2) ^^^ (if y % 2 = b then 0 else 2197175160) := by
  unfold step
  have h := Nat.xor_mod_two_eq_one (a := y) (b := b)
  rw [xor_half, show b / 2 = 0 from by omega, Nat.xor_zero]
  congr 1
  by_cases e : y % 2 = b
  · rw [if_neg (by rw [h]; omega), if_pos e]
  · rw [if_pos (by rw [h]; omega), if_neg e]

/-- The register behind bytes. -/
def reg (r : Nat) (l : List Nat) : Nat := l.foldl byte r

theorem reg_lt (l : List Nat) : ∀ {r : Nat}, r < 4294967296 → (∀ z ∈ l, z < 256) → reg r l < 4294967296 := by
  induction l with
  | nil => intro r h _; exact h
  | cons z l ih => intro r h hz; exact ih (byte_lt h (hz z (by simp))) (fun y hy => hz y (by simp [hy]))

theorem reg_append (r : Nat) (a b : List Nat) : reg r (a ++ b) = reg (reg r a) b := List.foldl_append ..

/-- Bytes as one number, the first the lowest. -/
def num : List Nat → Nat
  | [] => 0
  | z :: l => z + 256 * num l

theorem num_cons {z : Nat} {l : List Nat} (h : z < 256) : num (z :: l) = z ^^^ (num l * 2 ^ 8) := by
  rw [Nat.xor_comm, ← cut_xor 8 _ _ h]
  show z + 256 * num l = _
  omega

theorem reg_num (l : List Nat) : ∀ (r : Nat), (∀ z ∈ l, z < 256) → reg r l = it (8 * l.length) (r ^^^ num l) := by
  induction l with
  | nil => intro r _; show r = r ^^^ 0; rw [Nat.xor_zero]
  | cons z l ih =>
    intro r hz
    have := ih (byte r z) (fun y hy => hz y (by simp [hy]))
    show reg (byte r z) l = _
    rw [this, num_cons (hz z (by simp)), ← Nat.xor_assoc, List.length_cons, show 8 * (l.length + 1) = 8 + 8 * l.length from by omega, it_add, it_xor 8, it_shl]
    rfl

theorem num_inj : ∀ (a b : List Nat), a.length = b.length → (∀ z ∈ a, z < 256) → (∀ z ∈ b, z < 256) → num a = num b → a = b := by
  intro a
  induction a with
  | nil => intro b hl _ _ _; cases b with | nil => rfl | cons _ _ => simp at hl
  | cons x a ih =>
    intro b hl ha hb e
    cases b with
    | nil => simp at hl
    | cons y b =>
      have hx := ha x (by simp)
      have hy := hb y (by simp)
      unfold num at e
      have e1 : x = y := by omega
      have e2 : num a = num b := by omega
      rw [e1, ih b (by simpa using hl) (fun z hz => ha z (by simp [hz])) (fun z hz => hb z (by simp [hz])) e2]

theorem num_zip : ∀ (a b : List Nat), a.length = b.length → (∀ z ∈ a, z < 256) → (∀ z ∈ b, z < 256) → num (List.zipWith (· ^^^ ·) a b) = num a ^^^ num b := by
  intro a
  induction a with
  | nil => intro b hl _ _; cases b with | nil => rfl | cons _ _ => simp at hl
  | cons x a ih =>
    intro b hl ha hb
    cases b with
    | nil => simp at hl
    | cons y b =>
      have hx := ha x (by simp)
      have hy := hb y (by simp)
      have := ih b (by simpa using hl) (fun z hz => ha z (by simp [hz])) (fun z hz => hb z (by simp [hz]))
      rw [List.zipWith_cons_cons, num_cons (Nat.xor_lt_two_pow (n := 8) hx hy), num_cons hx, num_cons hy, this, xor_swap]
      congr 1
      have := Nat.shiftLeft_xor_distrib (a := num a) (b := num b) (i := 8)
      rw [Nat.shiftLeft_eq, Nat.shiftLeft_eq, Nat.shiftLeft_eq] at this
      exact this

/-- One bit turned in one byte is one bit turned in the number. -/
theorem num_set : ∀ (l : List Nat) (p q : Nat), p < l.length → q < 8 → (∀ z ∈ l, z < 256) → num (l.set p (l.getD p 0 ^^^ 2 ^ q)) = num l ^^^ 2 ^ (8 * p + q) := by
  intro l
  induction l with
  | nil => intro p q h _ _; simp at h
  | cons x l ih =>
    intro p q h hq hl
    have hx := hl x (by simp)
    have h2 : 2 ^ q < 256 := Nat.pow_lt_pow_right (by omega) hq
    cases p with
    | zero =>
      show num ((x ^^^ 2 ^ q) :: l) = _
      rw [num_cons (Nat.xor_lt_two_pow (n := 8) hx h2), num_cons hx, Nat.mul_zero, Nat.zero_add, Nat.xor_assoc, Nat.xor_assoc, Nat.xor_comm (2 ^ q)]
    | succ p =>
      have := ih p q (by simpa using h) hq (fun z hz => hl z (by simp [hz]))
      show num (x :: l.set p (l.getD p 0 ^^^ 2 ^ q)) = _
      rw [num_cons hx, num_cons hx, this, Nat.xor_assoc]
      congr 1
      have := Nat.shiftLeft_xor_distrib (a := num l) (b := 2 ^ (8 * p + q)) (i := 8)
      rw [Nat.shiftLeft_eq, Nat.shiftLeft_eq, Nat.shiftLeft_eq] at this
      rw [this, ← Nat.pow_add, show 8 * p + q + 8 = 8 * (p + 1) + q from by omega]
end Go.Proofs.Ytbpmmeagpefglaa.Cr
