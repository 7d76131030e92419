/-
  Frames one behind the other, as plain lists: which frames there are, cut anywhere, and with one byte turned.
  Conditions: as each theorem says; bytes are 0 to 255, bodies have 1 to 1048576 bytes.
-/
import Derived.Test.YtbpmmeagpefglaaFrameI
namespace Go.Proofs.Ytbpmmeagpefglaa
open Go.RowKit

/-- Bodies in frames. -/
def laidS (gs : List (List Int)) : List Int := gs.flatMap frameS
/-- Where each body begins, and how many bytes it has. -/
def posS : Nat → List (List Int) → List (Nat × Nat)
  | _, [] => []
  | k, s :: t => (k + (putS s.length).length + 4, s.length) :: posS (k + (frameS s).length) t
/-- Bodies that may be. -/
def Good (gs : List (List Int)) : Prop := ∀ s ∈ gs, 1 ≤ s.length ∧ s.length ≤ 1048576 ∧ Bytes8 s

theorem Good.tail {s : List Int} {t : List (List Int)} (h : Good (s :: t)) : Good t := fun x hx => h x (List.mem_cons_of_mem _ hx)
theorem Good.take {gs : List (List Int)} (h : Good gs) (n : Nat) : Good (gs.take n) := fun x hx => h x (List.mem_of_mem_take hx)
theorem laidS_cons (s : List Int) (t : List (List Int)) : laidS (s :: t) = frameS s ++ laidS t := by simp [laidS]
theorem laidS_append (a b : List (List Int)) : laidS (a ++ b) = laidS a ++ laidS b := by simp [laidS]
theorem laidS_byte {gs : List (List Int)} (h : Good gs) : Bytes8 (laidS gs) := by
  intro z hz
  obtain ⟨s, hs, hz'⟩ := List.mem_flatMap.1 hz
  exact frameS_byte (h s hs).2.2 (by have := (h s hs).2.1; omega) z hz'
theorem frameS_long (s : List Int) : 5 + s.length ≤ (frameS s).length ∧ (frameS s).length ≤ 14 + s.length := by
  have := putS_len (s.length : Int)
  rw [frameS_len]; omega
theorem laidS_long (gs : List (List Int)) : gs.length ≤ (laidS gs).length := by
  induction gs with
  | nil => simp
  | cons s t ih =>
    have := frameS_long s
    rw [laidS_cons, List.length_append, List.length_cons]; omega

theorem walk_laid (gs : List (List Int)) (hg : Good gs) (xs ys : List Int) (hno : findS (xs ++ (laidS gs ++ ys)) ((xs.length + (laidS gs).length : Nat) : Int) = none) (f : Nat) (hf : gs.length < f) :
    walkS (xs ++ (laidS gs ++ ys)) f xs.length = posS xs.length gs := by
  induction gs generalizing xs f with
  | nil => exact walk_end hno
  | cons s t ih =>
    obtain ⟨f, rfl⟩ : ∃ g, f = g + 1 := ⟨f - 1, by simp at hf; omega⟩
    have hs := hg s (by simp)
    have e : xs ++ (laidS (s :: t) ++ ys) = xs ++ (frameS s ++ (laidS t ++ ys)) := by rw [laidS_cons, List.append_assoc]
    have e2 : xs ++ (frameS s ++ (laidS t ++ ys)) = (xs ++ frameS s) ++ (laidS t ++ ys) := by rw [List.append_assoc]
    have hfind := findS_at hs.1 hs.2.1 xs (laidS t ++ ys)
    rw [e, walk_step hfind, posS]
    have hl : xs.length + (putS (s.length : Int)).length + 4 + s.length = (xs ++ frameS s).length := by rw [List.length_append, frameS_len]; omega
    have hl2 : xs.length + (frameS s).length = (xs ++ frameS s).length := by rw [List.length_append]
    rw [hl, hl2, e2, ih hg.tail (xs ++ frameS s) ?_ f (by simp at hf; omega)]
    rw [e, laidS_cons, List.length_append, ← Nat.add_assoc, ← List.length_append, e2] at hno
    exact hno

theorem frames_laid (gs : List (List Int)) (hg : Good gs) (ys : List Int) (hno : findS (laidS gs ++ ys) ((laidS gs).length : Int) = none) : framesS (laidS gs ++ ys) = posS 0 gs := by
  have := laidS_long gs
  unfold framesS
  have h := walk_laid gs hg [] ys (by simpa using hno) ((laidS gs ++ ys).length + 1) (by rw [List.length_append]; omega)
  simpa using h
theorem frames_all (gs : List (List Int)) (hg : Good gs) : framesS (laidS gs) = posS 0 gs := by
  have := frames_laid gs hg [] (by rw [List.append_nil]; exact findS_end _)
  rwa [List.append_nil] at this

theorem posS_len (gs : List (List Int)) (k : Nat) : (posS k gs).length = gs.length := by
  induction gs generalizing k with
  | nil => rfl
  | cons s t ih => rw [posS, List.length_cons, ih, List.length_cons]
theorem posS_snoc (gs : List (List Int)) (s : List Int) (k : Nat) : posS k (gs ++ [s]) = posS k gs ++ [(k + (laidS gs).length + (putS s.length).length + 4, s.length)] := by
  induction gs generalizing k with
  | nil => simp [posS, laidS]
  | cons r t ih => rw [List.cons_append, posS, ih, posS, List.cons_append, laidS_cons, List.length_append, ← Nat.add_assoc k (frameS r).length]

/-- Frames that are cut are none. -/
theorem findS_cut {body : List Int} (h2 : body.length ≤ 1048576) (hb : Bytes8 body) {xs : List Int} (hx : Bytes8 xs) {j : Nat} (hj : j < (frameS body).length) : findS (xs ++ (frameS body).take j) xs.length = none := by
  cases hf : findS (xs ++ (frameS body).take j) xs.length with
  | none => rfl
  | some p =>
    exfalso
    obtain ⟨st, v⟩ := p
    have hfb := frameS_byte hb (by omega)
    have hbytes : Bytes8 (xs ++ (frameS body).take j) := Bytes8.append hx (fun z hz => hfb z (List.mem_of_mem_take hz))
    obtain ⟨k1, k2, k3, k, hk, hst, hl, hd⟩ := findS_some hbytes hf
    have hkk : k = xs.length := by omega
    subst hkk
    rw [List.drop_left] at hd
    generalize ((xs ++ (frameS body).take j).drop st).take v = b' at *
    have e : frameS body = frameS b' ++ ((xs ++ (frameS body).take j).drop (st + v) ++ (frameS body).drop j) := by
      rw [← List.append_assoc, ← hd, List.take_append_drop]
    have g1 : getA 0 0 (frameS body) = some ((body.length : Int), (putS (body.length : Int)).length) := by
      unfold frameS; exact getS_put (w64_len (by omega)) _
    have g2 : getA 0 0 (frameS body) = some ((b'.length : Int), (putS (b'.length : Int)).length) := by
      rw [e]; unfold frameS; rw [List.append_assoc]; exact getS_put (w64_len (by omega)) _
    rw [g1] at g2
    simp only [Option.some.injEq, Prod.mk.injEq] at g2
    have hlen : body.length = b'.length := by omega
    have l1 := congrArg List.length hd
    rw [List.length_append, List.length_take] at l1
    have l2 := frameS_len body
    have l3 := frameS_len b'
    rw [hlen] at l2
    omega

theorem reg_back (l : List Nat) : ∀ {r r' : Nat}, r < 4294967296 → r' < 4294967296 → (∀ z ∈ l, z < 256) → Cr.reg r l = Cr.reg r' l → r = r' := by
  induction l with
  | nil => intro r r' _ _ _ h; exact h
  | cons z l ih =>
    intro r r' h h' hz e
    have hz0 := hz z (by simp)
    have e1 : Cr.byte r z = Cr.byte r' z := ih (Cr.byte_lt h hz0) (Cr.byte_lt h' hz0) (fun y hy => hz y (by simp [hy])) e
    unfold Cr.byte at e1
    have e2 : Cr.it 8 ((r ^^^ z) ^^^ (r' ^^^ z)) = 0 := by rw [Cr.it_xor, e1, Nat.xor_self]
    rw [Cr.xor_swap, Nat.xor_self, Nat.xor_zero] at e2
    exact Cr.xor_zero_eq (Cr.it_none 8 (Nat.xor_lt_two_pow (n := 32) (by omega) (by omega)) e2)
theorem byte_back {r u x : Nat} (hu : u < 256) (hx : x < 256) (h : Cr.byte r u = Cr.byte r x) : u = x := by
  unfold Cr.byte at h
  have e2 : Cr.it 8 ((r ^^^ u) ^^^ (r ^^^ x)) = 0 := by rw [Cr.it_xor, h, Nat.xor_self]
  rw [Cr.xor_swap, Nat.xor_self, Nat.zero_xor] at e2
  exact Cr.xor_zero_eq (Cr.it_none 8 (Nat.xor_lt_two_pow (n := 32) (by omega) (by omega)) e2)

/-- One byte turned: another sum. -/
theorem more_turned {p q : List Int} {u x : Int} (hp : Bytes8 p) (hq : Bytes8 q) (hu : 0 ≤ u ∧ u ≤ 255) (hx : 0 ≤ x ∧ x ≤ 255) (hne : x ≠ u) : moreS 0 (p ++ x :: q) ≠ moreS 0 (p ++ u :: q) := by
  intro h
  unfold moreS at h
  have h1 : Cr.reg (4294967295 ^^^ (0 : Int).toNat) ((p ++ x :: q).map Int.toNat) = Cr.reg (4294967295 ^^^ (0 : Int).toNat) ((p ++ u :: q).map Int.toNat) := by
    have h2 := Int.ofNat.inj h
    have h3 := congrArg (fun y => 4294967295 ^^^ y) h2
    simpa [Cr.xor_cancel] using h3
  rw [List.map_append, List.map_append, Cr.reg_append, Cr.reg_append, List.map_cons, List.map_cons] at h1
  have hr : Cr.reg (4294967295 ^^^ (0 : Int).toNat) (p.map Int.toNat) < 4294967296 := Cr.reg_lt _ (by decide) (bytes_nat hp)
  have h2 := reg_back (q.map Int.toNat) (Cr.byte_lt hr (by omega)) (Cr.byte_lt hr (by omega)) (bytes_nat hq) h1
  have h3 := byte_back (by omega) (by omega) h2
  omega
theorem quad_inj {s t : Int} (hs : 0 ≤ s ∧ s < 4294967296) (ht : 0 ≤ t ∧ t < 4294967296) (h : quad s = quad t) : s = t := by
  simp only [quad, List.cons.injEq, and_true] at h
  omega

/-- One byte turned behind a frame's length: there is no frame. -/
theorem findS_turned {body : List Int} (h1 : 1 ≤ body.length) (h2 : body.length ≤ 1048576) (hb : Bytes8 body) (xs ys : List Int) {j : Nat} {x : Int} (hx : 0 ≤ x ∧ x ≤ 255)
    (hj : (putS (body.length : Int)).length ≤ j) (hj2 : j < (frameS body).length) (hne : x ≠ (frameS body).getD j 0) : findS (xs ++ ((frameS body).set j x ++ ys)) xs.length = none := by
  obtain ⟨i, rfl⟩ : ∃ i, j = (putS (body.length : Int)).length + i := ⟨j - (putS (body.length : Int)).length, by omega⟩
  have e : (frameS body).set ((putS (body.length : Int)).length + i) x = putS (body.length : Int) ++ (sumB body ++ body).set i x := by
    unfold frameS
    rw [List.set_append, if_neg (by omega), Nat.add_sub_cancel_left]
  have en : (frameS body).getD ((putS (body.length : Int)).length + i) 0 = (sumB body ++ body).getD i 0 := by
    unfold frameS
    rw [List.getD_eq_getElem?_getD, List.getElem?_append_right (by omega), Nat.add_sub_cancel_left, ← List.getD_eq_getElem?_getD]
  rw [en] at hne
  have hi : i < 4 + body.length := by rw [frameS_len] at hj2; omega
  have hg := getS_at (w64_len (n := body.length) (by omega)) xs ((sumB body ++ body).set i x ++ ys)
  have e3 : xs ++ ((frameS body).set ((putS (body.length : Int)).length + i) x ++ ys) = xs ++ (putS (body.length : Int) ++ ((sumB body ++ body).set i x ++ ys)) := by rw [e, List.append_assoc]
  rw [e3]
  unfold findS
  rw [hg]
  simp only [Int.toNat_natCast]
  generalize hr : (sumB body ++ body).set i x = r at *
  have hrl : r.length = 4 + body.length := by rw [← hr, List.length_set, List.length_append, sumB_len]
  have d1 : (xs ++ (putS (body.length : Int) ++ (r ++ ys))).drop (xs.length + (putS (body.length : Int)).length) = r ++ ys := by
    rw [← List.append_assoc, ← List.length_append, List.drop_left]
  have d2 : (xs ++ (putS (body.length : Int) ++ (r ++ ys))).drop (xs.length + (putS (body.length : Int)).length + 4) = (r ++ ys).drop 4 := by rw [← List.drop_drop, d1]
  rw [d1, d2]
  split
  · rfl
  · rw [if_neg]
    have T1 : (r ++ ys).take 4 = r.take 4 := List.take_append_of_le_length (by omega)
    have T2 : ((r ++ ys).drop 4).take body.length = r.drop 4 := by
      rw [List.drop_append_of_le_length (by omega), List.take_append_of_le_length (by rw [List.length_drop]; omega), List.take_of_length_le (by rw [List.length_drop]; omega)]
    rw [T1, T2]
    by_cases hi4 : i < 4
    · have er : r = (sumB body).set i x ++ body := by rw [← hr, List.set_append, if_pos (by rw [sumB_len]; exact hi4)]
      have hsl : ((sumB body).set i x).length = 4 := by rw [List.length_set, sumB_len]
      have t4 : r.take 4 = (sumB body).set i x := by rw [er, List.take_append_of_le_length (by omega), List.take_of_length_le (by omega)]
      have d4 : r.drop 4 = body := by rw [er, ← hsl, List.drop_left]
      rw [t4, d4]
      intro h
      apply hne
      rw [List.getD_eq_getElem?_getD, List.getElem?_append_left (by rw [sumB_len]; exact hi4), ← List.getD_eq_getElem?_getD]
      rw [← h, List.getD_eq_getElem?_getD, List.getElem?_set_self (by rw [sumB_len]; exact hi4)]
      rfl
    · obtain ⟨m, rfl⟩ : ∃ m, i = 4 + m := ⟨i - 4, by omega⟩
      have hm : m < body.length := by omega
      have er : r = sumB body ++ body.set m x := by rw [← hr, List.set_append, if_neg (by rw [sumB_len]; omega), sumB_len, Nat.add_sub_cancel_left]
      have t4 : r.take 4 = sumB body := by rw [er, ← sumB_len body, List.take_left]
      have d4 : r.drop 4 = body.set m x := by rw [er, ← sumB_len body, List.drop_left]
      rw [t4, d4]
      intro h
      have hbm : body = body.take m ++ body[m] :: body.drop (m + 1) := by rw [← List.drop_eq_getElem_cons hm, List.take_append_drop]
      have hsm : body.set m x = body.take m ++ x :: body.drop (m + 1) := by rw [List.set_eq_take_append_cons_drop, if_pos hm]
      have hne2 : x ≠ body[m] := by
        intro h'
        apply hne
        rw [List.getD_eq_getElem?_getD, List.getElem?_append_right (by rw [sumB_len]; omega), sumB_len, Nat.add_sub_cancel_left, List.getElem?_eq_getElem hm]
        exact h'
      have hby := hb body[m] (List.getElem_mem hm)
      have hp : Bytes8 (body.take m) := fun z hz => hb z (List.mem_of_mem_take hz)
      have hq : Bytes8 (body.drop (m + 1)) := fun z hz => hb z (List.mem_of_mem_drop hz)
      have hset : Bytes8 (body.set m x) := by
        intro z hz
        rw [hsm] at hz
        rcases List.mem_append.1 hz with h' | h'
        · exact hp z h'
        · rcases List.mem_cons.1 h' with h'' | h''
          · rw [h'']; exact hx
          · exact hq z h''
      have key := more_turned hp hq hby hx hne2
      rw [← hsm, ← hbm] at key
      exact key (quad_inj (moreS_word (s := 0) (by decide) hset) (moreS_word (s := 0) (by decide) hb) h.symm)
end Go.Proofs.Ytbpmmeagpefglaa
