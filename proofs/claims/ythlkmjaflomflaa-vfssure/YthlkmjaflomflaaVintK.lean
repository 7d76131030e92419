/-
  Numbers as bytes, seven bits a byte: what is put, what is got, in plain lists of whole numbers; what is put is got, what is got was put, and a stretch without its last byte is none.
  Conditions: each number is from 0 on and below 2^64; each byte is from 0 to 255.
-/
import Derived.OpenShut
namespace Go.Proofs.Ythlkmjaflomflaa

/-- A number's bytes, at most f + 1 of them. -/
def putF : Nat → Int → List Int
  | 0, v => [v]
  | f + 1, v => if v < 128 then [v] else (v % 128 + 128) :: putF f (v / 128)
/-- A number's bytes. -/
def putS (v : Int) : List Int := putF 9 v

/-- What is got of bytes, the first of which is a number's i-th: the number upon v, and how many bytes there are. -/
def getA : Nat → Int → List Int → Option (Int × Nat)
  | _, _, [] => none
  | i, v, c :: t => if i = 9 ∧ 1 < c then none else if 128 ≤ c then getA (i + 1) (v + c % 128 * 128 ^ i) t else if c = 0 ∧ 0 < i then none else some (v + c % 128 * 128 ^ i, i + 1)

theorem pw_pos (f : Nat) : (0 : Int) < 128 ^ f := Int.pow_pos (by decide)
theorem pw_succ (f : Nat) : (128 : Int) ^ (f + 1) = 128 * 128 ^ f := by rw [Int.pow_succ, Int.mul_comm]

theorem putF_one {f : Nat} {v : Int} (h : v < 128) : putF f v = [v] := by
  cases f with
  | zero => rfl
  | succ f => simp [putF, h]
theorem putF_more {f : Nat} {v : Int} (h : 128 ≤ v) : putF (f + 1) v = (v % 128 + 128) :: putF f (v / 128) := by
  simp [putF, show ¬ v < 128 by omega]

theorem putF_len (f : Nat) (v : Int) : 1 ≤ (putF f v).length ∧ (putF f v).length ≤ f + 1 := by
  induction f generalizing v with
  | zero => simp [putF]
  | succ f ih =>
    by_cases h : v < 128
    · rw [putF_one h]; simp
    · rw [putF_more (by omega)]
      have := ih (v / 128)
      simp only [List.length_cons]; omega

theorem putF_byte (f : Nat) (v : Int) (h0 : 0 ≤ v) (h : v < 2 * 128 ^ f) : ∀ z ∈ putF f v, 0 ≤ z ∧ z ≤ 255 := by
  induction f generalizing v with
  | zero =>
    intro z hz
    simp [putF] at hz h
    omega
  | succ f ih =>
    by_cases hv : v < 128
    · rw [putF_one hv]; intro z hz; simp at hz; omega
    · rw [putF_more (by omega)]
      intro z hz
      rw [pw_succ] at h
      rcases List.mem_cons.1 hz with rfl | hz
      · omega
      · exact ih (v / 128) (by omega) (by omega) z hz

theorem get_put (f i : Nat) (hi : i + f = 9) (u v : Int) (t : List Int) (h0 : 0 ≤ u) (h1 : u < 2 * 128 ^ f) (h2 : 0 < i → 0 < u) :
    getA i v (putF f u ++ t) = some (v + u * 128 ^ i, i + (putF f u).length) := by
  induction f generalizing i u v with
  | zero =>
    have : i = 9 := by omega
    subst this
    simp only [Int.pow_zero, Int.mul_one] at h1
    have := h2 (by omega)
    have e : u % 128 = u := by omega
    simp [putF, getA, e, show ¬ 1 < u by omega, show ¬ 128 ≤ u by omega, show ¬ u = 0 by omega]
  | succ f ih =>
    by_cases hu : u < 128
    · rw [putF_one hu]
      have e : u % 128 = u := by omega
      simp only [List.singleton_append, getA, List.length_singleton]
      rw [if_neg (by omega), if_neg (by omega), if_neg (by omega), e]
    · rw [putF_more (by omega), List.cons_append]
      simp only [getA, List.length_cons]
      rw [if_neg (by omega), if_pos (by omega)]
      rw [pw_succ] at h1
      rw [ih (i + 1) (by omega) (u / 128) _ (by omega) (by omega) (by omega)]
      congr 2
      · have e : (u % 128 + 128) % 128 = u % 128 := by omega
        rw [e, pw_succ, Int.add_assoc, Int.mul_left_comm, ← Int.mul_assoc, ← Int.add_mul, Int.emod_add_mul_ediv]
      · omega

theorem put_get (zs : List Int) (i : Nat) (v r : Int) (n : Nat) (hz : ∀ z ∈ zs, 0 ≤ z ∧ z ≤ 255) (hi : i ≤ 9) (h : getA i v zs = some (r, n)) :
    ∃ u t, 0 ≤ u ∧ u < 2 * 128 ^ (9 - i) ∧ (0 < i → 0 < u) ∧ r = v + u * 128 ^ i ∧ zs = putF (9 - i) u ++ t ∧ n = i + (putF (9 - i) u).length := by
  induction zs generalizing i v with
  | nil => simp [getA] at h
  | cons c t ih =>
    have hc := hz c (by simp)
    simp only [getA] at h
    split at h
    · simp at h
    · rename_i h9
      split at h
      · rename_i h8
        have hi9 : i < 9 := by omega
        obtain ⟨u, t', u0, u1, u2, hr, ht, hn⟩ := ih (i + 1) _ (fun z hz' => hz z (by simp [hz'])) (by omega) h
        have hu := u2 (by omega)
        obtain ⟨f, hf⟩ : ∃ f, 9 - i = f + 1 := ⟨8 - i, by omega⟩
        have hf' : 9 - (i + 1) = f := by omega
        rw [hf'] at u1 ht hn
        rw [hf]
        refine ⟨u * 128 + c % 128, t', by omega, by rw [pw_succ]; omega, fun _ => by omega, ?_, ?_, ?_⟩
        · rw [hr, pw_succ, Int.add_mul, Int.mul_assoc, Int.add_assoc, Int.add_comm (c % 128 * 128 ^ i)]
        · rw [putF_more (by omega), show (u * 128 + c % 128) % 128 + 128 = c by omega, show (u * 128 + c % 128) / 128 = u by omega, ht, List.cons_append]
        · rw [putF_more (by omega), show (u * 128 + c % 128) / 128 = u by omega, List.length_cons, hn]; omega
      · rename_i h8
        split at h
        · simp at h
        · rename_i h0
          simp only [Option.some.injEq, Prod.mk.injEq] at h
          obtain ⟨rfl, rfl⟩ := h
          have e : c % 128 = c := by omega
          refine ⟨c, t, by omega, ?_, by omega, by rw [e], by rw [putF_one (by omega)]; rfl, by rw [putF_one (by omega)]; rfl⟩
          by_cases h9' : i = 9
          · subst h9'; simp; omega
          · obtain ⟨f, hf⟩ : ∃ f, 9 - i = f + 1 := ⟨8 - i, by omega⟩
            rw [hf, pw_succ]
            have := pw_pos f
            omega

theorem get_short (f i : Nat) (hi : i + f = 9) (u v : Int) : getA i v (putF f u).dropLast = none := by
  induction f generalizing i u v with
  | zero => simp [putF, getA]
  | succ f ih =>
    by_cases hu : u < 128
    · rw [putF_one hu]; simp [getA]
    · rw [putF_more (by omega)]
      have hne : putF f (u / 128) ≠ [] := by
        intro e
        have := (putF_len f (u / 128)).1
        rw [e] at this; simp at this
      rw [List.dropLast_cons_of_ne_nil hne]
      simp only [getA]
      rw [if_neg (by omega), if_pos (by omega)]
      exact ih (i + 1) (by omega) (u / 128) _

/-- A number of 64 bits. -/
def W64 (v : Int) : Prop := 0 ≤ v ∧ v < 18446744073709551616

theorem w64_two {v : Int} : (0 ≤ v ∧ v < 2 * 128 ^ 9) ↔ W64 v := by unfold W64; simp

theorem putS_len (v : Int) : 1 ≤ (putS v).length ∧ (putS v).length ≤ 10 := putF_len 9 v
theorem putS_byte {v : Int} (h : W64 v) : ∀ z ∈ putS v, 0 ≤ z ∧ z ≤ 255 := putF_byte 9 v h.1 (w64_two.2 h).2
theorem getS_put {v : Int} (h : W64 v) (t : List Int) : getA 0 0 (putS v ++ t) = some (v, (putS v).length) := by
  have := get_put 9 0 rfl v 0 t h.1 (w64_two.2 h).2 (by omega)
  simpa [putS] using this
theorem putS_get {zs : List Int} {v : Int} {n : Nat} (hz : ∀ z ∈ zs, 0 ≤ z ∧ z ≤ 255) (h : getA 0 0 zs = some (v, n)) : W64 v ∧ n = (putS v).length ∧ ∃ t, zs = putS v ++ t := by
  obtain ⟨u, t, u0, u1, _, hr, ht, hn⟩ := put_get zs 0 0 v n hz (by omega) h
  simp at hr hn
  subst hr
  exact ⟨w64_two.1 ⟨u0, u1⟩, hn, t, ht⟩
theorem getS_short (v : Int) : getA 0 0 (putS v).dropLast = none := get_short 9 0 rfl v 0

theorem putF_mono (f : Nat) (a b : Int) (h : a ≤ b) (h0 : 0 ≤ a) : (putF f a).length ≤ (putF f b).length := by
  induction f generalizing a b with
  | zero => simp [putF]
  | succ f ih =>
    by_cases ha : a < 128
    · rw [putF_one ha]
      exact (putF_len _ _).1
    · rw [putF_more (by omega), putF_more (by omega)]
      have := ih (a / 128) (b / 128) (by omega) (by omega)
      simp only [List.length_cons]; omega
theorem putS_mono {a b : Int} (h : a ≤ b) (h0 : 0 ≤ a) : (putS a).length ≤ (putS b).length := putF_mono 9 a b h h0
theorem putS_one {v : Int} : (putS v).length = 1 ↔ v < 128 := by
  unfold putS
  by_cases h : v < 128
  · rw [putF_one h]; simp [h]
  · rw [putF_more (by omega)]
    have := (putF_len 8 (v / 128)).1
    simp only [List.length_cons]
    omega

/-- What is got from a place on: the number, the place behind it. -/
def getS (zs : List Int) (at' : Int) : Option (Int × Int) :=
  if 0 ≤ at' ∧ at' < zs.length then (getA 0 0 (zs.drop at'.toNat)).map fun p => (p.1, at' + p.2) else none
end Go.Proofs.Ythlkmjaflomflaa
