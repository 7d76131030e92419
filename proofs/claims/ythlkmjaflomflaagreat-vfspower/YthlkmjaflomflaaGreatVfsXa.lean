/-
  A fact that the walk is not to look at. Numbers as bytes, seven bits a byte: what is put, what is got, in plain lists of whole numbers; what is put is got, what is got was put, and a stretch without its last byte is none. Bytes and words in the program's own spelling (and, or, turned), what the walks are told of a slice of numbers (one that came in: Row; one in memory of the call's own: Own), and an append behind either. Numbers, texts and lists that rise, got from any place of any bytes: what is put is got, what is got was put, without its last byte it is none; in plain lists of whole numbers. Which blocks of memory may have turned; one element put behind a row of the call's own, and where the longer row lies; a slice of texts as a list: what the texts of later layers share. No function is named. A region that draws its order and holds one call whose answer it reads again: all that stands before the call is taken first, then the call, then the rest in the one world that the call left. Laws for the walk, of the library's own (Derived.OrdersHeld). Rows of structs of the call's own, of any kind: how they are read and what they abide. No function is named. Labels in plain words: names, sets that may be, a name's value, which of two sets comes first, labels put in order of their names: and that these order, and that the order in which labels come plays no part. Worlds behind letters; what turned, behind draws and new blocks. No function is named.
  Conditions: none; each number is from 0 on and below 2^64; each byte is from 0 to 255; each number fits its kind; a slice without spare room, or one of the call's own, is appended to; as each theorem says; what is taken first yields its value in every world that meets the condition.
-/
import Derived.Below
import Derived.OpenShut
import Derived.Deep.Draws
import Derived.WalkSpells
import Derived.ArgAppend
import Derived.Lib.AppendStr
import Derived.Laws.BytesArg
import Derived.OwnWalk
import Derived.Laws.OwnMore
import Derived.RangeFuncBox
import Derived.WalkKit
import Derived.SliceStrings
import Derived.OrdersHeld
import Derived.Deep.RegionHeld
import Derived.Laws.AppendOwnNone
import Derived.Deep.AppendLies
import Derived.Laws.Strings
import Derived.Laws.Strings2
import Derived.Laws.Concat
namespace Go.Proofs.YthlkmjaflomflaaGreat
open Go.RowKit
set_option maxRecDepth 20000

theorem hide {p : Prop} (h : p) : Hid p := h
/-- A word. -/
def Word (x : Int) : Prop := 0 ≤ x ∧ x < 18446744073709551616
theorem word_of_wf {x : Int} (h : (Lit.int .u64 x).wf = true) : Word x := by
  simp [Lit.wf, IntKind.min, IntKind.max, IntKind.signed, IntKind.bits] at h
  exact ⟨by omega, by omega⟩
theorem int_of_wf {x : Int} (h : (Lit.int .i64 x).wf = true) : -9223372036854775808 ≤ x ∧ x ≤ 9223372036854775807 := by
  simp [Lit.wf, IntKind.min, IntKind.max, IntKind.signed, IntKind.bits] at h
  exact ⟨by omega, by omega⟩
theorem ret_u64 {k : IntKind} {a b : Int} (h : a = b) : Ending.returned (.int k a) = .returned (.int k b) := by rw [h]
theorem ret_two {k j : IntKind} {a b c d : Int} (h : a = b) (h' : c = d) : Ending.returned (.tuple #[.int k a, .int j c]) = .returned (.tuple #[.int k b, .int j d]) := by rw [h, h']
end Go.Proofs.YthlkmjaflomflaaGreat

namespace Go.Proofs.YthlkmjaflomflaaGreat

/-- A number's bytes, at most f + 1 of them. -/
def putF : Nat → Int → List Int
  | 0, v => [v]
  | f + 1, v => if v < 128 then [v] else (v % 128 + 128) :: putF f (v / 128)
/-- A number's bytes. -/
def putS (v : Int) : List Int := putF 9 v

/-- What is got of bytes, the first of which is a number's i-th: the number upon v, and how many bytes there are. -/
def getA : Nat → Int → List Int → Option (Int × Nat)
  | _, _, [] => none
  | i, v, c :: t => if i = 9 ∧ 1 < c then none else if 128 ≤ c then getA (i + 1) (v + c % 128 * 128 ^ i) t else if c = 0 ∧ 0 < i then none else some (v + c % 128 * 128 ^ i, i + 1)

theorem pw_pos (f : Nat) : (0 : Int) < 128 ^ f := Int.pow_pos (by decide)
theorem pw_succ (f : Nat) : (128 : Int) ^ (f + 1) = 128 * 128 ^ f := by rw [Int.pow_succ, Int.mul_comm]

theorem putF_one {f : Nat} {v : Int} (h : v < 128) : putF f v = [v] := by
  cases f with
  | zero => rfl
  | succ f => simp [putF, h]
theorem putF_more {f : Nat} {v : Int} (h : 128 ≤ v) : putF (f + 1) v = (v % 128 + 128) :: putF f (v / 128) := by
  simp [putF, show ¬ v < 128 by omega]

theorem putF_len (f : Nat) (v : Int) : 1 ≤ (putF f v).length ∧ (putF f v).length ≤ f + 1 := by
  induction f generalizing v with
  | zero => simp [putF]
  | succ f ih =>
    by_cases h : v < 128
    · rw [putF_one h]; simp
    · rw [putF_more (by omega)]
      have := ih (v / 128)
      simp only [List.length_cons]; omega

theorem putF_byte (f : Nat) (v : Int) (h0 : 0 ≤ v) (h : v < 2 * 128 ^ f) : ∀ z ∈ putF f v, 0 ≤ z ∧ z ≤ 255 := by
  induction f generalizing v with
  | zero =>
    intro z hz
    simp [putF] at hz h
    omega
  | succ f ih =>
    by_cases hv : v < 128
    · rw [putF_one hv]; intro z hz; simp at hz; omega
    · rw [putF_more (by omega)]
      intro z hz
      rw [pw_succ] at h
      rcases List.mem_cons.1 hz with rfl | hz
      · omega
      · exact ih (v / 128) (by omega) (by omega) z hz

theorem get_put (f i : Nat) (hi : i + f = 9) (u v : Int) (t : List Int) (h0 : 0 ≤ u) (h1 : u < 2 * 128 ^ f) (h2 : 0 < i → 0 < u) :
    getA i v (putF f u ++ t) = some (v + u * 128 ^ i, i + (putF f u).length) := by
  induction f generalizing i u v with
  | zero =>
    have : i = 9 := by omega
    subst this
    simp only [Int.pow_zero, Int.mul_one] at h1
    have := h2 (by omega)
    have e : u % 128 = u := by omega
    simp [putF, getA, e, show ¬ 1 < u by omega, show ¬ 128 ≤ u by omega, show ¬ u = 0 by omega]
  | succ f ih =>
    by_cases hu : u < 128
    · rw [putF_one hu]
      have e : u % 128 = u := by omega
      simp only [List.singleton_append, getA, List.length_singleton]
      rw [if_neg (by omega), if_neg (by omega), if_neg (by omega), e]
    · rw [putF_more (by omega), List.cons_append]
      simp only [getA, List.length_cons]
      rw [if_neg (by omega), if_pos (by omega)]
      rw [pw_succ] at h1
      rw [ih (i + 1) (by omega) (u / 128) _ (by omega) (by omega) (by omega)]
      congr 2
      · have e : (u % 128 + 128) % 128 = u % 128 := by omega
        rw [e, pw_succ, Int.add_assoc, Int.mul_left_comm, ← Int.mul_assoc, ← Int.add_mul, Int.emod_add_mul_ediv]
      · omega

theorem put_get (zs : List Int) (i : Nat) (v r : Int) (n : Nat) (hz : ∀ z ∈ zs, 0 ≤ z ∧ z ≤ 255) (hi : i ≤ 9) (h : getA i v zs = some (r, n)) :
    ∃ u t, 0 ≤ u ∧ u < 2 * 128 ^ (9 - i) ∧ (0 < i → 0 < u) ∧ r = v + u * 128 ^ i ∧ zs = putF (9 - i) u ++ t ∧ n = i + (putF (9 - i) u).length := by
  induction zs generalizing i v with
  | nil => simp [getA] at h
  | cons c t ih =>
    have hc := hz c (by simp)
    simp only [getA] at h
    split at h
    · simp at h
    · rename_i h9
      split at h
      · rename_i h8
        have hi9 : i < 9 := by omega
        obtain ⟨u, t', u0, u1, u2, hr, ht, hn⟩ := ih (i + 1) _ (fun z hz' => hz z (by simp [hz'])) (by omega) h
        have hu := u2 (by omega)
        obtain ⟨f, hf⟩ : ∃ f, 9 - i = f + 1 := ⟨8 - i, by omega⟩
        have hf' : 9 - (i + 1) = f := by omega
        rw [hf'] at u1 ht hn
        rw [hf]
        refine ⟨u * 128 + c % 128, t', by omega, by rw [pw_succ]; omega, fun _ => by omega, ?_, ?_, ?_⟩
        · rw [hr, pw_succ, Int.add_mul, Int.mul_assoc, Int.add_assoc, Int.add_comm (c % 128 * 128 ^ i)]
        · rw [putF_more (by omega), show (u * 128 + c % 128) % 128 + 128 = c by omega, show (u * 128 + c % 128) / 128 = u by omega, ht, List.cons_append]
        · rw [putF_more (by omega), show (u * 128 + c % 128) / 128 = u by omega, List.length_cons, hn]; omega
      · rename_i h8
        split at h
        · simp at h
        · rename_i h0
          simp only [Option.some.injEq, Prod.mk.injEq] at h
          obtain ⟨rfl, rfl⟩ := h
          have e : c % 128 = c := by omega
          refine ⟨c, t, by omega, ?_, by omega, by rw [e], by rw [putF_one (by omega)]; rfl, by rw [putF_one (by omega)]; rfl⟩
          by_cases h9' : i = 9
          · subst h9'; simp; omega
          · obtain ⟨f, hf⟩ : ∃ f, 9 - i = f + 1 := ⟨8 - i, by omega⟩
            rw [hf, pw_succ]
            have := pw_pos f
            omega

theorem get_short (f i : Nat) (hi : i + f = 9) (u v : Int) : getA i v (putF f u).dropLast = none := by
  induction f generalizing i u v with
  | zero => simp [putF, getA]
  | succ f ih =>
    by_cases hu : u < 128
    · rw [putF_one hu]; simp [getA]
    · rw [putF_more (by omega)]
      have hne : putF f (u / 128) ≠ [] := by
        intro e
        have := (putF_len f (u / 128)).1
        rw [e] at this; simp at this
      rw [List.dropLast_cons_of_ne_nil hne]
      simp only [getA]
      rw [if_neg (by omega), if_pos (by omega)]
      exact ih (i + 1) (by omega) (u / 128) _

/-- A number of 64 bits. -/
def W64 (v : Int) : Prop := 0 ≤ v ∧ v < 18446744073709551616

theorem w64_two {v : Int} : (0 ≤ v ∧ v < 2 * 128 ^ 9) ↔ W64 v := by unfold W64; simp

theorem putS_len (v : Int) : 1 ≤ (putS v).length ∧ (putS v).length ≤ 10 := putF_len 9 v
theorem putS_byte {v : Int} (h : W64 v) : ∀ z ∈ putS v, 0 ≤ z ∧ z ≤ 255 := putF_byte 9 v h.1 (w64_two.2 h).2
theorem getS_put {v : Int} (h : W64 v) (t : List Int) : getA 0 0 (putS v ++ t) = some (v, (putS v).length) := by
  have := get_put 9 0 rfl v 0 t h.1 (w64_two.2 h).2 (by omega)
  simpa [putS] using this
theorem putS_get {zs : List Int} {v : Int} {n : Nat} (hz : ∀ z ∈ zs, 0 ≤ z ∧ z ≤ 255) (h : getA 0 0 zs = some (v, n)) : W64 v ∧ n = (putS v).length ∧ ∃ t, zs = putS v ++ t := by
  obtain ⟨u, t, u0, u1, _, hr, ht, hn⟩ := put_get zs 0 0 v n hz (by omega) h
  simp at hr hn
  subst hr
  exact ⟨w64_two.1 ⟨u0, u1⟩, hn, t, ht⟩
theorem getS_short (v : Int) : getA 0 0 (putS v).dropLast = none := get_short 9 0 rfl v 0

theorem putF_mono (f : Nat) (a b : Int) (h : a ≤ b) (h0 : 0 ≤ a) : (putF f a).length ≤ (putF f b).length := by
  induction f generalizing a b with
  | zero => simp [putF]
  | succ f ih =>
    by_cases ha : a < 128
    · rw [putF_one ha]
      exact (putF_len _ _).1
    · rw [putF_more (by omega), putF_more (by omega)]
      have := ih (a / 128) (b / 128) (by omega) (by omega)
      simp only [List.length_cons]; omega
theorem putS_mono {a b : Int} (h : a ≤ b) (h0 : 0 ≤ a) : (putS a).length ≤ (putS b).length := putF_mono 9 a b h h0
theorem putS_one {v : Int} : (putS v).length = 1 ↔ v < 128 := by
  unfold putS
  by_cases h : v < 128
  · rw [putF_one h]; simp [h]
  · rw [putF_more (by omega)]
    have := (putF_len 8 (v / 128)).1
    simp only [List.length_cons]
    omega

/-- What is got from a place on: the number, the place behind it. -/
def getS (zs : List Int) (at' : Int) : Option (Int × Int) :=
  if 0 ≤ at' ∧ at' < zs.length then (getA 0 0 (zs.drop at'.toNat)).map fun p => (p.1, at' + p.2) else none
end Go.Proofs.YthlkmjaflomflaaGreat

namespace Go.Proofs.YthlkmjaflomflaaGreat
open Go.RowKit
set_option maxRecDepth 20000


theorem u8_of_wf {x : Int} (h : (Lit.int .u8 x).wf = true) : 0 ≤ x ∧ x ≤ 255 := by
  simp [Lit.wf, IntKind.min, IntKind.max, IntKind.signed, IntKind.bits] at h
  exact ⟨by omega, by omega⟩
theorem wf_of_u8 {x : Int} (h0 : 0 ≤ x) (h1 : x ≤ 255) : (Lit.int .u8 x).wf = true := by
  simp [Lit.wf, IntKind.min, IntKind.max, IntKind.signed, IntKind.bits]
  omega
theorem u64_of_wf {x : Int} (h : (Lit.int .u64 x).wf = true) : W64 x := by
  simp [Lit.wf, IntKind.min, IntKind.max, IntKind.signed, IntKind.bits] at h
  exact ⟨by omega, by omega⟩
theorem wf_of_u64 {x : Int} (h : W64 x) : (Lit.int .u64 x).wf = true := by
  unfold W64 at h
  simp [Lit.wf, IntKind.min, IntKind.max, IntKind.signed, IntKind.bits]
  omega
theorem i64_of_wf {x : Int} (h : (Lit.int .i64 x).wf = true) : -9223372036854775808 ≤ x ∧ x ≤ 9223372036854775807 := by
  simp [Lit.wf, IntKind.min, IntKind.max, IntKind.signed, IntKind.bits] at h
  exact ⟨by omega, by omega⟩

theorem or128_u8 {a : Int} (a0 : 0 ≤ a) (a1 : a ≤ 255) : bits .or .u8 a 128 = a % 128 + 128 := by
  obtain ⟨a, rfl⟩ := Int.eq_ofNat_of_zero_le a0
  have h1 : (BitVec.ofInt 8 (a : Int)).toNat = a := by
    rw [BitVec.ofInt_natCast, BitVec.toNat_ofNat]; exact Nat.mod_eq_of_lt (by omega)
  have h2 : (BitVec.ofInt 8 128).toNat = 128 := by decide
  have e : a ||| 128 = a % 128 + 128 := by
    have h3 : ∀ x, x < 256 → x ||| 128 = x % 128 + 128 := by decide +kernel
    exact h3 a (by omega)
  show IntKind.u8.wrap ((BitVec.ofInt 8 (a : Int) ||| BitVec.ofInt 8 128).toNat : Int) = _
  rw [BitVec.toNat_or, h1, h2, IntKind.wrap_u8, e]
  omega
theorem and127_u8 {a : Int} (a0 : 0 ≤ a) (a1 : a ≤ 255) : bits .and .u8 a 127 = a % 128 := by
  obtain ⟨a, rfl⟩ := Int.eq_ofNat_of_zero_le a0
  have h1 : (BitVec.ofInt 8 (a : Int)).toNat = a := by
    rw [BitVec.ofInt_natCast, BitVec.toNat_ofNat]; exact Nat.mod_eq_of_lt (by omega)
  have h2 : (BitVec.ofInt 8 127).toNat = 127 := by decide
  have e : a &&& 127 = a % 128 := Nat.and_two_pow_sub_one_eq_mod a 7
  show IntKind.u8.wrap ((BitVec.ofInt 8 (a : Int) &&& BitVec.ofInt 8 127).toNat : Int) = _
  rw [BitVec.toNat_and, h1, h2, IntKind.wrap_u8, e]
  omega
theorem nat_u64 {a : Nat} (h : a < 18446744073709551616) : (BitVec.ofInt 64 (a : Int)).toNat = a := by
  rw [BitVec.ofInt_natCast, BitVec.toNat_ofNat]; exact Nat.mod_eq_of_lt (by omega)
/-- Two words that share no bit: the one below 2^j, the other a multiple of it. -/
theorem or_u64 {a b : Int} (j : Nat) (a0 : 0 ≤ a) (a1 : a < 2 ^ j) (c : Int) (c0 : 0 ≤ c) (hb : b = c * 2 ^ j) (h : a + b < 18446744073709551616) : bits .or .u64 a b = a + b := by
  obtain ⟨a, rfl⟩ := Int.eq_ofNat_of_zero_le a0
  obtain ⟨c, rfl⟩ := Int.eq_ofNat_of_zero_le c0
  have hb' : b = ((2 ^ j * c : Nat) : Int) := by rw [hb, Int.natCast_mul, Int.natCast_pow, Int.mul_comm]; rfl
  have ha : a < 2 ^ j := by
    have e : ((2 ^ j : Nat) : Int) = (2 : Int) ^ j := by rw [Int.natCast_pow]; rfl
    rw [← e] at a1
    exact Int.ofNat_lt.1 a1
  subst hb'
  have e : a ||| 2 ^ j * c = a + 2 ^ j * c := by
    rw [Nat.or_comm, ← Nat.two_pow_add_eq_or_of_lt ha, Nat.add_comm]
  show IntKind.u64.wrap ((BitVec.ofInt 64 (a : Int) ||| BitVec.ofInt 64 ((2 ^ j * c : Nat) : Int)).toNat : Int) = _
  rw [BitVec.toNat_or, nat_u64 (by omega), nat_u64 (by omega), IntKind.wrap_u64, e]
  omega
theorem pw_two (j : Nat) : (128 : Int) ^ j = 2 ^ (7 * j) := by
  induction j with
  | zero => rfl
  | succ j ih => rw [pw_succ, ih, Nat.mul_succ, Int.pow_add, Int.mul_comm]; rfl
theorem pw_le : ∀ j, j < 10 → (2 : Int) ^ (7 * j) ≤ 9223372036854775808 := by decide
/-- A byte's seven bits upon what has been got. -/
theorem or_step {V c : Int} (j : Nat) (hj : j ≤ 9) (V0 : 0 ≤ V) (V1 : V < 2 ^ (7 * j)) (c0 : 0 ≤ c) (c1 : c ≤ 127) (h9 : j = 9 → c ≤ 1) :
    ∃ X, bits .or .u64 V (IntKind.u64.wrap (c * 2 ^ (7 * j))) = X ∧ 0 ≤ X ∧ X ≤ 18446744073709551615 ∧ X < 2 ^ (7 * (j + 1)) ∧ X = V + c * 128 ^ j := by
  have e1 : (2 : Int) ^ (7 * (j + 1)) = 128 * 2 ^ (7 * j) := by rw [← pw_two, ← pw_two, pw_succ]
  have hp := pw_le j (by omega)
  have h8 : j < 9 → (2 : Int) ^ (7 * (j + 1)) ≤ 9223372036854775808 := fun h => pw_le (j + 1) (by omega)
  rw [pw_two, e1]
  rw [e1] at h8
  have hp0 : (0 : Int) < 2 ^ (7 * j) := Int.pow_pos (by decide)
  have m0 : 0 ≤ c * 2 ^ (7 * j) := Int.mul_nonneg c0 (by omega)
  have m1 : c * 2 ^ (7 * j) ≤ 127 * 2 ^ (7 * j) := Int.mul_le_mul_of_nonneg_right c1 (by omega)
  have m2 : j = 9 → c * 2 ^ (7 * j) ≤ 1 * 2 ^ (7 * j) := fun h => Int.mul_le_mul_of_nonneg_right (h9 h) (by omega)
  have hX : V + c * 2 ^ (7 * j) < 18446744073709551616 := by
    by_cases h : j = 9
    · have := m2 h; omega
    · have := h8 (by omega); omega
  have hw : IntKind.u64.wrap (c * 2 ^ (7 * j)) = c * 2 ^ (7 * j) := by rw [IntKind.wrap_u64]; omega
  exact ⟨_, by rw [hw]; exact or_u64 (7 * j) V0 V1 c c0 rfl hX, by omega, by omega, by omega, rfl⟩
/-- A word turned left by one, a 1 put in. -/
theorem or1_u64 {y : Int} (y0 : 0 ≤ y) (y1 : y < 9223372036854775808) : bits .or .u64 (y * 2) 1 = y * 2 + 1 := by
  obtain ⟨y, rfl⟩ := Int.eq_ofNat_of_zero_le y0
  rw [Int.mul_comm]
  have e : (2 * y) ||| 1 = 2 * y + 1 := by
    have := Nat.two_pow_add_eq_or_of_lt (i := 1) (b := 1) (by decide) y
    rw [Nat.pow_one] at this
    exact this.symm
  have h2 : (BitVec.ofInt 64 1).toNat = 1 := by decide
  show IntKind.u64.wrap ((BitVec.ofInt 64 ((2 * y : Nat) : Int) ||| BitVec.ofInt 64 1).toNat : Int) = _
  rw [BitVec.toNat_or, nat_u64 (by omega), h2, IntKind.wrap_u64, e]
  omega
theorem not_i64 {v : Int} (h0 : -9223372036854775808 ≤ v) (h1 : v ≤ 9223372036854775807) : bits .xor .i64 (-1) v = -v - 1 := by
  have e : BitVec.ofInt 64 (-1) = BitVec.allOnes 64 := by decide
  show IntKind.i64.wrap ((BitVec.ofInt 64 (-1) ^^^ BitVec.ofInt 64 v).toNat : Int) = _
  rw [e, BitVec.allOnes_xor, BitVec.toNat_not, BitVec.toNat_ofInt, IntKind.wrap_i64]
  have h : (((v % ((2 ^ 64 : Nat) : Int)).toNat : Nat) : Int) = v % 18446744073709551616 := by omega
  omega
theorem and1_u64 {a : Int} (h : W64 a) : bits .and .u64 a 1 = a % 2 := by
  unfold W64 at h
  obtain ⟨a, rfl⟩ := Int.eq_ofNat_of_zero_le h.1
  have h2 : (BitVec.ofInt 64 1).toNat = 1 := by decide
  have e : a &&& 1 = a % 2 := Nat.and_two_pow_sub_one_eq_mod a 1
  show IntKind.u64.wrap ((BitVec.ofInt 64 (a : Int) &&& BitVec.ofInt 64 1).toNat : Int) = _
  rw [BitVec.toNat_and, nat_u64 (by omega), h2, IntKind.wrap_u64, e]
  omega

/-- How many bytes a number of a kind takes (of the two kinds that are met here). -/
def kb : IntKind → Nat
  | .u64 => 8
  | _ => 1
/-- What the law's shell hands on of a slice that came in: nil, or a row of 'cap' cells; and no more bytes than any slice may take. -/
def IsRow (k : IntKind) (w : World) (a : Option Addr) (len cap : Nat) (zs : List Int) : Prop :=
  cap * kb k ≤ 140737488351232 ∧ ((a = none ∧ len = 0 ∧ cap = 0 ∧ zs = []) ∨
  ∃ x, a = some x ∧ len ≤ cap ∧ cap ≤ maxLen ∧ zs.length = cap ∧ (∀ i, i < zs.length → w.cell? (x.add i) = some (.int k (zs.getD i 0))) ∧ ∀ n ∈ zs, (Lit.int k n).wf = true)

/-- A slice of n numbers that shows zs. -/
def Row (k : IntKind) (w : World) (a : Option Addr) (n : Nat) (zs : List Int) : Prop :=
  zs.length = n ∧ n ≤ 281474976710656 ∧ (∀ z ∈ zs, (Lit.int k z).wf = true) ∧
  (n = 0 ∨ ∃ b off, a = some ⟨b, off, none⟩ ∧ ∀ i, i < n → w.cell? ⟨b, off + i, none⟩ = some (.int k (zs.getD i 0)))

theorem row_of {k : IntKind} {w : World} {a : Option Addr} {len cap : Nat} {zs : List Int} (h : IsRow k w a len cap zs) : len ≤ cap ∧ cap * kb k ≤ 140737488351232 ∧ (a = none → cap = 0) ∧ Row k w a len (zs.take len) := by
  have hk : cap ≤ cap * kb k := Nat.le_mul_of_pos_right _ (by cases k <;> decide)
  obtain ⟨hc, ⟨rfl, rfl, rfl, rfl⟩ | ⟨x, rfl, hl, hm, hz, hcell, hwz⟩⟩ := h
  · exact ⟨by omega, by omega, fun _ => rfl, rfl, by omega, by simp, Or.inl rfl⟩
  · refine ⟨hl, hc, fun h => by simp at h, by rw [List.length_take]; omega, by omega, fun z h => hwz z (List.mem_of_mem_take h), ?_⟩
    by_cases h0 : len = 0
    · exact Or.inl h0
    · right
      obtain ⟨b, off, spot⟩ := x
      have hs : spot = none := by simpa [Addr.add] using World.cell?_spot (hcell 0 (by omega))
      subst hs
      refine ⟨b, off, rfl, fun i hi => ?_⟩
      have := hcell i (by omega)
      rw [Addr.add_lit] at this
      rw [this]
      simp [hi]

theorem getD_all {p : Int → Prop} {zs : List Int} (h : ∀ z ∈ zs, p z) (h0 : p 0) (i : Nat) : p (zs.getD i 0) := by
  by_cases hi : i < zs.length
  · rw [List.getD_eq_getElem?_getD, List.getElem?_eq_getElem hi]
    exact h _ (List.getElem_mem hi)
  · rw [List.getD_eq_getElem?_getD, List.getElem?_eq_none (by omega)]
    exact h0
theorem Row.byte {w : World} {a : Option Addr} {n : Nat} {zs : List Int} (h : Row .u8 w a n zs) (i : Nat) : 0 ≤ zs.getD i 0 ∧ zs.getD i 0 ≤ 255 :=
  getD_all (fun z hz => u8_of_wf (h.2.2.1 z hz)) (by decide) i
theorem Row.bytes {w : World} {a : Option Addr} {n : Nat} {zs : List Int} (h : Row .u8 w a n zs) : ∀ z ∈ zs, 0 ≤ z ∧ z ≤ 255 := fun z hz => u8_of_wf (h.2.2.1 z hz)
theorem Row.word {w : World} {a : Option Addr} {n : Nat} {zs : List Int} (h : Row .u64 w a n zs) (i : Nat) : W64 (zs.getD i 0) :=
  getD_all (fun z hz => u64_of_wf (h.2.2.1 z hz)) ⟨by decide, by decide⟩ i
theorem Row.words {w : World} {a : Option Addr} {n : Nat} {zs : List Int} (h : Row .u64 w a n zs) : ∀ z ∈ zs, W64 z := fun z hz => u64_of_wf (h.2.2.1 z hz)
theorem Row.below {k : IntKind} {B : Nat} {w w' : World} {a : Option Addr} {n : Nat} {zs : List Int} (h : Row k w a n zs) (hb : Below B w w') (hB : w.heap.size ≤ B) : Row k w' a n zs := by
  obtain ⟨h1, h2, h3, h4⟩ := h
  refine ⟨h1, h2, h3, ?_⟩
  rcases h4 with h4 | ⟨b, off, rfl, hc⟩
  · exact Or.inl h4
  · right
    refine ⟨b, off, rfl, fun i hi => ?_⟩
    have hlt : b < w.heap.size := World.block_lt_of_cell? w _ (hc i hi)
    rw [hb.cell (p := ⟨b, off + i, none⟩) (Nat.lt_of_lt_of_le hlt hB)]
    exact hc i hi
theorem Row.alloc {k : IntKind} {w : World} {a : Option Addr} {n : Nat} {zs : List Int} (h : Row k w a n zs) (o : Obj) : Row k (w.alloc o) a n zs :=
  h.below ((Below.refl _ _).alloc (Nat.le_refl _) _) (Nat.le_refl _)
theorem Row.drew {k : IntKind} {w : World} {a : Option Addr} {n : Nat} {zs : List Int} (h : Row k w a n zs) : Row k w.drew a n zs :=
  h.below ((Below.refl w.heap.size _).drew) (Nat.le_refl _)
theorem Row.to {k : IntKind} {w : World} {a : Option Addr} {n : Nat} {zs : List Int} (h : Row k w a n zs) (m : Nat) (hk : m ≤ n) : Row k w a m (zs.take m) := by
  obtain ⟨h1, h2, h3, h4⟩ := h
  refine ⟨by rw [List.length_take]; omega, by omega, fun z hz => h3 z (List.mem_of_mem_take hz), ?_⟩
  rcases h4 with h4 | ⟨b, off, rfl, hc⟩
  · exact Or.inl (by omega)
  · refine Or.inr ⟨b, off, rfl, fun i hi => ?_⟩
    rw [hc i (by omega)]
    simp [hi]
theorem Row.from {k : IntKind} {w : World} {a : Option Addr} {n cap : Nat} {zs : List Int} (h : Row k w a n zs) (m : Nat) (hk : m ≤ n) (hc : n ≤ cap) : Row k w (if cap = m then a else a.map (·.add m)) (n - m) (zs.drop m) := by
  obtain ⟨h1, h2, h3, h4⟩ := h
  refine ⟨by rw [List.length_drop]; omega, by omega, fun z hz => h3 z (List.mem_of_mem_drop hz), ?_⟩
  by_cases e : m = n
  · exact Or.inl (by omega)
  rcases h4 with h4 | ⟨b, off, rfl, hcell⟩
  · exact Or.inl (by omega)
  · refine Or.inr ⟨b, off + m, ?_, fun i hi => ?_⟩
    · rw [if_neg (by omega)]
      simp [Addr.add_lit]
    · rw [Nat.add_assoc, hcell (m + i) (by omega)]
      simp
theorem nil_row (k : IntKind) (w : World) (a : Option Addr) : Row k w a 0 [] := ⟨rfl, by omega, by simp, Or.inl rfl⟩
theorem Row.nz {k : IntKind} {w : World} {a : Option Addr} {n : Nat} {zs : List Int} (h : Row k w a n zs) : a = none → n = 0 := by
  rintro rfl
  obtain ⟨_, _, _, h4 | ⟨_, _, h, _⟩⟩ := h
  · exact h4
  · simp at h

theorem bel_al {B : Nat} {w x : World} (h : Below B w x) (hB : B ≤ w.heap.size) (o : Obj) : Below B w (x.alloc o) := h.alloc (Nat.le_trans hB h.size) o
theorem bel_to {B : Nat} {w x y : World} (h : Below B w x) (hB : B ≤ w.heap.size) (k : Below x.heap.size x y) : Below B w y := h.trans (k.mono (Nat.le_trans hB h.size))
theorem bel_drewN {B : Nat} {w x : World} (h : Below B w x) (q : Nat) : Below B w (x.drewN q) := ⟨h.os, h.tape, h.output, h.size, h.block⟩
/-- A slice of numbers that lies in memory of the call's own (from block 'base' on). -/
def Own (e : TypeId) (k : IntKind) (w : World) (base : Nat) (a : Option Addr) (n cap : Nat) (zs : List Int) : Prop :=
  w.ownsRow base e 1 (.slice a n cap) n (zs.map (Value.int k))

theorem own_form {e : TypeId} {k : IntKind} {w : World} {base n : Nat} {v : Value} {zs : List Int} (h : w.ownsRow base e 1 v n (zs.map (Value.int k))) : ∃ a cap, v = .slice a n cap ∧ Own e k w base a n cap zs := by
  have h0 := h
  rcases h.2 with ⟨rfl, rfl⟩ | ⟨g, cap, cur, rfl, _⟩
  · exact ⟨none, 0, rfl, h0⟩
  · exact ⟨_, _, rfl, h0⟩
theorem own_nil (e : TypeId) (k : IntKind) (w : World) (base : Nat) : Own e k w base none 0 0 [] := World.ownsRow_nil _ _ _ _

theorem Own.len {e : TypeId} {k : IntKind} {w : World} {base n cap : Nat} {a : Option Addr} {zs : List Int} (h : Own e k w base a n cap zs) : zs.length = n := by
  unfold Own at h
  simpa using h.1
theorem Own.capped {e : TypeId} {k : IntKind} {w : World} {base n cap : Nat} {a : Option Addr} {zs : List Int} (h : Own e k w base a n cap zs) : n ≤ cap ∧ (a = none → cap = 0) := by
  unfold Own at h
  rcases h.2 with ⟨h1, h2⟩ | ⟨g, c, cur, h1, _, _, h4, _⟩
  · simp only [Value.slice.injEq] at h1
    exact ⟨by omega, fun _ => by omega⟩
  · simp only [Value.slice.injEq, true_and] at h1
    obtain ⟨rfl, rfl⟩ := h1
    exact ⟨h4, fun h => by simp at h⟩
theorem Own.row {e : TypeId} {k : IntKind} {w : World} {base n cap : Nat} {a : Option Addr} {zs : List Int} (h : Own e k w base a n cap zs) (hn : n ≤ 281474976710656) (hz : ∀ z ∈ zs, (Lit.int k z).wf = true) : Row k w a n zs := by
  have hl := h.len
  unfold Own at h
  refine ⟨hl, hn, hz, ?_⟩
  rcases h.2 with ⟨h1, h2⟩ | ⟨g, c, cur, h1, _⟩
  · exact Or.inl h2
  · right
    simp only [Value.slice.injEq, true_and] at h1
    obtain ⟨rfl, rfl⟩ := h1
    refine ⟨g, 0, rfl, fun i hi => ?_⟩
    rw [Nat.zero_add, h.cellAt i (by omega), List.getElem?_map, List.getElem?_eq_getElem (by omega), List.getD_eq_getElem?_getD, List.getElem?_eq_getElem (by omega)]
    rfl
theorem Own.mono {e : TypeId} {k : IntKind} {w : World} {base base' n cap : Nat} {a : Option Addr} {zs : List Int} (h : Own e k w base a n cap zs) (hb : base' ≤ base) : Own e k w base' a n cap zs := by
  unfold Own at *
  refine ⟨h.1, ?_⟩
  rcases h.2 with h1 | ⟨g, c, cur, h1, h2, h3⟩
  · exact Or.inl h1
  · exact Or.inr ⟨g, c, cur, h1, Nat.le_trans hb h2, h3⟩
theorem Own.below {e : TypeId} {k : IntKind} {B : Nat} {w w' : World} {base n cap : Nat} {a : Option Addr} {zs : List Int} (h : Own e k w base a n cap zs) (hb : Below B w w') (hB : w.heap.size ≤ B) : Own e k w' base a n cap zs := by
  unfold Own at *
  refine ⟨h.1, ?_⟩
  rcases h.2 with h1 | ⟨g, c, cur, h1, h2, h3, h4⟩
  · exact Or.inl h1
  · have hlt : g < w.heap.size := by
      by_cases hg : g < w.heap.size
      · exact hg
      · rw [Array.getElem?_eq_none (by omega)] at h3; simp at h3
    exact Or.inr ⟨g, c, cur, h1, h2, by rw [hb.block g (by omega)]; exact h3, h4⟩
theorem Own.alloc {e : TypeId} {k : IntKind} {w : World} {base n cap : Nat} {a : Option Addr} {zs : List Int} (h : Own e k w base a n cap zs) (o : Obj) : Own e k (w.alloc o) base a n cap zs :=
  h.below ((Below.refl _ _).alloc (Nat.le_refl _) _) (Nat.le_refl _)
theorem Own.drew {e : TypeId} {k : IntKind} {w : World} {base n cap : Nat} {a : Option Addr} {zs : List Int} (h : Own e k w base a n cap zs) : Own e k w.drew base a n cap zs :=
  h.below ((Below.refl w.heap.size _).drew) (Nat.le_refl _)

/-- A slice behind which something is put in memory of the call's own: it lies there itself, or it has no spare room. -/
def Src (e : TypeId) (k : IntKind) (w : World) (base : Nat) (a : Option Addr) (n cap : Nat) (zs : List Int) : Prop :=
  Own e k w base a n cap zs ∨ (cap = n ∧ Row k w a n zs)

theorem Src.len {e : TypeId} {k : IntKind} {w : World} {base n cap : Nat} {a : Option Addr} {zs : List Int} (h : Src e k w base a n cap zs) : zs.length = n := by
  rcases h with h | ⟨_, h⟩
  · exact h.len
  · exact h.1
theorem Src.alloc {e : TypeId} {k : IntKind} {w : World} {base n cap : Nat} {a : Option Addr} {zs : List Int} (h : Src e k w base a n cap zs) (o : Obj) : Src e k (w.alloc o) base a n cap zs := by
  rcases h with h | ⟨h1, h⟩
  · exact Or.inl (h.alloc o)
  · exact Or.inr ⟨h1, h.alloc o⟩

theorem one_cell (k : IntKind) (zs : List Int) : ∀ u ∈ zs.map (Value.int k), u.oneCell' = true := by
  intro u hu
  obtain ⟨z, _, rfl⟩ := List.mem_map.1 hu
  rfl
theorem getD_map (k : IntKind) (zs : List Int) (j : Nat) (u : Value) (h : (zs.map (Value.int k))[j]? = some u) : j < zs.length ∧ u = .int k (zs.getD j 0) := by
  rw [List.getElem?_map] at h
  by_cases hj : j < zs.length
  · rw [List.getElem?_eq_getElem hj] at h
    refine ⟨hj, ?_⟩
    rw [List.getD_eq_getElem?_getD, List.getElem?_eq_getElem hj]
    simpa using h.symm
  · rw [List.getElem?_eq_none (by omega)] at h
    simp at h
theorem Row.cells {k : IntKind} {w : World} {ad : Addr} {n : Nat} {zs : List Int} (h : Row k w (some ad) n zs) (j : Nat) (u : Value) (hj : (zs.map (Value.int k))[j]? = some u) : w.cell? (ad.add j) = some u := by
  obtain ⟨h1, rfl⟩ := getD_map k zs j u hj
  obtain ⟨hl, _, _, h0 | ⟨b, off, he, hcell⟩⟩ := h
  · omega
  · simp only [Option.some.injEq] at he
    subst he
    rw [Addr.add_lit]
    exact hcell j (by omega)

theorem own_block {e : TypeId} {k : IntKind} {w : World} {base n cap : Nat} {a : Option Addr} {zs : List Int} (h : Own e k w base a n cap zs) : ∀ g, (Value.slice a n cap).ownBlock = some g → base ≤ g := by
  intro g hg
  unfold Own at h
  rcases h.2 with ⟨h1, h2⟩ | ⟨g', c, cur, h1, h2, _⟩
  · rw [h1] at hg; simp [Value.ownBlock] at hg
  · rw [h1] at hg; simp only [Value.ownBlock, Option.some.injEq] at hg; omega

/-- The append of the bytes or numbers of a row, behind either. -/
theorem wpList_append_src {P : Program} {ek : IntKind} (w : World) {ops : Array Oper} {rest : List Oper} {o : Oper} {a : Act} {Q : Exit → Act → World → Prop} (hgd : o.guard = none) (s x : Operand) (t : TypeId)
    (ho : o.op = .call { callee := .builtin .append, args := #[s, x], argTypes := #[t, t] })
    (base : Nat) (e : TypeId) (i : TypeInfo) (bytes : Nat) (ht : P.underlying t = some (.slice e)) (hi : P.info? e = some i) (hz : i.zero = some (.int ek 0)) (hsize : i.size = 1) (hby : i.bytes = bytes)
    (ao : Option Addr) (n cap : Nat) (zs : List Int) (hs : a.eval s = .slice ao n cap) (hsrc : Src e ek w base ao n cap zs)
    (ad : Addr) (m c : Nat) (news : List Int) (hx : a.eval x = .slice (some ad) m c) (hm : 0 < m) (hrow : Row ek w (some ad) m news)
    (hbytes : (n + m) * bytes ≤ 140737488355328) (hb0 : 0 < bytes) (hbase : base ≤ w.heap.size)
    (h : ∀ a' cap' w', Own e ek w' base a' (n + m) cap' (zs ++ news) → Below base w w' → wpList P ops Q rest (a.put o.dst (.slice a' (n + m) cap')) w') : wpList P ops Q (o :: rest) a w := by
  have hnm : n + m ≤ maxLen := by
    have := Nat.le_mul_of_pos_right (n + m) hb0
    unfold maxLen; omega
  rcases hsrc with hown | ⟨rfl, hr⟩
  · refine wpList_append_own w hgd s x t ho base e i (.int ek 0) 1 bytes ht hi hz hsize hby rfl (by decide) _ n (zs.map (Value.int ek)) hs hown ad m c (news.map (Value.int ek)) hx (by simp [hrow.1]) hrow.cells (one_cell ek news) hnm hbytes hbase ?_
    intro v' w' h1 h2 _
    rw [← List.map_append] at h1
    obtain ⟨a', cap', rfl, h3⟩ := own_form h1
    exact h a' cap' w' h3 ((Below.refl _ _).grown h2 hbase (own_block hown))
  · refine wpList_append_grows w hgd s x t ho e i (.int ek 0) 1 bytes ht hi hz hsize hby rfl (by decide) ao cap cap (zs.map (Value.int ek)) hs (fun h => ⟨hr.nz h, hr.nz h⟩) (by simp [hr.1]) (by rintro b rfl; exact hr.cells) ad m c (news.map (Value.int ek)) hx (by simp [hrow.1]) hrow.cells (one_cell ek news) (by omega) hnm hbytes ?_
    intro v' w' h1 h2
    rw [← List.map_append] at h1
    obtain ⟨a', cap', rfl, h3⟩ := own_form h1
    exact h a' cap' w' (h3.mono hbase) (((Below.refl w.heap.size _).grown h2 (Nat.le_refl _) (fun k hk => by simp at hk)).mono hbase)

theorem cap_fits {n : Nat} (h : n ≤ 211106232532990) : Builtin.nextslicecap (n + 1) n * 1 ≤ 281474976710656 := by
  unfold Builtin.nextslicecap
  split
  · omega
  · split
    · omega
    · rw [growBy_four]
      repeat' split
      all_goals omega

/-- One byte behind either: up to one half more than 2^47 bytes, for one byte alone never asks for much more room than there is. -/
theorem wpList_append_one {P : Program} (w : World) {ops : Array Oper} {rest : List Oper} {o : Oper} {a : Act} {Q : Exit → Act → World → Prop} (hgd : o.guard = none) (s x : Operand) (t : TypeId)
    (ho : o.op = .call { callee := .builtin .append, args := #[s, x], argTypes := #[t, t] })
    (base : Nat) (e : TypeId) (i : TypeInfo) (ht : P.underlying t = some (.slice e)) (hi : P.info? e = some i) (hz : i.zero = some (.int .u8 0)) (hsize : i.size = 1) (hby : i.bytes = 1)
    (ao : Option Addr) (n cap : Nat) (zs : List Int) (hs : a.eval s = .slice ao n cap) (hsrc : Src e .u8 w base ao n cap zs)
    (ad : Addr) (c : Nat) (z : Int) (hx : a.eval x = .slice (some ad) 1 c) (hrow : Row .u8 w (some ad) 1 [z])
    (hbytes : n ≤ 211106232532990) (hbase : base ≤ w.heap.size)
    (h : ∀ a' cap' w', Own e .u8 w' base a' (n + 1) cap' (zs ++ [z]) → Below base w w' → wpList P ops Q rest (a.put o.dst (.slice a' (n + 1) cap')) w') : wpList P ops Q (o :: rest) a w := by
  by_cases hn : n + 1 ≤ 140737488355328
  · exact wpList_append_src w hgd s x t ho base e i 1 ht hi hz hsize hby ao n cap zs hs hsrc ad 1 c [z] hx (by decide) hrow (by omega) (by decide) hbase h
  -- the arm that grows, a slice without spare room
  have grow : ∀ b, ao = some b → cap = n → (∀ j u, (zs.map (Value.int .u8))[j]? = some u → w.cell? (b.add j) = some u) → wpList P ops Q (o :: rest) a w := by
    rintro b rfl rfl holds
    have hl := hsrc.len
    have hlen : (zs.map (Value.int .u8)).length = cap * i.size := by rw [List.length_map, hl, hsize, Nat.mul_one]
    have hr := run_append_grow (P := P) w t o.type e i (.int .u8 0) ht hi hz b cap cap (zs.map (Value.int .u8)) hlen holds ad 1 c ([z].map (Value.int .u8)) (by rw [hsize]; rfl) hrow.cells (by omega) (by omega) (by rw [hby]; exact cap_fits hbytes)
    have hge := grownCap_ge w (cap + 1) cap e
    have hcm : grownCap w (cap + 1) cap e ≤ maxLen := grownCap_le_maxLen w (cap + 1) cap e (by unfold maxLen; omega)
    refine wpList_plain hgd fun K hK => ?_
    unfold Oper.wp execOp
    simp only [ho, resolve, invoke, builtin, Sem.run_bind, Sem.run_pure, Result.andThen_ok, List.map_toArray, List.map_cons, List.map_nil, hs, hx]
    rw [hr]
    refine hK _ _ (h _ _ _ ?_ ?_)
    · refine Own.mono (base := w.heap.size) ?_ hbase
      refine ⟨by simp [hl], .inr ⟨w.heap.size, _, _, rfl, Nat.le_refl _, heap_alloc_new w.drew _, hge, hcm, ?_, ?_⟩⟩
      · simp only [Array.size_append, List.size_toArray, size_zeroCells, List.length_map, hl, Value.cells]
        simp
        omega
      · rw [Array.toList_append, Array.toList_append, Nat.mul_one, List.map_append]
        have : (zs.map (Value.int .u8) ++ [z].map (Value.int .u8)).length = cap + 1 := by simp [hl]
        rw [← this]
        exact List.take_left
    · exact ((Below.refl w.heap.size w).drew.alloc (Nat.le_refl _) _).mono hbase
  rcases id hsrc with hown | ⟨rfl, hr⟩
  · have hcap := hown.capped
    have hown0 := hown
    unfold Own at hown
    rcases hown.2 with ⟨_, h2⟩ | ⟨g, cp, cur, h1, _⟩
    · omega
    · simp only [Value.slice.injEq, true_and] at h1
      obtain ⟨rfl, rfl⟩ := h1
      by_cases hroom : n + 1 ≤ cap
      · refine wpList_append_fits w hgd s x t ho base e i 1 ht hi hsize g n cap (zs.map (Value.int .u8)) hs hown ad 1 c ([z].map (Value.int .u8)) hx rfl hrow.cells (one_cell .u8 [z]) hroom ?_
        intro w' h1 h2
        rw [← List.map_append] at h1
        exact h _ _ _ h1 ((Below.refl _ _).grown h2 hbase (own_block hown0))
      · exact grow _ rfl (by omega) (hown.cells (g := g) rfl)
  · cases ao with
    | none => have := hr.nz rfl; omega
    | some b => exact grow b rfl rfl hr.cells

/-- One number in a block of its own: what an append of one number lays. -/
theorem one_row {k : IntKind} (w : World) (z : Int) (hz : (Lit.int k z).wf = true) (e : TypeId) (m : Nat × Nat) : Row k (w.alloc (.cells #[.int k z] e m)) (some ⟨w.heap.size, 0, none⟩) 1 [z] := by
  refine ⟨rfl, by omega, by simpa using hz, Or.inr ⟨_, _, rfl, fun i hi => ?_⟩⟩
  have : i = 0 := by omega
  subst this
  rw [World.cell?_alloc_mark]
  rfl

/-- A string's bytes as numbers. -/
def numsOf (s : ByteArray) : List Int := s.data.toList.map fun b => (b.toNat : Int)
theorem numsOf_len (s : ByteArray) : (numsOf s).length = s.size := by unfold numsOf; rw [List.length_map, Array.length_toList]; rfl
theorem numsOf_wf (s : ByteArray) : ∀ z ∈ numsOf s, (Lit.int .u8 z).wf = true := by
  intro z hz
  obtain ⟨b, _, rfl⟩ := List.mem_map.1 hz
  exact wf_of_u8 (by omega) (by have := b.toNat_lt; omega)
theorem strCells_nums (s : ByteArray) : Lib.strCells s = (numsOf s).map (Value.int .u8) := by
  unfold Lib.strCells numsOf
  rw [List.map_map]; rfl
theorem strOf_nums (s : ByteArray) : strOfNums (numsOf s) = s := by
  unfold strOfNums numsOf
  rw [List.map_map]
  have : (fun n : Int => UInt8.ofNat n.toNat) ∘ (fun b : UInt8 => (b.toNat : Int)) = id := by funext b; simp
  rw [this, List.map_id]
theorem nums_strOf {zs : List Int} (h : ∀ z ∈ zs, (Lit.int .u8 z).wf = true) : numsOf (strOfNums zs) = zs := by
  unfold strOfNums numsOf
  simp only [List.map_map]
  conv => rhs; rw [← List.map_id zs]
  refine List.map_congr_left fun z hz => ?_
  have := u8_of_wf (h z hz)
  simp only [Function.comp_apply, UInt8.toNat_ofNat', id_eq]
  omega
theorem strOf_inj {xs ys : List Int} (hx : ∀ z ∈ xs, (Lit.int .u8 z).wf = true) (hy : ∀ z ∈ ys, (Lit.int .u8 z).wf = true) (h : strOfNums xs = strOfNums ys) : xs = ys := by
  rw [← nums_strOf hx, h, nums_strOf hy]
theorem strOf_append (xs ys : List Int) : strOfNums xs ++ strOfNums ys = strOfNums (xs ++ ys) := by
  apply ByteArray.ext
  unfold strOfNums
  simp

/-- The append of a text behind bytes of the call's own. -/
theorem wpList_append_text {P : Program} (w : World) {ops : Array Oper} {rest : List Oper} {o : Oper} {a : Act} {Q : Exit → Act → World → Prop} (hgd : o.guard = none) (sl x : Operand) (t u : TypeId)
    (ho : o.op = .call { callee := .builtin .append, args := #[sl, x], argTypes := #[t, u] })
    (base : Nat) (e : TypeId) (i : TypeInfo) (ht : P.underlying t = some (.slice e)) (hu : P.underlying u = some .string) (hi : P.info? e = some i) (hz : i.zero = some (.int .u8 0)) (hsize : i.size = 1) (hby : i.bytes = 1)
    (ao : Option Addr) (n cap : Nat) (zs : List Int) (hs : a.eval sl = .slice ao n cap) (hown : Own e .u8 w base ao n cap zs) (s : ByteArray) (hx : a.eval x = .string s)
    (hbytes : n + s.size ≤ 140737488355328) (hbase : base ≤ w.heap.size)
    (h : ∀ a' cap' w', Own e .u8 w' base a' (n + s.size) cap' (zs ++ numsOf s) → Below base w w' → wpList P ops Q rest (a.put o.dst (.slice a' (n + s.size) cap')) w') : wpList P ops Q (o :: rest) a w := by
  refine Lib.wpList_append_own_string w hgd sl x t u ho base e i ht hu hi hz hsize hby _ n (zs.map (Value.int .u8)) hs hown s hx (by unfold maxLen; omega) hbytes hbase ?_
  intro v' w' h1 h2 _
  rw [strCells_nums, ← List.map_append] at h1
  obtain ⟨a', cap', rfl, h3⟩ := own_form h1
  exact h a' cap' w' h3 ((Below.refl _ _).grown h2 hbase (own_block hown))
end Go.Proofs.YthlkmjaflomflaaGreat

namespace Go.Proofs.YthlkmjaflomflaaGreat

/-- All are bytes. -/
def Bytes8 (zs : List Int) : Prop := ∀ z ∈ zs, 0 ≤ z ∧ z ≤ 255
theorem Bytes8.drop {zs : List Int} (h : Bytes8 zs) (k : Nat) : Bytes8 (zs.drop k) := fun z hz => h z (List.mem_of_mem_drop hz)
theorem Bytes8.append {xs ys : List Int} (h : Bytes8 xs) (k : Bytes8 ys) : Bytes8 (xs ++ ys) := fun z hz => (List.mem_append.1 hz).elim (h z) (k z)

theorem getS_some {zs : List Int} {p v nx : Int} (hz : Bytes8 zs) (h : getS zs p = some (v, nx)) :
    W64 v ∧ ∃ k : Nat, p = k ∧ k < zs.length ∧ nx = ((k + (putS v).length : Nat) : Int) ∧ k + (putS v).length ≤ zs.length ∧ ∃ t, zs.drop k = putS v ++ t := by
  unfold getS at h
  split at h
  · rename_i hp
    obtain ⟨k, rfl⟩ := Int.eq_ofNat_of_zero_le hp.1
    rw [Int.toNat_natCast] at h
    cases hg : getA 0 0 (zs.drop k) with
    | none => rw [hg] at h; simp at h
    | some r =>
      rw [hg] at h
      obtain ⟨v', n⟩ := r
      simp only [Option.map_some, Option.some.injEq, Prod.mk.injEq] at h
      obtain ⟨h1, h2⟩ := h
      subst h1
      obtain ⟨hw, hn, t, ht⟩ := putS_get (hz.drop k) hg
      have hl := congrArg List.length ht
      rw [List.length_drop, List.length_append] at hl
      subst hn
      exact ⟨hw, k, rfl, by omega, by rw [← h2]; rfl, by omega, t, ht⟩
  · simp at h

theorem getS_at {v : Int} (hv : W64 v) (xs ys : List Int) : getS (xs ++ (putS v ++ ys)) xs.length = some (v, ((xs.length + (putS v).length : Nat) : Int)) := by
  have h1 := (putS_len v).1
  unfold getS
  rw [if_pos (by simp only [List.length_append]; omega), Int.toNat_natCast, List.drop_left, getS_put hv]
  rfl

theorem getS_short_at (v : Int) (xs : List Int) : getS (xs ++ (putS v).dropLast) xs.length = none := by
  unfold getS
  split
  · rw [Int.toNat_natCast, List.drop_left, getS_short]; rfl
  · rfl
theorem getS_end (xs : List Int) : getS xs xs.length = none := by
  unfold getS
  rw [if_neg (by omega)]

/-- How many things follow at a place: at most so many, and no more than bytes are left. -/
def sizeS (zs : List Int) (p most : Int) : Option (Int × Int) :=
  match getS zs p with
  | none => none
  | some (v, fr) => if most < 0 ∨ most < v ∨ zs.length - fr < v then none else some (v, fr)

theorem sizeS_some {zs : List Int} {p most v fr : Int} (hz : Bytes8 zs) (h : sizeS zs p most = some (v, fr)) :
    getS zs p = some (v, fr) ∧ 0 ≤ v ∧ v ≤ most ∧ 0 ≤ fr ∧ fr + v ≤ zs.length := by
  unfold sizeS at h
  split at h
  · simp at h
  · rename_i v' fr' hg
    split at h
    · simp at h
    · rename_i hc
      simp only [Option.some.injEq, Prod.mk.injEq] at h
      obtain ⟨rfl, rfl⟩ := h
      obtain ⟨hw, k, rfl, hk, hfr, hle, _⟩ := getS_some hz hg
      have hw0 := hw.1
      exact ⟨hg, by omega, by omega, by omega, by omega⟩

/-- The text at a place, of at most so many bytes, and the place behind it. -/
def textS (zs : List Int) (p most : Int) : Option (List Int × Int) :=
  match sizeS zs p most with
  | none => none
  | some (v, fr) => some ((zs.drop fr.toNat).take v.toNat, fr + v)

/-- A text's bytes. -/
def putT (s : List Int) : List Int := putS s.length ++ s

theorem w64_len {n : Nat} (h : n ≤ 9223372036854775807) : W64 (n : Int) := ⟨by omega, by omega⟩

theorem textS_back {zs : List Int} {p most e : Int} {s : List Int} (hz : Bytes8 zs) (h : textS zs p most = some (s, e)) :
    ∃ k : Nat, p = k ∧ (k : Int) < e ∧ e ≤ zs.length ∧ ∃ t, zs.drop k = putT s ++ t ∧ e = ((k + (putT s).length : Nat) : Int) := by
  unfold textS at h
  split at h
  · simp at h
  · rename_i v fr hs
    simp only [Option.some.injEq, Prod.mk.injEq] at h
    obtain ⟨h1, h2⟩ := h
    obtain ⟨hg, v0, _, _, hle⟩ := sizeS_some hz hs
    obtain ⟨hw, k, rfl, hk, hfr, _, t, ht⟩ := getS_some hz hg
    obtain ⟨m, rfl⟩ := Int.eq_ofNat_of_zero_le v0
    have hl1 := (putS_len (m : Int)).1
    have hd : zs.drop fr.toNat = t := by
      rw [hfr, Int.toNat_natCast, ← List.drop_drop, ht, List.drop_left]
    rw [hd, Int.toNat_natCast] at h1
    have hlt : m ≤ t.length := by
      have := congrArg List.length hd
      rw [List.length_drop] at this
      omega
    have hlen : s.length = m := by rw [← h1, List.length_take]; omega
    refine ⟨k, rfl, by omega, by omega, t.drop m, ?_, ?_⟩
    · unfold putT
      rw [hlen, List.append_assoc, ← h1, List.take_append_drop]
      exact ht
    · unfold putT
      rw [hlen, List.length_append, hlen]
      omega

theorem textS_at {s : List Int} (hs : s.length ≤ 9223372036854775807) (xs ys : List Int) : textS (xs ++ (putT s ++ ys)) xs.length s.length = some (s, ((xs.length + (putT s).length : Nat) : Int)) := by
  have hg := getS_at (w64_len hs) xs (s ++ ys)
  have hl1 := (putS_len (s.length : Int)).1
  unfold textS sizeS putT
  rw [List.append_assoc, hg]
  simp only [List.length_append]
  rw [if_neg (by omega)]
  simp only [Int.toNat_natCast]
  rw [← List.drop_drop, List.drop_left, List.drop_left, List.take_left]
  simp only [Option.some.injEq, Prod.mk.injEq, true_and]
  omega

theorem textS_short {s : List Int} (hs : s.length ≤ 9223372036854775807) : textS (putT s).dropLast 0 s.length = none := by
  cases s with
  | nil =>
    unfold textS sizeS
    rw [show getS (putT []).dropLast 0 = none from by unfold putT; rw [List.append_nil]; exact getS_short_at 0 []]
  | cons x t =>
    have e : (putT (x :: t)).dropLast = [] ++ (putS ((x :: t).length : Int) ++ (x :: t).dropLast) := by
      unfold putT
      rw [List.dropLast_append_of_ne_nil (by simp), List.nil_append]
    have hg := getS_at (w64_len hs) [] (x :: t).dropLast
    rw [← e] at hg
    unfold textS sizeS
    rw [show (0 : Int) = (([] : List Int).length : Int) from rfl, hg]
    simp only
    rw [if_pos]
    right; right
    rw [e]
    simp only [List.nil_append, List.length_append, List.length_dropLast, List.length_cons, List.length_nil]
    omega

/-- The bytes of a list, from one behind p on. -/
def riseB : Int → List Int → List Int
  | _, [] => []
  | p, x :: t => putS ((x - p - 1) % 18446744073709551616) ++ riseB x t
/-- The bytes of a list. -/
def putR (l : List Int) : List Int := putS l.length ++ riseB 18446744073709551615 l

/-- A list of so many numbers that rises from p on, got from a place on. -/
def riseG (zs : List Int) : Nat → Int → Int → Option (List Int × Int)
  | 0, _, q => some ([], q)
  | c + 1, p, q =>
    match getS zs q with
    | none => none
    | some (d, nx) => if 18446744073709551615 - p ≤ d then none else (riseG zs c (p + d + 1) nx).map fun r => ((p + d + 1) :: r.1, r.2)

/-- The list at a place, of at most so many, and the place behind it. -/
def riseS (zs : List Int) (p most : Int) : Option (List Int × Int) :=
  match sizeS zs p most with
  | none => none
  | some (v, fr) => riseG zs v.toNat (-1) fr

/-- It rises, from above p on. -/
def Rises : Int → List Int → Prop
  | _, [] => True
  | p, x :: t => p < x ∧ Rises x t

theorem w64_mod (x : Int) : W64 (x % 18446744073709551616) := ⟨by omega, by omega⟩

theorem riseB_top (l : List Int) : riseB (-1) l = riseB 18446744073709551615 l := by
  cases l with
  | nil => rfl
  | cons x t =>
    simp only [riseB]
    congr 2
    omega

theorem riseB_byte (p : Int) (l : List Int) : Bytes8 (riseB p l) := by
  induction l generalizing p with
  | nil => intro z hz; simp [riseB] at hz
  | cons x t ih => exact Bytes8.append (putS_byte (w64_mod _)) (ih x)
theorem riseB_len (p : Int) (l : List Int) : l.length ≤ (riseB p l).length ∧ (riseB p l).length ≤ 10 * l.length := by
  induction l generalizing p with
  | nil => simp [riseB]
  | cons x t ih =>
    have h1 := putS_len ((x - p - 1) % 18446744073709551616)
    have h2 := ih x
    simp only [riseB, List.length_append, List.length_cons]
    omega
theorem putR_byte {l : List Int} (h : l.length ≤ 9223372036854775807) : Bytes8 (putR l) := Bytes8.append (putS_byte (w64_len h)) (riseB_byte _ _)

theorem riseG_back {zs : List Int} (hz : Bytes8 zs) (c : Nat) (p q e : Int) (l : List Int) (hp : -1 ≤ p) (h : riseG zs c p q = some (l, e)) (k : Nat) (hk : q = k) (hkl : k ≤ zs.length) :
    l.length = c ∧ Rises p l ∧ (∀ x ∈ l, W64 x) ∧ e = ((k + (riseB p l).length : Nat) : Int) ∧ k + (riseB p l).length ≤ zs.length ∧ ∃ t, zs.drop k = riseB p l ++ t := by
  induction c generalizing p q l k with
  | zero =>
    simp only [riseG, Option.some.injEq, Prod.mk.injEq] at h
    obtain ⟨rfl, rfl⟩ := h
    exact ⟨rfl, trivial, by simp, by simp [riseB, hk], by simpa [riseB] using hkl, zs.drop k, by simp [riseB]⟩
  | succ c ih =>
    simp only [riseG] at h
    split at h
    · simp at h
    · rename_i d nx hg
      split at h
      · simp at h
      · rename_i hd
        cases hr : riseG zs c (p + d + 1) nx with
        | none => rw [hr] at h; simp at h
        | some r =>
          rw [hr] at h
          simp only [Option.map_some, Option.some.injEq, Prod.mk.injEq] at h
          obtain ⟨h1, h2⟩ := h
          obtain ⟨l', e'⟩ := r
          simp only at h1 h2
          subst h2
          subst h1
          obtain ⟨hw, k', hk', _, hnx, hle, t, ht⟩ := getS_some hz hg
          have : k' = k := by omega
          subst this
          have hd0 := hw.1
          have hd1 := hw.2
          have e1 : (p + d + 1 - p - 1) % 18446744073709551616 = d := by omega
          obtain ⟨i1, i2, i3, i4, i5, t', i6⟩ := ih (p + d + 1) nx l' (by omega) hr (k' + (putS d).length) hnx hle
          rw [← List.drop_drop, ht, List.drop_left] at i6
          refine ⟨by simp [i1], ⟨by omega, i2⟩, ?_, ?_, ?_, t', ?_⟩
          · intro x hx
            rcases List.mem_cons.1 hx with rfl | hx
            · exact ⟨by omega, by omega⟩
            · exact i3 x hx
          · simp only [riseB, e1, List.length_append]; rw [i4]; omega
          · simp only [riseB, e1, List.length_append]; omega
          · simp only [riseB, e1]; rw [ht, i6, List.append_assoc]

theorem riseG_at (l : List Int) (p : Int) (hp : -1 ≤ p) (hr : Rises p l) (hw : ∀ x ∈ l, W64 x) (xs ys : List Int) :
    riseG (xs ++ (riseB p l ++ ys)) l.length p xs.length = some (l, ((xs.length + (riseB p l).length : Nat) : Int)) := by
  induction l generalizing p xs with
  | nil => simp [riseG, riseB]
  | cons x t ih =>
    have hx := hw x (by simp)
    have hx0 := hx.1
    have hx1 := hx.2
    have hpx := hr.1
    have e1 : (x - p - 1) % 18446744073709551616 = x - p - 1 := by omega
    simp only [riseB, List.length_cons, riseG, e1]
    have hg := getS_at (v := x - p - 1) ⟨by omega, by omega⟩ xs (riseB x t ++ ys)
    rw [List.append_assoc, hg]
    simp only
    rw [if_neg (by omega), show p + (x - p - 1) + 1 = x from by omega]
    have hi := ih x (by omega) hr.2 (fun y hy => hw y (by simp [hy])) (xs ++ putS (x - p - 1))
    rw [List.append_assoc, List.length_append] at hi
    rw [hi]
    simp only [Option.map_some, Option.some.injEq, Prod.mk.injEq, true_and, List.length_append]
    omega

theorem riseG_short (l : List Int) (hl : l ≠ []) (p q : Int) (xs : List Int) : riseG (xs ++ (riseB q l).dropLast) l.length p xs.length = none := by
  induction l generalizing p q xs with
  | nil => exact absurd rfl hl
  | cons x t ih =>
    cases t with
    | nil =>
      simp only [riseB, List.append_nil, List.length_cons, List.length_nil, riseG]
      rw [getS_short_at]
    | cons y t =>
      have hne : riseB x (y :: t) ≠ [] := by
        intro h
        have := (riseB_len x (y :: t)).1
        rw [h] at this
        simp at this
      have e : (riseB q (x :: y :: t)).dropLast = putS ((x - q - 1) % 18446744073709551616) ++ (riseB x (y :: t)).dropLast := by
        rw [riseB, List.dropLast_append_of_ne_nil hne]
      rw [e, List.length_cons, riseG, getS_at (w64_mod _)]
      simp only
      split
      · rfl
      · have hi := ih (by simp) (p + (x - q - 1) % 18446744073709551616 + 1) x (xs ++ putS ((x - q - 1) % 18446744073709551616))
        rw [List.append_assoc, List.length_append] at hi
        rw [hi]
        rfl

theorem riseS_back {zs : List Int} {p most e : Int} {l : List Int} (hz : Bytes8 zs) (h : riseS zs p most = some (l, e)) :
    Rises (-1) l ∧ (∀ x ∈ l, W64 x) ∧ (l.length : Int) ≤ most ∧ l.length ≤ zs.length ∧ ∃ k : Nat, p = k ∧ (k : Int) < e ∧ e ≤ zs.length ∧ ∃ t, zs.drop k = putR l ++ t ∧ e = ((k + (putR l).length : Nat) : Int) := by
  unfold riseS at h
  split at h
  · simp at h
  · rename_i v fr hs
    obtain ⟨hg, v0, vm, _, hle⟩ := sizeS_some hz hs
    obtain ⟨hw, k, rfl, hk, hfr, hle2, t, ht⟩ := getS_some hz hg
    obtain ⟨m, rfl⟩ := Int.eq_ofNat_of_zero_le v0
    rw [Int.toNat_natCast] at h
    have hl1 := (putS_len (m : Int)).1
    obtain ⟨i1, i2, i3, i4, i5, t', i6⟩ := riseG_back hz m (-1) fr e l (by omega) h (k + (putS (m : Int)).length) hfr hle2
    rw [← List.drop_drop, ht, List.drop_left] at i6
    rw [riseB_top] at i4 i5 i6
    refine ⟨i2, i3, by omega, by omega, k, rfl, by omega, by omega, t', ?_, ?_⟩
    · unfold putR; rw [ht, i6, i1, List.append_assoc]
    · unfold putR; rw [i4, i1, List.length_append]; omega

theorem riseS_at {l : List Int} (hl : l.length ≤ 9223372036854775807) (hr : Rises (-1) l) (hw : ∀ x ∈ l, W64 x) (xs ys : List Int) :
    riseS (xs ++ (putR l ++ ys)) xs.length l.length = some (l, ((xs.length + (putR l).length : Nat) : Int)) := by
  have hg := getS_at (w64_len hl) xs (riseB 18446744073709551615 l ++ ys)
  have hb := (riseB_len 18446744073709551615 l).1
  unfold riseS sizeS putR
  rw [List.append_assoc, hg]
  simp only [List.length_append]
  rw [if_neg (by omega)]
  simp only [Int.toNat_natCast]
  have hi := riseG_at l (-1) (by omega) hr hw (xs ++ putS (l.length : Int)) ys
  rw [riseB_top, List.append_assoc, List.length_append] at hi
  rw [hi]
  simp only [Option.some.injEq, Prod.mk.injEq, true_and]
  omega

theorem riseS_short {l : List Int} (hl : l.length ≤ 9223372036854775807) : riseS (putR l).dropLast 0 l.length = none := by
  cases l with
  | nil =>
    unfold riseS sizeS
    rw [show getS (putR []).dropLast 0 = none from by unfold putR riseB; rw [List.append_nil]; exact getS_short_at 0 []]
  | cons x t =>
    have hne : riseB 18446744073709551615 (x :: t) ≠ [] := by
      intro h
      have := (riseB_len 18446744073709551615 (x :: t)).1
      rw [h] at this
      simp at this
    have e : (putR (x :: t)).dropLast = [] ++ (putS ((x :: t).length : Int) ++ (riseB 18446744073709551615 (x :: t)).dropLast) := by
      unfold putR
      rw [List.dropLast_append_of_ne_nil hne, List.nil_append]
    have hg := getS_at (w64_len hl) [] (riseB 18446744073709551615 (x :: t)).dropLast
    rw [← e] at hg
    unfold riseS sizeS
    rw [show (0 : Int) = (([] : List Int).length : Int) from rfl, hg]
    simp only
    split
    · rfl
    · rename_i hs
      split at hs
      · simp at hs
      · simp only [Option.some.injEq, Prod.mk.injEq] at hs
        obtain ⟨rfl, rfl⟩ := hs
        rw [e, List.nil_append, Int.toNat_natCast, List.length_nil, Nat.zero_add]
        exact riseG_short (x :: t) (by simp) (-1) _ _
end Go.Proofs.YthlkmjaflomflaaGreat

namespace Go.Proofs.YthlkmjaflomflaaGreat
open Go.RowKit Go.ChangeShapes
set_option maxRecDepth 20000

theorem below_grown {w w' : World} (h : Below w.heap.size w w') : w.grownBy w' none := ⟨h.os, h.tape, h.output, h.size, fun k hk _ => h.block k hk⟩
theorem boxed_below {w w' : World} {B : Nat} {t : TypeId} {v : Value} (h : Boxed w B t v) (k : Below w.heap.size w w') : Boxed w' B t v := (k.block B h.lt).trans h

/-- These blocks alone may have turned. -/
structure Ch (S : Nat → Prop) (w w' : World) : Prop where
  os : w'.os = w.os
  tape : w'.tape = w.tape
  output : w'.output = w.output
  size : w.heap.size ≤ w'.heap.size
  block : ∀ k, k < w.heap.size → ¬ S k → w'.heap[k]? = w.heap[k]?

theorem Ch.refl (S : Nat → Prop) (w : World) : Ch S w w := ⟨rfl, rfl, rfl, Nat.le_refl _, fun _ _ _ => rfl⟩
theorem Ch.trans {S : Nat → Prop} {a b c : World} (h : Ch S a b) (k : Ch S b c) : Ch S a c :=
  ⟨k.os.trans h.os, k.tape.trans h.tape, k.output.trans h.output, Nat.le_trans h.size k.size, fun i hi hs => (k.block i (Nat.lt_of_lt_of_le hi h.size) hs).trans (h.block i hi hs)⟩
theorem Ch.more {S S' : Nat → Prop} {a b : World} (h : Ch S a b) (hs : ∀ k, k < a.heap.size → S k → S' k) : Ch S' a b :=
  ⟨h.os, h.tape, h.output, h.size, fun k hk hn => h.block k hk (fun h' => hn (hs k hk h'))⟩
theorem Ch.grown {w w' : World} {row : Option Nat} (h : w.grownBy w' row) : Ch (fun k => row = some k) w w' :=
  ⟨h.os, h.tape, h.output, h.size, fun k hk hn => h.block k hk (fun e => hn e.symm)⟩
theorem Ch.alloc {S : Nat → Prop} {a w : World} (h : Ch S a w) (o : Obj) : Ch S a (w.alloc o) :=
  ⟨h.os, h.tape, h.output, by simp; exact Nat.le_trans h.size (by omega), fun k hk hn => (Below.heap_alloc w o k (Nat.lt_of_lt_of_le hk h.size)).trans (h.block k hk hn)⟩
theorem Ch.set (w : World) (b : Nat) (v : Value) : Ch (fun k => k = b) w (w.setCell ⟨b, 0, none⟩ v) :=
  ⟨rfl, rfl, rfl, (KeepsWalks.setCell w _ v).size, fun k _ hn => Below.heap_setCell _ _ _ k hn⟩
theorem ch_set (w : World) (g i : Nat) (v : Value) : Ch (fun k => k = g) w (w.setCell ⟨g, i, none⟩ v) :=
  ⟨rfl, rfl, rfl, by simp [World.setCell], fun k _ hn => Below.heap_setCell w _ v k hn⟩
theorem Ch.of_below {w w' : World} (h : Below w.heap.size w w') : Ch (fun _ => False) w w' := ⟨h.os, h.tape, h.output, h.size, fun k hk _ => h.block k hk⟩
theorem Ch.below {S : Nat → Prop} {w w' : World} {B : Nat} (h : Ch S w w') (hB : B ≤ w.heap.size) (hs : ∀ k, k < B → ¬ S k) : Below B w w' :=
  ⟨h.os, h.tape, h.output, h.size, fun k hk => h.block k (by omega) (hs k hk)⟩

/-- A block of cells of a type. -/
def CellsT (w : World) (g : Nat) (t : TypeId) : Prop := ∃ cur mk, w.heap[g]? = some (.cells cur t mk)
theorem CellsT.lt {w : World} {g : Nat} {t : TypeId} (h : CellsT w g t) : g < w.heap.size := by
  obtain ⟨_, _, h⟩ := h
  exact (Array.getElem?_eq_some_iff.1 h).1
theorem CellsT.ne {w : World} {g g' : Nat} {t t' : TypeId} (h : CellsT w g t) (k : CellsT w g' t') (hn : t ≠ t') : g ≠ g' := by
  rintro rfl
  obtain ⟨_, _, h⟩ := h
  obtain ⟨_, _, k⟩ := k
  rw [h] at k
  simp at k
  exact hn k.2.1
theorem boxed_cells {w : World} {B : Nat} {t : TypeId} {v : Value} (h : Boxed w B t v) : CellsT w B t := ⟨_, _, h⟩
theorem row_cells {w : World} {base : Nat} {e : TypeId} {size : Nat} {v : Value} {n : Nat} {xs : List Value} (h : w.ownsRow base e size v n xs) {g : Nat} (hg : v.ownBlock = some g) : CellsT w g e ∧ base ≤ g := by
  rcases h.2 with ⟨rfl, _⟩ | ⟨g', cap, cur, rfl, hb, hgb, _⟩
  · simp [Value.ownBlock] at hg
  · obtain rfl : g' = g := by simpa [Value.ownBlock] using hg
    exact ⟨⟨_, _, hgb⟩, hb⟩
theorem boxed_ch {S : Nat → Prop} {w w' : World} {B : Nat} {t : TypeId} {v : Value} (h : Boxed w B t v) (c : Ch S w w') (hn : ¬ S B) : Boxed w' B t v := (c.block B h.lt hn).trans h
theorem row_ch {S : Nat → Prop} {w w' : World} {base : Nat} {e : TypeId} {size : Nat} {v : Value} {n : Nat} {xs : List Value} (h : w.ownsRow base e size v n xs) (c : Ch S w w') (hn : ∀ g, v.ownBlock = some g → ¬ S g) : w'.ownsRow base e size v n xs := by
  refine ⟨h.1, ?_⟩
  rcases h.2 with h1 | ⟨g, cap, cur, rfl, hb, hgb, hr⟩
  · exact .inl h1
  · exact .inr ⟨g, cap, cur, rfl, hb, (c.block g (Array.getElem?_eq_some_iff.1 hgb).1 (hn g rfl)).trans hgb, hr⟩

theorem row_form {w : World} {base : Nat} {e : TypeId} {v : Value} {n : Nat} {xs : List Value} (h : w.ownsRow base e 1 v n xs) : ∃ a cap, v = .slice a n cap := by
  rcases h.2 with ⟨rfl, rfl⟩ | ⟨g, cap, cur, rfl, _⟩
  · exact ⟨none, 0, rfl⟩
  · exact ⟨_, _, rfl⟩

/-- One element behind a row of the call's own: where the longer row lies. -/
theorem wpList_push {P : Program} (w : World) {ops : Array Oper} {rest : List Oper} {o : Oper} {a : Act} {Q : Exit → Act → World → Prop} (hgd : o.guard = none) (s x : Operand) (t : TypeId)
    (ho : o.op = .call { callee := .builtin .append, args := #[s, x], argTypes := #[t, t] })
    (base : Nat) (e : TypeId) (i : TypeInfo) (z : Value) (bytes : Nat) (ht : P.underlying t = some (.slice e)) (hi : P.info? e = some i) (hz : i.zero = some z) (hsize : i.size = 1) (hby : i.bytes = bytes) (hzs : z.cells.size = 1)
    (ao : Option Addr) (n cap : Nat) (xs : List Value) (hs : a.eval s = .slice ao n cap) (hown : w.ownsRow base e 1 (.slice ao n cap) n xs)
    (ad : Addr) (c : Nat) (u : Value) (hx : a.eval x = .slice (some ad) 1 c) (hc : ∀ j u', [u][j]? = some u' → w.cell? (ad.add j) = some u') (h1 : u.oneCell' = true)
    (h63 : n + 1 ≤ maxLen) (hbytes : (n + 1) * bytes ≤ 140737488355328) (hbase : base ≤ w.heap.size)
    (h : ∀ g' cap' w', w'.ownsRow base e 1 (.slice (some ⟨g', 0, none⟩) (n + 1) cap') (n + 1) (xs ++ [u]) → w.grownBy w' (Value.slice ao n cap).ownBlock → ((Value.slice ao n cap).ownBlock = some g' ∨ w.heap.size ≤ g') → wpList P ops Q rest (a.put o.dst (.slice (some ⟨g', 0, none⟩) (n + 1) cap')) w') : wpList P ops Q (o :: rest) a w := by
  have hlen : xs.length = n := by simpa using hown.1
  have h1' : ∀ u' ∈ [u], u'.oneCell' = true := by intro u' hu'; simp at hu'; rw [hu']; exact h1
  have grow : cap < n + 1 → (ao = none → n = 0 ∧ cap = 0) → (∀ b, ao = some b → ∀ j u', xs[j]? = some u' → w.cell? (b.add j) = some u') → wpList P ops Q (o :: rest) a w := by
    intro hf hnone hcells
    refine wpList_append_grows w hgd s x t ho e i z 1 bytes ht hi hz hsize hby hzs (by decide) ao n cap xs hs hnone (by omega) hcells ad 1 c [u] hx rfl hc h1' hf h63 hbytes ?_
    intro v' w' h2 h3
    obtain ⟨g', cap', rfl⟩ := ownsRow_succ h2
    have hg := (row_cells h2 (g := g') rfl).2
    have h4 : w'.ownsRow base e 1 (.slice (some ⟨g', 0, none⟩) (n + 1) cap') (n + 1) (xs ++ [u]) := by
      refine ⟨h2.1, ?_⟩
      rcases h2.2 with h5 | ⟨g, c', cur, h5, h6, h7⟩
      · exact .inl h5
      · exact .inr ⟨g, c', cur, h5, by omega, h7⟩
    exact h g' cap' w' h4 ⟨h3.os, h3.tape, h3.output, h3.size, fun k hk _ => h3.block k hk (by simp)⟩ (Or.inr hg)
  rcases id hown.2 with ⟨h2, h3⟩ | ⟨g, c', cur, h2, h3, h4, h5, _⟩
  · simp only [Value.slice.injEq] at h2
    obtain ⟨rfl, rfl, rfl⟩ := h2
    exact grow (by omega) (fun _ => ⟨rfl, rfl⟩) (fun b hb => by simp at hb)
  · simp only [Value.slice.injEq, true_and] at h2
    obtain ⟨rfl, rfl⟩ := h2
    by_cases hroom : n + 1 ≤ cap
    · refine wpList_append_fits w hgd s x t ho base e i 1 ht hi hsize g n cap xs hs hown ad 1 c [u] hx rfl hc h1' hroom ?_
      intro w' h6 h7
      exact h g cap w' h6 h7 (Or.inl rfl)
    · exact grow (by omega) (fun hb => by simp at hb) (fun b hb => by simp at hb; subst hb; exact hown.cells (g := g) rfl)

theorem one_strcell (w : World) (s : ByteArray) (e : TypeId) (j : Nat) (u : Value) (h : [Value.string s][j]? = some u) : (w.alloc (.cells #[.string s] e)).cell? ((⟨w.heap.size, 0, none⟩ : Addr).add j) = some u := by
  match j, h with
  | 0, h => simp at h; subst h; rw [Addr.add_lit, World.cell?_alloc_mark]; rfl
theorem one_intcell (w : World) (k : Int) (e : TypeId) (j : Nat) (u : Value) (h : [Value.int .i64 k][j]? = some u) : (w.alloc (.cells #[.int .i64 k] e)).cell? ((⟨w.heap.size, 0, none⟩ : Addr).add j) = some u := by
  match j, h with
  | 0, h => simp at h; subst h; rw [Addr.add_lit, World.cell?_alloc_mark]; rfl

theorem row_mono {w : World} {base base' : Nat} {e : TypeId} {v : Value} {n : Nat} {xs : List Value} (h : w.ownsRow base e 1 v n xs) (hb : base' ≤ base) : w.ownsRow base' e 1 v n xs := by
  refine ⟨h.1, ?_⟩
  rcases h.2 with h1 | ⟨g, c, cur, h1, h2, h3⟩
  · exact Or.inl h1
  · exact Or.inr ⟨g, c, cur, h1, Nat.le_trans hb h2, h3⟩

/-- A slice of n texts. -/
def RowX (w : World) (a : Option Addr) (n : Nat) (ss : List ByteArray) : Prop :=
  ss.length = n ∧ n ≤ 140737488355328 ∧ (n = 0 ∨ ∃ b off, a = some ⟨b, off, none⟩ ∧ ∀ i, i < n → w.cell? ⟨b, off + i, none⟩ = some (.string (ss.getD i ByteArray.empty)))
theorem RowX.below {B : Nat} {w w' : World} {a : Option Addr} {n : Nat} {ss : List ByteArray} (h : RowX w a n ss) (hb : Below B w w') (hB : w.heap.size ≤ B) : RowX w' a n ss := by
  obtain ⟨h1, h3, h4⟩ := h
  refine ⟨h1, h3, ?_⟩
  rcases h4 with h4 | ⟨b, off, rfl, hc⟩
  · exact Or.inl h4
  · right
    refine ⟨b, off, rfl, fun i hi => ?_⟩
    have hlt : b < w.heap.size := World.block_lt_of_cell? w _ (hc i hi)
    rw [hb.cell (p := ⟨b, off + i, none⟩) (Nat.lt_of_lt_of_le hlt hB)]
    exact hc i hi

/-- What the walk is told of a slice of texts. -/
def IsTextsF (w : World) (a : Option Addr) (len cap : Nat) (ss : List ByteArray) : Prop :=
  cap * 16 ≤ 140737488351232 ∧ ((a = none ∧ len = 0 ∧ cap = 0 ∧ ss = []) ∨
  ∃ x, a = some x ∧ len ≤ cap ∧ ss.length = cap ∧ ∀ i, i < ss.length → w.cell? (x.add i) = some (.string (ss.getD i ByteArray.empty)))
theorem textsF_of {w : World} {a : Option Addr} {len cap : Nat} {ss : List ByteArray} (h : IsTextsF w a len cap ss) : RowX w a len (ss.take len) := by
  obtain ⟨hc, ⟨rfl, rfl, rfl, rfl⟩ | ⟨x, rfl, hl, hz, hcell⟩⟩ := h
  · exact ⟨rfl, by omega, Or.inl rfl⟩
  · refine ⟨by rw [List.length_take]; omega, by omega, ?_⟩
    by_cases h0 : len = 0
    · exact Or.inl h0
    · right
      obtain ⟨b, off, spot⟩ := x
      have hs : spot = none := by simpa [Addr.add] using World.cell?_spot (hcell 0 (by omega))
      subst hs
      refine ⟨b, off, rfl, fun i hi => ?_⟩
      have := hcell i (by omega)
      rw [Addr.add_lit] at this
      rw [this]
      simp [hi]

/-- The same, each text as long as a text may be. -/
def IsTextsZ (w : World) (a : Option Addr) (len cap : Nat) (ss : List ByteArray) : Prop := IsTextsF w a len cap ss ∧ ∀ s ∈ ss, s.size ≤ maxLen
theorem getD_text {p : ByteArray → Prop} {ss : List ByteArray} (h : ∀ s ∈ ss, p s) {i : Nat} (hi : i < ss.length) : p (ss.getD i ByteArray.empty) := by
  rw [List.getD_eq_getElem?_getD, List.getElem?_eq_getElem hi]
  exact h _ (List.getElem_mem hi)
theorem take_text {ss : List ByteArray} {k : Nat} (h : k < ss.length) : ss.take (k + 1) = ss.take k ++ [ss.getD k ByteArray.empty] := by
  rw [List.take_succ_eq_append_getElem h, List.getD_eq_getElem?_getD, List.getElem?_eq_getElem h]
  rfl
theorem RowX.cells {w : World} {ad : Addr} {n : Nat} {ss : List ByteArray} (h : RowX w (some ad) n ss) (j : Nat) (u : Value) (hj : (ss.map Value.string)[j]? = some u) : w.cell? (ad.add j) = some u := by
  rw [List.getElem?_map] at hj
  by_cases hl : j < ss.length
  · rw [List.getElem?_eq_getElem hl] at hj
    obtain ⟨h1, _, h0 | ⟨b, off, he, hcell⟩⟩ := h
    · omega
    · simp only [Option.some.injEq] at he
      subst he
      rw [Addr.add_lit, hcell j (by omega), List.getD_eq_getElem?_getD, List.getElem?_eq_getElem hl]
      simpa using hj
  · rw [List.getElem?_eq_none (by omega)] at hj
    simp at hj
theorem texts_oneCell (ss : List ByteArray) : ∀ u ∈ ss.map Value.string, u.oneCell' = true := by
  intro u hu
  obtain ⟨z, _, rfl⟩ := List.mem_map.1 hu
  rfl
/-- A sketch's blocks and its list behind a call that may turn its blocks alone. -/
def StepK (At : World → Nat → (Nat → Prop) → List Int → Prop) (w w' : World) (g : Nat) (S : Nat → Prop) (l : List Int) : Prop :=
  ∃ S', At w' g S' l ∧ (∀ k, S' k → S k ∨ w.heap.size ≤ k) ∧ Ch S w w'
/-- A sketch that is made. -/
def MadeK (At : World → Nat → (Nat → Prop) → List Int → Prop) (w w' : World) (g : Nat) (l : List Int) : Prop :=
  ∃ S, At w' g S l ∧ (∀ k, S k → w.heap.size ≤ k) ∧ Below w.heap.size w w'
end Go.Proofs.YthlkmjaflomflaaGreat

namespace Go.Proofs.YthlkmjaflomflaaGreat

section
variable {P : Program} {ops : Array Oper} {Q : Exit → Act → World → Prop} {md : Region.Mode} {S : World → Prop}

theorem held_take {i : Nat} {oi : Oper} {d : Option Tmp} {v : Value} {fuel : Nat} {listed : Array Bool} {a : Act} {w : World} (hi : ops[i]? = some oi) (hd : oi.dst = d)
    (hs : Region.noSelect ops = true) (hf : Region.free md ops listed i = true) (hr : (Region.ready md ops listed).contains i = true)
    (hQ : ∀ c a w, Q (.panic c) (a.put d v) w → Q (.panic c) a w) (hy : YieldsIf P ops S oi v a) (hS : S w)
    (h : wpAnyH P md ops Q S fuel (listed.setIfInBounds i true) (a.put d v) w) : wpAnyH P md ops Q S (fuel + 1) listed a w := by
  subst hd
  exact wpAnyH_take hi hs hf hr hQ hy hS h

theorem held_mono {S' : World → Prop} (hS : ∀ w, S' w → S w) : ∀ (fuel : Nat) (listed : Array Bool) (a : Act) (w : World), wpAnyH P md ops Q S' fuel listed a w → wpAnyH P md ops Q S fuel listed a w
  | 0, _, _, _, h => h
  | fuel + 1, _, _, _, h => ⟨h.1, fun i hi => wpOp_mono (fun _ _ h' => ⟨hS _ h'.1, held_mono hS fuel _ _ _ h'.2⟩) (h.2 i hi)⟩

theorem held_call {i : Nat} {o : Oper} {fuel : Nat} {listed : Array Bool} {a : Act} {w : World} (hr : Region.ready md ops listed = [i]) (ho : ops[i]? = some o) (hw : Region.wanted o (yielded ops a.tmps) = true)
    (h : ∀ K' : Act → World → Prop, Shut (∀ a w, S w → wpAnyH P md ops Q (fun w' => w' = w) fuel (listed.setIfInBounds i true) a w → K' a w) → Oper.wp P o a w K' Q) : wpAnyH P md ops Q S (fuel + 1) listed a w := by
  refine wpAnyH_all hr (by simp) ?_
  intro j hj
  have : j = i := by simpa using hj
  subst this
  unfold wpOp
  simp only [ho]
  rw [if_pos hw]
  refine Or.inl (h _ ?_)
  intro a' w' hS h'
  exact ⟨hS, held_mono (by rintro _ rfl; exact hS) _ _ _ _ h'⟩

/-- The same, where the condition stays as it was. -/
theorem held_next {i : Nat} {o : Oper} {fuel : Nat} {listed : Array Bool} {a : Act} {w : World} (hr : Region.ready md ops listed = [i]) (ho : ops[i]? = some o) (hw : Region.wanted o (yielded ops a.tmps) = true)
    (h : ∀ K' : Act → World → Prop, Shut (∀ a w, S w → wpAnyH P md ops Q S fuel (listed.setIfInBounds i true) a w → K' a w) → Oper.wp P o a w K' Q) : wpAnyH P md ops Q S (fuel + 1) listed a w := by
  refine wpAnyH_all hr (by simp) ?_
  intro j hj
  have : j = i := by simpa using hj
  subst this
  unfold wpOp
  simp only [ho]
  rw [if_pos hw]
  refine Or.inl (h _ ?_)
  intro a' w' hS h'
  exact ⟨hS, h'⟩
end
end Go.Proofs.YthlkmjaflomflaaGreat

namespace Go.Proofs.YthlkmjaflomflaaGreat
set_option linter.unusedVariables false
open Go.RowKit
set_option maxRecDepth 20000

/-- A row of structs, each laid out in so many cells. -/
def OwnG {α : Type} (e : TypeId) (sz : Nat) (fl : α → List Value) (w : World) (base : Nat) (a : Option Addr) (n cap : Nat) (l : List α) : Prop := w.ownsRow base e sz (.slice a n cap) n (l.flatMap fl)
section
variable {α : Type} {e : TypeId} {sz : Nat} {fl : α → List Value}
theorem flatG_len (hf : ∀ x, (fl x).length = sz) (l : List α) : (l.flatMap fl).length = l.length * sz := by
  induction l with
  | nil => simp
  | cons x t ih => rw [List.flatMap_cons, List.length_append, ih, hf, List.length_cons, Nat.add_mul, Nat.one_mul, Nat.add_comm]
theorem flatG_at (hf : ∀ x, (fl x).length = sz) {l : List α} {i : Nat} {x : α} (h : l[i]? = some x) {j : Nat} (hj : j < sz) : (l.flatMap fl)[i * sz + j]? = (fl x)[j]? := by
  induction l generalizing i with
  | nil => simp at h
  | cons y t ih =>
    rw [List.flatMap_cons]
    cases i with
    | zero =>
      simp at h
      subst h
      rw [Nat.zero_mul, Nat.zero_add, List.getElem?_append_left (by rw [hf]; exact hj)]
    | succ i =>
      rw [List.getElem?_append_right (by rw [hf, Nat.add_mul, Nat.one_mul]; omega), hf, show (i + 1) * sz + j - sz = i * sz + j by rw [Nat.add_mul, Nat.one_mul]; omega]
      exact ih (by simpa using h)
variable {w w' : World} {base n cap : Nat} {a : Option Addr} {l : List α}
theorem ownG_nil (w : World) (base : Nat) : OwnG e sz fl w base none 0 0 [] := World.ownsRow_nil _ _ _ _
theorem OwnG.len (hf : ∀ x, (fl x).length = sz) (hz : 0 < sz) (h : OwnG e sz fl w base a n cap l) : l.length = n := by
  have := h.1
  rw [flatG_len hf] at this
  exact Nat.eq_of_mul_eq_mul_right hz this
theorem OwnG.capped (h : OwnG e sz fl w base a n cap l) : n ≤ cap ∧ (a = none → n = 0 ∧ cap = 0) := by
  unfold OwnG at h
  rcases h.2 with ⟨h1, h2⟩ | ⟨g, c, cur, h1, _, _, h4, _⟩
  · simp only [Value.slice.injEq] at h1
    exact ⟨by omega, fun _ => ⟨by omega, by omega⟩⟩
  · simp only [Value.slice.injEq, true_and] at h1
    obtain ⟨rfl, rfl⟩ := h1
    exact ⟨h4, fun h => by simp at h⟩
/-- Where an element lies. -/
theorem OwnG.at (hf : ∀ x, (fl x).length = sz) (hz : 0 < sz) (h : OwnG e sz fl w base a n cap l) {i : Nat} {x : α} (hi : l[i]? = some x) : ∃ g, a = some ⟨g, 0, none⟩ ∧ i < n ∧ n ≤ cap ∧ ∀ j v, (fl x)[j]? = some v → w.cell? ⟨g, i * sz + j, none⟩ = some v := by
  have hl := h.len hf hz
  have hlt : i < l.length := (List.getElem?_eq_some_iff.1 hi).1
  unfold OwnG at h
  rcases id h.2 with ⟨h1, h2⟩ | ⟨g, c, cur, h1, _, _, h4, _⟩
  · omega
  · simp only [Value.slice.injEq, true_and] at h1
    obtain ⟨rfl, rfl⟩ := h1
    refine ⟨g, rfl, by omega, h4, fun j v hv => ?_⟩
    have hj : j < sz := by
      have := (List.getElem?_eq_some_iff.1 hv).1
      rw [hf] at this
      exact this
    have hb : i * sz + j < n * sz := by
      have h5 : (i + 1) * sz ≤ n * sz := Nat.mul_le_mul_right sz (by omega)
      rw [Nat.add_mul, Nat.one_mul] at h5
      omega
    rw [h.cellAt (i * sz + j) hb, flatG_at hf hi hj]
    exact hv
theorem OwnG.ch {S : Nat → Prop} (h : OwnG e sz fl w base a n cap l) (c : Ch S w w') (hn : ∀ g, (Value.slice a n cap).ownBlock = some g → ¬ S g) : OwnG e sz fl w' base a n cap l := row_ch h c hn
theorem OwnG.below {B : Nat} (h : OwnG e sz fl w base a n cap l) (hb : Below B w w') (hB : w.heap.size ≤ B) : OwnG e sz fl w' base a n cap l := h.ch (Ch.of_below (hb.mono hB)) (fun _ _ => id)
theorem OwnG.alloc (h : OwnG e sz fl w base a n cap l) (o : Obj) : OwnG e sz fl (w.alloc o) base a n cap l := h.below ((Below.refl _ _).alloc (Nat.le_refl _) _) (Nat.le_refl _)
theorem OwnG.cellsT (h : OwnG e sz fl w base a n cap l) : ∀ g, (Value.slice a n cap).ownBlock = some g → CellsT w g e ∧ base ≤ g := fun _ hg => row_cells h hg
theorem OwnG.mono {base' : Nat} (h : OwnG e sz fl w base a n cap l) (hb : base' ≤ base) : OwnG e sz fl w base' a n cap l := by
  unfold OwnG at *
  refine ⟨h.1, ?_⟩
  rcases h.2 with h1 | ⟨g, c, cur, h1, h2, h3⟩
  · exact Or.inl h1
  · exact Or.inr ⟨g, c, cur, h1, Nat.le_trans hb h2, h3⟩
theorem ownG_form {v : Value} (h : w.ownsRow base e sz v n (l.flatMap fl)) : ∃ a cap, v = .slice a n cap ∧ OwnG e sz fl w base a n cap l := by
  have h0 := h
  rcases h.2 with ⟨rfl, h2⟩ | ⟨g, cap, cur, rfl, _⟩
  · subst h2; exact ⟨none, 0, rfl, h0⟩
  · exact ⟨_, _, rfl, h0⟩
theorem flatG_take (hf : ∀ x, (fl x).length = sz) (l : List α) : ∀ k, (l.flatMap fl).take (k * sz) = (l.take k).flatMap fl := by
  induction l with
  | nil => intro k; simp
  | cons x t ih =>
    intro k
    cases k with
    | zero => simp
    | succ k =>
      rw [List.take_succ_cons, List.flatMap_cons, List.flatMap_cons, List.take_append, hf, show (k + 1) * sz - sz = k * sz by rw [Nat.add_mul, Nat.one_mul]; omega, ih, List.take_of_length_le (by rw [hf, Nat.add_mul, Nat.one_mul]; omega)]
/-- Cut to its first elements. -/
theorem OwnG.cut (hf : ∀ x, (fl x).length = sz) (hz : 0 < sz) (h : OwnG e sz fl w base a n cap l) {k : Nat} (hk : k ≤ n) : OwnG e sz fl w base a k cap (l.take k) := by
  have hl := h.len hf hz
  unfold OwnG at *
  refine ⟨by rw [flatG_len hf, List.length_take, hl, Nat.min_eq_left hk], ?_⟩
  rcases h.2 with ⟨h1, h2⟩ | ⟨g, c, cur, h1, h2, h3, h4, h5, h6, h7⟩
  · subst h2
    obtain rfl : k = 0 := by omega
    exact Or.inl ⟨h1, rfl⟩
  · simp only [Value.slice.injEq, true_and] at h1
    obtain ⟨rfl, rfl⟩ := h1
    refine Or.inr ⟨g, cap, cur, rfl, h2, h3, by omega, h5, h6, ?_⟩
    rw [← flatG_take hf, ← h7, List.take_take, Nat.min_eq_left (Nat.mul_le_mul_right _ hk)]
/-- Structs put behind a row of the call's own. -/
theorem wpList_app_g {P : Program} (hf : ∀ x, (fl x).length = sz) (hsz : 0 < sz) (hone : ∀ x, ∀ u ∈ fl x, u.oneCell' = true) (w : World) {ops : Array Oper} {rest : List Oper} {o : Oper} {a : Act} {Q : Exit → Act → World → Prop} (hgd : o.guard = none) (s x : Operand) (t : TypeId)
    (ho : o.op = .call { callee := .builtin .append, args := #[s, x], argTypes := #[t, t] })
    (base : Nat) (i : TypeInfo) (z : Value) (bytes : Nat) (ht : P.underlying t = some (.slice e)) (hi : P.info? e = some i) (hz : i.zero = some z) (hsize : i.size = sz) (hby : i.bytes = bytes) (hzc : z.cells.size = sz)
    (ao : Option Addr) (n cap : Nat) (l : List α) (hs : a.eval s = .slice ao n cap) (hown : OwnG e sz fl w base ao n cap l)
    (bo : Option Addr) (m c : Nat) (news : List α) (hx : a.eval x = .slice bo m c) (hm : news.length = m) (hrow : ∀ ad, bo = some ad → ∀ j u, (news.flatMap fl)[j]? = some u → w.cell? (ad.add j) = some u) (hbo : bo = none → m = 0 ∧ c = 0)
    (h63 : n + m ≤ 1099511627776) (hbytes : (n + m) * bytes ≤ 140737488355328) (hbase : base ≤ w.heap.size)
    (h : ∀ a' cap' w', OwnG e sz fl w' base a' (n + m) cap' (l ++ news) → w.grownBy w' (Value.slice ao n cap).ownBlock → wpList P ops Q rest (a.put o.dst (.slice a' (n + m) cap')) w') : wpList P ops Q (o :: rest) a w := by
  cases bo with
  | none =>
    obtain ⟨rfl, rfl⟩ := hbo rfl
    have hz : news = [] := List.length_eq_zero_iff.1 hm
    subst hz
    refine wpList_append_own_none hgd s x t ho base e i sz ht hi _ n (l.flatMap fl) hs hown hx ?_
    exact h ao cap w (by rw [List.append_nil]; exact hown) ⟨rfl, rfl, rfl, Nat.le_refl _, fun _ _ _ => rfl⟩
  | some ad =>
    refine wpList_append_own w hgd s x t ho base e i z sz bytes ht hi hz hsize hby hzc hsz _ n (l.flatMap fl) hs hown ad m c (news.flatMap fl) hx (by rw [flatG_len hf, hm]) (hrow ad rfl) (fun u hu => by obtain ⟨y, -, hy⟩ := List.mem_flatMap.1 hu; exact hone y u hy) (by unfold maxLen; omega) hbytes hbase ?_
    intro v' w' h1 h2 _
    rw [← List.flatMap_append] at h1
    obtain ⟨a', cap', rfl, h3⟩ := ownG_form h1
    exact h a' cap' w' h3 h2
/-- Where a row's cells lie, all of them. -/
theorem OwnG.cellsAll (h : OwnG e sz fl w base a n cap l) : ∀ ad, a = some ad → ∀ j u, (l.flatMap fl)[j]? = some u → w.cell? (ad.add j) = some u := by
  intro ad ha j u hj
  unfold OwnG at h
  rcases id h.2 with ⟨h1, h2⟩ | ⟨g, c, cur, h1, _⟩
  · simp only [Value.slice.injEq] at h1
    rw [ha] at h1
    simp at h1
  · simp only [Value.slice.injEq, true_and] at h1
    obtain ⟨rfl, rfl⟩ := h1
    obtain rfl := Option.some.inj ha
    exact h.cells (g := g) rfl j u hj
/-- Blocks from base on alone have turned. -/
theorem OwnG.grown {u : World} (h : OwnG e sz fl w base a n cap l) (hb : base ≤ w.heap.size) (k : w.grownBy u (Value.slice a n cap).ownBlock) : Below base w u := (Ch.grown k).below hb (fun g hg hh => by have := (h.cellsT g hh).2; omega)
end
/-- Two operations that are ready: either may come first. -/
theorem held_pair {P : Program} {ops : Array Oper} {Q : Exit → Act → World → Prop} {md : Region.Mode} {S : World → Prop} {i j : Nat} {o o' : Oper} {fuel : Nat} {listed : Array Bool} {a : Act} {w : World} (hr : Region.ready md ops listed = [i, j]) (ho : ops[i]? = some o) (hw : Region.wanted o (yielded ops a.tmps) = true) (ho' : ops[j]? = some o') (hw' : Region.wanted o' (yielded ops a.tmps) = true)
    (h : ∀ K' : Act → World → Prop, Shut (∀ a w, S w → wpAnyH P md ops Q S fuel (listed.setIfInBounds i true) a w → K' a w) → Oper.wp P o a w K' Q)
    (h' : ∀ K' : Act → World → Prop, Shut (∀ a w, S w → wpAnyH P md ops Q S fuel (listed.setIfInBounds j true) a w → K' a w) → Oper.wp P o' a w K' Q) : wpAnyH P md ops Q S (fuel + 1) listed a w := by
  refine wpAnyH_all hr (by simp) ?_
  intro k hk
  have : k = i ∨ k = j := by simpa using hk
  rcases this with e | e
  · subst e
    unfold wpOp
    simp only [ho]
    rw [if_pos hw]
    exact Or.inl (h _ (fun a' w' hS q => ⟨hS, q⟩))
  · subst e
    unfold wpOp
    simp only [ho']
    rw [if_pos hw']
    exact Or.inl (h' _ (fun a' w' hS q => ⟨hS, q⟩))
end Go.Proofs.YthlkmjaflomflaaGreat

namespace Go.Proofs.YthlkmjaflomflaaGreat

/-- A label: its name, its value. -/
abbrev Lb := ByteArray × ByteArray
theorem ba_ext {a b : ByteArray} (h : a.toList = b.toList) : a = b := by
  rw [ByteArray.toList_eq, ByteArray.toList_eq] at h
  cases a with | mk x => cases b with | mk y => congr 1; exact Array.ext' h
theorem ba_eq {a b : ByteArray} : (a.toList == b.toList) = decide (a = b) := by
  rw [Bool.eq_iff_iff, beq_iff_eq, decide_eq_true_eq]
  exact ⟨ba_ext, fun h => by rw [h]⟩
theorem ba_len (a : ByteArray) : a.toList.length = a.size := by rw [ByteArray.toList_eq, Array.length_toList]; rfl

/-- A way to hold two things against each other. -/
structure IsCmp {α : Type} (c : α → α → Int) : Prop where
  zero : ∀ x y, c x y = 0 ↔ x = y
  turn : ∀ x y, c y x = - c x y
  trans : ∀ x y z, c x y ≤ 0 → c y z ≤ 0 → c x z ≤ 0
theorem IsCmp.self {α : Type} {c : α → α → Int} (h : IsCmp c) (x : α) : c x x = 0 := (h.zero x x).2 rfl
theorem IsCmp.lt {α : Type} {c : α → α → Int} (h : IsCmp c) {x y z : α} (h1 : c x y < 0) (h2 : c y z ≤ 0) : c x z < 0 := by
  have h3 := h.trans x y z (by omega) h2
  rcases Int.lt_or_eq_of_le h3 with h4 | h4
  · exact h4
  · rw [h.zero] at h4
    subst h4
    have := h.turn x y
    omega
theorem IsCmp.lt' {α : Type} {c : α → α → Int} (h : IsCmp c) {x y z : α} (h1 : c x y ≤ 0) (h2 : c y z < 0) : c x z < 0 := by
  have h3 := h.trans x y z h1 (by omega)
  rcases Int.lt_or_eq_of_le h3 with h4 | h4
  · exact h4
  · rw [h.zero] at h4
    subst h4
    have := h.turn x y
    omega
def lexP {α β : Type} (c : α → α → Int) (d : β → β → Int) (x y : α × β) : Int := if c x.1 y.1 = 0 then d x.2 y.2 else c x.1 y.1
theorem IsCmp.pair {α β : Type} {c : α → α → Int} {d : β → β → Int} (hc : IsCmp c) (hd : IsCmp d) : IsCmp (lexP c d) := by
  refine ⟨fun x y => ?_, fun x y => ?_, fun x y z h1 h2 => ?_⟩
  · unfold lexP
    constructor
    · intro h
      split at h
      · rename_i e
        exact Prod.ext ((hc.zero _ _).1 e) ((hd.zero _ _).1 h)
      · rename_i e; exact absurd h e
    · rintro rfl
      rw [if_pos (hc.self _)]; exact hd.self _
  · unfold lexP
    have h := hc.turn x.1 y.1
    by_cases e : c x.1 y.1 = 0
    · rw [if_pos e, if_pos (by omega)]; exact hd.turn _ _
    · rw [if_neg e, if_neg (by omega)]; exact h
  · unfold lexP at *
    by_cases e1 : c x.1 y.1 = 0
    · rw [if_pos e1] at h1
      have q := (hc.zero _ _).1 e1
      rw [q]
      by_cases e2 : c y.1 z.1 = 0
      · rw [if_pos e2] at h2 ⊢; exact hd.trans _ _ _ h1 h2
      · rw [if_neg e2] at h2 ⊢; exact h2
    · rw [if_neg e1] at h1
      by_cases e2 : c y.1 z.1 = 0
      · have q := (hc.zero _ _).1 e2
        rw [← q, if_neg e1]; exact h1
      · rw [if_neg e2] at h2
        have := hc.lt (x := x.1) (by omega) h2
        rw [if_neg (by omega)]; omega
def lexL {α : Type} (c : α → α → Int) : List α → List α → Int
  | [], [] => 0
  | [], _ :: _ => -1
  | _ :: _, [] => 1
  | x :: a, y :: b => if c x y = 0 then lexL c a b else c x y
theorem IsCmp.list {α : Type} {c : α → α → Int} (hc : IsCmp c) : IsCmp (lexL c) := by
  refine ⟨fun x => ?_, fun x => ?_, fun x => ?_⟩
  · induction x with
    | nil => intro y; cases y <;> simp [lexL]
    | cons x a ih =>
      intro y
      cases y with
      | nil => simp [lexL]
      | cons y b =>
        rw [lexL]
        constructor
        · intro h
          split at h
          · rename_i e
            rw [(hc.zero _ _).1 e, (ih b).1 h]
          · rename_i e; exact absurd h e
        · intro h
          simp only [List.cons.injEq] at h
          rw [if_pos ((hc.zero _ _).2 h.1)]; exact (ih b).2 h.2
  · induction x with
    | nil => intro y; cases y <;> simp [lexL]
    | cons x a ih =>
      intro y
      cases y with
      | nil => simp [lexL]
      | cons y b =>
        rw [lexL, lexL]
        have h := hc.turn x y
        by_cases e : c x y = 0
        · rw [if_pos e, if_pos (by omega)]; exact ih b
        · rw [if_neg e, if_neg (by omega)]; exact h
  · induction x with
    | nil => intro y z _ _; cases z <;> simp [lexL]
    | cons x a ih =>
      intro y z h1 h2
      cases y with
      | nil => simp [lexL] at h1
      | cons y b =>
        cases z with
        | nil => simp [lexL] at h2
        | cons z d =>
          rw [lexL] at h1 h2 ⊢
          by_cases e1 : c x y = 0
          · rw [if_pos e1] at h1
            have q := (hc.zero _ _).1 e1
            subst q
            by_cases e2 : c x z = 0
            · rw [if_pos e2] at h2 ⊢; exact ih b d h1 h2
            · rw [if_neg e2] at h2 ⊢; exact h2
          · rw [if_neg e1] at h1
            by_cases e2 : c y z = 0
            · have q := (hc.zero _ _).1 e2
              subst q
              rw [if_neg e1]; exact h1
            · rw [if_neg e2] at h2
              have := hc.lt (x := x) (by omega) h2
              rw [if_neg (by omega)]; omega

theorem less_irrefl (x : List UInt8) : Op.bytesLess x x = false := by
  induction x with
  | nil => rfl
  | cons a x ih =>
    rw [Op.bytesLess, ih]
    simp
theorem less_trans : ∀ {x y z : List UInt8}, Op.bytesLess x y = true → Op.bytesLess y z = true → Op.bytesLess x z = true
  | _, [], _, h, _ => by cases ‹List UInt8› <;> simp [Op.bytesLess] at h
  | _, _ :: _, [], _, h => by simp [Op.bytesLess] at h
  | [], _ :: _, _ :: _, _, _ => rfl
  | a :: x, b :: y, c :: z, h1, h2 => by
    simp only [Op.bytesLess, Bool.or_eq_true, Bool.and_eq_true, decide_eq_true_eq, beq_iff_eq] at h1 h2 ⊢
    rcases h1 with h1 | ⟨rfl, h1⟩
    · rcases h2 with h2 | ⟨rfl, h2⟩
      · exact Or.inl (UInt8.lt_trans h1 h2)
      · exact Or.inl h1
    · rcases h2 with h2 | ⟨rfl, h2⟩
      · exact Or.inl h2
      · exact Or.inr ⟨rfl, less_trans h1 h2⟩
theorem less_tri : ∀ (x y : List UInt8), Op.bytesLess x y = true ∨ x = y ∨ Op.bytesLess y x = true
  | [], [] => Or.inr (Or.inl rfl)
  | [], _ :: _ => Or.inl rfl
  | _ :: _, [] => Or.inr (Or.inr rfl)
  | a :: x, b :: y => by
    simp only [Op.bytesLess, Bool.or_eq_true, Bool.and_eq_true, decide_eq_true_eq, beq_iff_eq, List.cons.injEq]
    have tri : a < b ∨ a = b ∨ b < a := by
      rcases Nat.lt_trichotomy a.toNat b.toNat with h | h | h
      · exact Or.inl (UInt8.lt_iff_toNat_lt.2 h)
      · exact Or.inr (Or.inl (UInt8.toNat_inj.1 h))
      · exact Or.inr (Or.inr (UInt8.lt_iff_toNat_lt.2 h))
    rcases tri with h | rfl | h
    · exact Or.inl (Or.inl h)
    · rcases less_tri x y with h | h | h
      · exact Or.inl (Or.inr ⟨rfl, h⟩)
      · exact Or.inr (Or.inl ⟨rfl, h⟩)
      · exact Or.inr (Or.inr (Or.inr ⟨rfl, h⟩))
    · exact Or.inr (Or.inr (Or.inl h))
theorem less_asymm {x y : List UInt8} (h : Op.bytesLess x y = true) : Op.bytesLess y x = false := by
  cases e : Op.bytesLess y x with
  | false => rfl
  | true => have := less_trans h e; rw [less_irrefl] at this; cases this
/-- Which of two texts comes first. -/
def cmpT (a b : ByteArray) : Int := if Op.bytesLess a.toList b.toList then -1 else if Op.bytesLess b.toList a.toList then 1 else 0
theorem cmpT_is : IsCmp cmpT := by
  refine ⟨fun x y => ?_, fun x y => ?_, fun x y z h1 h2 => ?_⟩
  · unfold cmpT
    rcases less_tri x.toList y.toList with h | h | h
    · rw [if_pos h]
      exact ⟨fun e => absurd e (by decide), fun e => by rw [e, less_irrefl] at h; cases h⟩
    · rw [ba_ext h, if_neg (by rw [less_irrefl]; decide), if_neg (by rw [less_irrefl]; decide)]
      simp
    · rw [if_neg (by rw [less_asymm h]; decide), if_pos h]
      exact ⟨fun e => absurd e (by decide), fun e => by rw [e, less_irrefl] at h; cases h⟩
  · unfold cmpT
    rcases less_tri x.toList y.toList with h | h | h
    · rw [if_pos h, if_neg (by rw [less_asymm h]; decide), if_pos h]; rfl
    · rw [ba_ext h, if_neg (by rw [less_irrefl]; decide), if_neg (by rw [less_irrefl]; decide)]; rfl
    · rw [if_pos h, if_neg (by rw [less_asymm h]; decide), if_pos h]
  · have one : ∀ a b : ByteArray, cmpT a b ≤ 0 → Op.bytesLess a.toList b.toList = true ∨ a = b := by
      intro a b h
      unfold cmpT at h
      rcases less_tri a.toList b.toList with e | e | e
      · exact Or.inl e
      · exact Or.inr (ba_ext e)
      · rw [if_neg (by rw [less_asymm e]; decide), if_pos e] at h
        omega
    have two : ∀ a b : ByteArray, Op.bytesLess a.toList b.toList = true → cmpT a b ≤ 0 := by
      intro a b h
      unfold cmpT
      rw [if_pos h]; decide
    rcases one _ _ h1 with e1 | rfl
    · rcases one _ _ h2 with e2 | rfl
      · exact two _ _ (less_trans e1 e2)
      · exact two _ _ e1
    · exact h2
theorem gtr_less (x y : List UInt8) : (!(Op.bytesLess x y || x == y)) = Op.bytesLess y x := by
  rcases less_tri x y with h | h | h
  · rw [h, less_asymm h]; rfl
  · subst h; rw [less_irrefl]; simp
  · rw [less_asymm h, h]
    have : (x == y) = false := beq_eq_false_iff_ne.2 (fun e => by rw [e, less_irrefl] at h; cases h)
    rw [this]; rfl
theorem cmpT_range (a b : ByteArray) : cmpT a b = -1 ∨ cmpT a b = 0 ∨ cmpT a b = 1 := by
  unfold cmpT
  split
  · exact Or.inl rfl
  · split
    · exact Or.inr (Or.inr rfl)
    · exact Or.inr (Or.inl rfl)
/-- Which of two sets comes first. -/
def cmpL (a b : List Lb) : Int := lexL (lexP cmpT cmpT) a b
theorem cmpL_is : IsCmp cmpL := (cmpT_is.pair cmpT_is).list

/-- May this byte stand in a name, at place i? -/
def nmC (i : Nat) (c : UInt8) : Bool := c == 95 || (decide (97 ≤ c) && decide (c ≤ 122)) || (decide (48 ≤ c) && decide (c ≤ 57) && decide (i ≠ 0))
def nmF : Nat → List UInt8 → Bool
  | _, [] => true
  | i, c :: t => nmC i c && nmF (i + 1) t
def nameB (s : ByteArray) : Bool := nmF 0 s.toList && (decide (1 ≤ s.size) && decide (s.size ≤ 32))
/-- One label that may be. -/
def lbB (x : Lb) : Bool := nameB x.1 && (decide (1 ≤ x.2.size) && decide (x.2.size ≤ 64))
/-- Labels that may be, each behind the one ahead. -/
def chkF : Option ByteArray → List Lb → Bool
  | _, [] => true
  | p, x :: t => (lbB x && (match p with | none => true | some q => Op.bytesLess q.toList x.1.toList)) && chkF (some x.1) t
def chkL (l : List Lb) : Bool := chkF none l && (decide (1 ≤ l.length) && decide (l.length ≤ 8))
def valL (l : List Lb) (n : ByteArray) : ByteArray := ((l.find? fun x => decide (x.1 = n)).map (·.2)).getD .empty

/-- One label more, behind those whose names are not behind it. -/
def insL (x : Lb) : List Lb → List Lb
  | [] => [x]
  | y :: t => if Op.bytesLess x.1.toList y.1.toList then x :: y :: t else y :: insL x t
def fulL (l : List Lb) : List Lb := l.filter fun x => decide (x.2 ≠ .empty)
def sortL (l : List Lb) : List Lb := l.foldl (fun m x => insL x m) []
def makeL (l : List Lb) : Option (List Lb) := if chkL (sortL (fulL l)) then some (sortL (fulL l)) else none
def notLess (x y : Lb) : Prop := Op.bytesLess y.1.toList x.1.toList = false
theorem insL_perm (x : Lb) (l : List Lb) : (insL x l).Perm (x :: l) := by
  induction l with
  | nil => exact List.Perm.refl _
  | cons y t ih =>
    rw [insL]
    split
    · exact List.Perm.refl _
    · exact (List.Perm.cons y ih).trans (List.Perm.swap x y t)
theorem sorts_perm (l m : List Lb) : (l.foldl (fun m x => insL x m) m).Perm (m ++ l) := by
  induction l generalizing m with
  | nil => rw [List.append_nil]; exact List.Perm.refl _
  | cons x t ih =>
    rw [List.foldl_cons]
    refine (ih _).trans ?_
    refine ((insL_perm x m).append_right t).trans ?_
    exact List.perm_middle.symm
theorem sortL_perm (l : List Lb) : (sortL l).Perm l := by
  have := sorts_perm l []
  rw [List.nil_append] at this
  exact this
theorem notLess_trans {x y z : Lb} (h1 : notLess x y) (h2 : notLess y z) : notLess x z := by
  unfold notLess at *
  cases e : Op.bytesLess z.1.toList x.1.toList with
  | false => rfl
  | true =>
    rcases less_tri x.1.toList y.1.toList with h | h | h
    · have := less_trans e h; rw [h2] at this; cases this
    · rw [h, h2] at e; cases e
    · rw [h1] at h; cases h
theorem insL_sorted {x : Lb} {l : List Lb} (h : l.Pairwise notLess) : (insL x l).Pairwise notLess := by
  induction l with
  | nil => exact List.pairwise_singleton _ _
  | cons y t ih =>
    have h1 := List.pairwise_cons.1 h
    rw [insL]
    split
    · rename_i e
      refine List.pairwise_cons.2 ⟨fun z hz => ?_, h⟩
      have hxy : notLess x y := less_asymm e
      rcases List.mem_cons.1 hz with rfl | hz
      · exact hxy
      · exact notLess_trans hxy (h1.1 z hz)
    · rename_i e
      refine List.pairwise_cons.2 ⟨fun z hz => ?_, ih h1.2⟩
      rcases List.mem_cons.1 ((insL_perm x t).mem_iff.1 hz) with rfl | hz
      · unfold notLess; simpa using e
      · exact h1.1 z hz
theorem sorts_sorted (l m : List Lb) (h : m.Pairwise notLess) : (l.foldl (fun m x => insL x m) m).Pairwise notLess := by
  induction l generalizing m with
  | nil => exact h
  | cons x t ih => exact ih _ (insL_sorted h)
theorem sortL_sorted (l : List Lb) : (sortL l).Pairwise notLess := sorts_sorted l [] List.Pairwise.nil
def less (x y : Lb) : Prop := Op.bytesLess x.1.toList y.1.toList = true
theorem chkF_less : ∀ {p : Option ByteArray} {l : List Lb}, chkF p l = true → l.Pairwise less ∧ ∀ q, p = some q → ∀ x ∈ l, Op.bytesLess q.toList x.1.toList = true
  | _, [], _ => ⟨List.Pairwise.nil, fun _ _ x hx => by cases hx⟩
  | p, x :: t, h => by
    simp only [chkF, Bool.and_eq_true] at h
    obtain ⟨h1, h2⟩ := chkF_less h.2
    refine ⟨List.pairwise_cons.2 ⟨fun y hy => h2 x.1 rfl y hy, h1⟩, fun q hq y hy => ?_⟩
    subst hq
    have h3 : Op.bytesLess q.toList x.1.toList = true := h.1.2
    rcases List.mem_cons.1 hy with rfl | hy
    · exact h3
    · exact less_trans h3 (h2 x.1 rfl y hy)
theorem chkL_less {l : List Lb} (h : chkL l = true) : l.Pairwise less := by
  unfold chkL at h
  simp only [Bool.and_eq_true] at h
  exact (chkF_less h.1).1
/-- Two labels of a set that have one name are one. -/
theorem pair_one : ∀ {l : List Lb}, l.Pairwise less → ∀ {x y : Lb}, x ∈ l → y ∈ l → x.1 = y.1 → x = y
  | [], _, _, _, hx, _, _ => by cases hx
  | z :: t, h, x, y, hx, hy, e => by
    have h1 := List.pairwise_cons.1 h
    rcases List.mem_cons.1 hx with rfl | hx'
    · rcases List.mem_cons.1 hy with rfl | hy'
      · rfl
      · have := h1.1 y hy'; unfold less at this; rw [e, less_irrefl] at this; cases this
    · rcases List.mem_cons.1 hy with rfl | hy'
      · have := h1.1 x hx'; unfold less at this; rw [e, less_irrefl] at this; cases this
      · exact pair_one h1.2 hx' hy' e
/-- Labels in another order come to the same set, if they come to one. -/
theorem sortL_turn {l m : List Lb} (hp : l.Perm m) (h : chkL (sortL l) = true) : sortL m = sortL l := by
  have h1 := chkL_less h
  have p : (sortL m).Perm (sortL l) := (sortL_perm m).trans (hp.symm.trans (sortL_perm l).symm)
  refine p.eq_of_pairwise (le := notLess) ?_ (sortL_sorted m) (sortL_sorted l)
  intro x y hx hy e1 e2
  have q : x.1 = y.1 := by
    rcases less_tri x.1.toList y.1.toList with e | e | e
    · unfold notLess at e2; rw [e] at e2; cases e2
    · exact ba_ext e
    · unfold notLess at e1; rw [e] at e1; cases e1
  exact pair_one h1 (p.mem_iff.1 hx) hy q
theorem makeL_turn {l m : List Lb} (hp : (fulL l).Perm (fulL m)) : makeL l = makeL m := by
  unfold makeL
  cases h : chkL (sortL (fulL l)) with
  | true => rw [if_pos rfl, sortL_turn hp h, h, if_pos rfl]
  | false =>
    cases h2 : chkL (sortL (fulL m)) with
    | false => rfl
    | true =>
      have := sortL_turn hp.symm h2
      rw [this, h2] at h
      cases h
/-- Turned round, with an empty one behind. -/
theorem makeL_round (l : List Lb) (k : Nat) (n : ByteArray) : makeL (l.drop k ++ l.take k ++ [(n, .empty)]) = makeL l := by
  refine makeL_turn ?_
  unfold fulL
  rw [List.filter_append, List.filter_append]
  have e : ([(n, ByteArray.empty)] : List Lb).filter (fun x => decide (x.2 ≠ .empty)) = [] := by simp
  rw [e, List.append_nil, ← List.filter_append]
  exact (List.perm_append_comm.trans (List.Perm.of_eq (List.take_append_drop k l))).filter _
theorem valL_some {l : List Lb} (h : l.Pairwise less) {x : Lb} (hx : x ∈ l) : valL l x.1 = x.2 := by
  unfold valL
  cases e : l.find? (fun y => decide (y.1 = x.1)) with
  | none =>
    have := List.find?_eq_none.1 e x hx
    simp at this
  | some y =>
    have h1 := List.find?_some e
    have h2 := List.mem_of_find?_eq_some e
    rw [pair_one h h2 hx (by simpa using h1)]
    rfl
theorem valL_none {l : List Lb} {n : ByteArray} (h : ∀ x ∈ l, x.1 ≠ n) : valL l n = .empty := by
  unfold valL
  rw [List.find?_eq_none.2 (fun x hx => by simpa using h x hx)]
  rfl
end Go.Proofs.YthlkmjaflomflaaGreat

namespace Go.Proofs.YthlkmjaflomflaaGreat
open Go.RowKit
set_option maxRecDepth 20000
theorem ch_drewS {S : Nat → Prop} {a b : World} (h : Ch S a b) (q : Nat) : Ch S a (b.drewN q) := ⟨h.os, h.tape, h.output, h.size, h.block⟩
theorem ch_bel {w v u : World} {g : Nat} (h : Ch (fun b => b = g) w v) (k : Below w.heap.size v u) : Ch (fun b => b = g) w u :=
  ⟨k.os.trans h.os, k.tape.trans h.tape, k.output.trans h.output, Nat.le_trans h.size k.size, fun i hi hn => (k.block i hi).trans (h.block i hi hn)⟩
/-- The world behind a letter. -/
theorem wp_world {P : Program} {c : Code} {Q : Exit → Act → World → Prop} {a : Act} {W : World} (S : World → Prop) (h : S W) (k : ∀ u, S u → Code.wp P c Q a u) : Code.wp P c Q a W := k W h
end Go.Proofs.YthlkmjaflomflaaGreat
