/-
  Bytes and words in the program's own spelling (and, or, turned), what the walks are told of a slice of numbers (one that came in: Row; one in memory of the call's own: Own), and an append behind either.
  Conditions: each number fits its kind; a slice without spare room, or one of the call's own, is appended to.
-/
import Derived.Deep.Draws
import Derived.Test.YthlkmjaflomflaaHideK
import Derived.Test.YthlkmjaflomflaaVintK
import Derived.OpenShut
import Derived.WalkSpells
import Derived.Below
import Derived.ArgAppend
import Derived.Lib.AppendStr
import Derived.Laws.BytesArg
import Derived.OwnWalk
import Derived.Laws.OwnMore
namespace Go.Proofs.Ythlkmjaflomflaa
open Go.RowKit


theorem u8_of_wf {x : Int} (h : (Lit.int .u8 x).wf = true) : 0 ≤ x ∧ x ≤ 255 := by
  simp [Lit.wf, IntKind.min, IntKind.max, IntKind.signed, IntKind.bits] at h
  exact ⟨by omega, by omega⟩
theorem wf_of_u8 {x : Int} (h0 : 0 ≤ x) (h1 : x ≤ 255) : (Lit.int .u8 x).wf = true := by
  simp [Lit.wf, IntKind.min, IntKind.max, IntKind.signed, IntKind.bits]
  omega
theorem u64_of_wf {x : Int} (h : (Lit.int .u64 x).wf = true) : W64 x := by
  simp [Lit.wf, IntKind.min, IntKind.max, IntKind.signed, IntKind.bits] at h
  exact ⟨by omega, by omega⟩
theorem wf_of_u64 {x : Int} (h : W64 x) : (Lit.int .u64 x).wf = true := by
  unfold W64 at h
  simp [Lit.wf, IntKind.min, IntKind.max, IntKind.signed, IntKind.bits]
  omega
theorem i64_of_wf {x : Int} (h : (Lit.int .i64 x).wf = true) : -9223372036854775808 ≤ x ∧ x ≤ 9223372036854775807 := by
  simp [Lit.wf, IntKind.min, IntKind.max, IntKind.signed, IntKind.bits] at h
  exact ⟨by omega, by omega⟩

theorem or128_u8 {a : Int} (a0 : 0 ≤ a) (a1 : a ≤ 255) : bits .or .u8 a 128 = a % 128 + 128 := by
  obtain ⟨a, rfl⟩ := Int.eq_ofNat_of_zero_le a0
  have h1 : (BitVec.ofInt 8 (a : Int)).toNat = a := by
    rw [BitVec.ofInt_natCast, BitVec.toNat_ofNat]; exact Nat.mod_eq_of_lt (by omega)
  have h2 : (BitVec.ofInt 8 128).toNat = 128 := by decide
  have e : a ||| 128 = a % 128 + 128 := by
    have h3 : ∀ x, x < 256 → x ||| 128 = x % 128 + 128 := by decide +kernel
    exact h3 a (by omega)
  show IntKind.u8.wrap ((BitVec.ofInt 8 (a : Int) ||| BitVec.ofInt 8 128).toNat : Int) = _
  rw [BitVec.toNat_or, h1, h2, IntKind.wrap_u8, e]
  omega
theorem and127_u8 {a : Int} (a0 : 0 ≤ a) (a1 : a ≤ 255) : bits .and .u8 a 127 = a % 128 := by
  obtain ⟨a, rfl⟩ := Int.eq_ofNat_of_zero_le a0
  have h1 : (BitVec.ofInt 8 (a : Int)).toNat = a := by
    rw [BitVec.ofInt_natCast, BitVec.toNat_ofNat]; exact Nat.mod_eq_of_lt (by omega)
  have h2 : (BitVec.ofInt 8 127).toNat = 127 := by decide
  have e : a &&& 127 = a % 128 := Nat.and_two_pow_sub_one_eq_mod a 7
  show IntKind.u8.wrap ((BitVec.ofInt 8 (a : Int) &&& BitVec.ofInt 8 127).toNat : Int) = _
  rw [BitVec.toNat_and, h1, h2, IntKind.wrap_u8, e]
  omega
theorem nat_u64 {a : Nat} (h : a < 18446744073709551616) : (BitVec.ofInt 64 (a : Int)).toNat = a := by
  rw [BitVec.ofInt_natCast, BitVec.toNat_ofNat]; exact Nat.mod_eq_of_lt (by omega)
/-- Two words that share no bit: the one below 2^j, the other a multiple of it. -/
theorem or_u64 {a b : Int} (j : Nat) (a0 : 0 ≤ a) (a1 : a < 2 ^ j) (c : Int) (c0 : 0 ≤ c) (hb : b = c * 2 ^ j) (h : a + b < 18446744073709551616) : bits .or .u64 a b = a + b := by
  obtain ⟨a, rfl⟩ := Int.eq_ofNat_of_zero_le a0
  obtain ⟨c, rfl⟩ := Int.eq_ofNat_of_zero_le c0
  have hb' : b = ((2 ^ j * c : Nat) : Int) := by rw [hb, Int.natCast_mul, Int.natCast_pow, Int.mul_comm]; rfl
  have ha : a < 2 ^ j := by
    have e : ((2 ^ j : Nat) : Int) = (2 : Int) ^ j := by rw [Int.natCast_pow]; rfl
    rw [← e] at a1
    exact Int.ofNat_lt.1 a1
  subst hb'
  have e : a ||| 2 ^ j * c = a + 2 ^ j * c := by
    rw [Nat.or_comm, ← Nat.two_pow_add_eq_or_of_lt ha, Nat.add_comm]
  show IntKind.u64.wrap ((BitVec.ofInt 64 (a : Int) ||| BitVec.ofInt 64 ((2 ^ j * c : Nat) : Int)).toNat : Int) = _
  rw [BitVec.toNat_or, nat_u64 (by omega), nat_u64 (by omega), IntKind.wrap_u64, e]
  omega
theorem pw_two (j : Nat) : (128 : Int) ^ j = 2 ^ (7 * j) := by
  induction j with
  | zero => rfl
  | succ j ih => rw [pw_succ, ih, Nat.mul_succ, Int.pow_add, Int.mul_comm]; rfl
theorem pw_le : ∀ j, j < 10 → (2 : Int) ^ (7 * j) ≤ 9223372036854775808 := by decide
/-- A byte's seven bits upon what has been got. -/
theorem or_step {V c : Int} (j : Nat) (hj : j ≤ 9) (V0 : 0 ≤ V) (V1 : V < 2 ^ (7 * j)) (c0 : 0 ≤ c) (c1 : c ≤ 127) (h9 : j = 9 → c ≤ 1) :
    ∃ X, bits .or .u64 V (IntKind.u64.wrap (c * 2 ^ (7 * j))) = X ∧ 0 ≤ X ∧ X ≤ 18446744073709551615 ∧ X < 2 ^ (7 * (j + 1)) ∧ X = V + c * 128 ^ j := by
  have e1 : (2 : Int) ^ (7 * (j + 1)) = 128 * 2 ^ (7 * j) := by rw [← pw_two, ← pw_two, pw_succ]
  have hp := pw_le j (by omega)
  have h8 : j < 9 → (2 : Int) ^ (7 * (j + 1)) ≤ 9223372036854775808 := fun h => pw_le (j + 1) (by omega)
  rw [pw_two, e1]
  rw [e1] at h8
  have hp0 : (0 : Int) < 2 ^ (7 * j) := Int.pow_pos (by decide)
  have m0 : 0 ≤ c * 2 ^ (7 * j) := Int.mul_nonneg c0 (by omega)
  have m1 : c * 2 ^ (7 * j) ≤ 127 * 2 ^ (7 * j) := Int.mul_le_mul_of_nonneg_right c1 (by omega)
  have m2 : j = 9 → c * 2 ^ (7 * j) ≤ 1 * 2 ^ (7 * j) := fun h => Int.mul_le_mul_of_nonneg_right (h9 h) (by omega)
  have hX : V + c * 2 ^ (7 * j) < 18446744073709551616 := by
    by_cases h : j = 9
    · have := m2 h; omega
    · have := h8 (by omega); omega
  have hw : IntKind.u64.wrap (c * 2 ^ (7 * j)) = c * 2 ^ (7 * j) := by rw [IntKind.wrap_u64]; omega
  exact ⟨_, by rw [hw]; exact or_u64 (7 * j) V0 V1 c c0 rfl hX, by omega, by omega, by omega, rfl⟩
/-- A word turned left by one, a 1 put in. -/
theorem or1_u64 {y : Int} (y0 : 0 ≤ y) (y1 : y < 9223372036854775808) : bits .or .u64 (y * 2) 1 = y * 2 + 1 := by
  obtain ⟨y, rfl⟩ := Int.eq_ofNat_of_zero_le y0
  rw [Int.mul_comm]
  have e : (2 * y) ||| 1 = 2 * y + 1 := by
    have := Nat.two_pow_add_eq_or_of_lt (i := 1) (b := 1) (by decide) y
    rw [Nat.pow_one] at this
    exact this.symm
  have h2 : (BitVec.ofInt 64 1).toNat = 1 := by decide
  show IntKind.u64.wrap ((BitVec.ofInt 64 ((2 * y : Nat) : Int) ||| BitVec.ofInt 64 1).toNat : Int) = _
  rw [BitVec.toNat_or, nat_u64 (by omega), h2, IntKind.wrap_u64, e]
  omega
theorem not_i64 {v : Int} (h0 : -9223372036854775808 ≤ v) (h1 : v ≤ 9223372036854775807) : bits .xor .i64 (-1) v = -v - 1 := by
  have e : BitVec.ofInt 64 (-1) = BitVec.allOnes 64 := by decide
  show IntKind.i64.wrap ((BitVec.ofInt 64 (-1) ^^^ BitVec.ofInt 64 v).toNat : Int) = _
  rw [e, BitVec.allOnes_xor, BitVec.toNat_not, BitVec.toNat_ofInt, IntKind.wrap_i64]
  have h : (((v % ((2 ^ 64 : Nat) : Int)).toNat : Nat) : Int) = v % 18446744073709551616 := by omega
  omega
theorem and1_u64 {a : Int} (h : W64 a) : bits .and .u64 a 1 = a % 2 := by
  unfold W64 at h
  obtain ⟨a, rfl⟩ := Int.eq_ofNat_of_zero_le h.1
  have h2 : (BitVec.ofInt 64 1).toNat = 1 := by decide
  have e : a &&& 1 = a % 2 := Nat.and_two_pow_sub_one_eq_mod a 1
  show IntKind.u64.wrap ((BitVec.ofInt 64 (a : Int) &&& BitVec.ofInt 64 1).toNat : Int) = _
  rw [BitVec.toNat_and, nat_u64 (by omega), h2, IntKind.wrap_u64, e]
  omega

/-- How many bytes a number of a kind takes (of the two kinds that are met here). -/
def kb : IntKind → Nat
  | .u64 => 8
  | _ => 1
/-- What the law's shell hands on of a slice that came in: nil, or a row of 'cap' cells; and no more bytes than any slice may take. -/
def IsRow (k : IntKind) (w : World) (a : Option Addr) (len cap : Nat) (zs : List Int) : Prop :=
  cap * kb k ≤ 140737488351232 ∧ ((a = none ∧ len = 0 ∧ cap = 0 ∧ zs = []) ∨
  ∃ x, a = some x ∧ len ≤ cap ∧ cap ≤ maxLen ∧ zs.length = cap ∧ (∀ i, i < zs.length → w.cell? (x.add i) = some (.int k (zs.getD i 0))) ∧ ∀ n ∈ zs, (Lit.int k n).wf = true)

/-- A slice of n numbers that shows zs. -/
def Row (k : IntKind) (w : World) (a : Option Addr) (n : Nat) (zs : List Int) : Prop :=
  zs.length = n ∧ n ≤ 281474976710656 ∧ (∀ z ∈ zs, (Lit.int k z).wf = true) ∧
  (n = 0 ∨ ∃ b off, a = some ⟨b, off, none⟩ ∧ ∀ i, i < n → w.cell? ⟨b, off + i, none⟩ = some (.int k (zs.getD i 0)))

theorem row_of {k : IntKind} {w : World} {a : Option Addr} {len cap : Nat} {zs : List Int} (h : IsRow k w a len cap zs) : len ≤ cap ∧ cap * kb k ≤ 140737488351232 ∧ (a = none → cap = 0) ∧ Row k w a len (zs.take len) := by
  have hk : cap ≤ cap * kb k := Nat.le_mul_of_pos_right _ (by cases k <;> decide)
  obtain ⟨hc, ⟨rfl, rfl, rfl, rfl⟩ | ⟨x, rfl, hl, hm, hz, hcell, hwz⟩⟩ := h
  · exact ⟨by omega, by omega, fun _ => rfl, rfl, by omega, by simp, Or.inl rfl⟩
  · refine ⟨hl, hc, fun h => by simp at h, by rw [List.length_take]; omega, by omega, fun z h => hwz z (List.mem_of_mem_take h), ?_⟩
    by_cases h0 : len = 0
    · exact Or.inl h0
    · right
      obtain ⟨b, off, spot⟩ := x
      have hs : spot = none := by simpa [Addr.add] using World.cell?_spot (hcell 0 (by omega))
      subst hs
      refine ⟨b, off, rfl, fun i hi => ?_⟩
      have := hcell i (by omega)
      rw [Addr.add_lit] at this
      rw [this]
      simp [hi]

theorem getD_all {p : Int → Prop} {zs : List Int} (h : ∀ z ∈ zs, p z) (h0 : p 0) (i : Nat) : p (zs.getD i 0) := by
  by_cases hi : i < zs.length
  · rw [List.getD_eq_getElem?_getD, List.getElem?_eq_getElem hi]
    exact h _ (List.getElem_mem hi)
  · rw [List.getD_eq_getElem?_getD, List.getElem?_eq_none (by omega)]
    exact h0
theorem Row.byte {w : World} {a : Option Addr} {n : Nat} {zs : List Int} (h : Row .u8 w a n zs) (i : Nat) : 0 ≤ zs.getD i 0 ∧ zs.getD i 0 ≤ 255 :=
  getD_all (fun z hz => u8_of_wf (h.2.2.1 z hz)) (by decide) i
theorem Row.bytes {w : World} {a : Option Addr} {n : Nat} {zs : List Int} (h : Row .u8 w a n zs) : ∀ z ∈ zs, 0 ≤ z ∧ z ≤ 255 := fun z hz => u8_of_wf (h.2.2.1 z hz)
theorem Row.word {w : World} {a : Option Addr} {n : Nat} {zs : List Int} (h : Row .u64 w a n zs) (i : Nat) : W64 (zs.getD i 0) :=
  getD_all (fun z hz => u64_of_wf (h.2.2.1 z hz)) ⟨by decide, by decide⟩ i
theorem Row.words {w : World} {a : Option Addr} {n : Nat} {zs : List Int} (h : Row .u64 w a n zs) : ∀ z ∈ zs, W64 z := fun z hz => u64_of_wf (h.2.2.1 z hz)
theorem Row.below {k : IntKind} {B : Nat} {w w' : World} {a : Option Addr} {n : Nat} {zs : List Int} (h : Row k w a n zs) (hb : Below B w w') (hB : w.heap.size ≤ B) : Row k w' a n zs := by
  obtain ⟨h1, h2, h3, h4⟩ := h
  refine ⟨h1, h2, h3, ?_⟩
  rcases h4 with h4 | ⟨b, off, rfl, hc⟩
  · exact Or.inl h4
  · right
    refine ⟨b, off, rfl, fun i hi => ?_⟩
    have hlt : b < w.heap.size := World.block_lt_of_cell? w _ (hc i hi)
    rw [hb.cell (p := ⟨b, off + i, none⟩) (Nat.lt_of_lt_of_le hlt hB)]
    exact hc i hi
theorem Row.alloc {k : IntKind} {w : World} {a : Option Addr} {n : Nat} {zs : List Int} (h : Row k w a n zs) (o : Obj) : Row k (w.alloc o) a n zs :=
  h.below ((Below.refl _ _).alloc (Nat.le_refl _) _) (Nat.le_refl _)
theorem Row.drew {k : IntKind} {w : World} {a : Option Addr} {n : Nat} {zs : List Int} (h : Row k w a n zs) : Row k w.drew a n zs :=
  h.below ((Below.refl w.heap.size _).drew) (Nat.le_refl _)
theorem Row.to {k : IntKind} {w : World} {a : Option Addr} {n : Nat} {zs : List Int} (h : Row k w a n zs) (m : Nat) (hk : m ≤ n) : Row k w a m (zs.take m) := by
  obtain ⟨h1, h2, h3, h4⟩ := h
  refine ⟨by rw [List.length_take]; omega, by omega, fun z hz => h3 z (List.mem_of_mem_take hz), ?_⟩
  rcases h4 with h4 | ⟨b, off, rfl, hc⟩
  · exact Or.inl (by omega)
  · refine Or.inr ⟨b, off, rfl, fun i hi => ?_⟩
    rw [hc i (by omega)]
    simp [hi]
theorem Row.from {k : IntKind} {w : World} {a : Option Addr} {n cap : Nat} {zs : List Int} (h : Row k w a n zs) (m : Nat) (hk : m ≤ n) (hc : n ≤ cap) : Row k w (if cap = m then a else a.map (·.add m)) (n - m) (zs.drop m) := by
  obtain ⟨h1, h2, h3, h4⟩ := h
  refine ⟨by rw [List.length_drop]; omega, by omega, fun z hz => h3 z (List.mem_of_mem_drop hz), ?_⟩
  by_cases e : m = n
  · exact Or.inl (by omega)
  rcases h4 with h4 | ⟨b, off, rfl, hcell⟩
  · exact Or.inl (by omega)
  · refine Or.inr ⟨b, off + m, ?_, fun i hi => ?_⟩
    · rw [if_neg (by omega)]
      simp [Addr.add_lit]
    · rw [Nat.add_assoc, hcell (m + i) (by omega)]
      simp
theorem nil_row (k : IntKind) (w : World) (a : Option Addr) : Row k w a 0 [] := ⟨rfl, by omega, by simp, Or.inl rfl⟩
theorem Row.nz {k : IntKind} {w : World} {a : Option Addr} {n : Nat} {zs : List Int} (h : Row k w a n zs) : a = none → n = 0 := by
  rintro rfl
  obtain ⟨_, _, _, h4 | ⟨_, _, h, _⟩⟩ := h
  · exact h4
  · simp at h

theorem bel_al {B : Nat} {w x : World} (h : Below B w x) (hB : B ≤ w.heap.size) (o : Obj) : Below B w (x.alloc o) := h.alloc (Nat.le_trans hB h.size) o
theorem bel_to {B : Nat} {w x y : World} (h : Below B w x) (hB : B ≤ w.heap.size) (k : Below x.heap.size x y) : Below B w y := h.trans (k.mono (Nat.le_trans hB h.size))
theorem bel_drewN {B : Nat} {w x : World} (h : Below B w x) (q : Nat) : Below B w (x.drewN q) := ⟨h.os, h.tape, h.output, h.size, h.block⟩
/-- A slice of numbers that lies in memory of the call's own (from block 'base' on). -/
def Own (e : TypeId) (k : IntKind) (w : World) (base : Nat) (a : Option Addr) (n cap : Nat) (zs : List Int) : Prop :=
  w.ownsRow base e 1 (.slice a n cap) n (zs.map (Value.int k))

theorem own_form {e : TypeId} {k : IntKind} {w : World} {base n : Nat} {v : Value} {zs : List Int} (h : w.ownsRow base e 1 v n (zs.map (Value.int k))) : ∃ a cap, v = .slice a n cap ∧ Own e k w base a n cap zs := by
  have h0 := h
  rcases h.2 with ⟨rfl, rfl⟩ | ⟨g, cap, cur, rfl, _⟩
  · exact ⟨none, 0, rfl, h0⟩
  · exact ⟨_, _, rfl, h0⟩
theorem own_nil (e : TypeId) (k : IntKind) (w : World) (base : Nat) : Own e k w base none 0 0 [] := World.ownsRow_nil _ _ _ _

theorem Own.len {e : TypeId} {k : IntKind} {w : World} {base n cap : Nat} {a : Option Addr} {zs : List Int} (h : Own e k w base a n cap zs) : zs.length = n := by
  unfold Own at h
  simpa using h.1
theorem Own.capped {e : TypeId} {k : IntKind} {w : World} {base n cap : Nat} {a : Option Addr} {zs : List Int} (h : Own e k w base a n cap zs) : n ≤ cap ∧ (a = none → cap = 0) := by
  unfold Own at h
  rcases h.2 with ⟨h1, h2⟩ | ⟨g, c, cur, h1, _, _, h4, _⟩
  · simp only [Value.slice.injEq] at h1
    exact ⟨by omega, fun _ => by omega⟩
  · simp only [Value.slice.injEq, true_and] at h1
    obtain ⟨rfl, rfl⟩ := h1
    exact ⟨h4, fun h => by simp at h⟩
theorem Own.row {e : TypeId} {k : IntKind} {w : World} {base n cap : Nat} {a : Option Addr} {zs : List Int} (h : Own e k w base a n cap zs) (hn : n ≤ 281474976710656) (hz : ∀ z ∈ zs, (Lit.int k z).wf = true) : Row k w a n zs := by
  have hl := h.len
  unfold Own at h
  refine ⟨hl, hn, hz, ?_⟩
  rcases h.2 with ⟨h1, h2⟩ | ⟨g, c, cur, h1, _⟩
  · exact Or.inl h2
  · right
    simp only [Value.slice.injEq, true_and] at h1
    obtain ⟨rfl, rfl⟩ := h1
    refine ⟨g, 0, rfl, fun i hi => ?_⟩
    rw [Nat.zero_add, h.cellAt i (by omega), List.getElem?_map, List.getElem?_eq_getElem (by omega), List.getD_eq_getElem?_getD, List.getElem?_eq_getElem (by omega)]
    rfl
theorem Own.mono {e : TypeId} {k : IntKind} {w : World} {base base' n cap : Nat} {a : Option Addr} {zs : List Int} (h : Own e k w base a n cap zs) (hb : base' ≤ base) : Own e k w base' a n cap zs := by
  unfold Own at *
  refine ⟨h.1, ?_⟩
  rcases h.2 with h1 | ⟨g, c, cur, h1, h2, h3⟩
  · exact Or.inl h1
  · exact Or.inr ⟨g, c, cur, h1, Nat.le_trans hb h2, h3⟩
theorem Own.below {e : TypeId} {k : IntKind} {B : Nat} {w w' : World} {base n cap : Nat} {a : Option Addr} {zs : List Int} (h : Own e k w base a n cap zs) (hb : Below B w w') (hB : w.heap.size ≤ B) : Own e k w' base a n cap zs := by
  unfold Own at *
  refine ⟨h.1, ?_⟩
  rcases h.2 with h1 | ⟨g, c, cur, h1, h2, h3, h4⟩
  · exact Or.inl h1
  · have hlt : g < w.heap.size := by
      by_cases hg : g < w.heap.size
      · exact hg
      · rw [Array.getElem?_eq_none (by omega)] at h3; simp at h3
    exact Or.inr ⟨g, c, cur, h1, h2, by rw [hb.block g (by omega)]; exact h3, h4⟩
theorem Own.alloc {e : TypeId} {k : IntKind} {w : World} {base n cap : Nat} {a : Option Addr} {zs : List Int} (h : Own e k w base a n cap zs) (o : Obj) : Own e k (w.alloc o) base a n cap zs :=
  h.below ((Below.refl _ _).alloc (Nat.le_refl _) _) (Nat.le_refl _)
theorem Own.drew {e : TypeId} {k : IntKind} {w : World} {base n cap : Nat} {a : Option Addr} {zs : List Int} (h : Own e k w base a n cap zs) : Own e k w.drew base a n cap zs :=
  h.below ((Below.refl w.heap.size _).drew) (Nat.le_refl _)

/-- A slice behind which something is put in memory of the call's own: it lies there itself, or it has no spare room. -/
def Src (e : TypeId) (k : IntKind) (w : World) (base : Nat) (a : Option Addr) (n cap : Nat) (zs : List Int) : Prop :=
  Own e k w base a n cap zs ∨ (cap = n ∧ Row k w a n zs)

theorem Src.len {e : TypeId} {k : IntKind} {w : World} {base n cap : Nat} {a : Option Addr} {zs : List Int} (h : Src e k w base a n cap zs) : zs.length = n := by
  rcases h with h | ⟨_, h⟩
  · exact h.len
  · exact h.1
theorem Src.alloc {e : TypeId} {k : IntKind} {w : World} {base n cap : Nat} {a : Option Addr} {zs : List Int} (h : Src e k w base a n cap zs) (o : Obj) : Src e k (w.alloc o) base a n cap zs := by
  rcases h with h | ⟨h1, h⟩
  · exact Or.inl (h.alloc o)
  · exact Or.inr ⟨h1, h.alloc o⟩

theorem one_cell (k : IntKind) (zs : List Int) : ∀ u ∈ zs.map (Value.int k), u.oneCell' = true := by
  intro u hu
  obtain ⟨z, _, rfl⟩ := List.mem_map.1 hu
  rfl
theorem getD_map (k : IntKind) (zs : List Int) (j : Nat) (u : Value) (h : (zs.map (Value.int k))[j]? = some u) : j < zs.length ∧ u = .int k (zs.getD j 0) := by
  rw [List.getElem?_map] at h
  by_cases hj : j < zs.length
  · rw [List.getElem?_eq_getElem hj] at h
    refine ⟨hj, ?_⟩
    rw [List.getD_eq_getElem?_getD, List.getElem?_eq_getElem hj]
    simpa using h.symm
  · rw [List.getElem?_eq_none (by omega)] at h
    simp at h
theorem Row.cells {k : IntKind} {w : World} {ad : Addr} {n : Nat} {zs : List Int} (h : Row k w (some ad) n zs) (j : Nat) (u : Value) (hj : (zs.map (Value.int k))[j]? = some u) : w.cell? (ad.add j) = some u := by
  obtain ⟨h1, rfl⟩ := getD_map k zs j u hj
  obtain ⟨hl, _, _, h0 | ⟨b, off, he, hcell⟩⟩ := h
  · omega
  · simp only [Option.some.injEq] at he
    subst he
    rw [Addr.add_lit]
    exact hcell j (by omega)

theorem own_block {e : TypeId} {k : IntKind} {w : World} {base n cap : Nat} {a : Option Addr} {zs : List Int} (h : Own e k w base a n cap zs) : ∀ g, (Value.slice a n cap).ownBlock = some g → base ≤ g := by
  intro g hg
  unfold Own at h
  rcases h.2 with ⟨h1, h2⟩ | ⟨g', c, cur, h1, h2, _⟩
  · rw [h1] at hg; simp [Value.ownBlock] at hg
  · rw [h1] at hg; simp only [Value.ownBlock, Option.some.injEq] at hg; omega

/-- The append of the bytes or numbers of a row, behind either. -/
theorem wpList_append_src {P : Program} {ek : IntKind} (w : World) {ops : Array Oper} {rest : List Oper} {o : Oper} {a : Act} {Q : Exit → Act → World → Prop} (hgd : o.guard = none) (s x : Operand) (t : TypeId)
    (ho : o.op = .call { callee := .builtin .append, args := #[s, x], argTypes := #[t, t] })
    (base : Nat) (e : TypeId) (i : TypeInfo) (bytes : Nat) (ht : P.underlying t = some (.slice e)) (hi : P.info? e = some i) (hz : i.zero = some (.int ek 0)) (hsize : i.size = 1) (hby : i.bytes = bytes)
    (ao : Option Addr) (n cap : Nat) (zs : List Int) (hs : a.eval s = .slice ao n cap) (hsrc : Src e ek w base ao n cap zs)
    (ad : Addr) (m c : Nat) (news : List Int) (hx : a.eval x = .slice (some ad) m c) (hm : 0 < m) (hrow : Row ek w (some ad) m news)
    (hbytes : (n + m) * bytes ≤ 140737488355328) (hb0 : 0 < bytes) (hbase : base ≤ w.heap.size)
    (h : ∀ a' cap' w', Own e ek w' base a' (n + m) cap' (zs ++ news) → Below base w w' → wpList P ops Q rest (a.put o.dst (.slice a' (n + m) cap')) w') : wpList P ops Q (o :: rest) a w := by
  have hnm : n + m ≤ maxLen := by
    have := Nat.le_mul_of_pos_right (n + m) hb0
    unfold maxLen; omega
  rcases hsrc with hown | ⟨rfl, hr⟩
  · refine wpList_append_own w hgd s x t ho base e i (.int ek 0) 1 bytes ht hi hz hsize hby rfl (by decide) _ n (zs.map (Value.int ek)) hs hown ad m c (news.map (Value.int ek)) hx (by simp [hrow.1]) hrow.cells (one_cell ek news) hnm hbytes hbase ?_
    intro v' w' h1 h2 _
    rw [← List.map_append] at h1
    obtain ⟨a', cap', rfl, h3⟩ := own_form h1
    exact h a' cap' w' h3 ((Below.refl _ _).grown h2 hbase (own_block hown))
  · refine wpList_append_grows w hgd s x t ho e i (.int ek 0) 1 bytes ht hi hz hsize hby rfl (by decide) ao cap cap (zs.map (Value.int ek)) hs (fun h => ⟨hr.nz h, hr.nz h⟩) (by simp [hr.1]) (by rintro b rfl; exact hr.cells) ad m c (news.map (Value.int ek)) hx (by simp [hrow.1]) hrow.cells (one_cell ek news) (by omega) hnm hbytes ?_
    intro v' w' h1 h2
    rw [← List.map_append] at h1
    obtain ⟨a', cap', rfl, h3⟩ := own_form h1
    exact h a' cap' w' (h3.mono hbase) (((Below.refl w.heap.size _).grown h2 (Nat.le_refl _) (fun k hk => by simp at hk)).mono hbase)

theorem cap_fits {n : Nat} (h : n ≤ 211106232532990) : Builtin.nextslicecap (n + 1) n * 1 ≤ 281474976710656 := by
  unfold Builtin.nextslicecap
  split
  · omega
  · split
    · omega
    · rw [growBy_four]
      repeat' split
      all_goals omega

/-- One byte behind either: up to one half more than 2^47 bytes, for one byte alone never asks for much more room than there is. -/
theorem wpList_append_one {P : Program} (w : World) {ops : Array Oper} {rest : List Oper} {o : Oper} {a : Act} {Q : Exit → Act → World → Prop} (hgd : o.guard = none) (s x : Operand) (t : TypeId)
    (ho : o.op = .call { callee := .builtin .append, args := #[s, x], argTypes := #[t, t] })
    (base : Nat) (e : TypeId) (i : TypeInfo) (ht : P.underlying t = some (.slice e)) (hi : P.info? e = some i) (hz : i.zero = some (.int .u8 0)) (hsize : i.size = 1) (hby : i.bytes = 1)
    (ao : Option Addr) (n cap : Nat) (zs : List Int) (hs : a.eval s = .slice ao n cap) (hsrc : Src e .u8 w base ao n cap zs)
    (ad : Addr) (c : Nat) (z : Int) (hx : a.eval x = .slice (some ad) 1 c) (hrow : Row .u8 w (some ad) 1 [z])
    (hbytes : n ≤ 211106232532990) (hbase : base ≤ w.heap.size)
    (h : ∀ a' cap' w', Own e .u8 w' base a' (n + 1) cap' (zs ++ [z]) → Below base w w' → wpList P ops Q rest (a.put o.dst (.slice a' (n + 1) cap')) w') : wpList P ops Q (o :: rest) a w := by
  by_cases hn : n + 1 ≤ 140737488355328
  · exact wpList_append_src w hgd s x t ho base e i 1 ht hi hz hsize hby ao n cap zs hs hsrc ad 1 c [z] hx (by decide) hrow (by omega) (by decide) hbase h
  -- the arm that grows, a slice without spare room
  have grow : ∀ b, ao = some b → cap = n → (∀ j u, (zs.map (Value.int .u8))[j]? = some u → w.cell? (b.add j) = some u) → wpList P ops Q (o :: rest) a w := by
    rintro b rfl rfl holds
    have hl := hsrc.len
    have hlen : (zs.map (Value.int .u8)).length = cap * i.size := by rw [List.length_map, hl, hsize, Nat.mul_one]
    have hr := run_append_grow (P := P) w t o.type e i (.int .u8 0) ht hi hz b cap cap (zs.map (Value.int .u8)) hlen holds ad 1 c ([z].map (Value.int .u8)) (by rw [hsize]; rfl) hrow.cells (by omega) (by omega) (by rw [hby]; exact cap_fits hbytes)
    have hge := grownCap_ge w (cap + 1) cap e
    have hcm : grownCap w (cap + 1) cap e ≤ maxLen := grownCap_le_maxLen w (cap + 1) cap e (by unfold maxLen; omega)
    refine wpList_plain hgd fun K hK => ?_
    unfold Oper.wp execOp
    simp only [ho, resolve, invoke, builtin, Sem.run_bind, Sem.run_pure, Result.andThen_ok, List.map_toArray, List.map_cons, List.map_nil, hs, hx]
    rw [hr]
    refine hK _ _ (h _ _ _ ?_ ?_)
    · refine Own.mono (base := w.heap.size) ?_ hbase
      refine ⟨by simp [hl], .inr ⟨w.heap.size, _, _, rfl, Nat.le_refl _, heap_alloc_new w.drew _, hge, hcm, ?_, ?_⟩⟩
      · simp only [Array.size_append, List.size_toArray, size_zeroCells, List.length_map, hl, Value.cells]
        simp
        omega
      · rw [Array.toList_append, Array.toList_append, Nat.mul_one, List.map_append]
        have : (zs.map (Value.int .u8) ++ [z].map (Value.int .u8)).length = cap + 1 := by simp [hl]
        rw [← this]
        exact List.take_left
    · exact ((Below.refl w.heap.size w).drew.alloc (Nat.le_refl _) _).mono hbase
  rcases id hsrc with hown | ⟨rfl, hr⟩
  · have hcap := hown.capped
    have hown0 := hown
    unfold Own at hown
    rcases hown.2 with ⟨_, h2⟩ | ⟨g, cp, cur, h1, _⟩
    · omega
    · simp only [Value.slice.injEq, true_and] at h1
      obtain ⟨rfl, rfl⟩ := h1
      by_cases hroom : n + 1 ≤ cap
      · refine wpList_append_fits w hgd s x t ho base e i 1 ht hi hsize g n cap (zs.map (Value.int .u8)) hs hown ad 1 c ([z].map (Value.int .u8)) hx rfl hrow.cells (one_cell .u8 [z]) hroom ?_
        intro w' h1 h2
        rw [← List.map_append] at h1
        exact h _ _ _ h1 ((Below.refl _ _).grown h2 hbase (own_block hown0))
      · exact grow _ rfl (by omega) (hown.cells (g := g) rfl)
  · cases ao with
    | none => have := hr.nz rfl; omega
    | some b => exact grow b rfl rfl hr.cells

/-- One number in a block of its own: what an append of one number lays. -/
theorem one_row {k : IntKind} (w : World) (z : Int) (hz : (Lit.int k z).wf = true) (e : TypeId) (m : Nat × Nat) : Row k (w.alloc (.cells #[.int k z] e m)) (some ⟨w.heap.size, 0, none⟩) 1 [z] := by
  refine ⟨rfl, by omega, by simpa using hz, Or.inr ⟨_, _, rfl, fun i hi => ?_⟩⟩
  have : i = 0 := by omega
  subst this
  rw [World.cell?_alloc_mark]
  rfl

/-- A string's bytes as numbers. -/
def numsOf (s : ByteArray) : List Int := s.data.toList.map fun b => (b.toNat : Int)
theorem numsOf_len (s : ByteArray) : (numsOf s).length = s.size := by unfold numsOf; rw [List.length_map, Array.length_toList]; rfl
theorem numsOf_wf (s : ByteArray) : ∀ z ∈ numsOf s, (Lit.int .u8 z).wf = true := by
  intro z hz
  obtain ⟨b, _, rfl⟩ := List.mem_map.1 hz
  exact wf_of_u8 (by omega) (by have := b.toNat_lt; omega)
theorem strCells_nums (s : ByteArray) : Lib.strCells s = (numsOf s).map (Value.int .u8) := by
  unfold Lib.strCells numsOf
  rw [List.map_map]; rfl
theorem strOf_nums (s : ByteArray) : strOfNums (numsOf s) = s := by
  unfold strOfNums numsOf
  rw [List.map_map]
  have : (fun n : Int => UInt8.ofNat n.toNat) ∘ (fun b : UInt8 => (b.toNat : Int)) = id := by funext b; simp
  rw [this, List.map_id]
theorem nums_strOf {zs : List Int} (h : ∀ z ∈ zs, (Lit.int .u8 z).wf = true) : numsOf (strOfNums zs) = zs := by
  unfold strOfNums numsOf
  simp only [List.map_map]
  conv => rhs; rw [← List.map_id zs]
  refine List.map_congr_left fun z hz => ?_
  have := u8_of_wf (h z hz)
  simp only [Function.comp_apply, UInt8.toNat_ofNat', id_eq]
  omega
theorem strOf_inj {xs ys : List Int} (hx : ∀ z ∈ xs, (Lit.int .u8 z).wf = true) (hy : ∀ z ∈ ys, (Lit.int .u8 z).wf = true) (h : strOfNums xs = strOfNums ys) : xs = ys := by
  rw [← nums_strOf hx, h, nums_strOf hy]
theorem strOf_append (xs ys : List Int) : strOfNums xs ++ strOfNums ys = strOfNums (xs ++ ys) := by
  apply ByteArray.ext
  unfold strOfNums
  simp

/-- The append of a text behind bytes of the call's own. -/
theorem wpList_append_text {P : Program} (w : World) {ops : Array Oper} {rest : List Oper} {o : Oper} {a : Act} {Q : Exit → Act → World → Prop} (hgd : o.guard = none) (sl x : Operand) (t u : TypeId)
    (ho : o.op = .call { callee := .builtin .append, args := #[sl, x], argTypes := #[t, u] })
    (base : Nat) (e : TypeId) (i : TypeInfo) (ht : P.underlying t = some (.slice e)) (hu : P.underlying u = some .string) (hi : P.info? e = some i) (hz : i.zero = some (.int .u8 0)) (hsize : i.size = 1) (hby : i.bytes = 1)
    (ao : Option Addr) (n cap : Nat) (zs : List Int) (hs : a.eval sl = .slice ao n cap) (hown : Own e .u8 w base ao n cap zs) (s : ByteArray) (hx : a.eval x = .string s)
    (hbytes : n + s.size ≤ 140737488355328) (hbase : base ≤ w.heap.size)
    (h : ∀ a' cap' w', Own e .u8 w' base a' (n + s.size) cap' (zs ++ numsOf s) → Below base w w' → wpList P ops Q rest (a.put o.dst (.slice a' (n + s.size) cap')) w') : wpList P ops Q (o :: rest) a w := by
  refine Lib.wpList_append_own_string w hgd sl x t u ho base e i ht hu hi hz hsize hby _ n (zs.map (Value.int .u8)) hs hown s hx (by unfold maxLen; omega) hbytes hbase ?_
  intro v' w' h1 h2 _
  rw [strCells_nums, ← List.map_append] at h1
  obtain ⟨a', cap', rfl, h3⟩ := own_form h1
  exact h a' cap' w' h3 ((Below.refl _ _).grown h2 hbase (own_block hown))
end Go.Proofs.Ythlkmjaflomflaa
