/-
  Up to 32 bits in a row that are turned, in bytes of one length, are told: the sums are alike just where the bytes are; the document's examples hold. The call returns true, and its arguments read as they did.
  Conditions: none: every value of the parameters' types.
-/
import Derived.Test.YtmblpoepmabmmaaSumP
import Derived.Test.YtmblpoepmabmmaaPlace
import Derived.BigRegion
import Derived.Deep.RegionHeld3
import Derived.Deep.DrawnRows
import Derived.WalkLawsBesides
import Derived.ProofKit
import Derived.OpenShut
import Derived.ShutString
import Derived.ChangeOld
import Derived.SizedLaws
namespace Go.Proofs.Ytmblpoepmabmmaa
open Go.RowKit

theorem and1_u32 {a : Int} (a0 : 0 ≤ a) (a1 : a < 4294967296) : bits .and .u32 a 1 = a % 2 := by
  obtain ⟨a, rfl⟩ := Int.eq_ofNat_of_zero_le a0
  have h1 : (BitVec.ofInt 32 (a : Int)).toNat = a := by
    rw [BitVec.ofInt_natCast, BitVec.toNat_ofNat]; exact Nat.mod_eq_of_lt (by omega)
  have h2 : (BitVec.ofInt 32 1).toNat = 1 := by decide
  have e : a &&& 1 = a % 2 := Nat.and_two_pow_sub_one_eq_mod a 1
  show IntKind.u32.wrap ((BitVec.ofInt 32 (a : Int) &&& BitVec.ofInt 32 1).toNat : Int) = _
  rw [BitVec.toNat_and, h1, h2, IntKind.wrap_u32, e]
  omega

theorem nat_inj : ∀ (x y : List Int), (∀ z ∈ x, 0 ≤ z ∧ z ≤ 255) → (∀ z ∈ y, 0 ≤ z ∧ z ≤ 255) → x.map Int.toNat = y.map Int.toNat → x = y := by
  intro x
  induction x with
  | nil => intro y _ _ h; cases y with | nil => rfl | cons _ _ => simp at h
  | cons p x ih =>
    intro y hx hy h
    cases y with
    | nil => simp at h
    | cons q y =>
      simp only [List.map_cons, List.cons.injEq] at h
      have h1 := hx p (by simp)
      have h2 := hy q (by simp)
      rw [ih y (fun z hz => hx z (by simp [hz])) (fun z hz => hy z (by simp [hz])) h.2, show p = q from by omega]

theorem str_nat {x : List Int} (h : ∀ z ∈ x, 0 ≤ z ∧ z ≤ 255) : (strOfNums x).toList.map UInt8.toNat = x.map Int.toNat := by
  rw [ByteArray.toList_eq, strOfNums_data, List.map_map]
  apply List.map_congr_left
  intro z hz
  have := h z hz
  show (UInt8.ofNat z.toNat).toNat = z.toNat
  rw [UInt8.toNat_ofNat']
  omega

theorem str_inj {x y : List Int} (hx : ∀ z ∈ x, 0 ≤ z ∧ z ≤ 255) (hy : ∀ z ∈ y, 0 ≤ z ∧ z ≤ 255) (h : (strOfNums x).toList = (strOfNums y).toList) : x = y :=
  nat_inj x y hx hy (by rw [← str_nat hx, ← str_nat hy, h])

/-- The bytes behind j rounds: those that came in with the row's first j bits turned from bit k on. -/
def Turned (zs us : List Int) (row k j : Nat) : Prop :=
  us.length = zs.length ∧ (∀ z ∈ us, 0 ≤ z ∧ z ≤ 255) ∧ Cr.num (us.map Int.toNat) = Cr.num (zs.map Int.toNat) ^^^ (row % 2 ^ j * 2 ^ k)

theorem turned_told {zs us : List Int} {row k j : Nat} (h : Turned zs us row k j) (hz : ∀ z ∈ zs, 0 ≤ z ∧ z ≤ 255) (hj : j ≤ 32) (hk : k ≤ 8 * zs.length) (e : moreS 0 us = moreS 0 zs) : us = zs := by
  obtain ⟨hl, hu, hn⟩ := h
  have bu := bytes_nat hu
  have bz := bytes_nat hz
  have e1 : Cr.reg (4294967295 ^^^ (0 : Int).toNat) (us.map Int.toNat) = Cr.reg (4294967295 ^^^ (0 : Int).toNat) (zs.map Int.toNat) := by
    unfold moreS at e
    have := congrArg (fun x => 4294967295 ^^^ Int.toNat x) e
    simpa [Cr.xor_cancel] using this
  rw [Cr.reg_num _ _ bu, Cr.reg_num _ _ bz, List.length_map, List.length_map, hl, hn, ← Nat.xor_assoc, Cr.it_xor _ _ (row % 2 ^ j * 2 ^ k)] at e1
  have e2 : Cr.it (8 * zs.length) (row % 2 ^ j * 2 ^ k) = 0 := by
    have := congrArg (fun x => Cr.it (8 * zs.length) (4294967295 ^^^ (0 : Int).toNat ^^^ Cr.num (zs.map Int.toNat)) ^^^ x) e1
    simpa [Cr.xor_cancel] using this
  rw [show 8 * zs.length = k + (8 * zs.length - k) from by omega, Cr.it_add, Cr.it_shl] at e2
  have hlt : row % 2 ^ j < 4294967296 := Nat.lt_of_lt_of_le (Nat.mod_lt _ (Nat.two_pow_pos j)) (Nat.pow_le_pow_right (n := 2) (by omega) hj)
  rw [Cr.it_none _ hlt e2, Nat.zero_mul, Nat.xor_zero] at hn
  have := Cr.num_inj _ _ (by simp [hl]) bu bz hn
  exact nat_inj us zs hu hz this

theorem turned_start {zs : List Int} (row k : Nat) (hz : ∀ z ∈ zs, 0 ≤ z ∧ z ≤ 255) : Turned zs zs row k 0 :=
  ⟨rfl, hz, by rw [Nat.pow_zero, Nat.mod_one, Nat.zero_mul, Nat.xor_zero]⟩

theorem mod_next (row j : Nat) : row % 2 ^ (j + 1) = (row / 2 ^ j % 2) * 2 ^ j + row % 2 ^ j := by
  rw [Nat.pow_succ, Nat.mod_mul, Nat.mul_comm (2 ^ j)]; omega

theorem turned_not {zs us : List Int} {row k j : Nat} (h : Turned zs us row k j) (hb : row / 2 ^ j % 2 = 0) : Turned zs us row k (j + 1) := by
  obtain ⟨h1, h2, h3⟩ := h
  refine ⟨h1, h2, ?_⟩
  rw [mod_next, hb, Nat.zero_mul, Nat.zero_add]
  exact h3

theorem turned_yes {zs us : List Int} {row k j : Nat} (h : Turned zs us row k j) (hb : row / 2 ^ j % 2 = 1) (q r : Nat) (hq : 8 * q + r = k + j) (hr : r < 8) (hl : q < zs.length) :
    Turned zs (us.set q (xorI (us.getD q 0) ((2 ^ r : Nat) : Int))) row k (j + 1) := by
  obtain ⟨h1, h2, h3⟩ := h
  have hp : 2 ^ r < 2 ^ 8 := Nat.pow_lt_pow_right (by omega) hr
  refine ⟨by rw [List.length_set]; exact h1, ?_, ?_⟩
  · intro z hz
    rcases List.mem_or_eq_of_mem_set hz with hm | rfl
    · exact h2 z hm
    · have hg : us.getD q 0 ∈ us := by
        rw [List.getD_eq_getElem?_getD, List.getElem?_eq_getElem (by omega)]
        exact List.getElem_mem (by omega)
      have hg := h2 _ hg
      exact (xor_u8 hg.1 hg.2 (Int.natCast_nonneg _) (by omega)).2
  · have e : (us.set q (xorI (us.getD q 0) ((2 ^ r : Nat) : Int))).map Int.toNat = (us.map Int.toNat).set q ((us.map Int.toNat).getD q 0 ^^^ 2 ^ r) := by
      rw [List.map_set, xor_nat, Int.toNat_natCast]
      congr 2
      rw [List.getD_eq_getElem?_getD, List.getD_eq_getElem?_getD, List.getElem?_map, List.getElem?_eq_getElem (by omega)]
      rfl
    rw [e, Cr.num_set _ q r (by simp; omega) hr (bytes_nat h2), h3, hq, mod_next, hb, Nat.one_mul, Nat.add_mul, Nat.xor_assoc]
    congr 1
    have c := Cr.cut_xor j 1 (row % 2 ^ j) (Nat.mod_lt _ (Nat.two_pow_pos j))
    have d := Nat.shiftLeft_xor_distrib (a := 1 * 2 ^ j) (b := row % 2 ^ j) (i := k)
    rw [← c, Nat.shiftLeft_eq, Nat.shiftLeft_eq, Nat.shiftLeft_eq, Nat.one_mul] at d
    rw [← Nat.add_mul, d, ← Nat.pow_add, Nat.xor_comm, Nat.add_comm k j]

theorem turn_cell {p : Int} (p0 : 0 ≤ p) (p1 : p ≤ 255) {r : Nat} (hr : r < 8) : bits .xor .u8 p (2 ^ r % 256) = xorI p ((2 ^ r : Nat) : Int) := by
  have hp : 2 ^ r < 2 ^ 8 := Nat.pow_lt_pow_right (by omega) hr
  have e : ((2 : Int) ^ r % 256) = ((2 ^ r : Nat) : Int) := by
    rw [show (2 : Int) ^ r = ((2 ^ r : Nat) : Int) from by rw [Int.natCast_pow]; rfl]
    exact Int.emod_eq_of_lt (Int.natCast_nonneg _) (by omega)
  rw [e]
  exact (xor_u8 p0 p1 (Int.natCast_nonneg _) (by omega)).1

theorem row_bit {row : Int} (h : 0 ≤ row) (j : Nat) : (row / 2 ^ j % 2 == 1) = decide (row.toNat / 2 ^ j % 2 = 1) ∧ 0 ≤ row / 2 ^ j ∧ row / 2 ^ j ≤ row := by
  obtain ⟨m, rfl⟩ := Int.eq_ofNat_of_zero_le h
  have e : ((m : Int) / 2 ^ j) = ((m / 2 ^ j : Nat) : Int) := by rw [Int.natCast_ediv, Int.natCast_pow]; rfl
  have hle := Nat.div_le_self m (2 ^ j)
  rw [e, Int.toNat_natCast]
  generalize m / 2 ^ j = q at *
  refine ⟨?_, by omega, by omega⟩
  by_cases h : q % 2 = 1
  · rw [decide_eq_true h, beq_iff_eq]; omega
  · rw [decide_eq_false h, beq_eq_false_iff_ne]; omega

set_option maxHeartbeats 800000 in
theorem walk_turns (a : Option Addr) (n cap : Nat) (z : List Int) (v : Int) (row : Int) (w : World)
    (w0 : IsRow .u8 w a n cap z) (_w1 : (Lit.int .i64 v).wf = true) (w2 : (Lit.int .u32 row).wf = true) :
    Calls Try.prog 6 #[.slice a n cap, .int .i64 v, .int .u32 row] w fun e w' => e = .returned (.bool true) ∧ Below w.heap.size w w' := by
  obtain ⟨hcap, hc, hr⟩ := row_of w0
  have hnil : a = none → cap = 0 := nil_of w0
  obtain ⟨g0, g1⟩ := u32_of_wf w2
  clear w0 w2
  generalize z.take n = zs at *
  have R := hide hr
  have hn := hr.2.1
  clear hr
  by_cases hsmall : n = 0 ∨ 1048576 < n
  · rcases hsmall with h | h
    · have t1 : ((n : Int) == 0) = true := beq_iff_eq.2 (by omega)
      go_enter Try.func6, Try.ntmps6
      go_wp2_with (go_at_call 11; refine (awake_any _).mono ?_; rintro e w' ⟨rfl, hbe⟩)
      go_ret
      exact ⟨rfl, hbe⟩
    · have t1 : ((n : Int) == 0) = false := beq_eq_false_iff_ne.2 (by omega)
      have t2 : (1048576 : Int) < (n : Int) := by omega
      go_enter Try.func6, Try.ntmps6
      go_wp2_with (go_at_call 11; refine (awake_any _).mono ?_; rintro e w' ⟨rfl, hbe⟩)
      go_ret
      exact ⟨rfl, hbe⟩
  have t1 : ((n : Int) == 0) = false := beq_eq_false_iff_ne.2 (by omega)
  have t2 : ¬ (1048576 : Int) < (n : Int) := by omega
  have t3 : n ≤ 1048576 := by omega
  have t4 : 0 < n := by omega
  clear hsmall
  have p1 := Int.emod_nonneg v (b := 8 * (n : Int)) (by omega)
  have p2 := Int.emod_lt_of_pos v (b := 8 * (n : Int)) (by omega)
  have P := hide (fun w1 => place_any v (8 * (n : Int)) (by omega) (by omega) w1)
  obtain ⟨k, hk⟩ := Int.eq_ofNat_of_zero_le p1
  rw [hk] at P
  rw [hk] at p2
  clear hk p1
  have hk8 : k < 8 * n := by omega
  have B := hide (fun w1 => bytes_any a n cap zs w1)
  go_enter Try.func6, Try.ntmps6
  go_wp2_with fail
  refine (B.out _ R.out hnil).mono ?_
  rintro e w1 ⟨a', cap', rfl, ho, hb⟩
  obtain ⟨g, rfl, hle⟩ : ∃ g, a' = some ⟨g, 0, none⟩ ∧ w.heap.size ≤ g := by
    rcases ho.2 with ⟨_, h⟩ | ⟨g, c, cur, h, hg, _⟩
    · omega
    · simp only [Value.slice.injEq, true_and] at h
      exact ⟨g, h.1, hg⟩
  have HO := hide ho
  have HB := hide hb
  clear ho hb B
  go_wp2_with fail
  refine (P.out _).mono ?_
  rintro e w2 ⟨rfl, rfl⟩
  clear P
  go_wp2
  have HT := hide (turned_start (zs := zs) row.toNat k R.out.2.2.1)
  go_loopw [9] (fun i wr => ∃ (j : Nat) (us : List Int), j ≤ 32 ∧ k + j ≤ 8 * n ∧ i = .int .i64 j ∧ Hid (Own wr w.heap.size (some ⟨g, 0, none⟩) n cap' us) ∧ Hid (Turned zs us row.toNat k j) ∧ Hid (Below w.heap.size w wr)) (fun i _ => 32 - (intOf i).toNat)
  case atStart => exact ⟨0, zs, by omega, by omega, rfl, HO, HT, HB⟩
  case round =>
    obtain ⟨j, us, hj, hkj, rfl, ho, ht, hb⟩ := hrel
    clear HO HT HB
    by_cases hlt : j < 32 ∧ k + j < 8 * n
    · obtain ⟨h1, h2⟩ := hlt
      have i1 : (j : Int) < 32 := by omega
      have i2 : (k : Int) + (j : Int) < 8 * (n : Int) := by omega
      have hlu : us.length = n := by rw [ht.out.1, R.out.1]
      have hq : (k + j) / 8 < n := by omega
      have hcell : wr.cell? ⟨g, (k + j) / 8, none⟩ = some (.int .u8 (us.getD ((k + j) / 8) 0)) := by
        have := ho.out.cellAt ((k + j) / 8) (by omega)
        rw [this, List.getElem?_map, List.getElem?_eq_getElem (by omega), List.getD_eq_getElem?_getD, List.getElem?_eq_getElem (by omega)]
        rfl
      have hfr := ho.out.frozenAt ((k + j) / 8)
      obtain ⟨hbit, m0, m1⟩ := row_bit g0 j
      have ha := and1_u32 (a := row / 2 ^ j) m0 (by omega)
      have hpb : 0 ≤ us.getD ((k + j) / 8) 0 ∧ us.getD ((k + j) / 8) 0 ≤ 255 := by
        have : us.getD ((k + j) / 8) 0 ∈ us := by
          rw [List.getD_eq_getElem?_getD, List.getElem?_eq_getElem (by omega)]
          exact List.getElem_mem (by omega)
        exact ht.out.2.1 _ this
      clear hlu
      have hx := turn_cell hpb.1 hpb.2 (r := (k + j) % 8) (by omega)
      cases hT : (row / 2 ^ j % 2 == 1) with
      | false =>
        have HT : Hid (Turned zs us row.toNat k (j + 1)) := turned_not ht.out (by rw [hT] at hbit; have := of_decide_eq_false hbit.symm; omega)
        clear hbit hx
        go_wp2
        exact ⟨⟨j + 1, us, by omega, by omega, by go_num, ho, HT, hb⟩, by simp [intOf]; omega⟩
      | true =>
        have HT : Hid (Turned zs (us.set ((k + j) / 8) (xorI (us.getD ((k + j) / 8) 0) ((2 ^ ((k + j) % 8) : Nat) : Int))) row.toNat k (j + 1)) :=
          turned_yes ht.out (by rw [hT] at hbit; exact of_decide_eq_true hbit.symm) _ _ (by omega) (by omega) (by rw [R.out.1]; omega)
        have HS : Hid (Own (wr.setCell ⟨g, (k + j) / 8, none⟩ (.int .u8 (xorI (us.getD ((k + j) / 8) 0) ((2 ^ ((k + j) % 8) : Nat) : Int)))) w.heap.size (some ⟨g, 0, none⟩) n cap' (us.set ((k + j) / 8) (xorI (us.getD ((k + j) / 8) 0) ((2 ^ ((k + j) % 8) : Nat) : Int)))) := by
          have := (ho.out.stored ((k + j) / 8) (.int .u8 (xorI (us.getD ((k + j) / 8) 0) ((2 ^ ((k + j) % 8) : Nat) : Int)))).1
          rw [← List.map_set] at this
          exact this
        have HB2 : Hid (Below w.heap.size w (wr.setCell ⟨g, (k + j) / 8, none⟩ (.int .u8 (xorI (us.getD ((k + j) / 8) 0) ((2 ^ ((k + j) % 8) : Nat) : Int))))) := hb.out.setCell hle _
        clear hbit hpb
        generalize xorI (us.getD ((k + j) / 8) 0) ((2 ^ ((k + j) % 8) : Nat) : Int) = x at *
        generalize us.getD ((k + j) / 8) 0 = p at *
        go_wp2
        exact ⟨⟨j + 1, _, by omega, by omega, by go_num, HS, HT, HB2⟩, by simp [intOf]; omega⟩
    · have hup := turned_told ht.out R.out.2.2.1 hj (by rw [R.out.1]; omega)
      have Q1 := hide (ho.out.row hn ht.out.2.1)
      have Q2 := hide (R.out.below hb.out)
      have C1 := hide (fun w1 (h : Row w1 (some ⟨g, 0, none⟩) n us) => of_any (some ⟨g, 0, none⟩) n cap' us w1 h)
      have C2 := hide (fun w1 (h : Row w1 a n zs) => of_any a n cap zs w1 h)
      have F1 := hide (fun w1 (h : Row w1 (some ⟨g, 0, none⟩) n us) => row_string (cap := cap') h)
      have F2 := hide (fun w1 (h : Row w1 a n zs) => row_string (cap := cap) h)
      obtain ⟨eb, k1, k2⟩ : ∃ eb, (moreS 0 us == moreS 0 zs) = eb ∧ ((strOfNums us).toList == (strOfNums zs).toList) = eb := by
        by_cases heq : us = zs
        · subst heq
          exact ⟨true, by simp, by simp⟩
        · have d1 : ¬ moreS 0 us = moreS 0 zs := fun h => heq (hup h)
          have d2 : ¬ (strOfNums us).toList = (strOfNums zs).toList := fun h => heq (str_inj ht.out.2.1 R.out.2.2.1 h)
          exact ⟨false, by simpa using d1, by simpa using d2⟩
      clear hup
      generalize moreS 0 us = S1 at *
      generalize moreS 0 zs = S2 at *
      generalize strOfNums us = X at *
      generalize strOfNums zs = Y at *
      by_cases h32 : j < 32
      · have i1 : (j : Int) < 32 := by omega
        have i2 : ¬ (k : Int) + (j : Int) < 8 * (n : Int) := by omega
        clear hlt
        go_wp2
        go_region_held3 (fun w' => (convert 22 9 (.slice (some ⟨g, 0, none⟩) n cap')).run Try.prog w' = .ok (.string X) w' ∧ (convert 22 9 (.slice a n cap)).run Try.prog w' = .ok (.string Y) w')
          ((refine ⟨F1.out _ ?_, F2.out _ ?_⟩; (repeat with_reducible (first | exact Q1.out | exact Q2.out | apply Row.alloc | apply Row.drew | refine Row.below ?_ hbe))))
          (first
            | (go_at_call_of 9 (Value.slice a n cap); refine (C2.out _ ?_).mono ?_; (repeat with_reducible (first | exact Q2.out | apply Row.alloc | apply Row.drew)); rintro e w' ⟨rfl, rfl⟩)
            | (go_at_call 9; refine (C1.out _ ?_).mono ?_; (repeat with_reducible (first | exact Q1.out | apply Row.alloc | apply Row.drew)); rintro e w' ⟨rfl, rfl⟩)
            | (go_at_call 11; refine (awake_any _).mono ?_; rintro e w' ⟨rfl, hbe⟩))
        go_wp2
        go_ret
        exact ⟨rfl, bel_to (by repeat (first | exact hb.out | apply Below.drew | apply bel_al)) hbe⟩
      · have i1 : ¬ (j : Int) < 32 := by omega
        clear hlt
        go_wp2
        go_region_held3 (fun w' => (convert 22 9 (.slice (some ⟨g, 0, none⟩) n cap')).run Try.prog w' = .ok (.string X) w' ∧ (convert 22 9 (.slice a n cap)).run Try.prog w' = .ok (.string Y) w')
          ((refine ⟨F1.out _ ?_, F2.out _ ?_⟩; (repeat with_reducible (first | exact Q1.out | exact Q2.out | apply Row.alloc | apply Row.drew | refine Row.below ?_ hbe))))
          (first
            | (go_at_call_of 9 (Value.slice a n cap); refine (C2.out _ ?_).mono ?_; (repeat with_reducible (first | exact Q2.out | apply Row.alloc | apply Row.drew)); rintro e w' ⟨rfl, rfl⟩)
            | (go_at_call 9; refine (C1.out _ ?_).mono ?_; (repeat with_reducible (first | exact Q1.out | apply Row.alloc | apply Row.drew)); rintro e w' ⟨rfl, rfl⟩)
            | (go_at_call 11; refine (awake_any _).mono ?_; rintro e w' ⟨rfl, hbe⟩))
        go_wp2
        go_ret
        exact ⟨rfl, bel_to (by repeat (first | exact hb.out | apply Below.drew | apply bel_al)) hbe⟩
end Go.Proofs.Ytmblpoepmabmmaa

namespace Go.Proofs.Ytmblpoepmabmmaa.sumTurns
open Go.ChangeShapes Go.WideShapes Go.ChangeAt Go.RowKit
open Go.ChangeMaps (open_string shut_string)
set_option linter.unusedVariables false

theorem own : ownKnob Try.prog.godebug = none := by kernel_rfl
theorem laidOut : laidOutB Try.prog = true := by kernel_rfl

theorem walk (a0 : Option Addr) (len0 cap0 : Nat) (z0 : List Int) (a1 : Int) (a2 : Int) (w : World) (w0 : IsRow .u8 w a0 len0 cap0 z0) (w1 : (Lit.int .i64 a1).wf = true) (w2 : (Lit.int .u32 a2).wf = true) :
    Calls Try.prog 6 #[.slice a0 len0 cap0, .int .i64 a1, .int .u32 a2] w fun e w' => e = .returned (.bool true) ∧ Below w.heap.size w w' :=
  walk_turns a0 len0 cap0 z0 a1 a2 w w0 w1 w2

set_option maxRecDepth 100000 in
theorem lifted (os : Os) (started : os.Started) (H : Type) (enc : TypeId × Value → H) :
    ReturnsInHanded {} Try.checked os 6 .any (Rows.sumTurnsSpec.pre6 enc Try.prog Try.f6 Rows.sumTurnsRow.domain false) (Rows.sumTurnsSpec.post enc Try.prog Try.f6 false true false false) := by
  refine returnsInHanded_of_change_sized (C := Try.checked) own started (by kernel_rfl) Try.func6
    (ChangeSpec.witness6 (enc := enc) (C := Try.checked) false ⟨#[], #[.slice none 0 0, .int .i64 0, .int .u32 0], []⟩ 8 (by kernel_rfl) (by kernel_rfl) (by kernel_rfl) (by kernel_rfl)) ?_
  intro W base args ds gs before hval0 hW hcnd hsz0 _
  have hsz : (DataW.weightsEach Try.prog (Try.f6.params.toList ++ Rows.sumTurnsSpec.plain.varTypes Try.prog) (ds ++ gs)).all (· ≤ reachBytes) = true := hsz0
  have hval : ∀ (j : Nat) t v, Try.f6.params[j]? = some t → args[j]? = some v → Value.okWide Try.prog W .any base t v := hval0
  have hW' := hW
  obtain ⟨p, q, hA0, hV, rfl, hfz, hnd⟩ := hW
  have hA : DataW.TrodAll enc Try.prog W 0 (fun _ => true) true Try.f6.params.toList args.toList ds p := hA0
  rw [Try.params6] at hA hval hsz
  obtain ⟨v0, vs0, d0, ds0, p0, q0, hargs, rfl, rfl, h0, r0⟩ := trodAll_cons hA
  obtain ⟨v1, vs1, d1, ds1, p1, q1, rfl, rfl, rfl, h1, r1⟩ := trodAll_cons r0
  obtain ⟨v2, vs2, d2, ds2, p2, q2, rfl, rfl, rfl, h2, r2⟩ := trodAll_cons r1
  obtain ⟨rfl, rfl, rfl⟩ := trodAll_nil r2
  obtain rfl : args = #[v0, v1, v2] := by cases args; simp_all
  obtain ⟨rfl, rfl⟩ := trodVars_none hV
  obtain ⟨a0, len0, cap0, rfl⟩ := okWide_slice Try.underlying22 (hval 0 22 v0 rfl rfl)
  have k0 := h0
  have lt0 : ∀ x ∈ p0, x.block < W.heap.size := by obtain ⟨m, hm⟩ := k0; exact DataW.trod_lt m _ _ _ hm
  obtain ⟨z0, w0⟩ : ∃ zs, IsRow .u8 W a0 len0 cap0 zs := by
    obtain ⟨fuel, hf⟩ := h0
    rcases open_ints Try.underlying22 Try.underlying5 (by kernel_rfl) hf with ⟨hcs, _⟩ | ⟨x, l, c, zs, hcs, _, hl, hm, hz, hx, hcell, hwz⟩
    · simp [Value.cells] at hcs
      obtain ⟨rfl, rfl, rfl⟩ := hcs
      exact ⟨[], by decide, .inl ⟨rfl, rfl, rfl, rfl⟩⟩
    · simp [Value.cells] at hcs
      obtain ⟨rfl, rfl, rfl⟩ := hcs
      have hd := congrArg Prod.fst hx
      simp only at hd
      have hs := sized_slice hsz (j := 0) (t := 22) (e := 5) rfl (by rw [hd]; rfl) Try.underlying22
      rw [show Try.prog.bytesOf 5 = 1 from by kernel_rfl] at hs
      simp only [lits, List.length_map, List.length_take, List.length_drop, reachBytes] at hs
      have hzc : zs.length = cap0 := by simpa using hz
      exact ⟨zs, by omega, .inr ⟨_, rfl, hl, hm, hzc, hcell, hwz⟩⟩
  obtain ⟨a1, rfl, rfl, rfl, w1⟩ := open_int Try.underlying3 (hval 1 3 v1 rfl rfl) h1
  obtain ⟨a2, rfl, rfl, rfl, w2⟩ := open_int Try.underlying24 (hval 2 24 v2 rfl rfl) h2
  clear hA0 hval0 hsz0 hsz
  refine (walk a0 len0 cap0 z0 a1 a2 W w0 w1 w2).mono fun e W' ⟨he, bel⟩ => ?_
  subst he
  exact ⟨_, rfl, _, _, _, [], _, [], hW', trodAll_mk1 (shut_bool Try.underlying4 _), (trodAll_cons_mk (Below.trod laidOut (by kernel_rfl) (of_decide_eq_true (by kernel_rfl)) k0 bel lt0) (trodAll_cons_mk (shut_int Try.underlying3 w1) (trodAll_cons_mk (shut_int Try.underlying24 w2) trodAll_mk0))), rfl, bel.frame _, fun h => by cases h⟩

theorem over : Rows.sumTurnsRow.holds Try.pinned (OpenSpec.ofChange Rows.sumTurnsSpec) :=
  OpenClaim.holds_of_wide 6 Try.f6 rfl rfl rfl rfl rfl rfl rfl ⟨rfl, rfl, rfl, rfl, rfl⟩ rfl rfl rfl rfl rfl (by kernel_rfl) Try.func6 (by kernel_rfl)
    (of_decide_eq_true (by kernel_rfl)) (by unfold Func.isWrapper; first | (rw [if_pos (by decide +kernel)]; kernel_rfl) | (rw [if_neg (by decide +kernel)]; exact ⟨rfl, rfl⟩))
    (fun os started H enc _ => lifted os started H enc)

theorem proved : Rows.SumTurnsSaid := over
#print axioms proved
end Go.Proofs.Ytmblpoepmabmmaa.sumTurns
