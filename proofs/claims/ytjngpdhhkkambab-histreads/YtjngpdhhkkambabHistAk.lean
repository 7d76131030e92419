/-
  The program's own sizes of numbers, numbers behind bytes, spans of buckets, and which form is put: contracts, for every world.
  Conditions: the slices show their buckets.
-/
import Derived.Test.YtjngpdhhkkambabVintH
import Derived.Test.YtjngpdhhkkambabVintR
import Derived.Test.YtjngpdhhkkambabHistJ
import Derived.Test.YtjngpdhhkkambabHistAb
import Derived.Deep.QuietTactic
import Derived.BigQuiet
import Derived.Deep.Cut
namespace Go.Proofs.Ytjngpdhhkkambab
open Go.RowKit

theorem mine_at {w : World} {base n cap : Nat} {a : Option Addr} {zs : List Int} (h : Mine w base a n cap zs) (hn : 1 ≤ n) : ∃ g, a = some ⟨g, 0, none⟩ := by
  unfold Mine Own at h
  rcases h.2 with ⟨_, h2⟩ | ⟨g, c, cur, h1, _⟩
  · omega
  · simp only [Value.slice.injEq, true_and] at h1
    exact ⟨g, h1.1⟩
/-- One byte in a row of its own. -/
theorem lit_own (w : World) (z : Int) : Mine (w.alloc (.cells #[.int .u8 z] 5)) w.heap.size (some ⟨w.heap.size, 0, none⟩) 1 1 [z] :=
  World.ownsRow_lit (base := w.heap.size) w #[.int .u8 z] 1 (Nat.le_refl _) (by decide) rfl

theorem hsize_any (n : Int) (w : World) (h0 : 0 ≤ n) (h1 : n ≤ 9223372036854775807) :
    Calls Try.prog 49 #[.int .i64 n] w fun e w' => e = .returned (.int .i64 (putS n).length) ∧ Below w.heap.size w w' := by
  have P := hide (put_any n none 0 0 [] w ⟨h0, by omega⟩ (by omega) (Nat.le_refl _) (nil_row _ _ _))
  rw [Nat.zero_add] at P
  have hl := (putS_len n).2
  generalize (putS n).length = m at *
  go_enter Try.func49, Try.ntmps49
  go_wp2_with fail
  refine P.out.mono ?_
  rintro e w1 ⟨a1, c1, rfl, -, b1⟩
  have B1 := hide b1
  clear b1 P
  go_wp2
  go_ret
  exact ⟨rfl, B1.out⟩

/-- Rows of bytes alone may have turned. -/
abbrev Ch8 (w w' : World) : Prop := Ch (fun k => CellsT w k 5) w w'
theorem Ch8.kept {w w' : World} (h : Ch8 w w') {p : Nat} {cur : Array Value} {t : TypeId} {mk : Nat × Nat} (hp : w.heap[p]? = some (.cells cur t mk)) (ht : t ≠ 5) : w'.heap[p]? = some (.cells cur t mk) :=
  (h.block p (Array.getElem?_eq_some_iff.1 hp).1 (fun hc => CellsT.ne (g := p) (g' := p) ⟨cur, mk, hp⟩ hc ht rfl)).trans hp

set_option maxHeartbeats 1000000 in
theorem hnumber_any (v : Int) (base : Nat) (a : Option Addr) (n cap : Nat) (zs : List Int) (w : World) (hv : W64 v) (hn : n + 10 ≤ 140737488355328) (hB : base ≤ w.heap.size) (hs : Mine w base a n cap zs) :
    Calls Try.prog 51 #[.slice a n cap, .int .u64 v] w fun e w' => ∃ a' c', e = .returned (.slice a' (n + (putS v).length) c') ∧ Mine w' base a' (n + (putS v).length) c' (zs ++ putS v) ∧ Below base w w' ∧ Ch8 w w' := by
  obtain ⟨i0, hi0⟩ := info_parts Try.info5
  have HI := hide hi0
  have P := hide (put_any v none 0 0 [] w hv (by omega) (Nat.le_refl _) (nil_row _ _ _))
  rw [Nat.zero_add, List.nil_append] at P
  have HBy : Hid (Bytes8 (putS v)) := putS_byte hv
  have HS := hide hs
  obtain ⟨l0, l1⟩ := putS_len v
  have HZ : Hid ((putS v).length = (putS v).length) := rfl
  clear hi0 hs hv
  generalize hZ : putS v = Z at *
  clear hZ
  generalize hm : Z.length = m at *
  have HM := hide hm
  clear hm HZ
  go_enter Try.func51, Try.ntmps51
  go_wp2_with fail
  refine P.out.mono ?_
  rintro e w1 ⟨a1, c1, rfl, o1, b1⟩
  obtain ⟨g1, rfl⟩ := mine_at o1 l0
  have R1 := hide (o1.row8 (by omega) HBy.out)
  have S1 : Hid (Mine w1 base a n cap zs) := HS.out.below b1 (Nat.le_refl _)
  have B1 : Hid (Below base w w1) := b1.mono hB
  have HB1 : Hid (base ≤ w1.heap.size) := Nat.le_trans hB b1.size
  have C1 : Hid (Ch8 w w1) := (Ch.of_below b1).more (fun _ _ h => h.elim)
  clear P o1 b1
  go_wp2_with (at_builtin; refine wpList_append_own _ rfl _ _ 23 rfl base 5 i0 (.int .u8 0) 1 1 Try.underlying23 HI.out.1 HI.out.2.1 HI.out.2.2.1 HI.out.2.2.2 rfl (by decide) (.slice a n cap) n (zs.map (Value.int .u8)) rfl S1.out ⟨g1, 0, none⟩ m c1 (Z.map (Value.int .u8)) rfl (by simp [HM.out]) R1.out.cells (one_cell .u8 Z) (by unfold maxLen; omega) (by omega) HB1.out ?_)
  intro v2 w2 h1 h2 _
  rw [← List.map_append] at h1
  obtain ⟨a2, c2, rfl, o2⟩ := own_form h1
  have O2 := hide o2
  have B2 : Hid (Below base w w2) := B1.out.trans ((Below.refl _ _).grown h2 HB1.out (own_block S1.out))
  have C2 : Hid (Ch8 w w2) := C1.out.trans ((Ch.grown h2).more (fun k _ hk => (row_cells HS.out hk).1))
  clear o2 h1 h2 S1 R1 B1 C1 HS
  go_wp2
  go_ret
  exact ⟨a2, c2, rfl, O2, B2, C2⟩

theorem last_getD {last : Int} {l : Bks} {n : Nat} (hl : l.length = n) (h : 1 ≤ n) : (l.getD (n - 1) (0, 0)).1 = lastD last l := by
  induction l generalizing last n with
  | nil => simp at hl; omega
  | cons x t ih =>
    obtain ⟨k, c⟩ := x
    rw [lastD]
    cases t with
    | nil => simp at hl; subst hl; rfl
    | cons y t =>
      simp only [List.length_cons] at hl
      obtain ⟨m, rfl⟩ : ∃ m, n = m + 1 := ⟨n - 1, by omega⟩
      have := ih (last := k) (n := m) (by simp only [List.length_cons]; omega) (by omega)
      rw [← this]
      obtain ⟨p, rfl⟩ : ∃ p, m = p + 1 := ⟨m - 1, by omega⟩
      simp only [Nat.add_sub_cancel, List.getD_cons_succ]
theorem from_getD {l : Bks} {n : Nat} (hl : l.length = n) (h : 1 ≤ n) : (l.getD 0 (0, 0)).1 = fromS l := by
  cases l with
  | nil => simp at hl; omega
  | cons x t => rfl

set_option maxHeartbeats 2000000 in
theorem hspan_any (a : Option Addr) (n cap : Nat) (l : Bks) (w : World) (hr : RowB w a n l) (hn : 1 ≤ n) (h0 : ∀ x ∈ l, 0 ≤ x.1 ∧ x.1 ≤ 100000) :
    Calls Try.prog 48 #[.slice a n cap] w fun e w' => e = .returned (.int .i64 (spanI l)) ∧ ∃ q, w' = w.drewN q := by
  obtain ⟨bb, off, rfl, h1⟩ := hr.at' (j := n - 1) (by omega)
  obtain ⟨bb', off', h1', h2⟩ := hr.at' (j := 0) (by omega)
  simp only [Option.some.injEq, Addr.mk.injEq, and_true] at h1'
  obtain ⟨rfl, rfl⟩ := h1'
  have f1 := (h1 w (Below.refl _ _)).1
  have f0 := (h2 w (Below.refl _ _)).1
  rw [Nat.zero_mul, Nat.add_zero] at f0
  have e1 : spanI l = (l.getD (n - 1) (0, 0)).1 - (l.getD 0 (0, 0)).1 + 1 := by unfold spanI; rw [last_getD hr.1 hn, from_getD hr.1 hn]
  have hb : ∀ k, k < n → 0 ≤ (l.getD k (0, 0)).1 ∧ (l.getD k (0, 0)).1 ≤ 100000 := by
    intro k hk
    rw [List.getD_eq_getElem?_getD, List.getElem?_eq_getElem (by rw [hr.1]; exact hk)]
    exact h0 _ (List.getElem_mem _)
  obtain ⟨x0, x1⟩ := hb (n - 1) (by omega)
  obtain ⟨y0, y1⟩ := hb 0 (by omega)
  have hnb := hr.2.1
  rw [e1]
  clear e1 hb h1 h2 h0 hr
  generalize (l.getD (n - 1) (0, 0)).1 = X at *
  generalize (l.getD 0 (0, 0)).1 = Y at *
  have i1 : (0 : Int) ≤ (n : Int) - 1 := by omega
  have i2 : ((n : Int) - 1).toNat = n - 1 := by omega
  have i3 : (0 : Int) < (n : Int) := by omega
  have i4 : (n : Int) - 1 < (n : Int) := by omega
  have q1 : IntKind.i64.wrap ((n : Int) - 1) = (n : Int) - 1 := by rw [IntKind.wrap_i64]; omega
  have q2 : IntKind.i64.wrap (X - Y) = X - Y := by rw [IntKind.wrap_i64]; omega
  have q3 : IntKind.i64.wrap (X - Y + 1) = X - Y + 1 := by rw [IntKind.wrap_i64]; omega
  go_enter Try.func48, Try.ntmps48
  go_wp2
  go_quiet (fail)
  go_wp2
  go_ret
  exact ⟨rfl, _, rfl⟩

theorem gaps_snoc (last : Int) (l : Bks) (k c : Int) : gapsS last (l ++ [(k, c)]) = gapsS last l + (putS (k - lastD last l - 1)).length := by
  induction l generalizing last with
  | nil => simp [gapsS, lastD]
  | cons x t ih =>
    obtain ⟨j, d⟩ := x
    rw [List.cons_append, gapsS, gapsS, ih, lastD]
    omega
theorem tail_cut (n cap : Nat) (a : Option Addr) (hn : 1 ≤ n) : ∃ D c, ∀ w : World, (Instr.slice 22 (.slice a n cap) (some (.int .i64 1)) none none).run Try.prog w = .ok (.slice D (n - 1) c) w := by
  refine ⟨if cap = 1 then a else a.map (·.add 2), cap - 1, fun w => ?_⟩
  rw [run_slice_l (P := Try.prog) w 22 a n cap Try.underlying22 .i64 1 (by omega) (by omega)]
  have hs : (sizeOf (Try.prog.elem 22)).run Try.prog w = .ok 2 w := by kernel_rfl
  rw [hs]
  rfl
theorem rises_at {l : Bks} {n : Nat} (hl : l.length = n) {last : Int} (h : checkF last l = true) : ∀ j, j + 1 < n → (l.getD j (0, 0)).1 < (l.getD (j + 1) (0, 0)).1 := by
  induction l generalizing last n with
  | nil => intro j hj; simp at hl; omega
  | cons x t ih =>
    obtain ⟨k, c⟩ := x
    intro j hj
    have h1 := checkF_cons.1 h
    simp only [List.length_cons] at hl
    rw [List.getD_cons_succ]
    cases j with
    | zero =>
      cases t with
      | nil => simp at hl; omega
      | cons y t =>
        obtain ⟨k2, c2⟩ := y
        exact (checkF_cons.1 h1.2.2.2).1
    | succ j =>
      rw [List.getD_cons_succ]
      exact ih (n := n - 1) (by omega) h1.2.2.2 j (by omega)
theorem good_range {l : Bks} (h : Good l) : ∀ x ∈ l, 0 ≤ x.1 ∧ x.1 ≤ 100000 := by
  intro x hx
  obtain ⟨k, hk, rfl⟩ := List.getElem_of_mem hx
  have h1 := checkF_range (Int.le_refl _) h.check hk
  rw [List.getD_eq_getElem?_getD, List.getElem?_eq_getElem hk] at h1
  simp only [Option.getD_some] at h1
  omega
theorem gaps_le (last : Int) (l : Bks) : gapsS last l ≤ 10 * l.length := by
  induction l generalizing last with
  | nil => simp [gapsS]
  | cons x t ih =>
    obtain ⟨k, c⟩ := x
    have h1 := (putS_len (k - last - 1)).2
    have h2 := ih k
    rw [gapsS, List.length_cons]
    omega

set_option maxRecDepth 20000 in
set_option maxHeartbeats 4000000 in
theorem hform_any (a : Option Addr) (n cap : Nat) (l : Bks) (w : World) (hr : RowB w a n l) (hc : n ≤ cap) :
    Calls Try.prog 28 #[.slice a n cap] w fun e w' => e = .returned (.int .u64 (formS l)) ∧ Below w.heap.size w w' := by
  have HR := hide hr
  have HL := hide hr.1
  have hnb := hr.2.1
  have C := hide (check_any a n cap l w hr)
  have hfit := fit_words hr.2.2.1
  have HFit := hide hfit
  clear hr hfit
  by_cases hn0 : n = 0
  · have hl : l = [] := List.length_eq_zero_iff.1 (by rw [HL.out]; exact hn0)
    have HE : Hid (formS l = 0) := by show _ = _; unfold formS; rw [if_pos (Or.inl hl)]
    rw [HE.out]
    subst hn0
    clear hl C HR HL HFit
    go_enter Try.func28, Try.ntmps28
    go_wp2
    go_ret
    exact ⟨rfl, Below.refl _ _⟩
  have d0 : ((n : Int) == 0) = false := by simp; omega
  have hn1 : 1 ≤ n := by omega
  by_cases hck : checkS l = false
  · have HE : Hid (formS l = 0) := by show _ = _; unfold formS; rw [if_pos (Or.inr hck)]
    rw [HE.out]
    rw [hck] at C
    clear hck HR HL HFit
    go_enter Try.func28, Try.ntmps28
    go_wp2_with fail
    refine C.out.mono ?_
    rintro e w1 ⟨rfl, b1⟩
    have B1 := hide b1
    clear b1 C
    go_wp2
    go_ret
    exact ⟨rfl, B1.out⟩
  have hck : checkS l = true := by simpa using hck
  have G := hide (show Good l from ⟨hck, HFit.out⟩)
  have hne : l ≠ [] := by intro h; have := HL.out; rw [h] at this; simp at this; omega
  obtain ⟨a1, a2, a3, a4, a5, a6, a7⟩ := span_facts G.out hne
  have hsp : spanI l = (spanS l : Int) := by unfold spanI; omega
  have hn7 : n ≤ 7424 := by rw [← HL.out]; exact good_len G.out
  have HF : Hid (formS l = if ((putS (spanS l)).length : Int) + spanS l - n < (putS (n : Int)).length + gapsS (fromS l) l.tail then 1 else 0) := by
    show _ = _
    unfold formS
    rw [if_neg (by rw [hck]; simp [hne]), HL.out]
  have SP := hide (fun W (b : Below w.heap.size w W) => hspan_any a n cap l W (HR.out.below b (Nat.le_refl _)) hn1 (good_range G.out))
  rw [hsp] at SP
  have Z1 := hide (fun w => hsize_any (spanS l : Int) w (by omega) (by omega))
  have Z2 := hide (fun w => hsize_any (n : Int) w (by omega) (by omega))
  have z1 := (putS_len (spanS l : Int)).2
  have z2 := (putS_len (n : Int)).2
  rw [hck] at C
  obtain ⟨D, dc, hD⟩ := tail_cut n cap a hn1
  have HGaps : Hid (∀ j : Nat, j + 1 < n → gapsS (fromS l) (l.tail.take (j + 1)) = gapsS (fromS l) (l.tail.take j) + (putS ((l.getD (j + 1) (0, 0)).1 - (l.getD j (0, 0)).1 - 1)).length) := by
    intro j hj
    cases l with
    | nil => exact absurd rfl hne
    | cons x t =>
      obtain ⟨k0, c0⟩ := x
      have hlen : t.length + 1 = n := by simpa using HL.out
      simp only [List.tail_cons, fromS]
      rw [take_bks (l := t) (k := j) (by omega)]
      obtain ⟨v1, v2⟩ : ∃ v1 v2, t.getD j (0, 0) = (v1, v2) := ⟨_, _, rfl⟩
      obtain ⟨v2, hv⟩ := v2
      rw [hv, gaps_snoc, List.getD_cons_succ, hv]
      congr 3
      have : (((k0, c0) :: t).getD j (0, 0)).1 = lastD k0 (t.take j) := by
        cases j with
        | zero => rfl
        | succ j =>
          rw [List.getD_cons_succ]
          have hl2 : (t.take (j + 1)).length = j + 1 := by rw [List.length_take]; omega
          have := last_getD (last := k0) hl2 (by omega)
          rw [← this, Nat.add_sub_cancel, List.getD_eq_getElem?_getD, List.getD_eq_getElem?_getD, List.getElem?_take, if_pos (by omega)]
      rw [this]
  have HGL : Hid (∀ j : Nat, gapsS (fromS l) (l.tail.take j) ≤ 10 * 7424) := by
    intro j
    have h1 := gaps_le (fromS l) (l.tail.take j)
    have h2 : (l.tail.take j).length ≤ 7424 := by
      rw [List.length_take, List.length_tail, HL.out]
      omega
    omega
  have HRG : Hid (∀ j, j < n → 0 ≤ (l.getD j (0, 0)).1 ∧ (l.getD j (0, 0)).1 ≤ 7423) := fun j hj => checkF_range (Int.le_refl _) G.out.check (by rw [HL.out]; exact hj)
  have HRise : Hid (∀ j, j + 1 < n → (l.getD j (0, 0)).1 < (l.getD (j + 1) (0, 0)).1) := rises_at HL.out G.out.check
  have HFin : Hid (l.tail.take (n - 1) = l.tail) := List.take_of_length_le (by rw [List.length_tail, HL.out]; omega)
  have hsp2 : spanS l ≤ 7424 := by omega
  clear hck hne a1 a2 a4 a5 a6 a7 hsp
  generalize (putS (spanS l : Int)).length = p1 at *
  generalize (putS (n : Int)).length = p2 at *
  generalize spanS l = sp at *
  go_enter Try.func28, Try.ntmps28
  go_wp2_with fail
  refine C.out.mono ?_
  rintro e w1 ⟨rfl, b1⟩
  have S1 := hide (SP.out w1 b1)
  have B1 := hide b1
  clear b1 C SP
  go_wp2_with fail
  refine S1.out.mono ?_
  rintro e w2 ⟨rfl, q, rfl⟩
  have B2 := hide (bel_drewN B1.out q)
  clear S1 B1
  generalize w1.drewN q = w2 at *
  go_wp2_with fail
  refine (Z1.out _).mono ?_
  rintro e w3 ⟨rfl, b3⟩
  have B3 : Hid (Below w.heap.size w w3) := B2.out.trans (b3.mono B2.out.size)
  clear b3 B2 Z1
  go_wp2_with fail
  refine (Z2.out _).mono ?_
  rintro e w4 ⟨rfl, b4⟩
  have B4 : Hid (Below w.heap.size w w4) := B3.out.trans (b4.mono B3.out.size)
  clear b4 B3 Z2
  go_wp2
  go_loopw [5, 30] (fun s i wr => ∃ (j S : Nat), j ≤ n - 1 ∧ i = .int .i64 j ∧ s = .int .i64 S ∧ S ≤ 100000 ∧ Hid (S = p2 + gapsS (fromS l) (l.tail.take j)) ∧ Hid (Below w.heap.size w wr)) (fun _ i _ => n - 1 - (intOf i).toNat)
  case atStart => exact ⟨0, p2, by omega, rfl, rfl, by omega, by show _ = _; simp [gapsS], B4⟩
  case round =>
    obtain ⟨j, S, hj, rfl, rfl, hS, HT, HW⟩ := hrel
    by_cases hlt : j < n - 1
    · obtain ⟨bb, off, rfl, hc1⟩ := HR.out.at' (j := j + 1) (by omega)
      obtain ⟨bb', off', hbo, hc0⟩ := HR.out.at' (j := j) (by omega)
      simp only [Option.some.injEq, Addr.mk.injEq, and_true] at hbo
      obtain ⟨rfl, rfl⟩ := hbo
      have f1 := (hc1 wr HW.out).1
      have f0 := (hc0 wr HW.out).1
      obtain ⟨x0, x1⟩ := HRG.out (j + 1) (by omega)
      obtain ⟨y0, y1⟩ := HRG.out j (by omega)
      have hxy := HRise.out j (by omega)
      have HGJ := hide (HGaps.out j (by omega))
      have HGL1 := HGL.out (j + 1)
      clear hc1 hc0
      generalize (l.getD (j + 1) (0, 0)).1 = X at *
      generalize (l.getD j (0, 0)).1 = Y at *
      have Z := hide (fun w => hsize_any (X - Y - 1) w (by omega) (by omega))
      rw [HGJ.out] at HGL1
      have hp := (putS_len (X - Y - 1)).2
      generalize (putS (X - Y - 1)).length = pz at *
      have i1 : (0 : Int) ≤ (j : Int) := by omega
      have i2 : (j : Int) < (n : Int) := by omega
      have i3 : (0 : Int) ≤ (j : Int) + 1 := by omega
      have i4 : (j : Int) + 1 < (n : Int) := by omega
      have i5 : ((j : Int) + 1).toNat = j + 1 := by omega
      have q1 : IntKind.i64.wrap ((j : Int) + 1) = (j : Int) + 1 := by rw [IntKind.wrap_i64]; omega
      have q2 : IntKind.i64.wrap (X - Y) = X - Y := by rw [IntKind.wrap_i64]; omega
      have q3 : IntKind.i64.wrap (X - Y - 1) = X - Y - 1 := by rw [IntKind.wrap_i64]; omega
      have q4 : IntKind.i64.wrap ((S : Int) + (pz : Int)) = (S : Int) + (pz : Int) := by rw [IntKind.wrap_i64]; omega
      have hS2 : S + pz ≤ 100000 := by have := HT.out; omega
      have HT2 : Hid (S + pz = p2 + gapsS (fromS l) (l.tail.take (j + 1))) := by have := HT.out; show _ = _; rw [HGJ.out]; omega
      clear HT HGJ HGL1
      go_upto_region 9 with fail
      refine wp_region_held_drew (S := fun W => W.cell? ⟨bb, off + (j + 1) * 2, none⟩ = some (.int .i64 X) ∧ W.cell? ⟨bb, off + j * 2, none⟩ = some (.int .i64 Y)) (by kernel_rfl) ⟨f1, f0⟩ (fun hHeld => ?_)
      refine held_take (i := 0) (d := (some 33)) (v := ?_) rfl rfl (by kernel_rfl) (by kernel_rfl) (by kernel_rfl) (fun _ _ _ h => h) (Or.inl ⟨by rfl, ?_⟩) (by first | assumption | rfl | trivial) ?_
      rotate_left 1
      · (intro w hSw; (try dsimp only at hSw); (try subst hSw); go_simp; try with_reducible rfl)
      simp only [Act.put, List.setIfInBounds_toArray, List.set_cons_zero, List.set_cons_succ]
      refine held_take (i := 1) (d := (some 34)) (v := ?_) rfl rfl (by kernel_rfl) (by kernel_rfl) (by kernel_rfl) (fun _ _ _ h => h) (Or.inl ⟨by rfl, ?_⟩) (by first | assumption | rfl | trivial) ?_
      rotate_left 1
      · (intro w hSw; (try dsimp only at hSw); (try subst hSw); go_simp; try with_reducible rfl)
      simp only [Act.put, List.setIfInBounds_toArray, List.set_cons_zero, List.set_cons_succ]
      refine held_take (i := 2) (d := (some 35)) (v := ?_) rfl rfl (by kernel_rfl) (by kernel_rfl) (by kernel_rfl) (fun _ _ _ h => h) (Or.inl ⟨by rfl, ?_⟩) (by first | assumption | rfl | trivial) ?_
      rotate_left 1
      · (intro w hSw; (try dsimp only at hSw); (try subst hSw); go_simp; try with_reducible rfl)
      simp only [Act.put, List.setIfInBounds_toArray, List.set_cons_zero, List.set_cons_succ]
      refine held_take (i := 3) (d := (some 36)) (v := ?_) rfl rfl (by kernel_rfl) (by kernel_rfl) (by kernel_rfl) (fun _ _ _ h => h) (Or.inl ⟨by rfl, ?_⟩) (by first | assumption | rfl | trivial) ?_
      rotate_left 1
      · (intro w hSw; (try dsimp only at hSw); (try subst hSw); go_simp; try with_reducible rfl)
      simp only [Act.put, List.setIfInBounds_toArray, List.set_cons_zero, List.set_cons_succ]
      refine held_take (i := 4) (d := (some 37)) (v := ?_) rfl rfl (by kernel_rfl) (by kernel_rfl) (by kernel_rfl) (fun _ _ _ h => h) (Or.inl ⟨by rfl, ?_⟩) (by first | assumption | rfl | trivial) ?_
      rotate_left 1
      · (intro w hSw; (try dsimp only at hSw); (try subst hSw); go_simp; try with_reducible rfl)
      simp only [Act.put, List.setIfInBounds_toArray, List.set_cons_zero, List.set_cons_succ]
      refine held_take (i := 5) (d := (some 38)) (v := ?_) rfl rfl (by kernel_rfl) (by kernel_rfl) (by kernel_rfl) (fun _ _ _ h => h) (Or.inl ⟨by rfl, ?_⟩) (by first | assumption | rfl | trivial) ?_
      rotate_left 1
      · (intro w hSw; (try dsimp only at hSw); (try subst hSw); go_simp; try with_reducible rfl)
      simp only [Act.put, List.setIfInBounds_toArray, List.set_cons_zero, List.set_cons_succ]
      refine held_take (i := 6) (d := (some 39)) (v := ?_) rfl rfl (by kernel_rfl) (by kernel_rfl) (by kernel_rfl) (fun _ _ _ h => h) (Or.inl ⟨by rfl, ?_⟩) (by first | assumption | rfl | trivial) ?_
      rotate_left 1
      · (intro w hSw; (try dsimp only at hSw); (try subst hSw); go_simp; try with_reducible rfl)
      simp only [Act.put, List.setIfInBounds_toArray, List.set_cons_zero, List.set_cons_succ]
      refine held_take (i := 7) (d := (some 40)) (v := ?_) rfl rfl (by kernel_rfl) (by kernel_rfl) (by kernel_rfl) (fun _ _ _ h => h) (Or.inl ⟨by rfl, ?_⟩) (by first | assumption | rfl | trivial) ?_
      rotate_left 1
      · (intro w hSw; (try dsimp only at hSw); (try subst hSw); go_simp; try with_reducible rfl)
      simp only [Act.put, List.setIfInBounds_toArray, List.set_cons_zero, List.set_cons_succ]
      refine held_take (i := 8) (d := (some 41)) (v := ?_) rfl rfl (by kernel_rfl) (by kernel_rfl) (by kernel_rfl) (fun _ _ _ h => h) (Or.inl ⟨by rfl, ?_⟩) (by first | assumption | rfl | trivial) ?_
      rotate_left 1
      · (intro w hSw; (try dsimp only at hSw); (try subst hSw); go_simp; try with_reducible rfl)
      simp only [Act.put, List.setIfInBounds_toArray, List.set_cons_zero, List.set_cons_succ]
      refine held_take (i := 9) (d := (some 42)) (v := ?_) rfl rfl (by kernel_rfl) (by kernel_rfl) (by kernel_rfl) (fun _ _ _ h => h) (Or.inl ⟨by rfl, ?_⟩) (by first | assumption | rfl | trivial) ?_
      rotate_left 1
      · (intro w hSw; (try dsimp only at hSw); (try subst hSw); go_simp; try with_reducible rfl)
      simp only [Act.put, List.setIfInBounds_toArray, List.set_cons_zero, List.set_cons_succ]
      refine held_take (i := 10) (d := (some 43)) (v := ?_) rfl rfl (by kernel_rfl) (by kernel_rfl) (by kernel_rfl) (fun _ _ _ h => h) (Or.inl ⟨by rfl, ?_⟩) (by first | assumption | rfl | trivial) ?_
      rotate_left 1
      · (intro w hSw; (try dsimp only at hSw); (try subst hSw); go_simp; try with_reducible rfl)
      simp only [Act.put, List.setIfInBounds_toArray, List.set_cons_zero, List.set_cons_succ]
      refine held_take (i := 11) (d := (some 44)) (v := ?_) rfl rfl (by kernel_rfl) (by kernel_rfl) (by kernel_rfl) (fun _ _ _ h => h) (Or.inl ⟨by rfl, ?_⟩) (by first | assumption | rfl | trivial) ?_
      rotate_left 1
      · (intro w hSw; (try dsimp only at hSw); (try subst hSw); go_simp; try with_reducible rfl)
      simp only [Act.put, List.setIfInBounds_toArray, List.set_cons_zero, List.set_cons_succ]
      refine held_take (i := 12) (d := (some 45)) (v := ?_) rfl rfl (by kernel_rfl) (by kernel_rfl) (by kernel_rfl) (fun _ _ _ h => h) (Or.inl ⟨by rfl, ?_⟩) (by first | assumption | rfl | trivial) ?_
      rotate_left 1
      · (intro w hSw; (try dsimp only at hSw); (try subst hSw); go_simp; try with_reducible rfl)
      simp only [Act.put, List.setIfInBounds_toArray, List.set_cons_zero, List.set_cons_succ]
      refine held_take (i := 13) (d := (some 46)) (v := ?_) rfl rfl (by kernel_rfl) (by kernel_rfl) (by kernel_rfl) (fun _ _ _ h => h) (Or.inl ⟨by rfl, ?_⟩) (by first | assumption | rfl | trivial) ?_
      rotate_left 1
      · (intro w hSw; (try dsimp only at hSw); (try subst hSw); go_simp; try with_reducible rfl)
      simp only [Act.put, List.setIfInBounds_toArray, List.set_cons_zero, List.set_cons_succ]
      refine held_next (i := 14) (by kernel_rfl) rfl (by rfl) (fun K hK => ?_)
      go_simp
      refine (Z.out _).mono ?_
      rintro e W4 ⟨rfl, b5⟩
      have hs4 : W4.cell? ⟨bb, off + (j + 1) * 2, none⟩ = some (.int .i64 X) ∧ W4.cell? ⟨bb, off + j * 2, none⟩ = some (.int .i64 Y) := by
        have hlt : bb < wr.heap.size := World.block_lt_of_cell? wr _ f1
        rw [b5.cell (p := ⟨bb, off + (j + 1) * 2, none⟩) hlt, b5.cell (p := ⟨bb, off + j * 2, none⟩) hlt]
        exact ⟨f1, f0⟩
      have B5 : Hid (Below w.heap.size w W4) := HW.out.drew.trans (b5.mono HW.out.size)
      go_wp2_with fail
      refine hK.out _ _ hs4 ?_
      clear hK
      refine held_take (i := 15) (d := (some 48)) (v := ?_) rfl rfl (by kernel_rfl) (by kernel_rfl) (by kernel_rfl) (fun _ _ _ h => h) (Or.inl ⟨by rfl, ?_⟩) (by first | assumption | rfl | trivial) ?_
      rotate_left 1
      · (intro w hSw; (try dsimp only at hSw); (try subst hSw); go_simp; try with_reducible rfl)
      simp only [Act.put, List.setIfInBounds_toArray, List.set_cons_zero, List.set_cons_succ]
      refine held_take (i := 16) (d := (some 5)) (v := ?_) rfl rfl (by kernel_rfl) (by kernel_rfl) (by kernel_rfl) (fun _ _ _ h => h) (Or.inl ⟨by rfl, ?_⟩) (by first | assumption | rfl | trivial) ?_
      rotate_left 1
      · (intro w hSw; (try dsimp only at hSw); (try subst hSw); go_simp; try with_reducible rfl)
      simp only [Act.put, List.setIfInBounds_toArray, List.set_cons_zero, List.set_cons_succ]
      refine wpAnyH_done (by kernel_rfl) ?_ _
      clear hHeld hs4 b5 f1 f0 HW
      go_wp2
      go_roundw
      case rel => exact ⟨j + 1, S + pz, by omega, by go_num, by simp, hS2, HT2, B5⟩
      case measure => simp [intOf]; omega
    · have : j = n - 1 := by omega
      subst this
      have hS2 : S = p2 + gapsS (fromS l) l.tail := by
        have := HT.out
        rw [HFin.out] at this
        exact this
      have hS3 : ((p2 : Int) + (gapsS (fromS l) l.tail : Int)) = (S : Int) := by omega
      have HFF := HF
      rw [hS3] at HFF
      clear hS2 hS3 HT HFin HF
      by_cases hd : (p1 : Int) + sp - n < S
      · have dd : decide ((p1 : Int) + sp - n < S) = true := decide_eq_true hd
        rw [if_pos hd] at HFF
        clear hd
        go_wp2
        go_ret
        rw [HFF.out]
        exact ⟨rfl, HW.out⟩
      · have dd : decide ((p1 : Int) + sp - n < S) = false := decide_eq_false hd
        rw [if_neg hd] at HFF
        go_wp2
        go_ret
        rw [HFF.out]
        exact ⟨rfl, HW.out⟩
end Go.Proofs.Ytjngpdhhkkambab
