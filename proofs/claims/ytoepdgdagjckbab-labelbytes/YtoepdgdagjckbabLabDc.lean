/-
  The program's own Cmp of labels (slices.CompareFunc with cmp.Or of two strings.Compare): its contract, for every world; what was there before stays.
  Conditions: the labels lie in memory.
-/
import Derived.Test.YtoepdgdagjckbabLabSo
import Derived.Test.YtoepdgdagjckbabLabI
import Derived.Deep.RegionHeld3
namespace Go.Proofs.Ytoepdgdagjckbab
open Go.RowKit
set_option maxRecDepth 20000

def orI (x y : Int) : Int := if x = 0 then y else x
set_option maxHeartbeats 1000000 in
theorem or_any (x y : Int) (g cap : Nat) (w : World) (h0 : w.cell? ⟨g, 0, none⟩ = some (.int .i64 x)) (h1 : w.cell? ⟨g, 1, none⟩ = some (.int .i64 y)) :
    Calls Try.prog 40 #[.slice (some ⟨g, 0, none⟩) 2 cap] w fun e w' => e = .returned (.int .i64 (orI x y)) ∧ w' = w := by
  unfold orI
  by_cases e1 : x = 0
  · subst e1
    rw [if_pos rfl]
    by_cases e2 : y = 0
    · subst e2
      go_enter Try.func40, Try.ntmps40
      go_wp2
      refine wp_loop_rounds 3 ?_
      rw [rounds_succ]
      go_wp2
      rw [rounds_succ]
      go_wp2
      rw [rounds_succ]
      go_wp2
      go_ret
      exact ⟨rfl, rfl⟩
    · have n2 : (y != 0) = true := by simpa using e2
      go_enter Try.func40, Try.ntmps40
      go_wp2
      refine wp_loop_rounds 3 ?_
      rw [rounds_succ]
      go_wp2
      rw [rounds_succ]
      go_wp2
      go_ret
      exact ⟨rfl, rfl⟩
  · rw [if_neg e1]
    have n1 : (x != 0) = true := by simpa using e1
    go_enter Try.func40, Try.ntmps40
    go_wp2
    refine wp_loop_rounds 3 ?_
    rw [rounds_succ]
    go_wp2
    go_ret
    exact ⟨rfl, rfl⟩

theorem keepC {w0 w w' : World} {B g1 g2 : Nat} {x y : Lb} (hb : Below w.heap.size w w') (h : (w.cell? ⟨g1, 0, none⟩ = some (.string x.1) ∧ w.cell? ⟨g1, 1, none⟩ = some (.string x.2)) ∧ (w.cell? ⟨g2, 0, none⟩ = some (.string y.1) ∧ w.cell? ⟨g2, 1, none⟩ = some (.string y.2)) ∧ Hid (B ≤ w.heap.size ∧ Below B w0 w)) :
    (w'.cell? ⟨g1, 0, none⟩ = some (.string x.1) ∧ w'.cell? ⟨g1, 1, none⟩ = some (.string x.2)) ∧ (w'.cell? ⟨g2, 0, none⟩ = some (.string y.1) ∧ w'.cell? ⟨g2, 1, none⟩ = some (.string y.2)) ∧ Hid (B ≤ w'.heap.size ∧ Below B w0 w') := by
  obtain ⟨⟨a0, a1⟩, ⟨b0, b1⟩, l4, hB⟩ := h
  have l1 : g1 < w.heap.size := World.block_lt_of_cell? w _ a0
  have l2 : g2 < w.heap.size := World.block_lt_of_cell? w _ b0
  refine ⟨⟨?_, ?_⟩, ⟨?_, ?_⟩, Nat.le_trans l4 hb.size, hB.trans (hb.mono l4)⟩
  · rw [hb.cell (p := ⟨g1, 0, none⟩) l1]; exact a0
  · rw [hb.cell (p := ⟨g1, 1, none⟩) l1]; exact a1
  · rw [hb.cell (p := ⟨g2, 0, none⟩) l2]; exact b0
  · rw [hb.cell (p := ⟨g2, 1, none⟩) l2]; exact b1

set_option maxHeartbeats 2000000 in
theorem clos_cmp (x y : Lb) (W : World) : Calls Try.prog 39 #[.agg #[.string x.1, .string x.2], .agg #[.string y.1, .string y.2]] W fun e w' => e = .returned (.int .i64 (lexP cmpT cmpT x y)) ∧ Below W.heap.size W w' := by
  have C1 : Hid (∀ w, Calls Try.prog 37 #[.string x.1, .string y.1] w fun e w' => e = .returned (.int .i64 (cmpT x.1 y.1)) ∧ Below w.heap.size w w') := fun w => (compare_any x.1 y.1 w).mono fun e w' ⟨he, hw⟩ => ⟨he, by rw [hw]; exact Below.refl _ _⟩
  have C2 : Hid (∀ w, Calls Try.prog 37 #[.string x.2, .string y.2] w fun e w' => e = .returned (.int .i64 (cmpT x.2 y.2)) ∧ Below w.heap.size w w') := fun w => (compare_any x.2 y.2 w).mono fun e w' ⟨he, hw⟩ => ⟨he, by rw [hw]; exact Below.refl _ _⟩
  have OR : Hid (∀ (p q : Int) (v : World) (t : TypeId), Calls Try.prog 40 #[.slice (some ⟨v.heap.size, 0, none⟩) 2 2] (v.alloc (.cells #[.int .i64 p, .int .i64 q] t)) fun e w' => e = .returned (.int .i64 (orI p q)) ∧ Below (v.alloc (.cells #[.int .i64 p, .int .i64 q] t)).heap.size (v.alloc (.cells #[.int .i64 p, .int .i64 q] t)) w') := fun p q v t =>
    (or_any p q v.heap.size 2 _ (by simp [go_sem]) (by simp [go_sem])).mono fun e w' ⟨he, hw⟩ => ⟨he, by rw [hw]; exact Below.refl _ _⟩
  have E : Hid (lexP cmpT cmpT x y = orI (cmpT x.1 y.1) (cmpT x.2 y.2)) := rfl
  rw [E.out]
  generalize cmpT x.1 y.1 = p at *
  generalize cmpT x.2 y.2 = q at *
  clear E
  obtain ⟨w0, hw0⟩ : ∃ w0, Hid ((W.alloc (.cells #[.string x.1, .string x.2] 40)).alloc (.cells #[.string y.1, .string y.2] 40) = w0) := ⟨_, rfl⟩
  have S0 : Hid ((w0.drew.cell? ⟨W.heap.size, 0, none⟩ = some (.string x.1) ∧ w0.drew.cell? ⟨W.heap.size, 1, none⟩ = some (.string x.2)) ∧ (w0.drew.cell? ⟨W.heap.size + 1, 0, none⟩ = some (.string y.1) ∧ w0.drew.cell? ⟨W.heap.size + 1, 1, none⟩ = some (.string y.2)) ∧ Hid (W.heap.size ≤ w0.drew.heap.size ∧ Below W.heap.size W w0.drew)) := by
    rw [← hw0.out]
    have hb : Below W.heap.size W ((W.alloc (.cells #[.string x.1, .string x.2] 40)).alloc (.cells #[.string y.1, .string y.2] 40)).drew := (bel_al (bel_al (Below.refl W.heap.size W) (Nat.le_refl _) _) (Nat.le_refl _) _).drew
    exact ⟨⟨by simp [go_sem], by simp [go_sem]⟩, ⟨by simp [go_sem], by simp [go_sem]⟩, hb.size, hb⟩
  go_enter Try.func39, Try.ntmps39
  go_upto_region 1 with fail
  rw [hw0.out]
  clear hw0
  generalize W.heap.size + 1 = g2 at S0 ⊢
  obtain ⟨g1, hg1⟩ : ∃ g, Hid (W.heap.size = g) := ⟨_, rfl⟩
  rw [hg1.out] at S0 ⊢
  go_region_held3 (fun w' => (w'.cell? ⟨g1, 0, none⟩ = some (.string x.1) ∧ w'.cell? ⟨g1, 1, none⟩ = some (.string x.2)) ∧ (w'.cell? ⟨g2, 0, none⟩ = some (.string y.1) ∧ w'.cell? ⟨g2, 1, none⟩ = some (.string y.2)) ∧ Hid (g1 ≤ w'.heap.size ∧ Below g1 W w')) (first | exact S0.out | exact keepC (by assumption) (by assumption) | exact keepC ((Below.refl _ _).alloc (Nat.le_refl _) _) (by assumption)) (first
    | (go_at_call 37
       first
         | (with_reducible refine (C1.out _).mono ?_)
         | (with_reducible refine (C2.out _).mono ?_)
       rintro e v4 ⟨rfl, b4⟩)
    | (go_at_call 40
       with_reducible refine (OR.out p q _ _).mono ?_
       rintro e v4 ⟨rfl, b4⟩))
  rename_i hh
  have F := hide hh.2.2.out.2
  clear hh
  go_wp2
  go_ret
  rw [hg1.out]
  exact ⟨rfl, F.out⟩

theorem cmpL_step {l m : List Lb} {k : Nat} {x y : Lb} (hx : l[k]? = some x) (hy : m[k]? = some y) : cmpL (l.drop k) (m.drop k) = if lexP cmpT cmpT x y = 0 then cmpL (l.drop (k + 1)) (m.drop (k + 1)) else lexP cmpT cmpT x y := by
  have h1 : k < l.length := (List.getElem?_eq_some_iff.1 hx).1
  have h2 : k < m.length := (List.getElem?_eq_some_iff.1 hy).1
  rw [List.drop_eq_getElem_cons h1, List.drop_eq_getElem_cons h2, (List.getElem?_eq_some_iff.1 hx).2, (List.getElem?_eq_some_iff.1 hy).2]
  rfl

set_option maxHeartbeats 4000000 in
theorem comparefunc_any (a : Option Addr) (n cap : Nat) (l : List Lb) (b : Option Addr) (m capb : Nat) (r : List Lb) (w : World) (hr : RowL w a n l) (hs : RowL w b m r) :
    Calls Try.prog 38 #[.slice a n cap, .slice b m capb, .func (.func 39) #[] #[]] w fun e w' => e = .returned (.int .i64 (cmpL l r)) ∧ Below w.heap.size w w' := by
  have hn := hr.2.1
  have hm := hs.2.1
  have HX := hide hr
  have HY := hide hs
  have HL := hide hr.1
  have HM := hide hs.1
  have CL := hide clos_cmp
  clear hr hs
  go_enter Try.func38, Try.ntmps38
  go_wp2
  go_loopg [13] n (fun g i wr => ∃ k : Nat, k ≤ n ∧ k ≤ m ∧ n - k ≤ g ∧ i = .int .i64 k ∧ Hid (Below w.heap.size w wr) ∧ Hid (cmpL l r = cmpL (l.drop k) (r.drop k)))
  case atStart => exact ⟨0, Nat.zero_le _, Nat.zero_le _, by omega, rfl, Below.refl _ _, rfl⟩
  case round =>
    obtain ⟨k, hk, hk2, hg, rfl, BW, A⟩ := hrel
    obtain ⟨u, rfl⟩ : ∃ u, u = wr := ⟨wr, rfl⟩
    by_cases hlt : k < n
    · obtain ⟨b1, o1, x, rfl, hx, _, hc1⟩ := HX.out.at' hlt
      obtain ⟨f0, f1⟩ := hc1 u BW.out
      have i1 : (0 : Int) ≤ (k : Int) := by omega
      have i2 : (k : Int) < (n : Int) := by omega
      have BA := hide (bel_al BW.out (Nat.le_refl _) (.cells #[.string x.1, .string x.2] 40))
      by_cases hlm : k < m
      · obtain ⟨b2, o2, y, rfl, hy, _, hc2⟩ := HY.out.at' hlm
        obtain ⟨g0, g1⟩ := hc2 _ BA.out
        have CD := hide (cmpL_step hx hy)
        have i3 : ¬ (m : Int) ≤ (k : Int) := by omega
        have i4 : (k : Int) < (m : Int) := by omega
        have BB := hide (bel_al BA.out (Nat.le_refl _) (.cells #[.string y.1, .string y.2] 40))
        have CX := hide (CL.out x y)
        clear hc1 hc2 hx hy BW BA CL
        by_cases e1 : lexP cmpT cmpT x y = 0
        · rw [e1] at CX
          have A2 : Hid (cmpL l r = cmpL (l.drop (k + 1)) (r.drop (k + 1))) := by show _ = _; rw [A.out, CD.out, if_pos e1]
          clear e1 A CD
          go_wp2_with fail
          with_reducible refine (CX.out _).mono ?_
          rintro e v1 ⟨rfl, b5⟩
          have B5 := hide (bel_to BB.out (Nat.le_refl _) b5)
          clear b5
          go_wp2
          go_roundg (n - (k + 1))
          case measure => omega
          case rel => exact ⟨k + 1, by omega, by omega, by omega, by go_num, B5, A2⟩
        · have t1 : (lexP cmpT cmpT x y != 0) = true := by simpa using e1
          have A2 : Hid (cmpL l r = lexP cmpT cmpT x y) := by show _ = _; rw [A.out, CD.out, if_neg e1]
          generalize lexP cmpT cmpT x y = c at CX t1 A2
          clear e1 A CD
          go_wp2_with fail
          with_reducible refine (CX.out _).mono ?_
          rintro e v1 ⟨rfl, b5⟩
          have B5 := hide (bel_to BB.out (Nat.le_refl _) b5)
          clear b5
          go_wp2
          go_ret
          exact ⟨by rw [A2.out]; rfl, B5.out⟩
      · have hkm : k = m := by omega
        have A2 : Hid (cmpL l r = 1) := by
          show _ = _
          rw [A.out, drop_none (l := r) (by rw [HM.out]; omega), List.drop_eq_getElem_cons (by rw [HL.out]; exact hlt)]
          rfl
        have i3 : (m : Int) ≤ (k : Int) := by omega
        clear hkm hc1 hx
        go_wp2
        go_ret
        exact ⟨by rw [A2.out]; rfl, BA.out⟩
    · have hkn : k = n := by omega
      have i2 : ¬ (k : Int) < (n : Int) := by omega
      by_cases hlm : n < m
      · have A2 : Hid (cmpL l r = -1) := by
          show _ = _
          rw [A.out, drop_none (l := l) (by rw [HL.out]; omega), List.drop_eq_getElem_cons (by rw [HM.out]; omega)]
          rfl
        have i4 : (n : Int) < (m : Int) := by omega
        clear hkn
        go_wp2
        go_ret
        exact ⟨by rw [A2.out]; rfl, BW.out⟩
      · have A2 : Hid (cmpL l r = 0) := by
          show _ = _
          rw [A.out, drop_none (l := l) (by rw [HL.out]; omega), drop_none (l := r) (by rw [HM.out]; omega)]
          rfl
        have i4 : ¬ (n : Int) < (m : Int) := by omega
        clear hkn
        go_wp2
        go_ret
        exact ⟨by rw [A2.out]; rfl, BW.out⟩

theorem cmp_any (a : Option Addr) (n cap : Nat) (l : List Lb) (b : Option Addr) (m capb : Nat) (r : List Lb) (w : World) (hr : RowL w a n l) (hs : RowL w b m r) :
    Calls Try.prog 21 #[.slice a n cap, .slice b m capb] w fun e w' => e = .returned (.int .i64 (cmpL l r)) ∧ Below w.heap.size w w' := by
  have C := hide (comparefunc_any a n cap l b m capb r w hr hs)
  generalize cmpL l r = c at *
  clear hr hs
  go_enter Try.func21, Try.ntmps21
  go_wp2_with fail
  with_reducible refine C.out.mono ?_
  rintro e v1 ⟨rfl, b5⟩
  have B5 := hide b5
  clear b5
  go_wp2
  go_ret
  exact ⟨rfl, B5.out⟩
theorem laP : LaP := ⟨fun a n cap l b m capb r w hr hs => cmp_any a n cap l b m capb r w hr hs⟩
end Go.Proofs.Ytoepdgdagjckbab
