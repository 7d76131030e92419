/-
  Whether two slices of labels are the same (SameLabels), and the document's own texts, Cmp, Value, Name: contracts, for every world; they change nothing.
  Conditions: the slices show their labels.
-/
import Derived.Test.YtpffhpnmbpjifaaLabM
import Derived.Deep.LoopGhost
import Derived.Laws.Cover1
namespace Go.Proofs.Ytpffhpnmbpjifaa
open Go.RowKit
set_option maxRecDepth 20000

theorem ends_labs {xs ys : List Lb} {n : Nat} (hx : xs.length = n) (hy : ys.length = n) (h : ∀ j, j < n → xs[j]? = ys[j]?) : xs = ys := by
  refine List.ext_getElem? fun i => ?_
  by_cases hi : i < n
  · exact h i hi
  · rw [List.getElem?_eq_none (by omega), List.getElem?_eq_none (by omega)]

set_option maxHeartbeats 2000000 in
theorem samelabs_any (a : Option Addr) (n cap : Nat) (xs : List Lb) (b : Option Addr) (m capb : Nat) (ys : List Lb) (w : World) (hr : RowL w a n xs) (hs : RowL w b m ys) :
    Calls Try.prog 13 #[.slice a n cap, .slice b m capb] w fun e w' => e = .returned (.bool (decide (xs = ys))) ∧ ∃ q, w' = w.drewN q := by
  have hn := hr.2.1
  have HX := hide hr
  have HY := hide hs
  by_cases hnm : n = m
  · subst hnm
    clear hr hs
    have t0 : ((n : Int) != (n : Int)) = false := by simp
    go_enter Try.func13, Try.ntmps13
    go_wp2
    go_loopg [5] n (fun g i wr => ∃ k q : Nat, k ≤ n ∧ n - k ≤ g ∧ i = .int .i64 k ∧ wr = w.drewN q ∧ Hid (∀ j, j < k → xs[j]? = ys[j]?))
    case atStart => exact ⟨0, 0, Nat.zero_le _, by omega, rfl, rfl, fun j hj => absurd hj (Nat.not_lt_zero _)⟩
    case round =>
      obtain ⟨k, q, hk, hg, rfl, rfl, A⟩ := hrel
      by_cases hlt : k < n
      · obtain ⟨b1, o1, x, rfl, hx, _, hc1⟩ := HX.out.at' hlt
        obtain ⟨b2, o2, y, rfl, hy, _, hc2⟩ := HY.out.at' hlt
        obtain ⟨f0, f1⟩ := hc1 w (Below.refl _ _)
        obtain ⟨g0, g1⟩ := hc2 w (Below.refl _ _)
        have B : Hid (xs[k]? = some x ∧ ys[k]? = some y) := ⟨hx, hy⟩
        have i1 : (0 : Int) ≤ (k : Int) := by omega
        have i2 : (k : Int) < (n : Int) := by omega
        clear hc1 hc2 hx hy
        obtain ⟨p1, p2⟩ := x
        obtain ⟨q1, q2⟩ := y
        simp only at f0 f1 g0 g1
        by_cases hpq : p1 = q1 ∧ p2 = q2
        · obtain ⟨rfl, rfl⟩ := hpq
          have t3 : (p1.toList == p1.toList) = true := by simp
          have t4 : (p2.toList == p2.toList) = true := by simp
          go_wp2
          go_quiet (fail)
          go_wp2
          go_roundg (n - (k + 1))
          case measure => omega
          case rel =>
            refine ⟨k + 1, _, by omega, by omega, by go_num, rfl, fun j hj => ?_⟩
            by_cases e : j = k
            · subst e
              rw [B.out.1, B.out.2]
            · exact A.out j (by omega)
        · have HN : Hid (decide (xs = ys) = false) := decide_eq_false (fun e => hpq (by
            have h1 := B.out.1
            rw [e, B.out.2] at h1
            simpa [eq_comm] using h1))
          by_cases h1 : p1 = q1
          · have t3 : (p1.toList == q1.toList) = true := by rw [ba_eq]; exact decide_eq_true h1
            have t4 : (p2.toList == q2.toList) = false := by rw [ba_eq]; exact decide_eq_false (fun x => hpq ⟨h1, x⟩)
            clear hpq h1
            go_wp2
            go_quiet (fail)
            go_wp2
            go_ret
            exact ⟨by rw [HN.out]; rfl, q + _, World.drewN_drewN _ _ _⟩
          · have t3 : (p1.toList == q1.toList) = false := by rw [ba_eq]; exact decide_eq_false h1
            clear hpq h1
            go_wp2
            go_quiet (fail)
            go_wp2
            go_ret
            exact ⟨by rw [HN.out]; rfl, q + _, World.drewN_drewN _ _ _⟩
      · have : k = n := by omega
        subst this
        go_wp2
        go_ret
        refine ⟨?_, q, rfl⟩
        rw [decide_eq_true (ends_labs HX.out.1 HY.out.1 A.out)]; rfl
  · have t1 : ((n : Int) != (m : Int)) = true := by simp; omega
    have E : decide (xs = ys) = false := decide_eq_false (fun e => hnm (by rw [← hr.1, ← hs.1, e]))
    rw [E]
    clear hr hs hnm E
    go_enter Try.func13, Try.ntmps13
    go_wp2
    go_ret
    exact ⟨rfl, 0, rfl⟩

theorem reftexts_any (a b : ByteArray) (w : World) :
    Calls Try.prog 48 #[.string a, .string b] w fun e w' => e = .returned (.int .i64 (cmpT a b)) ∧ w' = w := by
  unfold cmpT
  rcases less_tri a.toList b.toList with h | h | h
  · rw [if_pos h]
    go_enter Try.func48, Try.ntmps48
    go_wp2
    go_ret
    exact ⟨rfl, rfl⟩
  · have e := ba_ext h
    subst e
    have h1 := less_irrefl a.toList
    have h2 : (a.toList == a.toList) = true := by simp
    rw [if_neg (by rw [h1]; decide), if_neg (by rw [h1]; decide)]
    go_enter Try.func48, Try.ntmps48
    go_wp2
    go_ret
    exact ⟨rfl, rfl⟩
  · have h1 := less_asymm h
    have h2 : (a.toList == b.toList) = false := beq_eq_false_iff_ne.2 (fun e => by rw [e, less_irrefl] at h; cases h)
    rw [if_neg (by rw [h1]; decide), if_pos h]
    go_enter Try.func48, Try.ntmps48
    go_wp2
    go_ret
    exact ⟨rfl, rfl⟩

theorem quiet_lab {P : Program} {f : Nat} {args : Array Value} {v : Value} {wr : World} {q x : Nat} (h : ∀ w, Calls P f args w (fun e w' => e = .returned v ∧ w' = w)) : Calls P f args (wr.drewN (q + x)) fun e w' => e = .returned v ∧ ∃ n, w' = wr.drewN (q + n) :=
  (h _).mono (fun _ _ k => ⟨k.1, x, k.2⟩)
/-- A name's value, told place by place. -/
theorem valL_at {l : List Lb} {nm : ByteArray} {k : Nat} {x : Lb} (hx : l[k]? = some x) (hn : ∀ j y, j < k → l[j]? = some y → y.1 ≠ nm) (he : x.1 = nm) : valL l nm = x.2 := by
  induction l generalizing k with
  | nil => simp at hx
  | cons y t ih =>
    cases k with
    | zero =>
      simp only [List.getElem?_cons_zero, Option.some.injEq] at hx
      subst hx
      unfold valL
      rw [List.find?_cons_of_pos (by simpa using he)]
      rfl
    | succ k =>
      have h0 : y.1 ≠ nm := hn 0 y (by omega) rfl
      have := ih (k := k) (by simpa using hx) (fun j z hj hz => hn (j + 1) z (by omega) (by simpa using hz))
      unfold valL at this ⊢
      rw [List.find?_cons_of_neg (by simpa using h0)]
      exact this

set_option maxHeartbeats 1000000 in
theorem refval_any (a : Option Addr) (n cap : Nat) (l : List Lb) (nm : ByteArray) (w : World) (hr : RowL w a n l) :
    Calls Try.prog 37 #[.slice a n cap, .string nm] w fun e w' => e = .returned (.string (valL l nm)) ∧ ∃ q, w' = w.drewN q := by
  have hn := hr.2.1
  have HR := hide hr
  have HL := hide hr.1
  clear hr
  go_enter Try.func37, Try.ntmps37
  go_wp2
  go_loopg [5] n (fun g i wr => ∃ k q : Nat, k ≤ n ∧ n - k ≤ g ∧ i = .int .i64 k ∧ wr = w.drewN q ∧ Hid (∀ j y, j < k → l[j]? = some y → y.1 ≠ nm))
  case atStart => exact ⟨0, 0, Nat.zero_le _, by omega, rfl, rfl, fun j y hj => absurd hj (Nat.not_lt_zero _)⟩
  case round =>
    obtain ⟨k, q, hk, hg, rfl, rfl, A⟩ := hrel
    by_cases hlt : k < n
    · obtain ⟨b1, o1, x, rfl, hx, _, hc1⟩ := HR.out.at' hlt
      obtain ⟨f0, f1⟩ := hc1 w (Below.refl _ _)
      have HX := hide hx
      have i1 : (0 : Int) ≤ (k : Int) := by omega
      have i2 : (k : Int) < (n : Int) := by omega
      clear hc1 hx
      by_cases he : x.1 = nm
      · have t1 : (x.1.toList == nm.toList) = true := by rw [ba_eq]; exact decide_eq_true he
        have HV := hide (valL_at HX.out A.out he)
        clear he
        go_wp2
        go_ret
        exact ⟨by rw [HV.out]; rfl, q, rfl⟩
      · have t1 : (x.1.toList == nm.toList) = false := by rw [ba_eq]; exact decide_eq_false he
        have A2 : Hid (∀ j y, j < k + 1 → l[j]? = some y → y.1 ≠ nm) := by
          intro j y hj hy
          by_cases e : j = k
          · subst e
            rw [HX.out] at hy
            simp only [Option.some.injEq] at hy
            subst hy
            exact he
          · exact A.out j y (by omega) hy
        clear he
        go_wp2
        go_roundg (n - (k + 1))
        case measure => omega
        case rel => exact ⟨k + 1, q, by omega, by omega, by go_num, rfl, A2⟩
    · have : k = n := by omega
      subst this
      have HV : Hid (valL l nm = .empty) := valL_none (fun x hx => by
        obtain ⟨j, hj⟩ := List.mem_iff_getElem?.1 hx
        have : j < l.length := (List.getElem?_eq_some_iff.1 hj).1
        exact A.out j x (by rw [HL.out] at this; exact this) hj)
      go_wp2
      go_ret
      exact ⟨by rw [HV.out]; rfl, q, rfl⟩

theorem drop_none {l : List Lb} {k : Nat} (h : l.length ≤ k) : l.drop k = [] := List.drop_eq_nil_of_le h
theorem cmpL_drop {l m : List Lb} {k : Nat} {x y : Lb} (hx : l[k]? = some x) (hy : m[k]? = some y) : cmpL (l.drop k) (m.drop k) = if cmpT x.1 y.1 = 0 then (if cmpT x.2 y.2 = 0 then cmpL (l.drop (k + 1)) (m.drop (k + 1)) else cmpT x.2 y.2) else cmpT x.1 y.1 := by
  have h1 : k < l.length := (List.getElem?_eq_some_iff.1 hx).1
  have h2 : k < m.length := (List.getElem?_eq_some_iff.1 hy).1
  rw [List.drop_eq_getElem_cons h1, List.drop_eq_getElem_cons h2, (List.getElem?_eq_some_iff.1 hx).2, (List.getElem?_eq_some_iff.1 hy).2]
  unfold cmpL
  rw [lexL]
  unfold lexP
  by_cases e : cmpT x.1 y.1 = 0
  · rw [if_pos e, if_pos e]
  · rw [if_neg e, if_neg e, if_neg e]

set_option maxHeartbeats 2000000 in
theorem refcmp_any (a : Option Addr) (n cap : Nat) (l : List Lb) (b : Option Addr) (m capb : Nat) (r : List Lb) (w : World) (hr : RowL w a n l) (hs : RowL w b m r) :
    Calls Try.prog 28 #[.slice a n cap, .slice b m capb] w fun e w' => e = .returned (.int .i64 (cmpL l r)) ∧ ∃ q, w' = w.drewN q := by
  have hn := hr.2.1
  have hm := hs.2.1
  have HX := hide hr
  have HY := hide hs
  have HL := hide hr.1
  have HM := hide hs.1
  have T := hide reftexts_any
  clear hr hs
  go_enter Try.func28, Try.ntmps28
  go_wp2
  go_loopg [5] n (fun g i wr => ∃ k q : Nat, k ≤ n ∧ k ≤ m ∧ n - k ≤ g ∧ i = .int .i64 k ∧ wr = w.drewN q ∧ Hid (cmpL l r = cmpL (l.drop k) (r.drop k)))
  case atStart => exact ⟨0, 0, Nat.zero_le _, Nat.zero_le _, by omega, rfl, rfl, rfl⟩
  case round =>
    obtain ⟨k, q, hk, hk2, hg, rfl, rfl, A⟩ := hrel
    by_cases hlt : k < n
    · by_cases hlm : k < m
      · obtain ⟨b1, o1, x, rfl, hx, _, hc1⟩ := HX.out.at' hlt
        obtain ⟨b2, o2, y, rfl, hy, _, hc2⟩ := HY.out.at' hlm
        have HC : Hid (∀ W, Below w.heap.size w W → (W.cell? ⟨b1, o1 + k * 2, none⟩ = some (.string x.1) ∧ W.cell? ⟨b1, o1 + k * 2 + 1, none⟩ = some (.string x.2)) ∧ W.cell? ⟨b2, o2 + k * 2, none⟩ = some (.string y.1) ∧ W.cell? ⟨b2, o2 + k * 2 + 1, none⟩ = some (.string y.2)) := fun W hW => ⟨hc1 W hW, hc2 W hW⟩
        have CD := hide (cmpL_drop hx hy)
        have i1 : (0 : Int) ≤ (k : Int) := by omega
        have i2 : (k : Int) < (n : Int) := by omega
        have i3 : (k : Int) < (m : Int) := by omega
        clear hc1 hc2 hx hy
        obtain ⟨⟨f0, f1⟩, g0, g1⟩ := HC.out w (Below.refl _ _)
        by_cases e1 : cmpT x.1 y.1 = 0
        · have T1 := hide (T.out x.1 y.1)
          rw [e1] at T1
          by_cases e2 : cmpT x.2 y.2 = 0
          · have T2 := hide (T.out x.2 y.2)
            rw [e2] at T2
            have A2 : Hid (cmpL l r = cmpL (l.drop (k + 1)) (r.drop (k + 1))) := by show _ = _; rw [A.out, CD.out, if_pos e1, if_pos e2]
            clear e1 e2
            go_wp2
            go_quiet ((go_at_call 48; exact quiet_lab T1.out))
            go_wp2
            go_quiet ((go_at_call 48; exact quiet_lab T2.out))
            go_wp2
            go_roundg (n - (k + 1))
            case measure => omega
            case rel => exact ⟨k + 1, _, by omega, by omega, by omega, by go_num, rfl, A2⟩
          · have T2 := hide (T.out x.2 y.2)
            have t2 : (cmpT x.2 y.2 != 0) = true := by simpa using e2
            have A2 : Hid (cmpL l r = cmpT x.2 y.2) := by show _ = _; rw [A.out, CD.out, if_pos e1, if_neg e2]
            generalize cmpT x.2 y.2 = c at T2 t2 A2
            clear e1 e2
            go_wp2
            go_quiet ((go_at_call 48; exact quiet_lab T1.out))
            go_wp2
            go_quiet ((go_at_call 48; exact quiet_lab T2.out))
            go_wp2
            go_ret
            exact ⟨by rw [A2.out]; rfl, _, rfl⟩
        · have T1 := hide (T.out x.1 y.1)
          have t1 : (cmpT x.1 y.1 != 0) = true := by simpa using e1
          have A2 : Hid (cmpL l r = cmpT x.1 y.1) := by show _ = _; rw [A.out, CD.out, if_neg e1]
          generalize cmpT x.1 y.1 = c at T1 t1 A2
          clear e1
          go_wp2
          go_quiet ((go_at_call 48; exact quiet_lab T1.out))
          go_wp2
          go_ret
          exact ⟨by rw [A2.out]; rfl, _, rfl⟩
      · have hkm : k = m := by omega
        have A2 : Hid (cmpL l r = 1) := by
          show _ = _
          rw [A.out, drop_none (l := r) (by rw [HM.out]; omega), List.drop_eq_getElem_cons (by rw [HL.out]; exact hlt)]
          rfl
        have i2 : (k : Int) < (n : Int) := by omega
        have i3 : ¬ (k : Int) < (m : Int) := by omega
        have i4 : ¬ (n : Int) < (m : Int) := by omega
        have i5 : (m : Int) < (n : Int) := by omega
        clear hkm
        go_wp2
        go_ret
        exact ⟨by rw [A2.out]; rfl, q, rfl⟩
    · have hkn : k = n := by omega
      have i2 : ¬ (k : Int) < (n : Int) := by omega
      by_cases hlm : n < m
      · have A2 : Hid (cmpL l r = -1) := by
          show _ = _
          rw [A.out, drop_none (l := l) (by rw [HL.out]; omega), List.drop_eq_getElem_cons (by rw [HM.out]; omega)]
          rfl
        have i4 : (n : Int) < (m : Int) := by omega
        clear hkn
        go_wp2
        go_ret
        exact ⟨by rw [A2.out]; rfl, q, rfl⟩
      · have A2 : Hid (cmpL l r = 0) := by
          show _ = _
          rw [A.out, drop_none (l := l) (by rw [HL.out]; omega), drop_none (l := r) (by rw [HM.out]; omega)]
          rfl
        have i4 : ¬ (n : Int) < (m : Int) := by omega
        have i5 : ¬ (m : Int) < (n : Int) := by omega
        clear hkn
        go_wp2
        go_ret
        exact ⟨by rw [A2.out]; rfl, q, rfl⟩
end Go.Proofs.Ytpffhpnmbpjifaa
