/-
  Whether two slices of labels are the same (SameLabels), and the document's own texts, Cmp, Value, Name: contracts, for every world; they change nothing.
  Conditions: the slices show their labels.
-/
import Derived.Test.YthebcmkainplnaaLabM
import Derived.Deep.LoopGhost
import Derived.Laws.Cover1
namespace Go.Proofs.Ythebcmkainplnaa
open Go.RowKit
set_option maxRecDepth 20000

theorem ends_labs {xs ys : List Lb} {n : Nat} (hx : xs.length = n) (hy : ys.length = n) (h : ∀ j, j < n → xs[j]? = ys[j]?) : xs = ys := by
  refine List.ext_getElem? fun i => ?_
  by_cases hi : i < n
  · exact h i hi
  · rw [List.getElem?_eq_none (by omega), List.getElem?_eq_none (by omega)]

theorem quiet_lab {P : Program} {f : Nat} {args : Array Value} {v : Value} {wr : World} {q x : Nat} (h : ∀ w, Calls P f args w (fun e w' => e = .returned v ∧ w' = w)) : Calls P f args (wr.drewN (q + x)) fun e w' => e = .returned v ∧ ∃ n, w' = wr.drewN (q + n) :=
  (h _).mono (fun _ _ k => ⟨k.1, x, k.2⟩)
/-- A name's value, told place by place. -/
theorem valL_at {l : List Lb} {nm : ByteArray} {k : Nat} {x : Lb} (hx : l[k]? = some x) (hn : ∀ j y, j < k → l[j]? = some y → y.1 ≠ nm) (he : x.1 = nm) : valL l nm = x.2 := by
  induction l generalizing k with
  | nil => simp at hx
  | cons y t ih =>
    cases k with
    | zero =>
      simp only [List.getElem?_cons_zero, Option.some.injEq] at hx
      subst hx
      unfold valL
      rw [List.find?_cons_of_pos (by simpa using he)]
      rfl
    | succ k =>
      have h0 : y.1 ≠ nm := hn 0 y (by omega) rfl
      have := ih (k := k) (by simpa using hx) (fun j z hj hz => hn (j + 1) z (by omega) (by simpa using hz))
      unfold valL at this ⊢
      rw [List.find?_cons_of_neg (by simpa using h0)]
      exact this

set_option maxHeartbeats 1000000 in
theorem refval_any (a : Option Addr) (n cap : Nat) (l : List Lb) (nm : ByteArray) (w : World) (hr : RowL w a n l) :
    Calls Try.prog 32 #[.slice a n cap, .string nm] w fun e w' => e = .returned (.string (valL l nm)) ∧ ∃ q, w' = w.drewN q := by
  have hn := hr.2.1
  have HR := hide hr
  have HL := hide hr.1
  clear hr
  go_enter Try.func32, Try.ntmps32
  go_wp2
  go_loopg [5] n (fun g i wr => ∃ k q : Nat, k ≤ n ∧ n - k ≤ g ∧ i = .int .i64 k ∧ wr = w.drewN q ∧ Hid (∀ j y, j < k → l[j]? = some y → y.1 ≠ nm))
  case atStart => exact ⟨0, 0, Nat.zero_le _, by omega, rfl, rfl, fun j y hj => absurd hj (Nat.not_lt_zero _)⟩
  case round =>
    obtain ⟨k, q, hk, hg, rfl, rfl, A⟩ := hrel
    by_cases hlt : k < n
    · obtain ⟨b1, o1, x, rfl, hx, _, hc1⟩ := HR.out.at' hlt
      obtain ⟨f0, f1⟩ := hc1 w (Below.refl _ _)
      have HX := hide hx
      have i1 : (0 : Int) ≤ (k : Int) := by omega
      have i2 : (k : Int) < (n : Int) := by omega
      clear hc1 hx
      by_cases he : x.1 = nm
      · have t1 : (x.1.toList == nm.toList) = true := by rw [ba_eq]; exact decide_eq_true he
        have HV := hide (valL_at HX.out A.out he)
        clear he
        go_wp2
        go_ret
        exact ⟨by rw [HV.out]; rfl, q, rfl⟩
      · have t1 : (x.1.toList == nm.toList) = false := by rw [ba_eq]; exact decide_eq_false he
        have A2 : Hid (∀ j y, j < k + 1 → l[j]? = some y → y.1 ≠ nm) := by
          intro j y hj hy
          by_cases e : j = k
          · subst e
            rw [HX.out] at hy
            simp only [Option.some.injEq] at hy
            subst hy
            exact he
          · exact A.out j y (by omega) hy
        clear he
        go_wp2
        go_roundg (n - (k + 1))
        case measure => omega
        case rel => exact ⟨k + 1, q, by omega, by omega, by go_num, rfl, A2⟩
    · have : k = n := by omega
      subst this
      have HV : Hid (valL l nm = .empty) := valL_none (fun x hx => by
        obtain ⟨j, hj⟩ := List.mem_iff_getElem?.1 hx
        have : j < l.length := (List.getElem?_eq_some_iff.1 hj).1
        exact A.out j x (by rw [HL.out] at this; exact this) hj)
      go_wp2
      go_ret
      exact ⟨by rw [HV.out]; rfl, q, rfl⟩

theorem drop_none {l : List Lb} {k : Nat} (h : l.length ≤ k) : l.drop k = [] := List.drop_eq_nil_of_le h
theorem cmpL_drop {l m : List Lb} {k : Nat} {x y : Lb} (hx : l[k]? = some x) (hy : m[k]? = some y) : cmpL (l.drop k) (m.drop k) = if cmpT x.1 y.1 = 0 then (if cmpT x.2 y.2 = 0 then cmpL (l.drop (k + 1)) (m.drop (k + 1)) else cmpT x.2 y.2) else cmpT x.1 y.1 := by
  have h1 : k < l.length := (List.getElem?_eq_some_iff.1 hx).1
  have h2 : k < m.length := (List.getElem?_eq_some_iff.1 hy).1
  rw [List.drop_eq_getElem_cons h1, List.drop_eq_getElem_cons h2, (List.getElem?_eq_some_iff.1 hx).2, (List.getElem?_eq_some_iff.1 hy).2]
  unfold cmpL
  rw [lexL]
  unfold lexP
  by_cases e : cmpT x.1 y.1 = 0
  · rw [if_pos e, if_pos e]
  · rw [if_neg e, if_neg e, if_neg e]

end Go.Proofs.Ythebcmkainplnaa
