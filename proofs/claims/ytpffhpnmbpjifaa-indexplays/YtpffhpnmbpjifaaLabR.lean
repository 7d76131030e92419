/-
  The document's own answers whether a text is a name, whether labels may be: contracts, for every world; they change nothing.
  Conditions: the slice shows its labels.
-/
import Derived.Test.YtpffhpnmbpjifaaLabS
namespace Go.Proofs.Ytpffhpnmbpjifaa
open Go.RowKit
set_option maxRecDepth 20000

theorem nmF_append (i : Nat) (l m : List UInt8) : nmF i (l ++ m) = (nmF i l && nmF (i + l.length) m) := by
  induction l generalizing i with
  | nil => simp [nmF]
  | cons c t ih =>
    rw [List.cons_append, nmF, nmF, ih, Bool.and_assoc, List.length_cons, show i + 1 + t.length = i + (t.length + 1) by omega]
theorem nmF_step {l : List UInt8} {k : Nat} {c : UInt8} (h : l[k]? = some c) : nmF 0 (l.take (k + 1)) = (nmF 0 (l.take k) && nmC k c) := by
  have hk : k < l.length := (List.getElem?_eq_some_iff.1 h).1
  rw [List.take_succ_eq_append_getElem hk, (List.getElem?_eq_some_iff.1 h).2, nmF_append, Nat.zero_add, List.length_take, Nat.min_eq_left (Nat.le_of_lt hk)]
  simp [nmF]
theorem nmF_false {l : List UInt8} {k : Nat} (h : nmF 0 (l.take k) = false) : nmF 0 l = false := by
  have := nmF_append 0 (l.take k) (l.drop k)
  rw [List.take_append_drop, h] at this
  exact this
/-- A name's byte as a number. -/
theorem nmC_num (k : Nat) (c : UInt8) : nmC k c = true ↔ (c.toNat = 95 ∨ (97 ≤ c.toNat ∧ c.toNat ≤ 122) ∨ (48 ≤ c.toNat ∧ c.toNat ≤ 57 ∧ k ≠ 0)) := by
  unfold nmC
  simp only [Bool.or_eq_true, Bool.and_eq_true, decide_eq_true_eq, beq_iff_eq, UInt8.le_iff_toNat_le, ← UInt8.toNat_inj]
  constructor
  · rintro ((h | h) | h)
    · exact Or.inl h
    · exact Or.inr (Or.inl h)
    · exact Or.inr (Or.inr ⟨h.1.1, h.1.2, h.2⟩)
  · rintro (h | h | h)
    · exact Or.inl (Or.inl h)
    · exact Or.inl (Or.inr h)
    · exact Or.inr ⟨⟨h.1, h.2.1⟩, h.2.2⟩

set_option maxHeartbeats 4000000 in
theorem refname_any (s : ByteArray) (w : World) (hs : s.size ≤ 9223372036854775807) :
    Calls Try.prog 29 #[.string s] w fun e w' => e = .returned (.bool (nameB s)) ∧ w' = w := by
  have HN : Hid (nmF 0 s.toList = false → nameB s = false) := fun h => by unfold nameB; rw [h]; rfl
  have HY : Hid (nmF 0 s.toList = true → nameB s = (decide (1 ≤ s.size) && decide (s.size ≤ 32))) := fun h => by unfold nameB; rw [h]; rfl
  generalize nameB s = ans at *
  go_enter Try.func29, Try.ntmps29
  go_wp2
  go_loopg [3] s.size (fun g i wr => ∃ k : Nat, k ≤ s.size ∧ s.size - k ≤ g ∧ i = .int .i64 k ∧ wr = w ∧ Hid (nmF 0 (s.toList.take k) = true))
  case atStart => exact ⟨0, Nat.zero_le _, by omega, rfl, rfl, rfl⟩
  case round =>
    obtain ⟨k, hk, hg, rfl, rfl, A⟩ := hrel
    by_cases hlt : k < s.size
    · have hx : s.toList[k]? = some (s[k]'hlt) := by
        rw [ByteArray.toList_eq, Array.getElem?_toList]
        exact Array.getElem?_eq_getElem hlt
      have ST := hide (nmF_step hx)
      have NC := hide (nmC_num k (s[k]'hlt))
      have hbk : ∃ z : Int, Hid (((s[k]'hlt).toNat : Int) = z) := ⟨_, rfl⟩
      obtain ⟨z, hz⟩ := hbk
      have hb := hz.out
      have NZ : Hid (nmC k (s[k]'hlt) = true ↔ (z = 95 ∨ (97 ≤ z ∧ z ≤ 122) ∨ (48 ≤ z ∧ z ≤ 57 ∧ k ≠ 0))) := by
        show _ ↔ _
        rw [NC.out]
        constructor
        · rintro (h | h | h)
          · exact Or.inl (by omega)
          · exact Or.inr (Or.inl (by omega))
          · exact Or.inr (Or.inr (by omega))
        · rintro (h | h | h)
          · exact Or.inl (by omega)
          · exact Or.inr (Or.inl (by omega))
          · exact Or.inr (Or.inr (by omega))
      have i2 : (k : Int) < (s.size : Int) := by omega
      have i1 : (0 : Int) ≤ (k : Int) := by omega
      clear hx NC hz
      cases hm : nmC k (s[k]'hlt) with
      | true =>
        have A2 : Hid (nmF 0 (s.toList.take (k + 1)) = true) := by show _ = _; rw [ST.out, A.out, hm]; rfl
        have cs := NZ.out.1 hm
        clear hm ST NZ
        rcases cs with rfl | cs | cs
        · have y1 : ((95 : Int) != 95) = false := by decide
          go_wp2
          go_roundg (s.size - (k + 1))
          case measure => omega
          case rel => exact ⟨k + 1, by omega, by omega, by go_num, rfl, A2⟩
        · have y1 : (z != 95) = true := by simp; omega
          have x1 : ¬ z < 97 := by omega
          have x4 : ¬ 122 < z := by omega
          go_wp2
          go_roundg (s.size - (k + 1))
          case measure => omega
          case rel => exact ⟨k + 1, by omega, by omega, by go_num, rfl, A2⟩
        · have y1 : (z != 95) = true := by simp; omega
          have x1 : z < 97 := by omega
          have x2 : ¬ z < 48 := by omega
          have x3 : ¬ 57 < z := by omega
          have y2 : ((k : Int) == 0) = false := by simp; omega
          go_wp2
          go_roundg (s.size - (k + 1))
          case measure => omega
          case rel => exact ⟨k + 1, by omega, by omega, by go_num, rfl, A2⟩
      | false =>
        have F : Hid (ans = false) := HN.out (nmF_false (k := k + 1) (by rw [ST.out, hm, Bool.and_false]))
        have cs : ¬ (z = 95 ∨ (97 ≤ z ∧ z ≤ 122) ∨ (48 ≤ z ∧ z ≤ 57 ∧ k ≠ 0)) := fun h => by rw [NZ.out.2 h] at hm; cases hm
        have y1 : (z != 95) = true := by simp; omega
        clear hm ST NZ
        by_cases x1 : z < 97
        · by_cases x2 : z < 48
          · clear cs
            go_wp2
            go_ret
            exact ⟨by rw [F.out]; rfl, rfl⟩
          · by_cases x3 : 57 < z
            · clear cs
              go_wp2
              go_ret
              exact ⟨by rw [F.out]; rfl, rfl⟩
            · have y2 : ((k : Int) == 0) = true := by simp; omega
              clear cs
              go_wp2
              go_ret
              exact ⟨by rw [F.out]; rfl, rfl⟩
        · have x4 : 122 < z := by omega
          have x2 : ¬ z < 48 := by omega
          have x3 : 57 < z := by omega
          clear cs
          go_wp2
          go_ret
          exact ⟨by rw [F.out]; rfl, rfl⟩
    · have : k = s.size := by omega
      have F := hide (HY.out (by
        have h := A.out
        rw [List.take_of_length_le (by rw [ba_len]; omega)] at h
        exact h))
      have i2 : ¬ (k : Int) < (s.size : Int) := by omega
      clear this
      by_cases x1 : 1 ≤ (s.size : Int)
      · by_cases x2 : (s.size : Int) ≤ 32
        · go_wp2
          go_ret
          refine ⟨?_, rfl⟩
          rw [F.out, decide_eq_true (show 1 ≤ s.size by omega), decide_eq_true (show s.size ≤ 32 by omega)]; rfl
        · go_wp2
          go_ret
          refine ⟨?_, rfl⟩
          rw [F.out, decide_eq_false (show ¬ s.size ≤ 32 by omega), Bool.and_false]; rfl
      · go_wp2
        go_ret
        refine ⟨?_, rfl⟩
        rw [F.out, decide_eq_false (show ¬ 1 ≤ s.size by omega), Bool.false_and]; rfl

def lastN (p : Option ByteArray) (l : List Lb) : Option ByteArray := match l.getLast? with
  | some y => some y.1
  | none => p
def okP (p : Option ByteArray) (n : ByteArray) : Bool := match p with
  | none => true
  | some q => Op.bytesLess q.toList n.toList
theorem chkF_cons (p : Option ByteArray) (x : Lb) (t : List Lb) : chkF p (x :: t) = ((lbB x && okP p x.1) && chkF (some x.1) t) := by cases p <;> rfl
theorem chkF_append : ∀ (p : Option ByteArray) (l m : List Lb), chkF p (l ++ m) = (chkF p l && chkF (lastN p l) m)
  | p, [], m => by
    have : chkF p [] = true := by cases p <;> rfl
    rw [this, Bool.true_and]; rfl
  | p, x :: t, m => by
    rw [List.cons_append, chkF_cons, chkF_cons, chkF_append (some x.1) t m]
    have e : lastN p (x :: t) = lastN (some x.1) t := by
      unfold lastN
      cases t with
      | nil => rfl
      | cons y u => rw [List.getLast?_cons_cons]; cases h : (y :: u).getLast? with
        | none => simp at h
        | some z => rfl
    rw [e, Bool.and_assoc, Bool.and_assoc, Bool.and_assoc]
/-- One label more. -/
theorem chkF_step {l : List Lb} {k : Nat} {x : Lb} (hx : l[k]? = some x) : chkF none (l.take (k + 1)) = (chkF none (l.take k) && (lbB x && okP (lastN none (l.take k)) x.1)) := by
  have hk : k < l.length := (List.getElem?_eq_some_iff.1 hx).1
  rw [List.take_succ_eq_append_getElem hk, (List.getElem?_eq_some_iff.1 hx).2, chkF_append, chkF_cons]
  have : chkF (some x.1) [] = true := rfl
  rw [this, Bool.and_true]
theorem lastN_none (l : List Lb) : lastN none (l.take 0) = none := rfl
theorem lastN_some {l : List Lb} {k : Nat} {y : Lb} (hy : l[k]? = some y) : lastN none (l.take (k + 1)) = some y.1 := by
  have hk : k < l.length := (List.getElem?_eq_some_iff.1 hy).1
  rw [List.take_succ_eq_append_getElem hk, (List.getElem?_eq_some_iff.1 hy).2]
  unfold lastN
  rw [List.getLast?_concat]
theorem chkF_false {l : List Lb} {k : Nat} (h : chkF none (l.take k) = false) : chkL l = false := by
  have := chkF_append none (l.take k) (l.drop k)
  rw [List.take_append_drop, h, Bool.false_and] at this
  unfold chkL
  rw [this, Bool.false_and]
theorem leq_less (x y : List UInt8) : (Op.bytesLess x y || x == y) = !(Op.bytesLess y x) := by
  rw [← gtr_less x y, Bool.not_not]

set_option maxHeartbeats 8000000 in
theorem refchkl_any (a : Option Addr) (n cap : Nat) (l : List Lb) (w : World) (hr : RowL w a n l) :
    Calls Try.prog 11 #[.slice a n cap] w fun e w' => e = .returned (.bool (chkL l)) ∧ ∃ q, w' = w.drewN q := by
  have hn := hr.2.1
  have HR := hide hr
  have HL := hide hr.1
  have HN : Hid (∀ k, chkF none (l.take k) = false → chkL l = false) := fun k h => chkF_false h
  have HY : Hid (chkF none l = true → chkL l = (decide (1 ≤ n) && decide (n ≤ 8))) := fun h => by unfold chkL; rw [h, HL.out]; rfl
  generalize chkL l = ans at *
  clear hr
  go_enter Try.func11, Try.ntmps11
  go_wp2
  go_loopg [3] n (fun g i wr => ∃ k q : Nat, k ≤ n ∧ n - k ≤ g ∧ i = .int .i64 k ∧ wr = w.drewN q ∧ Hid (chkF none (l.take k) = true))
  case atStart => exact ⟨0, 0, Nat.zero_le _, by omega, rfl, rfl, rfl⟩
  case round =>
    obtain ⟨k, q, hk, hg, rfl, rfl, A⟩ := hrel
    by_cases hlt : k < n
    · obtain ⟨b1, o1, x, rfl, hx, hxw, hc1⟩ := HR.out.at' hlt
      obtain ⟨f0, f1⟩ := hc1 w (Below.refl _ _)
      have ST := hide (chkF_step hx)
      rw [A.out, Bool.true_and] at ST
      have CN := hide (fun W => refname_any x.1 W hxw.1)
      have LB : Hid (lbB x = (nameB x.1 && (decide (1 ≤ x.2.size) && decide (x.2.size ≤ 64)))) := rfl
      have i1 : (0 : Int) ≤ (k : Int) := by omega
      have i2 : (k : Int) < (n : Int) := by omega
      have HX := hide hx
      clear hc1 hx hxw
      cases hnm : nameB x.1 with
      | false =>
        rw [hnm] at CN
        have F : Hid (ans = false) := HN.out (k + 1) (by rw [ST.out, LB.out, hnm]; rfl)
        clear hnm ST LB
        go_wp2
        go_quiet ((go_at_call 29; exact quiet_lab CN.out))
        go_wp2
        go_ret
        exact ⟨by rw [F.out]; rfl, q + _, World.drewN_drewN _ _ _⟩
      | true =>
        rw [hnm] at CN
        rw [hnm, Bool.true_and] at LB
        clear hnm
        by_cases h1 : 1 ≤ x.2.size
        · have e1 : decide ((x.2.size : Int) < 1) = false := decide_eq_false (by omega)
          have e1' : ¬ (x.2.size : Int) < 1 := by omega
          have LB1 : Hid (lbB x = decide (x.2.size ≤ 64)) := by show _ = _; rw [LB.out, decide_eq_true h1, Bool.true_and]
          clear LB
          by_cases h2 : x.2.size ≤ 64
          · have e2 : decide ((64 : Int) < (x.2.size : Int)) = false := decide_eq_false (by omega)
            have e2' : ¬ (64 : Int) < (x.2.size : Int) := by omega
            rw [decide_eq_true h2] at LB1
            rw [LB1.out, Bool.true_and] at ST
            clear h2 LB1
            by_cases hk0 : k = 0
            · have A2 : Hid (chkF none (l.take (k + 1)) = true) := by show _ = _; rw [ST.out, hk0]; rfl
              have e3 : decide ((0 : Int) < (k : Int)) = false := decide_eq_false (by omega)
              have e3' : ¬ (0 : Int) < (k : Int) := by omega
              have e3n : decide (0 < k) = false := decide_eq_false (by omega)
              clear ST h1 hk0
              go_wp2
              go_quiet ((go_at_call 29; exact quiet_lab CN.out))
              go_wp2
              go_roundg (n - (k + 1))
              case measure => omega
              case rel => exact ⟨k + 1, _, by omega, by omega, by go_num, rfl, A2⟩
            · obtain ⟨j, rfl⟩ : ∃ j, k = j + 1 := ⟨k - 1, by omega⟩
              obtain ⟨b2, o2, y, hbo, hy, _, hc2⟩ := HR.out.at' (j := j) (by omega)
              simp only [Option.some.injEq, Addr.mk.injEq, and_true] at hbo
              obtain ⟨rfl, rfl⟩ := hbo
              obtain ⟨g0, _⟩ := hc2 w (Below.refl _ _)
              have ST2 : Hid (chkF none (l.take (j + 1 + 1)) = Op.bytesLess y.1.toList x.1.toList) := by show _ = _; rw [ST.out, lastN_some hy]; rfl
              have e3 : decide ((0 : Int) < (j : Int) + 1) = true := decide_eq_true (by omega)
              have e3' : (0 : Int) < (j : Int) + 1 := by omega
              have e4 := leq_less x.1.toList y.1.toList
              have j1 : (0 : Int) ≤ (j : Int) := by omega
              have j2 : (j : Int) < (n : Int) := by omega
              clear hc2 hy ST h1
              cases hb : Op.bytesLess y.1.toList x.1.toList with
              | false =>
                rw [hb] at ST2 e4
                have F : Hid (ans = false) := HN.out _ ST2.out
                clear hb ST2
                go_wp2
                go_quiet ((go_at_call 29; exact quiet_lab CN.out))
                go_wp2
                go_ret
                exact ⟨by rw [F.out]; rfl, q + _, World.drewN_drewN _ _ _⟩
              | true =>
                rw [hb] at ST2 e4
                clear hb
                go_wp2
                go_quiet ((go_at_call 29; exact quiet_lab CN.out))
                go_wp2
                go_roundg (n - (j + 1 + 1))
                case measure => omega
                case rel => exact ⟨j + 1 + 1, _, by omega, by omega, by go_num, rfl, ST2⟩
          · have e2 : decide ((64 : Int) < (x.2.size : Int)) = true := decide_eq_true (by omega)
            have e2' : (64 : Int) < (x.2.size : Int) := by omega
            have F : Hid (ans = false) := HN.out (k + 1) (by rw [ST.out, LB1.out, decide_eq_false h2]; rfl)
            clear h2 LB1 ST h1
            go_wp2
            go_quiet ((go_at_call 29; exact quiet_lab CN.out))
            go_wp2
            go_ret
            exact ⟨by rw [F.out]; rfl, q + _, World.drewN_drewN _ _ _⟩
        · have e1 : decide ((x.2.size : Int) < 1) = true := decide_eq_true (by omega)
          have e1' : (x.2.size : Int) < 1 := by omega
          have F : Hid (ans = false) := HN.out (k + 1) (by rw [ST.out, LB.out, decide_eq_false h1]; rfl)
          clear LB ST h1
          go_wp2
          go_quiet ((go_at_call 29; exact quiet_lab CN.out))
          go_wp2
          go_ret
          exact ⟨by rw [F.out]; rfl, q + _, World.drewN_drewN _ _ _⟩
    · have : k = n := by omega
      have F := hide (HY.out (by
        have h := A.out
        rw [List.take_of_length_le (by rw [HL.out]; omega)] at h
        exact h))
      have i2 : ¬ (k : Int) < (n : Int) := by omega
      clear this
      by_cases x1 : 1 ≤ (n : Int)
      · by_cases x2 : (n : Int) ≤ 8
        · go_wp2
          go_ret
          refine ⟨?_, q, rfl⟩
          rw [F.out, decide_eq_true (show 1 ≤ n by omega), decide_eq_true (show n ≤ 8 by omega)]; rfl
        · go_wp2
          go_ret
          refine ⟨?_, q, rfl⟩
          rw [F.out, decide_eq_false (show ¬ n ≤ 8 by omega), Bool.and_false]; rfl
      · go_wp2
        go_ret
        refine ⟨?_, q, rfl⟩
        rw [F.out, decide_eq_false (show ¬ 1 ≤ n by omega), Bool.false_and]; rfl
end Go.Proofs.Ytpffhpnmbpjifaa
