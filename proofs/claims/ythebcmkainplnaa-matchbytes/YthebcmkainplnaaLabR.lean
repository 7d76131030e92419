/-
  The document's own answers whether a text is a name, whether labels may be: contracts, for every world; they change nothing.
  Conditions: the slice shows its labels.
-/
import Derived.Test.YthebcmkainplnaaLabS
namespace Go.Proofs.Ythebcmkainplnaa
open Go.RowKit
set_option maxRecDepth 20000

theorem nmF_append (i : Nat) (l m : List UInt8) : nmF i (l ++ m) = (nmF i l && nmF (i + l.length) m) := by
  induction l generalizing i with
  | nil => simp [nmF]
  | cons c t ih =>
    rw [List.cons_append, nmF, nmF, ih, Bool.and_assoc, List.length_cons, show i + 1 + t.length = i + (t.length + 1) by omega]
theorem nmF_step {l : List UInt8} {k : Nat} {c : UInt8} (h : l[k]? = some c) : nmF 0 (l.take (k + 1)) = (nmF 0 (l.take k) && nmC k c) := by
  have hk : k < l.length := (List.getElem?_eq_some_iff.1 h).1
  rw [List.take_succ_eq_append_getElem hk, (List.getElem?_eq_some_iff.1 h).2, nmF_append, Nat.zero_add, List.length_take, Nat.min_eq_left (Nat.le_of_lt hk)]
  simp [nmF]
theorem nmF_false {l : List UInt8} {k : Nat} (h : nmF 0 (l.take k) = false) : nmF 0 l = false := by
  have := nmF_append 0 (l.take k) (l.drop k)
  rw [List.take_append_drop, h] at this
  exact this
/-- A name's byte as a number. -/
theorem nmC_num (k : Nat) (c : UInt8) : nmC k c = true ↔ (c.toNat = 95 ∨ (97 ≤ c.toNat ∧ c.toNat ≤ 122) ∨ (48 ≤ c.toNat ∧ c.toNat ≤ 57 ∧ k ≠ 0)) := by
  unfold nmC
  simp only [Bool.or_eq_true, Bool.and_eq_true, decide_eq_true_eq, beq_iff_eq, UInt8.le_iff_toNat_le, ← UInt8.toNat_inj]
  constructor
  · rintro ((h | h) | h)
    · exact Or.inl h
    · exact Or.inr (Or.inl h)
    · exact Or.inr (Or.inr ⟨h.1.1, h.1.2, h.2⟩)
  · rintro (h | h | h)
    · exact Or.inl (Or.inl h)
    · exact Or.inl (Or.inr h)
    · exact Or.inr ⟨⟨h.1, h.2.1⟩, h.2.2⟩

set_option maxHeartbeats 4000000 in
theorem refname_any (s : ByteArray) (w : World) (hs : s.size ≤ 9223372036854775807) :
    Calls Try.prog 49 #[.string s] w fun e w' => e = .returned (.bool (nameB s)) ∧ w' = w := by
  have HN : Hid (nmF 0 s.toList = false → nameB s = false) := fun h => by unfold nameB; rw [h]; rfl
  have HY : Hid (nmF 0 s.toList = true → nameB s = (decide (1 ≤ s.size) && decide (s.size ≤ 32))) := fun h => by unfold nameB; rw [h]; rfl
  generalize nameB s = ans at *
  go_enter Try.func49, Try.ntmps49
  go_wp2
  go_loopg [3] s.size (fun g i wr => ∃ k : Nat, k ≤ s.size ∧ s.size - k ≤ g ∧ i = .int .i64 k ∧ wr = w ∧ Hid (nmF 0 (s.toList.take k) = true))
  case atStart => exact ⟨0, Nat.zero_le _, by omega, rfl, rfl, rfl⟩
  case round =>
    obtain ⟨k, hk, hg, rfl, rfl, A⟩ := hrel
    by_cases hlt : k < s.size
    · have hx : s.toList[k]? = some (s[k]'hlt) := by
        rw [ByteArray.toList_eq, Array.getElem?_toList]
        exact Array.getElem?_eq_getElem hlt
      have ST := hide (nmF_step hx)
      have NC := hide (nmC_num k (s[k]'hlt))
      have hbk : ∃ z : Int, Hid (((s[k]'hlt).toNat : Int) = z) := ⟨_, rfl⟩
      obtain ⟨z, hz⟩ := hbk
      have hb := hz.out
      have NZ : Hid (nmC k (s[k]'hlt) = true ↔ (z = 95 ∨ (97 ≤ z ∧ z ≤ 122) ∨ (48 ≤ z ∧ z ≤ 57 ∧ k ≠ 0))) := by
        show _ ↔ _
        rw [NC.out]
        constructor
        · rintro (h | h | h)
          · exact Or.inl (by omega)
          · exact Or.inr (Or.inl (by omega))
          · exact Or.inr (Or.inr (by omega))
        · rintro (h | h | h)
          · exact Or.inl (by omega)
          · exact Or.inr (Or.inl (by omega))
          · exact Or.inr (Or.inr (by omega))
      have i2 : (k : Int) < (s.size : Int) := by omega
      have i1 : (0 : Int) ≤ (k : Int) := by omega
      clear hx NC hz
      cases hm : nmC k (s[k]'hlt) with
      | true =>
        have A2 : Hid (nmF 0 (s.toList.take (k + 1)) = true) := by show _ = _; rw [ST.out, A.out, hm]; rfl
        have cs := NZ.out.1 hm
        clear hm ST NZ
        rcases cs with rfl | cs | cs
        · have y1 : ((95 : Int) != 95) = false := by decide
          go_wp2
          go_roundg (s.size - (k + 1))
          case measure => omega
          case rel => exact ⟨k + 1, by omega, by omega, by go_num, rfl, A2⟩
        · have y1 : (z != 95) = true := by simp; omega
          have x1 : ¬ z < 97 := by omega
          have x4 : ¬ 122 < z := by omega
          go_wp2
          go_roundg (s.size - (k + 1))
          case measure => omega
          case rel => exact ⟨k + 1, by omega, by omega, by go_num, rfl, A2⟩
        · have y1 : (z != 95) = true := by simp; omega
          have x1 : z < 97 := by omega
          have x2 : ¬ z < 48 := by omega
          have x3 : ¬ 57 < z := by omega
          have y2 : ((k : Int) == 0) = false := by simp; omega
          go_wp2
          go_roundg (s.size - (k + 1))
          case measure => omega
          case rel => exact ⟨k + 1, by omega, by omega, by go_num, rfl, A2⟩
      | false =>
        have F : Hid (ans = false) := HN.out (nmF_false (k := k + 1) (by rw [ST.out, hm, Bool.and_false]))
        have cs : ¬ (z = 95 ∨ (97 ≤ z ∧ z ≤ 122) ∨ (48 ≤ z ∧ z ≤ 57 ∧ k ≠ 0)) := fun h => by rw [NZ.out.2 h] at hm; cases hm
        have y1 : (z != 95) = true := by simp; omega
        clear hm ST NZ
        by_cases x1 : z < 97
        · by_cases x2 : z < 48
          · clear cs
            go_wp2
            go_ret
            exact ⟨by rw [F.out]; rfl, rfl⟩
          · by_cases x3 : 57 < z
            · clear cs
              go_wp2
              go_ret
              exact ⟨by rw [F.out]; rfl, rfl⟩
            · have y2 : ((k : Int) == 0) = true := by simp; omega
              clear cs
              go_wp2
              go_ret
              exact ⟨by rw [F.out]; rfl, rfl⟩
        · have x4 : 122 < z := by omega
          have x2 : ¬ z < 48 := by omega
          have x3 : 57 < z := by omega
          clear cs
          go_wp2
          go_ret
          exact ⟨by rw [F.out]; rfl, rfl⟩
    · have : k = s.size := by omega
      have F := hide (HY.out (by
        have h := A.out
        rw [List.take_of_length_le (by rw [ba_len]; omega)] at h
        exact h))
      have i2 : ¬ (k : Int) < (s.size : Int) := by omega
      clear this
      by_cases x1 : 1 ≤ (s.size : Int)
      · by_cases x2 : (s.size : Int) ≤ 32
        · go_wp2
          go_ret
          refine ⟨?_, rfl⟩
          rw [F.out, decide_eq_true (show 1 ≤ s.size by omega), decide_eq_true (show s.size ≤ 32 by omega)]; rfl
        · go_wp2
          go_ret
          refine ⟨?_, rfl⟩
          rw [F.out, decide_eq_false (show ¬ s.size ≤ 32 by omega), Bool.and_false]; rfl
      · go_wp2
        go_ret
        refine ⟨?_, rfl⟩
        rw [F.out, decide_eq_false (show ¬ 1 ≤ s.size by omega), Bool.false_and]; rfl

def lastN (p : Option ByteArray) (l : List Lb) : Option ByteArray := match l.getLast? with
  | some y => some y.1
  | none => p
def okP (p : Option ByteArray) (n : ByteArray) : Bool := match p with
  | none => true
  | some q => Op.bytesLess q.toList n.toList
theorem chkF_cons (p : Option ByteArray) (x : Lb) (t : List Lb) : chkF p (x :: t) = ((lbB x && okP p x.1) && chkF (some x.1) t) := by cases p <;> rfl
theorem chkF_append : ∀ (p : Option ByteArray) (l m : List Lb), chkF p (l ++ m) = (chkF p l && chkF (lastN p l) m)
  | p, [], m => by
    have : chkF p [] = true := by cases p <;> rfl
    rw [this, Bool.true_and]; rfl
  | p, x :: t, m => by
    rw [List.cons_append, chkF_cons, chkF_cons, chkF_append (some x.1) t m]
    have e : lastN p (x :: t) = lastN (some x.1) t := by
      unfold lastN
      cases t with
      | nil => rfl
      | cons y u => rw [List.getLast?_cons_cons]; cases h : (y :: u).getLast? with
        | none => simp at h
        | some z => rfl
    rw [e, Bool.and_assoc, Bool.and_assoc, Bool.and_assoc]
/-- One label more. -/
theorem chkF_step {l : List Lb} {k : Nat} {x : Lb} (hx : l[k]? = some x) : chkF none (l.take (k + 1)) = (chkF none (l.take k) && (lbB x && okP (lastN none (l.take k)) x.1)) := by
  have hk : k < l.length := (List.getElem?_eq_some_iff.1 hx).1
  rw [List.take_succ_eq_append_getElem hk, (List.getElem?_eq_some_iff.1 hx).2, chkF_append, chkF_cons]
  have : chkF (some x.1) [] = true := rfl
  rw [this, Bool.and_true]
theorem lastN_none (l : List Lb) : lastN none (l.take 0) = none := rfl
theorem lastN_some {l : List Lb} {k : Nat} {y : Lb} (hy : l[k]? = some y) : lastN none (l.take (k + 1)) = some y.1 := by
  have hk : k < l.length := (List.getElem?_eq_some_iff.1 hy).1
  rw [List.take_succ_eq_append_getElem hk, (List.getElem?_eq_some_iff.1 hy).2]
  unfold lastN
  rw [List.getLast?_concat]
theorem chkF_false {l : List Lb} {k : Nat} (h : chkF none (l.take k) = false) : chkL l = false := by
  have := chkF_append none (l.take k) (l.drop k)
  rw [List.take_append_drop, h, Bool.false_and] at this
  unfold chkL
  rw [this, Bool.false_and]
theorem leq_less (x y : List UInt8) : (Op.bytesLess x y || x == y) = !(Op.bytesLess y x) := by
  rw [← gtr_less x y, Bool.not_not]

end Go.Proofs.Ythebcmkainplnaa
