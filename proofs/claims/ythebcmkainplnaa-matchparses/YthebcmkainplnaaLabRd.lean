/-
  The document's reader of texts (Is, Must, Name, hex): contracts, for every world.
  Conditions: the reader lies in a block of its own; its place is within the text.
-/
import Derived.Test.YthebcmkainplnaaLabY
import Derived.Test.YthebcmkainplnaaWldK
import Derived.BigQuiet
namespace Go.Proofs.Ythebcmkainplnaa
open Go.RowKit
set_option maxRecDepth 20000

/-- The reader, as a block of memory. -/
def SB (w : World) (g : Nat) (s : ByteArray) (k : Nat) (bad : Bool) : Prop :=
  w.heap[g]? = some (.cells #[.string s, .int .i64 (k : Int), .bool bad] 73 (0, 0))
section
variable {w : World} {g : Nat} {s : ByteArray} {k : Nat} {bad : Bool}
theorem SB.cell (h : SB w g s k bad) : w.cell? ⟨g, 0, none⟩ = some (.string s) ∧ w.cell? ⟨g, 1, none⟩ = some (.int .i64 (k : Int)) ∧ w.cell? ⟨g, 2, none⟩ = some (.bool bad) ∧ ∀ o, w.frozen? ⟨g, o, none⟩ = false := by
  unfold SB at h
  refine ⟨?_, ?_, ?_, fun o => ?_⟩
  · simp [World.cell?, h]
  · simp [World.cell?, h]
  · simp [World.cell?, h]
  · simp [World.frozen?, h]
theorem SB.drewN (h : SB w g s k bad) (q : Nat) : SB (w.drewN q) g s k bad := h
theorem SB.drew (h : SB w g s k bad) : SB w.drew g s k bad := h
theorem SB.place (h : SB w g s k bad) (j : Nat) : SB (w.setCell ⟨g, 1, none⟩ (.int .i64 (j : Int))) g s j bad := by
  unfold SB at *
  simp [World.setCell, Array.getElem?_modify, h]
theorem SB.spoil (h : SB w g s k bad) : SB (w.setCell ⟨g, 2, none⟩ (.bool true)) g s k true := by
  unfold SB at *
  simp [World.setCell, Array.getElem?_modify, h]
theorem SB.lt (h : SB w g s k bad) : g < w.heap.size := (Array.getElem?_eq_some_iff.1 h).1
theorem SB.keep {w' : World} (h : SB w g s k bad) (hk : w'.heap[g]? = w.heap[g]?) : SB w' g s k bad := hk.trans h
end
/-- Does this byte stand at place k? -/
def isS (s : ByteArray) (k : Nat) (bad : Bool) (c : UInt8) : Bool := !bad && (s.toList[k]? == some c)
theorem byte_at (s : ByteArray) (k : Nat) (h : k < s.size) : s.toList[k]? = some (s[k]'h) := by
  rw [ByteArray.toList_eq, Array.getElem?_toList]
  exact Array.getElem?_eq_getElem h

set_option maxHeartbeats 4000000 in
theorem is_any (g : Nat) (s : ByteArray) (k : Nat) (bad : Bool) (c : UInt8) (w : World) (h : SB w g s k bad) (hk : k ≤ s.size) (hs : s.size ≤ 20000) :
    Calls Try.prog 63 #[.pointer (some ⟨g, 0, none⟩), .int .u8 (c.toNat : Int)] w fun e w' => e = .returned (.bool (isS s k bad c)) ∧ Ch (fun b => b = g) w w' ∧ SB w' g s (if isS s k bad c then k + 1 else k) bad := by
  obtain ⟨f0, f1, f2, f3⟩ := h.cell
  have H := hide h
  cases bad with
  | true =>
    have e : isS s k true c = false := rfl
    rw [e]
    go_enter Try.func63, Try.ntmps63
    go_wp2
    go_quiet (fail)
    go_wp2
    go_ret
    exact ⟨rfl, ch_drewS (Ch.refl _ _) _, H.out.drewN _⟩
  | false =>
    have i1 : (0 : Int) ≤ (k : Int) := by omega
    by_cases hlt : k < s.size
    · have i2 : (k : Int) < (s.size : Int) := by omega
      have i3 : ¬ (s.size : Int) ≤ (k : Int) := by omega
      have EI : Hid (isS s k false c = decide (s[k]'hlt = c)) := by show _ = _; unfold isS; rw [byte_at s k hlt]; by_cases e : s[k]'hlt = c <;> simp [e]
      by_cases hc : s[k]'hlt = c
      · have hb : ((s[k]'hlt).toNat : Int) = (c.toNat : Int) := by rw [hc]
        rw [EI.out, decide_eq_true hc]
        have P := hide (fun q => (H.out.drewN q).place (k + 1))
        clear EI hc
        generalize (c.toNat : Int) = z at *
        go_enter Try.func63, Try.ntmps63
        go_wp2
        go_quiet (fail)
        go_wp2
        go_ret
        exact ⟨rfl, (ch_drewS (Ch.refl _ _) _).trans (ch_set _ _ _ _), P.out _⟩
      · have hb : ∃ y : Int, Hid (((s[k]'hlt).toNat : Int) = y) := ⟨_, rfl⟩
        obtain ⟨y, hy⟩ := hb
        have hb := hy.out
        have hn : (y == (c.toNat : Int)) = false := by
          rw [beq_eq_false_iff_ne, ← hb]
          intro e
          exact hc (UInt8.toNat_inj.1 (by omega))
        have hn' : ¬ y = (c.toNat : Int) := by simpa using hn
        have hn2 : (y != (c.toNat : Int)) = true := by simpa using hn'
        rw [EI.out, decide_eq_false hc]
        clear EI hc hy
        generalize (c.toNat : Int) = z at *
        go_enter Try.func63, Try.ntmps63
        go_wp2
        go_quiet (fail)
        go_wp2
        go_ret
        exact ⟨rfl, ch_drewS (Ch.refl _ _) _, H.out.drewN _⟩
    · have e : isS s k false c = false := by
        unfold isS
        rw [List.getElem?_eq_none (by rw [ba_len]; omega)]
        rfl
      have i3 : (s.size : Int) ≤ (k : Int) := by omega
      rw [e]
      go_enter Try.func63, Try.ntmps63
      go_wp2
      go_quiet (fail)
      go_wp2
      go_ret
      exact ⟨rfl, ch_drewS (Ch.refl _ _) _, H.out.drewN _⟩

set_option maxHeartbeats 2000000 in
theorem must_any (g : Nat) (s : ByteArray) (k : Nat) (bad : Bool) (c : UInt8) (w : World) (h : SB w g s k bad) (hk : k ≤ s.size) (hs : s.size ≤ 20000) :
    Calls Try.prog 64 #[.pointer (some ⟨g, 0, none⟩), .int .u8 (c.toNat : Int)] w fun e w' => e = .returned (.tuple #[]) ∧ Ch (fun b => b = g) w w' ∧ SB w' g s (if isS s k bad c then k + 1 else k) (!isS s k bad c) := by
  have IS := hide (is_any g s k bad c w h hk hs)
  have HB : Hid (isS s k bad c = true → bad = false) := fun e => by
    unfold isS at e
    simp only [Bool.and_eq_true] at e
    simpa using e.1
  generalize isS s k bad c = b at *
  cases b with
  | true =>
    obtain rfl := HB.out rfl
    go_enter Try.func64, Try.ntmps64
    go_wp2_with fail
    with_reducible refine IS.out.mono ?_
    rintro e v ⟨rfl, c1, s1⟩
    have C1 := hide c1
    have S1 := hide s1
    clear c1 s1
    go_wp2
    go_end0
    exact ⟨rfl, C1.out, S1.out⟩
  | false =>
    go_enter Try.func64, Try.ntmps64
    go_wp2_with fail
    with_reducible refine IS.out.mono ?_
    rintro e v ⟨rfl, c1, s1⟩
    have C1 := hide c1
    have S1 := hide s1
    obtain ⟨f0, f1, f2, f3⟩ := s1.cell
    clear c1 s1
    go_wp2
    go_end0
    exact ⟨rfl, C1.out.trans (ch_set _ _ _ _), S1.out.spoil⟩
end Go.Proofs.Ythebcmkainplnaa
