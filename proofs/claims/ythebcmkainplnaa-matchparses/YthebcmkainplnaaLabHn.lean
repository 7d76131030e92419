/-
  The document's reader of texts: its Name: its contract, for every world (written by gen/labhn.gen.py).
  Conditions: the reader lies in a block of its own; its place is within the text.
-/
import Derived.Test.YthebcmkainplnaaLabHx
import Derived.Deep.RegionHeld3
import Derived.Deep.Cut
namespace Go.Proofs.Ythebcmkainplnaa
open Go.RowKit
set_option maxRecDepth 20000

set_option maxHeartbeats 8000000 in
theorem sname_any (g : Nat) (s : ByteArray) (k : Nat) (bad : Bool) (w : World) (h : SB w g s k bad) (hk : k ≤ s.size) (hs : s.size ≤ 20000) :
    Calls Try.prog 65 #[.pointer (some ⟨g, 0, none⟩)] w fun e w' => e = .returned (.string (s.extract k (nmE s k))) ∧ Ch (fun b => b = g) w w' ∧ SB w' g s (nmE s k) bad := by
  obtain ⟨f0, f1, f2, f3⟩ := h.cell
  have H := hide h
  obtain ⟨E, hE⟩ : ∃ E, Hid (nmE s k = E) := ⟨_, rfl⟩
  rw [hE.out]
  clear h
  go_enter Try.func65, Try.ntmps65
  go_wp2
  go_loopg [8] s.size (fun gk _ wr => ∃ j : Nat, k ≤ j ∧ j ≤ s.size ∧ s.size - j ≤ gk ∧ Hid (nmE s j = E) ∧ Hid (SB wr g s j bad) ∧ Hid (Ch (fun b => b = g) w wr))
  case atStart => exact ⟨k, Nat.le_refl _, hk, by omega, hE, H, Ch.refl _ _⟩
  case round =>
    obtain ⟨j, hkj, hj, hg, NE, S0, C0⟩ := hrel
    obtain ⟨u, rfl⟩ : ∃ u, u = wr := ⟨wr, rfl⟩
    obtain ⟨a0, a1, a2, a3⟩ := S0.out.cell
    have i1 : (0 : Int) ≤ (j : Int) := by omega
    have i0 : (0 : Int) ≤ (k : Int) := by omega
    have i4 : (k : Int) ≤ (j : Int) := by omega
    have i5 : (j : Int) ≤ (s.size : Int) := by omega
    have FN : Hid (E = j → ∀ q, (Ending.returned (Value.string (s.extract k j)) = Ending.returned (Value.string (s.extract k E))) ∧ Ch (fun b => b = g) w (u.drewN q) ∧ SB (u.drewN q) g s E bad) := by
      rintro rfl q
      exact ⟨rfl, ch_drewS C0.out q, S0.out.drewN q⟩
    by_cases hlt : j < s.size
    · have i2 : (j : Int) < (s.size : Int) := by omega
      obtain ⟨c, hc⟩ : ∃ c, Hid ((s[j]'hlt) = c) := ⟨_, rfl⟩
      obtain ⟨z, hz⟩ : ∃ z : Int, Hid ((c.toNat : Int) = z) := ⟨_, rfl⟩
      have hb : ((s[j]'hlt).toNat : Int) = z := by rw [hc.out]; exact hz.out
      have NS : Hid (nmS (s[j]'hlt) = true ↔ (z = 95 ∨ (97 ≤ z ∧ z ≤ 122) ∨ (48 ≤ z ∧ z ≤ 57))) := by
        show _ ↔ _
        rw [hc.out, nmS_num, ← hz.out]
        omega
      clear hc hz
      by_cases hn : nmS (s[j]'hlt) = true
      · have N2 : Hid (nmE s (j + 1) = E) := (nmE_on hlt hn).symm.trans NE.out
        have P := hide (fun q => (S0.out.drewN q).place (j + 1))
        have CP := hide (fun q => (ch_drewS C0.out q).trans (ch_set (u.drewN q) g 1 (.int .i64 ((j + 1 : Nat) : Int))))
        have cs := NS.out.1 hn
        clear hn NE FN S0 C0
        rcases cs with cs | cs | cs
        · subst cs
          clear NS
          go_wp2
          try dsimp only [List.append]
          go_quiet (fail)
          go_wp2
          go_roundg (s.size - (j + 1))
          case measure => omega
          case rel => exact ⟨j + 1, by omega, by omega, by omega, N2.out, P.out _, CP.out _⟩
        · have y0 : (z == 95) = false := by simp; omega
          have x0 : 97 ≤ z := by omega
          have d0 : decide (97 ≤ z) = true := decide_eq_true x0
          have x1 : z ≤ 122 := by omega
          have d1 : decide (z ≤ 122) = true := decide_eq_true x1
          clear NS
          go_wp2
          try dsimp only [List.append]
          go_quiet (fail)
          go_wp2
          go_roundg (s.size - (j + 1))
          case measure => omega
          case rel => exact ⟨j + 1, by omega, by omega, by omega, N2.out, P.out _, CP.out _⟩
        · have y0 : (z == 95) = false := by simp; omega
          have x0 : ¬ 97 ≤ z := by omega
          have d0 : decide (97 ≤ z) = false := decide_eq_false x0
          have x1 : 48 ≤ z := by omega
          have d1 : decide (48 ≤ z) = true := decide_eq_true x1
          have x2 : z ≤ 57 := by omega
          have d2 : decide (z ≤ 57) = true := decide_eq_true x2
          clear NS
          go_wp2
          try dsimp only [List.append]
          go_quiet (fail)
          go_wp2
          go_roundg (s.size - (j + 1))
          case measure => omega
          case rel => exact ⟨j + 1, by omega, by omega, by omega, N2.out, P.out _, CP.out _⟩
      · have hn' : nmS (s[j]'hlt) = false := by simpa using hn
        have FIN := hide (FN.out (NE.out.symm.trans (nmE_off hlt hn')))
        have cs : ¬ (z = 95 ∨ (97 ≤ z ∧ z ≤ 122) ∨ (48 ≤ z ∧ z ≤ 57)) := fun h => hn (NS.out.2 h)
        clear hn hn' NE FN S0 C0 NS
        by_cases k1 : z < 48
        · have y0 : (z == 95) = false := by simp; omega
          have x0 : ¬ 97 ≤ z := by omega
          have d0 : decide (97 ≤ z) = false := decide_eq_false x0
          have x1 : ¬ 48 ≤ z := by omega
          have d1 : decide (48 ≤ z) = false := decide_eq_false x1
          go_wp2
          try dsimp only [List.append]
          go_quiet (fail)
          go_wp2
          go_quiet (fail)
          go_wp2
          go_ret
          refine ⟨?_, ch_drewS (FIN.out _).2.1 _, (FIN.out _).2.2.drewN _⟩
          exact (FIN.out 0).1
        · by_cases k2 : z < 97
          · have y0 : (z == 95) = false := by simp; omega
            have x0 : ¬ 97 ≤ z := by omega
            have d0 : decide (97 ≤ z) = false := decide_eq_false x0
            have x1 : 48 ≤ z := by omega
            have d1 : decide (48 ≤ z) = true := decide_eq_true x1
            have x2 : ¬ z ≤ 57 := by omega
            have d2 : decide (z ≤ 57) = false := decide_eq_false x2
            go_wp2
            try dsimp only [List.append]
            go_quiet (fail)
            go_wp2
            go_quiet (fail)
            go_wp2
            go_ret
            refine ⟨?_, ch_drewS (FIN.out _).2.1 _, (FIN.out _).2.2.drewN _⟩
            exact (FIN.out 0).1
          · have y0 : (z == 95) = false := by simp; omega
            have x0 : 97 ≤ z := by omega
            have d0 : decide (97 ≤ z) = true := decide_eq_true x0
            have x1 : ¬ z ≤ 122 := by omega
            have d1 : decide (z ≤ 122) = false := decide_eq_false x1
            have x2 : 48 ≤ z := by omega
            have d2 : decide (48 ≤ z) = true := decide_eq_true x2
            have x3 : ¬ z ≤ 57 := by omega
            have d3 : decide (z ≤ 57) = false := decide_eq_false x3
            go_wp2
            try dsimp only [List.append]
            go_quiet (fail)
            go_wp2
            go_quiet (fail)
            go_wp2
            go_ret
            refine ⟨?_, ch_drewS (FIN.out _).2.1 _, (FIN.out _).2.2.drewN _⟩
            exact (FIN.out 0).1
    · have i2 : ¬ (j : Int) < (s.size : Int) := by omega
      have i2' : decide ((j : Int) < (s.size : Int)) = false := decide_eq_false i2
      have i2n : decide (j < s.size) = false := decide_eq_false hlt
      have FIN := hide (FN.out (NE.out.symm.trans (nmE_end (by omega))))
      clear NE FN S0 C0
      go_wp2
      try dsimp only [List.append]
      go_quiet (fail)
      go_wp2
      go_quiet (fail)
      go_wp2
      go_ret
      refine ⟨?_, ch_drewS (FIN.out _).2.1 _, (FIN.out _).2.2.drewN _⟩
      exact (FIN.out 0).1
end Go.Proofs.Ythebcmkainplnaa
