/-
  The document's index: which number a set has (Find), who has a value (Post): contracts, for every world.
  Conditions: as each theorem says.
-/
import Derived.Test.YtpffhpnmbpjifaaGreatIdxM
import Derived.Test.YtpffhpnmbpjifaaGreatLabZb
import Derived.Test.YtpffhpnmbpjifaaGreatPosZa
namespace Go.Proofs.YtpffhpnmbpjifaaGreat
open Go.RowKit
set_option maxRecDepth 20000

theorem drewB {w w' : World} (h : ∃ q, w' = w.drewN q) : Below w.heap.size w w' := by
  obtain ⟨q, rfl⟩ := h
  exact bel_drewN (Below.refl _ _) q
theorem cmpL_eq {x y : List Lb} : cmpL x y = 0 ↔ x = y := cmpL_is.zero x y

set_option maxHeartbeats 2000000 in
theorem rfind_any (g : Nat) (S : Nat → Prop) (L : Lx) (a : Option Addr) (n c : Nat) (l : List Lb) (w : World) (hX : XAt w g S L) (hr : RowL w a n l) (hL : L.length ≤ 5000) :
    Calls Tryz.prog 34 #[.pointer (some ⟨g, 0, none⟩), .slice a n c] w fun e w' => e = .returned (.tuple #[.int .i64 (findN L l), .bool (findX L l).isSome]) ∧ Below w.heap.size w w' := by
  have HX := hide hX
  have HR := hide hr
  obtain ⟨ax, cx, hc, -, hat⟩ := hX.open'
  have HC := hide hc
  have HAT := hide hat
  obtain ⟨m, hm⟩ : ∃ m, Hid (L.length = m) := ⟨_, rfl⟩
  rw [hm.out] at HC HAT hL
  obtain ⟨ans, HA⟩ : ∃ ans, Hid (findN L l = ans) := ⟨_, rfl⟩
  obtain ⟨bns, HB⟩ : ∃ bns, Hid ((findX L l).isSome = bns) := ⟨_, rfl⟩
  rw [HA.out, HB.out]
  clear hX hr hc hat
  go_enter Tryz.func34, Tryz.ntmps34
  go_wp2
  go_loopw [6] (fun i wr => ∃ k : Nat, k ≤ m ∧ i = .int .i64 k ∧ Hid (l ∉ L.take k) ∧ Hid (Below w.heap.size w wr)) (fun i _ => m - (intOf i).toNat)
  case atStart => exact ⟨0, by omega, rfl, by show _ ∉ _; simp, Below.refl _ _⟩
  case round =>
    obtain ⟨k, hk, rfl, HN, BW⟩ := hrel
    obtain ⟨u, rfl⟩ : ∃ u, u = wr := ⟨wr, rfl⟩
    have hcu : u.cell? ⟨g, 0, none⟩ = some (.slice ax m cx) := by
      rw [BW.out.cell (p := ⟨g, 0, none⟩) (World.block_lt_of_cell? w _ HC.out)]
      exact HC.out
    by_cases hlt : k < m
    · obtain ⟨b, a1, n1, c1, x, e, hx, q1, q2⟩ := HAT.out k hlt
      have g1 : u.cell? ⟨b, k, none⟩ = some (.slice a1 n1 c1) := by
        rw [BW.out.cell (p := ⟨b, k, none⟩) (World.block_lt_of_cell? w _ q1)]
        exact q1
      rw [e] at hcu
      have CM := hide (refcmp_any a1 n1 c1 x a n c l u (q2.1.below BW.out (Nat.le_refl _)) (HR.out.below BW.out (Nat.le_refl _)))
      have i1 : (0 : Int) ≤ (k : Int) := by omega
      have i2 : (k : Int) < (m : Int) := by omega
      have HXk := hide hx
      clear q1 q2 hx e
      by_cases he : x = l
      · have h0 : cmpL x l = 0 := cmpL_eq.2 he
        rw [h0] at CM
        have HF : Hid (findX L l = some k) := findX_at (by rw [HXk.out, he]) HN.out
        have F1 : Hid (ans = (k : Int)) := by rw [← HA.out]; show findN L l = _; unfold findN; rw [HF.out]
        have F2 : Hid (bns = true) := by rw [← HB.out, HF.out]; rfl
        clear he h0 HF
        go_wp2_with fail
        with_reducible refine CM.out.mono ?_
        rintro e v1 ⟨rfl, q⟩
        have B1 := hide (bel_to BW.out (Nat.le_refl _) (drewB q))
        clear q CM g1
        go_wp2
        refine bodyPost_ret (v := .tuple #[.int .i64 (k : Int), .bool true]) (by simp [results, Tryz.results34, go_sem]) rfl ?_
        exact ⟨by rw [F1.out, F2.out], B1.out⟩
      · have h0 : (cmpL x l == 0) = false := by simpa using fun q => he (cmpL_eq.1 q)
        generalize cmpL x l = cv at CM h0
        have HN2 : Hid (l ∉ L.take (k + 1)) := by
          show _ ∉ _
          obtain ⟨hk', e2⟩ := List.getElem?_eq_some_iff.1 HXk.out
          rw [List.take_succ_eq_append_getElem hk', List.mem_append, List.mem_singleton, e2]
          rintro (q | q)
          · exact HN.out q
          · exact he q.symm
        clear he
        go_wp2_with fail
        with_reducible refine CM.out.mono ?_
        rintro e v1 ⟨rfl, q⟩
        have B1 := hide (bel_to BW.out (Nat.le_refl _) (drewB q))
        clear q CM g1
        go_wp2
        go_roundw
        case rel => exact ⟨k + 1, by omega, by go_num, HN2, B1⟩
        case measure => simp [intOf]; omega
    · have i2 : ¬ (k : Int) < (m : Int) := by omega
      have HF : Hid (findX L l = none) := findX_out (by have := HN.out; rwa [List.take_of_length_le (by rw [hm.out]; omega)] at this)
      have F1 : Hid (ans = -1) := by rw [← HA.out]; show findN L l = _; unfold findN; rw [HF.out]
      have F2 : Hid (bns = false) := by rw [← HB.out, HF.out]; rfl
      go_wp2
      refine bodyPost_ret (v := .tuple #[.int .i64 (-1), .bool false]) (by simp [results, Tryz.results34, go_sem]) rfl ?_
      exact ⟨by rw [F1.out, F2.out], BW.out⟩

theorem idx_wf {p : List Lb → Bool} {L : Lx} (hL : L.length ≤ 5000) : ∀ z ∈ idxs p 0 L, (Lit.int .i64 z).wf = true := fun z hz => by
  have := idxs_wf p L z hz
  simp [Lit.wf, IntKind.min, IntKind.max, IntKind.signed, IntKind.bits]
  omega
end Go.Proofs.YtpffhpnmbpjifaaGreat
