/-
  What post.sink comes to: the heap is whole again: a contract, for every world.
  Conditions: at most ten lists, none of them empty, in memory that was there before.
-/
import Derived.Test.YthmcliapdnbdjaaPosDh
import Derived.Test.YthmcliapdnbdjaaPosDe
import Derived.Test.YthmcliapdnbdjaaWldK
import Derived.BigQuiet
import Derived.Deep.QuietTactic
namespace Go.Proofs.Ythmcliapdnbdjaa
open Go.RowKit
set_option maxRecDepth 20000

/-- The first number of the one at a place, in memory. -/
theorem first_at {w0 w : World} {d : List Sg} (hok : ∀ x ∈ d, SgOk w0 x) (hb : Below w0.heap.size w0 w) {i : Nat} (hi : i < d.length) :
    ∃ b off k, (sgA d i).a = some ⟨b, off, none⟩ ∧ (sgA d i).n = k + 1 ∧ w.cell? ⟨b, off, none⟩ = some (.int .i64 (ky d i)) := by
  obtain ⟨h1, h2⟩ := hok _ (sgA_mem hi)
  obtain ⟨p, t, e⟩ := head_of h2
  have hl := h1.len
  rw [e, List.length_cons] at hl
  rw [e, ← hl] at h1
  obtain ⟨b, off, q1, q2⟩ := (h1.below hb (Nat.le_refl _)).first
  refine ⟨b, off, t.length, q1, hl.symm, ?_⟩
  unfold ky
  rw [e]
  exact q2
theorem at_cells {w0 w : World} {g c : Nat} {d : List Sg} (hR : SRw w g c d) (hok : ∀ x ∈ d, SgOk w0 x) (hb : Below w0.heap.size w0 w) {i : Nat} (hi : i < d.length) :
    ∃ b off k cc, w.cell? ⟨g, i, none⟩ = some (.slice (some ⟨b, off, none⟩) (k + 1) cc) ∧ w.cell? ⟨b, off, none⟩ = some (.int .i64 (ky d i)) ∧ (sgA d i).val = .slice (some ⟨b, off, none⟩) (k + 1) cc := by
  obtain ⟨b, off, k, h1, h2, h3⟩ := first_at hok hb hi
  have h4 := hR.cell hi
  refine ⟨b, off, k, (sgA d i).c, ?_, h3, ?_⟩
  · rw [h4, h1, h2]
  · unfold Sg.val
    rw [h1, h2]

set_option maxHeartbeats 16000000 in
theorem sink_any (w0 : World) (g c : Nat) (d : List Sg) (n p s : Nat) (w : World) (hn : d.length = n) (hn10 : n ≤ 10) (hR : SRw w g c d) (hok : ∀ x ∈ d, SgOk w0 x) (hb : Below w0.heap.size w0 w) (hg : w0.heap.size ≤ g) (hs : s ≤ p) (hp : p ≤ 10) (hH : HeapB s p d) :
    Calls Try.prog 36 #[.slice (some ⟨g, 0, none⟩) n c, .int .i64 p] w fun e w' => e = .returned (.tuple #[]) ∧ ∃ d', d'.Perm d ∧ HeapF s d' ∧ SRw w' g c d' ∧ Ch (fun k => k = g) w w' := by
  have HR := hide hR
  have HOK := hide hok
  have HB := hide hb
  have HG := hide hg
  have HS := hide hs
  have HH := hide hH
  have HN := hide hn
  have PD : Hid (d.Perm d) := List.Perm.refl _
  clear hR hok hb hg hs hH hn
  go_enter Try.func36, Try.ntmps36
  go_wp2
  go_loopw [1] (fun i wr => ∃ (q : Nat) (e : List Sg), i = .int .i64 q ∧ q ≤ 10 ∧ Hid (s ≤ q) ∧ Hid (e.Perm d) ∧ Hid (HeapB s q e) ∧ Hid (SRw wr g c e) ∧ Hid (Ch (fun k => k = g) w wr)) (fun i _ => 20 - (intOf i).toNat)
  case atStart => exact ⟨p, d, rfl, hp, HS, PD, HH, HR, Ch.refl _ _⟩
  case round =>
    clear HS HH HR PD
    obtain ⟨q, e, rfl, hq, HS, PE, HH, HR, HC⟩ := hrel
    have HL : Hid (e.length = n) := PE.out.length_eq.trans HN.out
    have HBW : Hid (Below w0.heap.size w0 wr) := HB.out.trans (HC.out.below HB.out.size (fun k hk h => by have := HG.out; omega))
    have HOE : Hid (∀ x ∈ e, SgOk w0 x) := fun x hx => HOK.out x (PE.out.mem_iff.1 hx)
    obtain ⟨B, hB⟩ : ∃ B : Nat, Hid (B = 2 * q + 1) := ⟨_, rfl⟩
    have hB21 : B ≤ 21 := by have := hB.out; omega
    have hwB : IntKind.i64.wrap ((B : Int) + 1) = (B : Int) + 1 := by rw [IntKind.wrap_i64]; omega
    go_upto_region 1 with fail
    rw [show (2 * (q : Int) + 1) = (B : Int) by rw [hB.out]; rfl]
    by_cases h1 : n ≤ B
    · have HF := hide (HH.out.stop1 (by rw [HL.out]; have := hB.out; omega))
      have i1 : ¬ ((B : Int) + 1 < (n : Int)) := by omega
      have i2 : (n : Int) ≤ (B : Int) := by omega
      have j1 : decide ((B : Int) + 1 < (n : Int)) = false := decide_eq_false i1
      have j2 : decide ((n : Int) ≤ (B : Int)) = true := decide_eq_true i2
      have j3 : decide (n ≤ B) = true := decide_eq_true h1
      have j4 : decide (B + 1 < n) = false := decide_eq_false (by omega)
      have j5 : ¬ B + 1 < n := by omega
      go_quiet (fail)
      go_upto_region 3 with fail
      refine wp_world (fun W => SRw W g c e ∧ Ch (fun k => k = g) w W) ⟨HR.out.drewN _, ch_drewS HC.out _⟩ ?_
      rintro u ⟨r3, k3⟩
      have R3 := hide r3
      have K3 := hide k3
      clear r3 k3
      go_quiet (fail)
      go_wp2
      refine bodyPost_ret (results_none rfl _ _ _) rfl ?_
      exact ⟨rfl, e, PE.out, HF.out, R3.out.drewN _, ch_drewS K3.out _⟩
    have hqn : q < n := by have := hB.out; omega
    have q1 : (0 : Int) ≤ (q : Int) := by omega
    have q2 : (q : Int) < (n : Int) := by omega
    have b1 : (0 : Int) ≤ (B : Int) := by omega
    have b2 : (B : Int) < (n : Int) := by omega
    obtain ⟨bq, oq, kq, cq, gq, yq, zq⟩ := at_cells HR.out HOE.out HBW.out (i := q) (by rw [HL.out]; omega)
    have vq := hide zq
    clear zq
    have pq : (0 : Int) < ((kq + 1 : Nat) : Int) := by omega
    have pq' : (0 : Int) < (kq : Int) + 1 := by omega
    obtain ⟨bB, oB, kB, cB, gB, yB, zB⟩ := at_cells HR.out HOE.out HBW.out (i := B) (by rw [HL.out]; omega)
    have vB := hide zB
    clear zB
    have pB : (0 : Int) < ((kB + 1 : Nat) : Int) := by omega
    have pB' : (0 : Int) < (kB : Int) + 1 := by omega
    by_cases h2 : n ≤ B + 1
    · have i1 : ¬ ((B : Int) + 1 < (n : Int)) := by omega
      have j1 : decide ((B : Int) + 1 < (n : Int)) = false := decide_eq_false i1
      have HMN : Hid (∀ x, Kid q x → x < e.length → ky e B ≤ ky e x) := fun x hx hl => by
        unfold Kid at hx
        have e1 := hB.out
        rw [HL.out] at hl
        have : x = B := by omega
        rw [this]
        exact Int.le_refl _
      have j4 : decide (B + 1 < n) = false := decide_eq_false (by omega)
      go_quiet (fail)
      go_upto_region 3 with fail
      have HKM : Hid (Kid q B) := by show Kid _ _; unfold Kid; have := hB.out; omega
      have hMq : q < B := by have := hB.out; omega
      have m1 : (0 : Int) ≤ (B : Int) := by omega
      have m2 : (B : Int) < (n : Int) := by omega
      have m3 : ¬ (n : Int) ≤ (B : Int) := by omega
      have m4 : decide ((n : Int) ≤ (B : Int)) = false := decide_eq_false m3
      have m5 : decide (n ≤ B) = false := decide_eq_false (by omega)
      have m6 : ¬ n ≤ B := by omega
      have STOP : Hid (ky e q ≤ ky e B → HeapF s e) := fun h => HH.out.stop HMN.out h
      have DOWN : Hid (¬ ky e q ≤ ky e B → HeapB s B (swpS e q B)) := fun h => HH.out.down HS.out HKM.out (by rw [HL.out]; omega) HMN.out h
      have PSW : Hid ((swpS e q B).Perm d) := (swpS_perm (by rw [HL.out]; omega) (by rw [HL.out]; omega)).trans PE.out
      have HSW : Hid (∀ W, SRw W g c e → SRw ((W.setCell ⟨g, q, none⟩ (.slice (some ⟨bB, oB, none⟩) (kB + 1) cB)).setCell ⟨g, B, none⟩ (.slice (some ⟨bq, oq, none⟩) (kq + 1) cq)) g c (swpS e q B)) := fun W hW => by
        rw [← vB.out, ← vq.out]
        exact hW.swap (by rw [HL.out]; omega) (by rw [HL.out]; omega)
      refine wp_world (fun W => SRw W g c e ∧ Ch (fun k => k = g) w W ∧ (W.cell? ⟨g, q, none⟩ = some (.slice (some ⟨bq, oq, none⟩) (kq + 1) cq) ∧ W.cell? ⟨g, B, none⟩ = some (.slice (some ⟨bB, oB, none⟩) (kB + 1) cB)) ∧ W.cell? ⟨bq, oq, none⟩ = some (.int .i64 (ky e q)) ∧ W.cell? ⟨bB, oB, none⟩ = some (.int .i64 (ky e B))) ⟨HR.out.drewN _, ch_drewS HC.out _, ⟨gq, gB⟩, yq, yB⟩ ?_
      rintro u ⟨r3, k3, ⟨hq3, hM3'⟩, zq3, zM3⟩
      have R3 := hide r3
      have K3 := hide k3
      clear r3 k3 gq gB yq yB HR HC
      generalize ky e q = aq at *
      generalize ky e B = am at *
      by_cases hle : aq ≤ am
      · have HF := hide (STOP.out hle)
        have t1 : decide (aq ≤ am) = true := decide_eq_true hle
        clear STOP DOWN
        go_quiet (fail)
        go_wp2
        refine bodyPost_ret (results_none rfl _ _ _) rfl ?_
        exact ⟨rfl, e, PE.out, HF.out, R3.out.drewN _, ch_drewS K3.out _⟩
      · have HD := hide (DOWN.out hle)
        have t1 : decide (aq ≤ am) = false := decide_eq_false hle
        clear STOP DOWN
        go_quiet (fail)
        go_upto_region 4 with fail
        refine wp_world (fun W => SRw W g c e ∧ Ch (fun k => k = g) w W ∧ W.cell? ⟨g, q, none⟩ = some (.slice (some ⟨bq, oq, none⟩) (kq + 1) cq) ∧ W.cell? ⟨g, B, none⟩ = some (.slice (some ⟨bB, oB, none⟩) (kB + 1) cB)) ⟨R3.out.drewN _, ch_drewS K3.out _, hq3, hM3'⟩ ?_
        rintro u4 ⟨r4, k4, gq4, gM4⟩
        have fq4 := r4.frozen q
        have fM4 := r4.frozen B
        obtain ⟨xv, hxv⟩ : ∃ v, (u4.setCell ⟨g, q, none⟩ (.slice (some ⟨bB, oB, none⟩) (kB + 1) cB)).cell? ⟨g, B, none⟩ = some v := cell?_setCell_some gM4
        have R4 := hide r4
        have K4 := hide k4
        clear r4 k4 hq3 hM3'
        go_region
        go_wp2
        go_roundw
        case rel => exact ⟨B, swpS e q B, rfl, by omega, hide (by have := HS.out; show _ ≤ _; omega), PSW, HD, HSW.out _ R4.out.drew, ch_swapG (ch_drewG K4.out) _ _ _ _⟩
        case measure => simp [intOf]; omega
    · have i1 : (B : Int) + 1 < (n : Int) := by omega
      have i0 : (0 : Int) ≤ (B : Int) + 1 := by omega
      have j0 : ((B : Int) + 1).toNat = B + 1 := by omega
      have j1 : decide ((B : Int) + 1 < (n : Int)) = true := decide_eq_true i1
      obtain ⟨bC, oC, kC, cC, gC, yC, zC⟩ := at_cells HR.out HOE.out HBW.out (i := B + 1) (by rw [HL.out]; omega)
      have vC := hide zC
      clear zC
      have pC : (0 : Int) < ((kC + 1 : Nat) : Int) := by omega
      have pC' : (0 : Int) < (kC : Int) + 1 := by omega
      by_cases hc : ky e (B + 1) < ky e B
      · have tc : decide (ky e (B + 1) < ky e B) = true := decide_eq_true hc
        have HMN : Hid (∀ x, Kid q x → x < e.length → ky e (B + 1) ≤ ky e x) := fun x hx hl => by
          unfold Kid at hx
          have e1 := hB.out
          rcases hx with hx | hx
          · have : x = B := by omega
            rw [this]
            omega
          · have : x = B + 1 := by omega
            rw [this]
            exact Int.le_refl _
        have j4 : B + 1 < n := by omega
        go_quiet (fail)
        go_upto_region 3 with fail
        clear hc tc yB gB
        obtain ⟨M, hM⟩ : ∃ M : Nat, Hid (B + 1 = M) := ⟨_, rfl⟩
        rw [hM.out] at HMN gC yC vC
        rw [show ((B : Int) + 1) = (M : Int) by rw [← hM.out]; rfl]
        have hM1 : M < n := by have := hM.out; omega
        have hM2 : M = 2 * q + 2 := by have := hM.out; have := hB.out; omega
        have hM3 := hide hM2
        clear hM2
        have HKM : Hid (Kid q M) := by show Kid _ _; unfold Kid; have := hM3.out; omega
        have hMq : q < M := by have := hM3.out; omega
        have m1 : (0 : Int) ≤ (M : Int) := by omega
        have m2 : (M : Int) < (n : Int) := by omega
        have m3 : ¬ (n : Int) ≤ (M : Int) := by omega
        have m4 : decide ((n : Int) ≤ (M : Int)) = false := decide_eq_false m3
        have m5 : decide (n ≤ M) = false := decide_eq_false (by omega)
        have m6 : ¬ n ≤ M := by omega
        have STOP : Hid (ky e q ≤ ky e M → HeapF s e) := fun h => HH.out.stop HMN.out h
        have DOWN : Hid (¬ ky e q ≤ ky e M → HeapB s M (swpS e q M)) := fun h => HH.out.down HS.out HKM.out (by rw [HL.out]; omega) HMN.out h
        have PSW : Hid ((swpS e q M).Perm d) := (swpS_perm (by rw [HL.out]; omega) (by rw [HL.out]; omega)).trans PE.out
        have HSW : Hid (∀ W, SRw W g c e → SRw ((W.setCell ⟨g, q, none⟩ (.slice (some ⟨bC, oC, none⟩) (kC + 1) cC)).setCell ⟨g, M, none⟩ (.slice (some ⟨bq, oq, none⟩) (kq + 1) cq)) g c (swpS e q M)) := fun W hW => by
          rw [← vC.out, ← vq.out]
          exact hW.swap (by rw [HL.out]; omega) (by rw [HL.out]; omega)
        refine wp_world (fun W => SRw W g c e ∧ Ch (fun k => k = g) w W ∧ (W.cell? ⟨g, q, none⟩ = some (.slice (some ⟨bq, oq, none⟩) (kq + 1) cq) ∧ W.cell? ⟨g, M, none⟩ = some (.slice (some ⟨bC, oC, none⟩) (kC + 1) cC)) ∧ W.cell? ⟨bq, oq, none⟩ = some (.int .i64 (ky e q)) ∧ W.cell? ⟨bC, oC, none⟩ = some (.int .i64 (ky e M))) ⟨HR.out.drewN _, ch_drewS HC.out _, ⟨gq, gC⟩, yq, yC⟩ ?_
        rintro u ⟨r3, k3, ⟨hq3, hM3'⟩, zq3, zM3⟩
        have R3 := hide r3
        have K3 := hide k3
        clear r3 k3 gq gC yq yC HR HC
        generalize ky e q = aq at *
        generalize ky e M = am at *
        by_cases hle : aq ≤ am
        · have HF := hide (STOP.out hle)
          have t1 : decide (aq ≤ am) = true := decide_eq_true hle
          clear STOP DOWN
          go_quiet (fail)
          go_wp2
          refine bodyPost_ret (results_none rfl _ _ _) rfl ?_
          exact ⟨rfl, e, PE.out, HF.out, R3.out.drewN _, ch_drewS K3.out _⟩
        · have HD := hide (DOWN.out hle)
          have t1 : decide (aq ≤ am) = false := decide_eq_false hle
          clear STOP DOWN
          go_quiet (fail)
          go_upto_region 4 with fail
          refine wp_world (fun W => SRw W g c e ∧ Ch (fun k => k = g) w W ∧ W.cell? ⟨g, q, none⟩ = some (.slice (some ⟨bq, oq, none⟩) (kq + 1) cq) ∧ W.cell? ⟨g, M, none⟩ = some (.slice (some ⟨bC, oC, none⟩) (kC + 1) cC)) ⟨R3.out.drewN _, ch_drewS K3.out _, hq3, hM3'⟩ ?_
          rintro u4 ⟨r4, k4, gq4, gM4⟩
          have fq4 := r4.frozen q
          have fM4 := r4.frozen M
          obtain ⟨xv, hxv⟩ : ∃ v, (u4.setCell ⟨g, q, none⟩ (.slice (some ⟨bC, oC, none⟩) (kC + 1) cC)).cell? ⟨g, M, none⟩ = some v := cell?_setCell_some gM4
          have R4 := hide r4
          have K4 := hide k4
          clear r4 k4 hq3 hM3'
          go_region
          go_wp2
          go_roundw
          case rel => exact ⟨M, swpS e q M, rfl, by omega, hide (by have := HS.out; show _ ≤ _; omega), PSW, HD, HSW.out _ R4.out.drew, ch_swapG (ch_drewG K4.out) _ _ _ _⟩
          case measure => simp [intOf]; omega
      · have tc : decide (ky e (B + 1) < ky e B) = false := decide_eq_false hc
        have HMN : Hid (∀ x, Kid q x → x < e.length → ky e B ≤ ky e x) := fun x hx hl => by
          unfold Kid at hx
          have e1 := hB.out
          rcases hx with hx | hx
          · have : x = B := by omega
            rw [this]
            exact Int.le_refl _
          · have : x = B + 1 := by omega
            rw [this]
            omega
        have j4 : B + 1 < n := by omega
        go_quiet (fail)
        go_upto_region 3 with fail
        clear hc tc yC gC
        have HKM : Hid (Kid q B) := by show Kid _ _; unfold Kid; have := hB.out; omega
        have hMq : q < B := by have := hB.out; omega
        have m1 : (0 : Int) ≤ (B : Int) := by omega
        have m2 : (B : Int) < (n : Int) := by omega
        have m3 : ¬ (n : Int) ≤ (B : Int) := by omega
        have m4 : decide ((n : Int) ≤ (B : Int)) = false := decide_eq_false m3
        have m5 : decide (n ≤ B) = false := decide_eq_false (by omega)
        have m6 : ¬ n ≤ B := by omega
        have STOP : Hid (ky e q ≤ ky e B → HeapF s e) := fun h => HH.out.stop HMN.out h
        have DOWN : Hid (¬ ky e q ≤ ky e B → HeapB s B (swpS e q B)) := fun h => HH.out.down HS.out HKM.out (by rw [HL.out]; omega) HMN.out h
        have PSW : Hid ((swpS e q B).Perm d) := (swpS_perm (by rw [HL.out]; omega) (by rw [HL.out]; omega)).trans PE.out
        have HSW : Hid (∀ W, SRw W g c e → SRw ((W.setCell ⟨g, q, none⟩ (.slice (some ⟨bB, oB, none⟩) (kB + 1) cB)).setCell ⟨g, B, none⟩ (.slice (some ⟨bq, oq, none⟩) (kq + 1) cq)) g c (swpS e q B)) := fun W hW => by
          rw [← vB.out, ← vq.out]
          exact hW.swap (by rw [HL.out]; omega) (by rw [HL.out]; omega)
        refine wp_world (fun W => SRw W g c e ∧ Ch (fun k => k = g) w W ∧ (W.cell? ⟨g, q, none⟩ = some (.slice (some ⟨bq, oq, none⟩) (kq + 1) cq) ∧ W.cell? ⟨g, B, none⟩ = some (.slice (some ⟨bB, oB, none⟩) (kB + 1) cB)) ∧ W.cell? ⟨bq, oq, none⟩ = some (.int .i64 (ky e q)) ∧ W.cell? ⟨bB, oB, none⟩ = some (.int .i64 (ky e B))) ⟨HR.out.drewN _, ch_drewS HC.out _, ⟨gq, gB⟩, yq, yB⟩ ?_
        rintro u ⟨r3, k3, ⟨hq3, hM3'⟩, zq3, zM3⟩
        have R3 := hide r3
        have K3 := hide k3
        clear r3 k3 gq gB yq yB HR HC
        generalize ky e q = aq at *
        generalize ky e B = am at *
        by_cases hle : aq ≤ am
        · have HF := hide (STOP.out hle)
          have t1 : decide (aq ≤ am) = true := decide_eq_true hle
          clear STOP DOWN
          go_quiet (fail)
          go_wp2
          refine bodyPost_ret (results_none rfl _ _ _) rfl ?_
          exact ⟨rfl, e, PE.out, HF.out, R3.out.drewN _, ch_drewS K3.out _⟩
        · have HD := hide (DOWN.out hle)
          have t1 : decide (aq ≤ am) = false := decide_eq_false hle
          clear STOP DOWN
          go_quiet (fail)
          go_upto_region 4 with fail
          refine wp_world (fun W => SRw W g c e ∧ Ch (fun k => k = g) w W ∧ W.cell? ⟨g, q, none⟩ = some (.slice (some ⟨bq, oq, none⟩) (kq + 1) cq) ∧ W.cell? ⟨g, B, none⟩ = some (.slice (some ⟨bB, oB, none⟩) (kB + 1) cB)) ⟨R3.out.drewN _, ch_drewS K3.out _, hq3, hM3'⟩ ?_
          rintro u4 ⟨r4, k4, gq4, gM4⟩
          have fq4 := r4.frozen q
          have fM4 := r4.frozen B
          obtain ⟨xv, hxv⟩ : ∃ v, (u4.setCell ⟨g, q, none⟩ (.slice (some ⟨bB, oB, none⟩) (kB + 1) cB)).cell? ⟨g, B, none⟩ = some v := cell?_setCell_some gM4
          have R4 := hide r4
          have K4 := hide k4
          clear r4 k4 hq3 hM3'
          go_region
          go_wp2
          go_roundw
          case rel => exact ⟨B, swpS e q B, rfl, by omega, hide (by have := HS.out; show _ ≤ _; omega), PSW, HD, HSW.out _ R4.out.drew, ch_swapG (ch_drewG K4.out) _ _ _ _⟩
          case measure => simp [intOf]; omega
end Go.Proofs.Ythmcliapdnbdjaa
