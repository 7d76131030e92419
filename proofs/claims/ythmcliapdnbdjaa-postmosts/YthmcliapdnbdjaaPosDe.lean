/-
  What post.And comes to: an iterator that tells what is in both: a contract, for every world.
  Conditions: the slices show their numbers, at most 2000 each.
-/
import Derived.Test.YthmcliapdnbdjaaPosDc
import Derived.Deep.RegionHeld3
import Derived.Deep.DeepCutAuto
import Derived.Deep.CutBlock
namespace Go.Proofs.Ythmcliapdnbdjaa
open Go.RowKit
set_option maxRecDepth 20000

/-- How long a slice is. -/
def lenV : Value → Nat
  | .slice _ n _ => n
  | _ => 0
/-- A list without its first. -/
theorem SlI.tail {w : World} {a : Option Addr} {k cap : Nat} {p : Int} {t : List Int} (h : SlI w a (k + 1) cap (p :: t)) :
    ∃ a' c', (∀ w, (Instr.slice 22 (.slice a (k + 1) cap) (some (.int .i64 1)) none none).run Try.prog w = .ok (.slice a' k c') w) ∧ SlI w a' k c' t := by
  refine ⟨_, _, fun w => slice_fromI a (k + 1) cap 1 (by omega) w, ?_, ?_, ?_⟩
  · have := h.1.from 1 (by omega) h.2.1
    simpa using this
  · have := h.2.1
    omega
  · intro e
    have h2 := h.2.2
    split at e
    · omega
    · have : a = none := by cases a with | none => rfl | some x => cases e
      have := h2 this
      omega
/-- The first of a list that is not empty. -/
theorem SlI.first {w : World} {a : Option Addr} {k cap : Nat} {p : Int} {t : List Int} (h : SlI w a (k + 1) cap (p :: t)) : ∃ b off, a = some ⟨b, off, none⟩ ∧ w.cell? ⟨b, off, none⟩ = some (.int .i64 p) := by
  obtain ⟨b, off, h1, h2⟩ := h.at' (i := 0) (by omega)
  exact ⟨b, off, h1, h2⟩
theorem SlI.split {w : World} {a : Option Addr} {n cap : Nat} {l : List Int} (h : SlI w a n cap l) : (n = 0 ∧ l = []) ∨ ∃ k p t, n = k + 1 ∧ l = p :: t ∧ SlI w a (k + 1) cap (p :: t) := by
  have hl := h.len
  match l, hl, h with
  | [], hl, _ => exact Or.inl ⟨hl.symm, rfl⟩
  | p :: t, hl, h => exact Or.inr ⟨t.length, p, t, hl.symm, rfl, by rw [← hl] at h; exact h⟩

set_option maxHeartbeats 4000000 in
theorem and_any (a : Option Addr) (n cap : Nat) (xs : List Int) (b : Option Addr) (m capb : Nat) (ys : List Int) (w : World) (hx : SlI w a n cap xs) (hy : SlI w b m capb ys) (hn : n ≤ 2000) :
    Calls Try.prog 14 #[.slice a n cap, .slice b m capb] w fun e w' => Iter (mostS [xs, ys] 2) w e w' := by
  obtain ⟨i0, hi, hz0, hz1, hz2⟩ := info_parts Try.infoI
  obtain ⟨W1, hW1⟩ : ∃ W, Hid (w.alloc (.cells #[.slice a n cap, .slice b m capb] 22) = W) := ⟨_, rfl⟩
  have B1 : Hid (Below w.heap.size w W1) := by rw [← hW1.out]; exact (Below.refl _ _).alloc (Nat.le_refl _) _
  have R1 : Hid (RowII W1 (some ⟨w.heap.size, 0, none⟩) 2 [xs, ys]) := by
    rw [← hW1.out]
    exact rowii_new w [(a, n, cap), (b, m, capb)] [xs, ys] 22 rfl (show 2 ≤ 10 by decide) (fun i hi => by
      match i, hi with
      | 0, _ => exact hx
      | 1, _ => exact hy)
  have RI := hide (rise_any _ 2 2 _ W1 R1.out)
  have HX := hide hx
  have HY := hide hy
  have HL : Hid (xs.length ≤ 2000) := by show _ ≤ _; rw [hx.len]; exact hn
  have HWF := hide hx.wf
  obtain ⟨ans, HA⟩ : ∃ ans, Hid (mostS [xs, ys] 2 = ans) := ⟨_, rfl⟩
  rw [HA.out]
  clear R1 hx hy
  by_cases hup : upI xs ∧ upI ys
  · have h1 : allUp [xs, ys] = true := by rw [allUp_iff]; simpa using hup
    rw [h1] at RI
    have HU := hide hup
    have AS := hide (andI_start hup.1 hup.2)
    clear hup h1
    go_enter Try.func14, Try.ntmps14
    go_wp2_with fail
    go_step3
    go_wp2_with fail
    rw [hW1.out]
    with_reducible refine RI.out.mono ?_
    rintro e u1 ⟨rfl, b1⟩
    have B2 := hide (bel_to B1.out (Nat.le_refl _) b1)
    clear b1 RI hW1
    go_wp2
    go_step3
    go_wp2
    go_loopw [0, 1, 5] (fun x y o wr => ∃ (ar : Option Addr) (nr cr : Nat) (br : Option Addr) (mr dr : Nat) (ao : Option Addr) (L co : Nat) (xr yr out : List Int), x = .slice ar nr cr ∧ y = .slice br mr dr ∧ o = .slice ao L co ∧ L ≤ 2000 ∧ Hid (SlI w ar nr cr xr) ∧ Hid (SlI w br mr dr yr) ∧ Hid (AndI xs ys xr yr out) ∧ Hid (MineI wr w.heap.size ao L co out) ∧ Hid (Below w.heap.size w wr)) (fun x y _ _ => lenV x + lenV y)
    case atStart => exact ⟨_, _, _, _, _, _, none, 0, 0, xs, ys, [], rfl, rfl, rfl, by omega, HX, HY, AS, own_nil _ _ _ _, B2⟩
    case round =>
      obtain ⟨ar, nr, cr, br, mr, dr, ao, L, co, xr, yr, out, rfl, rfl, rfl, hL, SX, SY, AI, OW, BW⟩ := hrel
      rcases SX.out.split with ⟨rfl, rfl⟩ | ⟨k, p, t, rfl, rfl, sx⟩
      · have f1 : (((0 : Nat) : Int) == 0) = true := rfl
        have TI := hide (tell_iter ao L co out wr (MineI.sl OW.out (by omega) (fun z hz => HWF.out z (AI.out.mine hz))) (by omega))
        have HE : Hid (out = ans) := by rw [← HA.out]; exact AI.out.end' HU.out.1 HU.out.2 (Or.inl rfl)
        clear SX SY AI OW
        go_wp2_with fail
        with_reducible refine TI.out.mono ?_
        intro e u3 h3
        have I3 := hide (h3.from' BW.out)
        clear h3 TI
        rw [HE.out] at I3
        obtain ⟨F, rfl, -, -⟩ := I3.out
        go_wp2
        go_ret
        exact I3.out
      rcases SY.out.split with ⟨rfl, rfl⟩ | ⟨j, q, s, rfl, rfl, sy⟩
      · have f1 : (((k + 1 : Nat) : Int) == 0) = false := by simp; omega
        have f2 : (((k : Int) + 1) == 0) = false := by simp; omega
        have TI := hide (tell_iter ao L co out wr (MineI.sl OW.out (by omega) (fun z hz => HWF.out z (AI.out.mine hz))) (by omega))
        have HE : Hid (out = ans) := by rw [← HA.out]; exact AI.out.end' HU.out.1 HU.out.2 (Or.inr rfl)
        clear SX SY AI OW
        go_wp2_with fail
        with_reducible refine TI.out.mono ?_
        intro e u3 h3
        have I3 := hide (h3.from' BW.out)
        clear h3 TI
        rw [HE.out] at I3
        obtain ⟨F, rfl, -, -⟩ := I3.out
        go_wp2
        go_ret
        exact I3.out
      have f1 : (((k + 1 : Nat) : Int) == 0) = false := by simp; omega
      have f2 : (((k : Int) + 1) == 0) = false := by simp; omega
      have f3 : (((j + 1 : Nat) : Int) == 0) = false := by simp; omega
      have f4 : (((j : Int) + 1) == 0) = false := by simp; omega
      obtain ⟨b1, o1, rfl, g1⟩ := (sx.below BW.out (Nat.le_refl _)).first
      obtain ⟨b2, o2, rfl, g2⟩ := (sy.below BW.out (Nat.le_refl _)).first
      obtain ⟨at', ct, rt, st⟩ := sx.tail
      obtain ⟨as', cs, rs, ss⟩ := sy.tail
      have ST := hide st
      have SS := hide ss
      have i1 : (0 : Int) < ((k + 1 : Nat) : Int) := by omega
      have i2 : (0 : Int) < (k : Int) + 1 := by omega
      have i3 : (0 : Int) < ((j + 1 : Nat) : Int) := by omega
      have i4 : (0 : Int) < (j : Int) + 1 := by omega
      clear st ss sx sy
      rcases Int.lt_trichotomy p q with hpq | hpq | hpq
      · have AI2 := hide (AI.out.left hpq)
        clear AI
        go_wp2
        go_region
        go_wp2
        go_roundw
        case rel => exact ⟨at', k, ct, _, _, _, ao, L, co, t, q :: s, out, rfl, rfl, rfl, hL, ST, SY, AI2, OW.out.drew, BW.out.drew⟩
        case measure => simp [lenV]
      · subst hpq
        have AI2 := hide AI.out.both
        have h1 : ¬ p < p := by omega
        have HV : Hid ((Lit.int .i64 p).wf = true) := HWF.out _ ((AI.out.mem p).2 (Or.inr ⟨by simp, by simp⟩)).1
        have hL3 : L + 1 ≤ 2000 := by
          have e1 := AI2.out.len
          have e2 := HL.out
          have e3 := OW.out.len
          simp only [List.length_append, List.length_cons, List.length_nil] at e1
          omega
        clear AI
        go_wp2
        go_region
        go_wp2
        go_region
        go_upto_region 9 with fail
        refine wp_world (fun W => MineI W w.heap.size ao L co out ∧ Below w.heap.size w W ∧ W.cell? ⟨b1, o1, none⟩ = some (.int .i64 p)) ⟨OW.out.drew.drew, BW.out.drew.drew, g1⟩ ?_
        rintro u ⟨o9, b9, g9⟩
        have RV := hide ((one_introw u p 3).2 HV.out)
        have OA := hide o9.alloc
        have B9 := hide b9
        clear o9 b9 OW BW g1 g2
        go_wp2_with (at_builtin; refine wpList_append_ints _ rfl _ _ 22 rfl w.heap.size 3 i0 Try.underlying22 hi hz0 hz1 hz2 ao L co _ rfl (OA.out _) (some ⟨u.heap.size, 0, none⟩) 1 1 [p] rfl RV.out (fun h => by cases h) (by omega) (Nat.le_trans B9.out.size (by simp)) ?_)
        intro a3 c3 w3 o3 b3 _
        have O3 := hide o3
        have B3 := hide ((bel_al B9.out (Nat.le_refl _) _).trans b3)
        clear o3 b3 OA RV B9 g9
        go_wp2
        go_region
        go_wp2
        go_roundw
        case rel => exact ⟨at', k, ct, as', j, cs, a3, L + 1, c3, t, s, out ++ [p], rfl, rfl, rfl, hL3, ST, SS, AI2, O3.out.drew, B3.out.drew⟩
        case measure => simp [lenV]; omega
      · have AI2 := hide (AI.out.right hpq)
        have h1 : ¬ p < q := by omega
        clear AI
        go_wp2
        go_region
        go_wp2
        go_region
        go_wp2
        go_roundw
        case rel => exact ⟨_, _, _, as', j, cs, ao, L, co, p :: t, s, out, rfl, rfl, rfl, hL, SX, SS, AI2, OW.out.drew.drew, BW.out.drew.drew⟩
        case measure => simp [lenV]
  · have h1 : allUp [xs, ys] = false := by
      rw [Bool.eq_false_iff]
      intro e
      exact hup ⟨allUp_iff.1 e xs (by simp), allUp_iff.1 e ys (by simp)⟩
    rw [h1] at RI
    have HE : Hid ([] = ans) := by rw [← HA.out]; exact (most_none _ _ (fun h => hup ⟨h xs (by simp), h ys (by simp)⟩)).symm
    clear hup h1
    go_enter Try.func14, Try.ntmps14
    go_wp2_with fail
    go_step3
    go_wp2_with fail
    rw [hW1.out]
    with_reducible refine RI.out.mono ?_
    rintro e u1 ⟨rfl, b1⟩
    have B2 := hide (bel_to B1.out (Nat.le_refl _) b1)
    have TI := hide (tell_iter none 0 0 [] u1 (sli_nil _) (by omega))
    clear b1 RI hW1
    go_wp2_with fail
    with_reducible refine TI.out.mono ?_
    intro e u3 h3
    have I3 := hide (h3.from' B2.out)
    clear h3 TI
    obtain ⟨F, rfl, -, -⟩ := I3.out
    go_wp2
    go_ret
    rw [← HE.out]
    exact I3.out
end Go.Proofs.Ythmcliapdnbdjaa
