/-
  Statement IndexOnce over what is asked: a set has one number for ever: a contract, for every world.
  Conditions: the index does what is asked.
-/
import Derived.Test.YtpffhpnmbpjifaaIdxA
import Derived.Test.YtpffhpnmbpjifaaPlace
import Derived.BigQuiet
import Derived.Deep.QuietTactic
namespace Go.Proofs.Ytpffhpnmbpjifaa
open Go.RowKit
set_option maxRecDepth 20000

theorem mod_place {x : Int} {m : Nat} (hm : 0 < m) : ∃ j : Nat, x % (m : Int) = (j : Int) ∧ j < m := by
  have h1 := Int.emod_nonneg x (show (m : Int) ≠ 0 by omega)
  have h2 := Int.emod_lt_of_pos x (show (0 : Int) < (m : Int) by omega)
  exact ⟨(x % (m : Int)).toNat, by omega, by omega⟩
theorem tmod_1000 (t : Int) : -999 ≤ t.tmod 1000 ∧ t.tmod 1000 ≤ 999 := by
  have h1 := Int.tmod_lt_of_pos t (show (0 : Int) < 1000 by decide)
  have h2 := Int.lt_tmod_of_pos t (show (0 : Int) < 1000 by decide)
  omega

set_option maxHeartbeats 8000000 in
theorem once_of {At : World → Nat → (Nat → Prop) → Lx → Prop} (I : IxI At) (IF : IxF At) (a : Option Addr) (n c : Nat) (sets : Lx) (turn : Int) (w : World) (hs : RowLL w a n sets) :
    Calls Try.prog 5 #[.slice a n c, .int .i64 turn] w fun e w' => e = .returned (.bool true) ∧ Below w.heap.size w w' := by
  have HI := hide I
  have HIF := hide IF
  have LD := hide (laid_of I a n c sets w hs)
  obtain ⟨L, hLd⟩ : ∃ L, Hid (laidX (sets.take 60) = L) := ⟨_, rfl⟩
  have GL := laidX_good (sets.take 60)
  rw [hLd.out] at LD GL
  have HGL := hide GL.1
  have hL60 : L.length ≤ 60 := by have := GL.2; rw [List.length_take] at this; omega
  obtain ⟨hr0, hr1⟩ := tmod_1000 turn
  clear I IF hs GL hLd
  go_enter Try.func5, Try.ntmps5
  go_wp2_with fail
  with_reducible refine LD.out.mono ?_
  rintro e u1 ⟨g1, g2, rfl, tw, b1⟩
  have TW := hide tw
  have BW := hide b1
  clear tw b1 LD
  obtain ⟨m, hm⟩ : ∃ m, Hid (L.length = m) := ⟨_, rfl⟩
  rw [hm.out] at hL60
  go_wp2
  go_loopw [8] (fun i wr => ∃ k : Nat, k ≤ m ∧ i = .int .i64 k ∧ Hid (TwoX At w.heap.size wr g1 g2 L L) ∧ Hid (Below w.heap.size w wr)) (fun i _ => m - (intOf i).toNat)
  case atStart => exact ⟨0, by omega, rfl, TW, BW⟩
  case round =>
    clear TW BW
    obtain ⟨k, hk, rfl, TW, BW⟩ := hrel
    obtain ⟨u, rfl⟩ : ∃ u, u = wr := ⟨wr, rfl⟩
    obtain ⟨S1, S2, t1, t2, t3, t4, t5⟩ := TW.out
    obtain ⟨ax, cx, hc2, hat⟩ := t2.open2
    rw [hm.out] at hc2 hat
    by_cases hlt : k < m
    · obtain ⟨j, hj, hjm⟩ := mod_place (x := (k : Int) + turn.tmod 1000) (m := m) (by omega)
      obtain ⟨b, a1, n1, c1, l, e, hx, q1, q2, q3⟩ := hat j hjm
      subst e
      have PL := hide (fun v => place_any ((k : Int) + turn.tmod 1000) (m : Int) (by omega) (by omega) v)
      rw [hj] at PL
      have i1 : (0 : Int) ≤ (j : Int) := by omega
      have i2 : (j : Int) < (m : Int) := by omega
      have i3 : (k : Int) < (m : Int) := by omega
      have T1 := hide t1
      have T2 := hide t2
      have T3 := hide t3
      have T4 := hide t4
      have T5 := hide t5
      have Q2 := hide q2
      have Q3 := hide q3
      have HX := hide hx
      have HBS : Hid (w.heap.size ≤ u.heap.size) := BW.out.size
      clear t1 t2 t3 t4 t5 q2 q3 hx hat hj TW
      go_upto_region 7 with fail
      have hwr : IntKind.i64.wrap ((k : Int) + turn.tmod 1000) = (k : Int) + turn.tmod 1000 := by rw [IntKind.wrap_i64]; omega
      have hwr2 : IntKind.i64.wrap (turn.tmod 1000) = turn.tmod 1000 := by rw [IntKind.wrap_i64]; omega
      go_quiet (first | (go_at_call 20; exact Calls.quiet_of_same (PL.out _)))
      go_upto_region 8 with fail
      refine wp_world (fun W => Below u.heap.size u W) (bel_drewN (Below.refl _ _) _) ?_
      intro v0 bv0
      have BW0 := hide (bel_to BW.out (Nat.le_refl _) bv0)
      have A1 := hide (HI.out.below T1.out bv0)
      have A2 := hide (T2.out.below bv0)
      have HB0 : Hid (w.heap.size ≤ v0.heap.size) := BW0.out.size
      have R0 := hide (Q2.out.1.below bv0 (Nat.le_refl _))
      have HN32 : Hid (n1 * 32 ≤ 140737488355328) := Q2.out.1.2.1
      have HLW : Hid (∀ x ∈ l, LbW x) := Q2.out.1.2.2.1
      have HCN : Hid (a1 = none → c1 = 0) := Q2.out.2.2
      have NS : Hid (∀ b off, a1 = some ⟨b, off, none⟩ → n1 ≠ 0 → ¬ S1 b) := fun b off e hz h => T5.out b h (Q3.out b off e hz)
      have HC : Hid (chkL l = true) := HGL.out l (List.mem_of_getElem? HX.out)
      obtain ⟨kk, hkk⟩ := findX_mem (List.mem_of_getElem? HX.out)
      obtain ⟨e1, e2, e3⟩ := id_has HC.out hkk
      have LB := hide (labels_any a1 n1 c1 l v0 R0.out HCN.out)
      have E1 := hide e1
      have E2 := hide e2
      have E3 := hide e3
      have EF : Hid (findN L l = (kk : Int)) := by show _ = _; unfold findN; rw [hkk]
      have EG : Hid ((findX L l).isSome = true) := by show _ = _; rw [hkk]; rfl
      have EA : Hid (atX L (kk : Int) = some l) := by show _ = _; unfold atX; rw [if_pos (by omega), Int.toNat_natCast]; exact findX_some hkk
      have hk60 : kk ≤ 60 := by have := findX_lt hkk; have h2 := hm.out; omega
      clear bv0 T1 T2 Q2 Q3 HX BW HBS hc2 q1 hkk e1 e2 e3 PL hwr hwr2
      go_wp2_with fail
      with_reducible refine LB.out.mono ?_
      rintro e v1 ⟨a2, c2, rfl, ow, bb1⟩
      have B1 := hide bb1
      have C1 := hide (HI.out.id g1 S1 L a2 n1 c2 l v1 (HI.out.below A1.out bb1) HGL.out (by have := hm.out; omega) (ow.row HN32.out HLW.out) ow.capped.1 (fun e => (ow.capped.2 e).2) (fun b off e hz hS => by
        subst e
        have h1 := ow.block b (by
          rcases ow.2 with ⟨e, _⟩ | ⟨g, cc, cur, e, _⟩
          · cases e
          · simp only [Value.slice.injEq, Option.some.injEq, Addr.mk.injEq, and_true, true_and] at e
            rw [e.1.1, e.1.2]; rfl)
        have h2 := HI.out.lt A1.out b hS
        omega))
      rw [E1.out, E2.out, E3.out] at C1
      clear ow bb1 LB
      go_wp2_with fail
      with_reducible refine C1.out.mono ?_
      rintro e v2 ⟨rfl, st1⟩
      have ST1 := hide st1
      have X2 := hide (two_mid HI.out A2.out T5.out B1.out st1)
      obtain ⟨S1', z1, z2, z3⟩ := st1
      have R2 := hide ((R0.out.below B1.out (Nat.le_refl _)).keep z3 NS.out)
      have Z1 := hide z1
      have LB := hide (labels_any a1 n1 c1 l v2 R2.out HCN.out)
      clear z1 z2 z3 C1
      go_wp2_with fail
      with_reducible refine LB.out.mono ?_
      rintro e v3 ⟨a4, c4, rfl, ow, bb3⟩
      have B3 := hide bb3
      have FN := hide (HIF.out.find g1 S1' L a4 n1 c4 l v3 (HI.out.below Z1.out bb3) (ow.row HN32.out HLW.out) ow.capped.1 (fun e => (ow.capped.2 e).2))
      clear ow bb3 LB
      go_wp2_with fail
      with_reducible refine FN.out.mono ?_
      rintro e v4 ⟨fx, fb, rfl, hfx, bb4⟩
      obtain ⟨rfl, rfl⟩ := hfx HC.out
      rw [EF.out, EG.out]
      have B4 := hide (bel_to B3.out (Nat.le_refl _) bb4)
      have LA := hide (HI.out.labels g1 S1' L (kk : Int) v4 (HI.out.below Z1.out B4.out) (by simp [Lit.wf, IntKind.min, IntKind.max, IntKind.signed, IntKind.bits]; omega))
      rw [EA.out] at LA
      clear hfx bb4 FN B3
      go_wp2_with fail
      with_reducible refine LA.out.mono ?_
      rintro e v5 ⟨bb5, a6, c6, rfl, ow6⟩
      have B5 := hide (bel_to B4.out (Nat.le_refl _) bb5)
      obtain ⟨ln, hln⟩ : ∃ ln, Hid (l.length = ln) := ⟨_, rfl⟩
      have hl32 : ln * 32 ≤ 140737488355328 := by have h1 := R0.out.1; have h2 := HN32.out; have h3 := hln.out; omega
      rw [hln.out] at ow6
      have SM := hide (samelabs_any a6 ln c6 l a1 n1 c1 l v5 (ow6.row hl32 HLW.out) (R2.out.below B5.out (Nat.le_refl _)))
      rw [decide_eq_true rfl] at SM
      rw [hln.out]
      have ROUND : Hid (∀ v6, Below v5.heap.size v5 v6 → TwoX At w.heap.size v6 g1 g2 L L ∧ Below w.heap.size v0 v6) := fun v6 hv6 =>
        two_round HI.out A1.out A2.out T3.out T4.out T5.out HB0.out B1.out ST1.out (stepX_below X2.out (bel_to B5.out (Nat.le_refl _) hv6)) (Ch.refl (fun _ => False) v6) (fun _ h => h.elim)
      clear bb5 ow6 LA Z1 A1 A2 T3 T4 T5 B1 ST1 X2 R0 R2 B4 B5 NS E1 E2 E3 EF EG EA
      go_wp2_with fail
      with_reducible refine SM.out.mono ?_
      rintro e v6 ⟨rfl, q⟩
      obtain ⟨tw, bw⟩ := ROUND.out v6 (drewB q)
      have TW := hide tw
      have BWN := hide (BW0.out.trans bw)
      clear q tw bw SM ROUND BW0
      go_wp2
      go_roundw
      case rel => exact ⟨k + 1, by omega, by go_num, TW, BWN⟩
      case measure => simp [intOf]; omega
    · have i2 : ¬ (k : Int) < (m : Int) := by omega
      have AW := hide (fun v => awakeX_of HI.out v)
      have LN := hide (fun v (hv : v.cell? ⟨g2, 0, none⟩ = some (.slice ax m cx) ∧ Hid (Below u.heap.size u v)) => HI.out.len g1 S1 L v (HI.out.below t1 hv.2.out))
      rw [hm.out] at LN
      have S0 : Hid (u.drew.cell? ⟨g2, 0, none⟩ = some (.slice ax m cx) ∧ Hid (Below u.heap.size u u.drew)) := ⟨hc2, (Below.refl _ _).drew⟩
      have KP : Hid (∀ v v', Below v.heap.size v v' → (v.cell? ⟨g2, 0, none⟩ = some (.slice ax m cx) ∧ Hid (Below u.heap.size u v)) → (v'.cell? ⟨g2, 0, none⟩ = some (.slice ax m cx) ∧ Hid (Below u.heap.size u v'))) := fun v v' hb h => by
        obtain ⟨h1, h2⟩ := h
        refine ⟨?_, bel_to h2.out (Nat.le_refl _) hb⟩
        rw [hb.cell (p := ⟨g2, 0, none⟩) (World.block_lt_of_cell? v _ h1)]
        exact h1
      clear t1 t2 t3 t4 t5 hat TW hlt
      go_upto_region 13 with fail
      go_region_held3 (fun w' => w'.cell? ⟨g2, 0, none⟩ = some (.slice ax m cx) ∧ Hid (Below u.heap.size u w')) (first | with_reducible exact S0.out | with_reducible exact KP.out _ _ (by assumption) (by assumption)) (first
        | (go_at_call 23; (with_reducible refine (LN.out _ (by assumption)).mono ?_); rintro e v2 ⟨rfl, bv2⟩)
        | (go_at_call 17; (with_reducible refine (AW.out _).mono ?_); rintro e v3 ⟨rfl, bv3⟩))
      rename_i hh
      have F2 := hide (bel_to BW.out (Nat.le_refl _) hh.2.out)
      clear hh S0 KP
      go_wp2
      go_ret
      exact ⟨rfl, F2.out⟩
end Go.Proofs.Ytpffhpnmbpjifaa
