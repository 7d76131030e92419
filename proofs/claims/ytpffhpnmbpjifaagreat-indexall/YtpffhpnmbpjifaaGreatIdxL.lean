/-
  The laws' own 'laid' (an index and the document's, of any sets) and the document's example, over what is asked: contracts, for every world.
  Conditions: the index does what is asked.
-/
import Derived.Test.YtpffhpnmbpjifaaGreatIdxI
import Derived.Test.YtpffhpnmbpjifaaGreatLabZb
namespace Go.Proofs.YtpffhpnmbpjifaaGreat
open Go.RowKit
set_option maxRecDepth 20000

/-- What laid tells. -/
def LaidP (At : World → Nat → (Nat → Prop) → Lx → Prop) (L : Lx) (w : World) (e : Ending) (w' : World) : Prop :=
  ∃ g1 g2, e = .returned (.tuple #[.pointer (some ⟨g1, 0, none⟩), .pointer (some ⟨g2, 0, none⟩), .bool true]) ∧ TwoX At w.heap.size w' g1 g2 L L ∧ Below w.heap.size w w'
set_option maxHeartbeats 4000000 in
theorem laid_of {At : World → Nat → (Nat → Prop) → Lx → Prop} (I : IxI At) (a : Option Addr) (n c : Nat) (sets : Lx) (w : World) (hs : RowLL w a n sets) :
    Calls Tryz.prog 5 #[.slice a n c] w fun e w' => LaidP At (laidX (sets.take 60)) w e w' := by
  have HI := hide I
  have HS := hide hs
  have HL := hide hs.1
  have hn := hs.2.1
  have NW := hide (I.new w)
  clear I hs
  go_enter Tryz.func5, Tryz.ntmps5
  go_wp2_with fail
  with_reducible refine NW.out.mono ?_
  rintro e u1 ⟨g1, rfl, S1, h1, h2, h3⟩
  obtain ⟨u2, hu2⟩ : ∃ u2, Hid (u1.alloc (.cells #[.slice none 0 0] 41) = u2) := ⟨_, rfl⟩
  have B2 : Hid (Below u1.heap.size u1 u2) := by rw [← hu2.out]; exact (Below.refl _ _).alloc (Nat.le_refl _) _
  have TW : Hid (TwoX At w.heap.size u2 g1 u1.heap.size [] []) := by
    refine ⟨S1, fun k => k = u1.heap.size, HI.out.below h1 B2.out, by rw [← hu2.out]; exact xat_new u1, h2, fun k hk => by have := h3.size; omega, fun k hk e => ?_⟩
    have := HI.out.lt h1 k hk
    omega
  have BW := hide (bel_to h3 (Nat.le_refl _) B2.out)
  clear h1 h2 h3 NW
  obtain ⟨g2, hg2⟩ : ∃ g2, Hid (u1.heap.size = g2) := ⟨_, rfl⟩
  rw [hg2.out] at TW
  go_upto_region 3 with fail
  rw [hu2.out, hg2.out]
  clear hu2 hg2 B2
  go_wp2
  go_loopw [7] (fun i wr => ∃ k : Nat, k ≤ n ∧ k ≤ 60 ∧ i = .int .i64 k ∧ Hid (TwoX At w.heap.size wr g1 g2 (laidX (sets.take k)) (laidX (sets.take k))) ∧ Hid (Below w.heap.size w wr)) (fun i _ => 60 - (intOf i).toNat)
  case atStart => exact ⟨0, by omega, by omega, rfl, TW, BW⟩
  case round =>
    clear TW BW
    obtain ⟨k, hk, hk60, rfl, TW, BW⟩ := hrel
    obtain ⟨u, rfl⟩ : ∃ u, u = wr := ⟨wr, rfl⟩
    have FIN : Hid (sets.take k = sets.take 60 → ∀ u', Below u.heap.size u u' → LaidP At (laidX (sets.take 60)) w (.returned (.tuple #[.pointer (some ⟨g1, 0, none⟩), .pointer (some ⟨g2, 0, none⟩), .bool true])) u') := fun e u' hu => ⟨g1, g2, rfl, by rw [← e]; exact TwoX.below HI.out TW.out hu, bel_to BW.out (Nat.le_refl _) hu⟩
    have GL := hide (laidX_good (sets.take k))
    by_cases hlt : k < n ∧ k < 60
    · obtain ⟨hlt, hlt6⟩ := hlt
      obtain ⟨b0, o0, a1, n1, c1, x, e, hx, q1, q2⟩ := HS.out.at' hlt
      subst e
      have g1' : u.cell? ⟨b0, o0 + k, none⟩ = some (.slice a1 n1 c1) := by
        rw [BW.out.cell (p := ⟨b0, o0 + k, none⟩) (World.block_lt_of_cell? w _ q1)]
        exact q1
      have ST := hide (laidX_step hx)
      have i1 : (0 : Int) ≤ (k : Int) := by omega
      have i2 : (k : Int) < (n : Int) := by omega
      have i3 : (k : Int) < 60 := by omega
      have HCL : Hid (∀ v, Below w.heap.size w v → v.cell? ⟨b0, o0 + k, none⟩ = some (.slice a1 n1 c1)) := fun v hv => by
        rw [hv.cell (p := ⟨b0, o0 + k, none⟩) (World.block_lt_of_cell? w _ q1)]
        exact q1
      have Q2 := hide q2
      obtain ⟨S1, S2, t1, t2, t3, t4, t5⟩ := TW.out
      have T1 := hide t1
      have T2 := hide t2
      have T3 := hide t3
      have T4 := hide t4
      have T5 := hide t5
      have HBS : Hid (w.heap.size ≤ u.heap.size) := BW.out.size
      have LB := hide (labels_any a1 n1 c1 x u (q2.1.below BW.out (Nat.le_refl _)) q2.2.2)
      have HLK : Hid ((laidX (sets.take k)).length ≤ 4096) := by
        have h1 := GL.out.2
        rw [List.length_take] at h1
        show _ ≤ _
        omega
      clear q1 q2 t1 t2 t3 t4 t5 hx FIN TW
      generalize laidX (sets.take k) = L at *
      go_wp2_with fail
      with_reducible refine LB.out.mono ?_
      rintro e v1 ⟨a2, c2, rfl, ow, b1⟩
      have OW := hide ow
      have B1 := hide b1
      have BW1 := hide (bel_to BW.out (Nat.le_refl _) b1)
      have RL1 : Hid (RowL v1 a2 n1 x) := ow.row (by have := Q2.out.1.2.1; omega) Q2.out.1.2.2.1
      have SEP : Hid (∀ b off, a2 = some ⟨b, off, none⟩ → n1 ≠ 0 → u.heap.size ≤ b ∧ b < v1.heap.size) := fun b off e hz => by
        subst e
        have h1 := row_cells ow (g := b) (by
          rcases ow.2 with ⟨e, _⟩ | ⟨g, cc, cur, e, _⟩
          · cases e
          · simp only [Value.slice.injEq, Option.some.injEq, Addr.mk.injEq, and_true, true_and] at e
            rw [e.1.1, e.1.2]; rfl)
        exact ⟨h1.2, h1.1.lt⟩
      have C1 := hide (HI.out.id g1 S1 L a2 n1 c2 x v1 (HI.out.below T1.out b1) GL.out.1 HLK.out RL1.out ow.capped.1 (fun e => (ow.capped.2 e).2) (fun b off e hz hS => by
        have h1 := (SEP.out b off e hz).1
        have h2 := HI.out.lt T1.out b hS
        omega))
      clear ow b1 LB g1'
      go_wp2_with fail
      with_reducible refine C1.out.mono ?_
      rintro e v2 ⟨rfl, st1⟩
      have ST1 := hide st1
      have X2 := hide (two_mid HI.out T2.out T5.out B1.out st1)
      have K12 : Hid (Ch S1 v1 v2) := by obtain ⟨_, _, _, q⟩ := st1; exact q
      have BW2 : Hid (Below w.heap.size w v2) := BW1.out.trans (K12.out.below BW1.out.size (fun j hj h => by have := T3.out j h; omega))
      have C2 := hide (rid_any g2 S2 L a1 n1 c1 x v2 X2.out (Q2.out.1.below BW2.out (Nat.le_refl _)) HLK.out)
      have g2' := HCL.out v2 BW2.out
      clear st1 C1
      go_wp2_with fail
      with_reducible refine C2.out.mono ?_
      rintro e v3 ⟨rfl, st2⟩
      have ST2 := hide st2
      have K23 : Hid (Ch S2 v2 v3) := by obtain ⟨_, _, _, q⟩ := st2; exact q
      have BW3 : Hid (Below w.heap.size w v3) := BW2.out.trans (K23.out.below BW2.out.size (fun j hj h => by have := T4.out j h; omega))
      have g3' := HCL.out v3 BW3.out
      have NS1 : Hid (∀ b off, a2 = some ⟨b, off, none⟩ → n1 ≠ 0 → ¬ S1 b ∧ ¬ S2 b) := fun b off e hz => by
        have h1 := (SEP.out b off e hz).1
        refine ⟨fun h => ?_, fun h => ?_⟩
        · have := HI.out.lt T1.out b h
          omega
        · have := T2.out.lt b h
          omega
      have RL3 := hide ((RL1.out.keep K12.out (fun b off e hz => (NS1.out b off e hz).1)).keep K23.out (fun b off e hz => (NS1.out b off e hz).2))
      have SM := hide (samelabs_any a2 n1 c2 x a1 n1 c1 x v3 RL3.out (Q2.out.1.below BW3.out (Nat.le_refl _)))
      clear st2 C2 g2'
      rw [decide_eq_true rfl] at SM
      have hn1 : n1 ≤ 4398046511104 := by have : n1 * 32 ≤ 140737488355328 := Q2.out.1.2.1; omega
      have ROUND : Hid (∀ (T : Nat → Prop) v5, Ch T v3 v5 → (∀ j, T j → u.heap.size ≤ j ∧ j < v1.heap.size) → TwoX At w.heap.size v5 g1 g2 (idL L x) (idL L x) ∧ Below w.heap.size u v5) := fun T v5 k5 hT =>
        two_round HI.out T1.out T2.out T3.out T4.out T5.out HBS.out B1.out ST1.out ST2.out k5 hT
      have BK : Hid (n1 = 0 ∨ ∃ b, a2 = some ⟨b, 0, none⟩ ∧ u.heap.size ≤ b ∧ b < v1.heap.size ∧ Blk v3 b (n1 * 2)) := by
        rcases id OW.out.2 with ⟨_, h⟩ | ⟨b, cc, cur, e, _⟩
        · exact Or.inl h
        · by_cases hz : n1 = 0
          · exact Or.inl hz
          · have e2 : a2 = some ⟨b, 0, none⟩ := by
              simp only [Value.slice.injEq] at e
              exact e.1
            have h1 := SEP.out b 0 e2 hz
            have h2 := NS1.out b 0 e2 hz
            rcases Blk.of OW.out with h3 | ⟨b', off', e3, -, h4⟩
            · exact absurd h3 hz
            · rw [e2] at e3
              simp only [Option.some.injEq, Addr.mk.injEq, and_true] at e3
              obtain ⟨rfl, rfl⟩ := e3
              rw [Nat.zero_add] at h4
              exact Or.inr ⟨b, e2, h1.1, h1.2, (h4.ch K12.out h2.1).ch K23.out h2.2⟩
      have hpp : (idN L x != idN L x) = false := by simp
      have hqq : (idE L x != idE L x) = false := by simp
      rw [← ST.out] at ROUND
      generalize idN L x = pn at *
      generalize idE L x = pe at *
      clear ST1 ST2 RL1 RL3 SEP NS1 X2 OW K12 K23 BW1 BW2 T1 T2 T3 T4 T5 B1 GL HLK ST Q2 HCL
      go_wp2_with fail
      with_reducible refine SM.out.mono ?_
      rintro e v4 ⟨rfl, q⟩
      have K34 : Hid (Ch (fun _ => False) v3 v4) := Ch.of_below (drewB q)
      clear q SM g3'
      go_wp2
      go_loopw [13] (fun i wr => ∃ j : Nat, j ≤ n1 ∧ i = .int .i64 j ∧ Hid (∃ T, Ch T v3 wr ∧ ∀ j, T j → u.heap.size ≤ j ∧ j < v1.heap.size) ∧ Hid (n1 = 0 ∨ ∃ b, a2 = some ⟨b, 0, none⟩ ∧ u.heap.size ≤ b ∧ b < v1.heap.size ∧ Blk wr b (n1 * 2))) (fun i _ => n1 - (intOf i).toNat)
      case atStart =>
        refine ⟨0, by omega, rfl, ⟨_, K34.out, fun _ h => h.elim⟩, ?_⟩
        rcases BK.out with h | ⟨b, h1, h2, h3, h4⟩
        · exact Or.inl h
        · exact Or.inr ⟨b, h1, h2, h3, h4.ch K34.out id⟩
      case round =>
        clear BK K34
        obtain ⟨j, hj, rfl, HT, HBK⟩ := hrel
        by_cases hjt : j < n1
        · rcases HBK.out with h | ⟨b, rfl, hb1, hb2, hbk⟩
          · omega
          obtain ⟨T, k5, hT⟩ := HT.out
          obtain ⟨x0, c0⟩ := hbk.cell (i := j * 2) (by omega)
          obtain ⟨x1, c1⟩ := hbk.cell (i := j * 2 + 1) (by omega)
          have f0 := hbk.fz (j * 2)
          have f1 := hbk.fz (j * 2 + 1)
          have j1 : (0 : Int) ≤ (j : Int) := by omega
          have j2 : (j : Int) < (n1 : Int) := by omega
          have HT2 : Hid (∃ T, Ch T v3 ((wr.setCell ⟨b, j * 2, none⟩ (.string ⟨#[]⟩)).setCell ⟨b, j * 2 + 1, none⟩ (.string ⟨#[]⟩)) ∧ ∀ j, T j → u.heap.size ≤ j ∧ j < v1.heap.size) :=
            ⟨fun k => T k ∨ k = b, (k5.more (fun _ _ h => Or.inl h)).trans (((ch_set wr b (j * 2) _).trans (ch_set _ b (j * 2 + 1) _)).more (fun _ _ h => Or.inr h)), fun k hk => by
              rcases hk with h | h
              · exact hT k h
              · rw [h]; exact ⟨hb1, hb2⟩⟩
          have HB2 : Hid (n1 = 0 ∨ ∃ b', some (⟨b, 0, none⟩ : Addr) = some ⟨b', 0, none⟩ ∧ u.heap.size ≤ b' ∧ b' < v1.heap.size ∧ Blk ((wr.setCell ⟨b, j * 2, none⟩ (.string ⟨#[]⟩)).setCell ⟨b, j * 2 + 1, none⟩ (.string ⟨#[]⟩)) b' (n1 * 2)) :=
            Or.inr ⟨b, rfl, hb1, hb2, (hbk.set b (j * 2) _).set b (j * 2 + 1) _⟩
          obtain ⟨x2, c2⟩ := (hbk.set b (j * 2) (.string ⟨#[]⟩)).cell (i := j * 2 + 1) (by omega)
          clear k5 hT HT HBK hbk
          go_wp2
          go_roundw
          case rel => exact ⟨j + 1, by omega, by go_num, HT2, HB2⟩
          case measure => simp [intOf]; omega
        · have j2 : ¬ (j : Int) < (n1 : Int) := by omega
          obtain ⟨T, k5, hT⟩ := HT.out
          obtain ⟨tw, bw⟩ := ROUND.out T _ k5 hT
          have TW := hide tw
          have BWN := hide (BW.out.trans (bw.mono (Nat.le_refl _)))
          clear tw bw k5 hT HT HBK ROUND
          go_wp2
          go_roundw
          case rel => exact ⟨k + 1, by omega, by omega, by go_num, TW, BWN⟩
          case measure => simp [intOf]; omega
    · have hend : ¬ ((k : Int) < (n : Int)) ∨ (((k : Int) < (n : Int)) ∧ ¬ ((k : Int) < 60)) := by omega
      have HF : Hid (∀ u', Below u.heap.size u u' → LaidP At (laidX (sets.take 60)) w (.returned (.tuple #[.pointer (some ⟨g1, 0, none⟩), .pointer (some ⟨g2, 0, none⟩), .bool true])) u') := FIN.out (by
        rw [List.take_eq_take_iff, HL.out]
        omega)
      obtain ⟨S1, S2, t1, t2, t3, t4, t5⟩ := TW.out
      obtain ⟨ax, cx, hc2, -, -⟩ := t2.open'
      have LN0 := fun v (hv : Below u.heap.size u v) => HI.out.len g1 S1 _ v (HI.out.below t1 hv)
      obtain ⟨m, hm⟩ : ∃ m, (laidX (sets.take k)).length = m := ⟨_, rfl⟩
      rw [hm] at LN0 hc2
      have LN := hide (fun v (hv : v.cell? ⟨g2, 0, none⟩ = some (.slice ax m cx) ∧ Hid (Below u.heap.size u v)) => LN0 v hv.2.out)
      clear LN0
      have HC2 := hide (World.block_lt_of_cell? u _ hc2)
      clear t1 t2 t3 t4 t5 TW FIN GL hm hlt
      have S0 : Hid (u.drew.cell? ⟨g2, 0, none⟩ = some (.slice ax m cx) ∧ Hid (Below u.heap.size u u.drew)) := ⟨hc2, (Below.refl _ _).drew⟩
      have KP : Hid (∀ v v', Below v.heap.size v v' → (v.cell? ⟨g2, 0, none⟩ = some (.slice ax m cx) ∧ Hid (Below u.heap.size u v)) → (v'.cell? ⟨g2, 0, none⟩ = some (.slice ax m cx) ∧ Hid (Below u.heap.size u v'))) := fun v v' hb h => by
        obtain ⟨h1, h2⟩ := h
        refine ⟨?_, bel_to h2.out (Nat.le_refl _) hb⟩
        rw [hb.cell (p := ⟨g2, 0, none⟩) (World.block_lt_of_cell? v _ h1)]
        exact h1
      rcases hend with hend | ⟨hend1, hend⟩
      · go_upto_region 17 with fail
        go_region_held3 (fun w' => w'.cell? ⟨g2, 0, none⟩ = some (.slice ax m cx) ∧ Hid (Below u.heap.size u w')) (first | with_reducible exact S0.out | with_reducible exact KP.out _ _ (by assumption) (by assumption)) (first
          | (go_at_call 20; (with_reducible refine (LN.out _ (by assumption)).mono ?_); rintro e v2 ⟨rfl, bv2⟩))
        rename_i hh
        have F2 := hide (HF.out _ hh.2.out)
        clear hh S0 KP
        go_wp2
        refine bodyPost_ret (v := .tuple #[.pointer (some ⟨g1, 0, none⟩), .pointer (some ⟨g2, 0, none⟩), .bool true]) (by simp [results, Tryz.results5, go_sem]) rfl ?_
        exact F2.out
      · go_upto_region 17 with fail
        go_region_held3 (fun w' => w'.cell? ⟨g2, 0, none⟩ = some (.slice ax m cx) ∧ Hid (Below u.heap.size u w')) (first | with_reducible exact S0.out | with_reducible exact KP.out _ _ (by assumption) (by assumption)) (first
          | (go_at_call 20; (with_reducible refine (LN.out _ (by assumption)).mono ?_); rintro e v2 ⟨rfl, bv2⟩))
        rename_i hh
        have F2 := hide (HF.out _ hh.2.out)
        clear hh S0 KP
        go_wp2
        refine bodyPost_ret (v := .tuple #[.pointer (some ⟨g1, 0, none⟩), .pointer (some ⟨g2, 0, none⟩), .bool true]) (by simp [results, Tryz.results5, go_sem]) rfl ?_
        exact F2.out
end Go.Proofs.YtpffhpnmbpjifaaGreat
