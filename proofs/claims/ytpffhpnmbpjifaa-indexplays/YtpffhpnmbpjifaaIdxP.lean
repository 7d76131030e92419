/-
  Statement IndexPlays over what is asked: sets' numbers, there and back; who has any value: a contract, for every world.
  Conditions: the index does what is asked.
-/
import Derived.Test.YtpffhpnmbpjifaaIdxA
import Derived.BigQuiet
import Derived.Deep.QuietTactic
import Derived.Deep.DeepCutAuto
import Derived.Deep.CutBlock
namespace Go.Proofs.Ytpffhpnmbpjifaa
open Go.RowKit
set_option maxRecDepth 20000

theorem post_wf {L : Lx} {nm v : ByteArray} (hL : L.length ≤ 5000) : ∀ z ∈ postX L nm v, (Lit.int .i64 z).wf = true := idx_wf hL
theorem atX_end (L : Lx) : atX L (L.length : Int) = none := by
  unfold atX
  rw [if_pos (by omega), Int.toNat_natCast]
  exact List.getElem?_eq_none (Nat.le_refl _)
theorem atX_at {L : Lx} {k : Nat} {l : List Lb} (h : L[k]? = some l) : atX L (k : Int) = some l := by
  unfold atX
  rw [if_pos (by omega), Int.toNat_natCast]
  exact h
theorem atX_neg (L : Lx) {i : Int} (h : i < 0) : atX L i = none := by
  unfold atX
  rw [if_neg (by omega)]

set_option maxHeartbeats 16000000 in
theorem plays_of {At : World → Nat → (Nat → Prop) → Lx → Prop} (I : IxI At) (IF : IxF At) (a : Option Addr) (n c : Nat) (sets : Lx) (aq : Option Addr) (nq cq : Nat) (ask : List Lb) (id : Int) (w : World) (hs : RowLL w a n sets) (hk : RowL w aq nq ask) (hkc : aq = none → cq = 0) (hid : (Lit.int .i64 id).wf = true) :
    Calls Try.prog 3 #[.slice a n c, .slice aq nq cq, .int .i64 id] w fun e w' => e = .returned (.bool true) ∧ Below w.heap.size w w' := by
  have HI := hide I
  have HIF := hide IF
  have LD := hide (laid_of I a n c sets w hs)
  obtain ⟨L, hLd⟩ : ∃ L, Hid (laidX (sets.take 60) = L) := ⟨_, rfl⟩
  have GL := laidX_good (sets.take 60)
  rw [hLd.out] at LD GL
  have hL60 : L.length ≤ 60 := by have := GL.2; rw [List.length_take] at this; omega
  have HK := hide hk
  have HKL := hide hk.1
  have hnq := hk.2.1
  have HKW := hide hk.2.2.1
  have HKC := hide hkc
  clear I IF hs GL hLd hk hkc
  go_enter Try.func3, Try.ntmps3
  go_wp2_with fail
  with_reducible refine LD.out.mono ?_
  rintro e u1 ⟨g1, g2, rfl, ⟨S1, S2, t1, t2, -, -, -⟩, b1⟩
  obtain ⟨m, hm⟩ : ∃ m, Hid (L.length = m) := ⟨_, rfl⟩
  have HL6 : Hid (L.length ≤ 5000) := by show _ ≤ _; omega
  rw [hm.out] at hL60
  have A1 := hide (fun v (hv : Below u1.heap.size u1 v) => HI.out.below t1 hv)
  have A2 := hide (fun v (hv : Below u1.heap.size u1 v) => t2.below hv)
  have BW := hide b1
  have RK := hide (fun v (hv : Below u1.heap.size u1 v) => HK.out.below (bel_to b1 (Nat.le_refl _) hv) (Nat.le_refl _))
  have LB := hide (labels_any aq nq cq ask u1 (RK.out u1 (Below.refl _ _)) HKC.out)
  clear t1 t2 b1 LD
  go_wp2_with fail
  with_reducible refine LB.out.mono ?_
  rintro e v1 ⟨a2, c2, rfl, ow, bb1⟩
  have B1 := hide bb1
  have FN := hide (HIF.out.find g1 S1 L a2 nq c2 ask v1 (A1.out v1 bb1) (ow.row hnq HKW.out) ow.capped.1 (fun e => (ow.capped.2 e).2))
  clear ow bb1 LB
  go_wp2_with fail
  with_reducible refine FN.out.mono ?_
  rintro e v2 ⟨fx, fb, rfl, hfx, bb2⟩
  have B2 := hide (bel_to B1.out (Nat.le_refl _) bb2)
  have RF := hide (rfind_any g2 S2 L aq nq cq ask v2 (A2.out v2 B2.out) (RK.out v2 B2.out) HL6.out)
  have HFX := hide hfx
  clear hfx bb2 FN B1
  go_wp2_with fail
  with_reducible refine RF.out.mono ?_
  rintro e v3 ⟨rfl, bb3⟩
  have B3 := hide (bel_to B2.out (Nat.le_refl _) bb3)
  have CK := hide (refchkl_any aq nq cq ask v3 (RK.out v3 B3.out))
  obtain ⟨fn, hfn⟩ : ∃ fn, Hid (findN L ask = fn) := ⟨_, rfl⟩
  obtain ⟨fs, hfs⟩ : ∃ fs, Hid ((findX L ask).isSome = fs) := ⟨_, rfl⟩
  obtain ⟨ck, hck⟩ : ∃ ck, Hid (chkL ask = ck) := ⟨_, rfl⟩
  rw [hfn.out, hfs.out]
  rw [hck.out] at CK
  rw [hfn.out, hfs.out, hck.out] at HFX
  have DEC : Hid (ck = true → (fx != fn) = false ∧ Hid (fb = fs)) := fun h => by
    obtain ⟨h1, h2⟩ := HFX.out h
    rw [h1]
    exact ⟨by simp, h2⟩
  clear bb3 RF B2 hfn hfs hck HFX
  go_upto_region 6 with fail
  go_cut [52] (fun v wx => v = .bool false ∧ Hid (Below u1.heap.size u1 wx))
  case first =>
    go_wp2_with fail
    with_reducible refine CK.out.mono ?_
    rintro e v4 ⟨rfl, q⟩
    have B4 := hide (bel_to B3.out (Nat.le_refl _) (drewB q))
    clear q CK B3
    cases ck with
    | true =>
      obtain ⟨d1, d2⟩ := DEC.out rfl
      go_wp2
      go_meet
      case rel => exact ⟨by rw [d2.out]; simp, B4⟩
    | false =>
      go_wp2
      go_meet
      case rel => exact ⟨rfl, B4⟩
  case rest =>
    obtain ⟨rfl, B4⟩ := hcut
    clear CK B3 DEC
    go_wp2
    go_loopw [14] (fun i wr => ∃ k : Nat, k ≤ m + 1 ∧ i = .int .i64 k ∧ Hid (Below u1.heap.size u1 wr)) (fun i _ => m + 1 - (intOf i).toNat)
    case atStart => exact ⟨0, by omega, rfl, B4⟩
    case round =>
      clear B4
      obtain ⟨k, hk, rfl, BU⟩ := hrel
      obtain ⟨u, rfl⟩ : ∃ u, u = wr := ⟨wr, rfl⟩
      obtain ⟨ax, cx, hc2, hat⟩ := (A2.out u BU.out).open2
      rw [hm.out] at hc2 hat
      by_cases hlt : k ≤ m
      · have i0 : (k : Int) ≤ (m : Int) := by omega
        have LA := hide (HI.out.labels g1 S1 L (k : Int) u (A1.out u BU.out) (by simp [Lit.wf, IntKind.min, IntKind.max, IntKind.signed, IntKind.bits]; omega))
        by_cases hlt2 : k < m
        · obtain ⟨b, a1, n1, c1, l, e, hx, q1, q2, -⟩ := hat k hlt2
          subst e
          rw [atX_at hx] at LA
          have i1 : (0 : Int) ≤ (k : Int) := by omega
          have i2 : (k : Int) < (m : Int) := by omega
          have Q1 := hide q1
          have Q2 := hide q2
          have HC2 := hide hc2
          clear q1 q2 hx hat
          go_wp2_with fail
          with_reducible refine LA.out.mono ?_
          rintro e v5 ⟨bb5, a6, c6, rfl, ow6⟩
          have B5 := hide (bel_to BU.out (Nat.le_refl _) bb5)
          have hc5 : v5.cell? ⟨g2, 0, none⟩ = some (.slice (some ⟨b, 0, none⟩) m cx) := by
            rw [bb5.cell (p := ⟨g2, 0, none⟩) (World.block_lt_of_cell? u _ HC2.out)]
            exact HC2.out
          have hq5 : v5.cell? ⟨b, k, none⟩ = some (.slice a1 n1 c1) := by
            rw [bb5.cell (p := ⟨b, k, none⟩) (World.block_lt_of_cell? u _ Q1.out)]
            exact Q1.out
          obtain ⟨ln, hln⟩ : ∃ ln, Hid (l.length = ln) := ⟨_, rfl⟩
          have hl32 : ln * 32 ≤ 140737488355328 := by have h1 : l.length = n1 := Q2.out.len; have h2 : n1 * 32 ≤ 140737488355328 := Q2.out.1.2.1; have h3 := hln.out; omega
          rw [hln.out] at ow6
          have SM := hide (samelabs_any a6 ln c6 l a1 n1 c1 l v5 (ow6.row hl32 Q2.out.1.2.2.1) (Q2.out.1.below bb5 (Nat.le_refl _)))
          rw [decide_eq_true rfl] at SM
          rw [hln.out]
          clear bb5 ow6 LA hc2 Q1 Q2 HC2
          go_wp2_with fail
          with_reducible refine SM.out.mono ?_
          rintro e v6 ⟨rfl, q⟩
          have B6 := hide (bel_to B5.out (Nat.le_refl _) (drewB q))
          clear q SM B5 hc5 hq5
          go_wp2
          go_roundw
          case rel => exact ⟨k + 1, by omega, by go_num, B6⟩
          case measure => simp [intOf]; omega
        · have hkm : k = m := by omega
          have e0 : atX L (k : Int) = none := by rw [hkm, ← hm.out]; exact atX_end L
          rw [e0] at LA
          have i2 : ¬ (k : Int) < (m : Int) := by omega
          have HC2 := hide hc2
          clear hkm e0 hat
          go_wp2_with fail
          with_reducible refine LA.out.mono ?_
          rintro e v5 ⟨bb5, a6, c6, rfl⟩
          have B5 := hide (bel_to BU.out (Nat.le_refl _) bb5)
          have hc5 : v5.cell? ⟨g2, 0, none⟩ = some (.slice ax m cx) := by
            rw [bb5.cell (p := ⟨g2, 0, none⟩) (World.block_lt_of_cell? u _ HC2.out)]
            exact HC2.out
          clear bb5 LA hc2 HC2
          go_wp2
          go_roundw
          case rel => exact ⟨k + 1, by omega, by go_num, B5⟩
          case measure => simp [intOf]; omega
      · have i0 : ¬ (k : Int) ≤ (m : Int) := by omega
        have LA := hide (HI.out.labels g1 S1 L id u (A1.out u BU.out) hid)
        clear hat
        go_upto_region 14 with fail
        go_cut [17, 18] (fun x y wx => ∃ (a6 : Option Addr) (n6 c6 : Nat) (gb : Bool), x = .slice a6 n6 c6 ∧ y = .bool gb ∧ (id < 0 → n6 = 0 ∧ gb = false) ∧ Hid (Below u1.heap.size u1 wx))
        case first =>
          cases ha : atX L id with
          | none =>
            rw [ha] at LA
            go_wp2_with fail
            with_reducible refine LA.out.mono ?_
            rintro e v5 ⟨bb5, a6, c6, rfl⟩
            have B5 := hide (bel_to BU.out (Nat.le_refl _) bb5)
            clear bb5 LA
            go_wp2
            go_meet
            case rel => exact ⟨a6, 0, c6, false, rfl, rfl, fun _ => ⟨rfl, rfl⟩, B5⟩
          | some l =>
            have hpos : ¬ id < 0 := fun h => by rw [atX_neg L h] at ha; cases ha
            rw [ha] at LA
            go_wp2_with fail
            with_reducible refine LA.out.mono ?_
            rintro e v5 ⟨bb5, a6, c6, rfl, -⟩
            have B5 := hide (bel_to BU.out (Nat.le_refl _) bb5)
            clear bb5 LA ha
            go_wp2
            go_meet
            case rel => exact ⟨a6, l.length, c6, true, rfl, rfl, fun h => absurd h (by omega), B5⟩
        case rest =>
          obtain ⟨a6, n6, c6, gb, rfl, rfl, hneg, B5⟩ := hcut
          clear LA
          go_upto_region 15 with fail
          go_cut [107] (fun v wx => v = .bool false ∧ Hid (Below u1.heap.size u1 wx))
          case first =>
            by_cases hn : id < 0
            · obtain ⟨rfl, rfl⟩ := hneg hn
              go_wp2
              go_meet
              case rel => exact ⟨rfl, B5⟩
            · clear hneg
              go_wp2
              go_meet
              case rel => exact ⟨rfl, B5⟩
          case rest =>
            obtain ⟨rfl, B5⟩ := hcut
            clear hneg
            go_wp2
            go_loopw [19] (fun i wr => ∃ k : Nat, k ≤ 20 ∧ k ≤ nq ∧ i = .int .i64 k ∧ Hid (Below u1.heap.size u1 wr)) (fun i _ => 20 - (intOf i).toNat)
            case atStart => exact ⟨0, by omega, by omega, rfl, B5⟩
            case round =>
              clear B5 hc2 BU
              obtain ⟨k2, hk20, hkq, rfl, BU⟩ := hrel
              obtain ⟨v, rfl⟩ : ∃ v, v = wr := ⟨wr, rfl⟩
              by_cases hlt : k2 < nq ∧ k2 < 20
              · obtain ⟨hl1, hl2⟩ := hlt
                obtain ⟨bq, oq, y, e, hy, hyw, hyc⟩ := (RK.out v BU.out).at' hl1
                subst e
                obtain ⟨nm, vv⟩ := y
                have HYC : Hid (∀ W, Below v.heap.size v W → W.cell? ⟨bq, oq + k2 * 2, none⟩ = some (.string nm) ∧ W.cell? ⟨bq, oq + k2 * 2 + 1, none⟩ = some (.string vv)) := hyc
                have j1 : (0 : Int) ≤ (k2 : Int) := by omega
                have j2 : (k2 : Int) < (nq : Int) := by omega
                have j3 : (k2 : Int) < 20 := by omega
                have PX := hide (fun W (hW : (W.cell? ⟨bq, oq + k2 * 2, none⟩ = some (.string nm) ∧ W.cell? ⟨bq, oq + k2 * 2 + 1, none⟩ = some (.string vv)) ∧ Hid (Below v.heap.size v W)) (z : ByteArray) (hz : z.size ≤ 9223372036854775807) => HI.out.post g1 S1 L nm z W (A1.out W (bel_to BU.out (Nat.le_refl _) hW.2.out)) hyw.1 hz)
                have PW := hide (fun W (hW : (W.cell? ⟨bq, oq + k2 * 2, none⟩ = some (.string nm) ∧ W.cell? ⟨bq, oq + k2 * 2 + 1, none⟩ = some (.string vv)) ∧ Hid (Below v.heap.size v W)) (z : ByteArray) => rpost_any g2 S2 L nm z W (A2.out W (bel_to BU.out (Nat.le_refl _) hW.2.out)) HL6.out)
                have HV9 : Hid (vv.size ≤ 9223372036854775807) := hyw.2
                have S0 : Hid ((v.drew.cell? ⟨bq, oq + k2 * 2, none⟩ = some (.string nm) ∧ v.drew.cell? ⟨bq, oq + k2 * 2 + 1, none⟩ = some (.string vv)) ∧ Hid (Below v.heap.size v v.drew)) := ⟨HYC.out _ (Below.refl _ _).drew, (Below.refl _ _).drew⟩
                have KP : Hid (∀ W W', Below W.heap.size W W' → ((W.cell? ⟨bq, oq + k2 * 2, none⟩ = some (.string nm) ∧ W.cell? ⟨bq, oq + k2 * 2 + 1, none⟩ = some (.string vv)) ∧ Hid (Below v.heap.size v W)) → ((W'.cell? ⟨bq, oq + k2 * 2, none⟩ = some (.string nm) ∧ W'.cell? ⟨bq, oq + k2 * 2 + 1, none⟩ = some (.string vv)) ∧ Hid (Below v.heap.size v W'))) := fun W W' hb h =>
                  ⟨HYC.out W' (bel_to h.2.out (Nat.le_refl _) hb), bel_to h.2.out (Nat.le_refl _) hb⟩
                have SMI := hide (fun (W : World) x c1 n1 l1 y d n2 (q1 : SlI W x n1 c1 l1) (q2 : SlI W y n2 d l1) => (samei_any x n1 c1 l1 y n2 d l1 W q1 q2).mono fun e w' (h : e = .returned (.bool (decide (l1 = l1))) ∧ Below W.heap.size W w') => (⟨by rw [h.1, decide_eq_true rfl], h.2⟩ : e = .returned (.bool true) ∧ Below W.heap.size W w'))
                have MSL : Hid (∀ (W : World) base x n1 c1 (z : ByteArray), MineI W base x n1 c1 (postX L nm z) → SlI W x n1 c1 (postX L nm z)) := fun W base x n1 c1 z q => MineI.sl q (by
                  have h1 := q.len
                  have h2 := idxs_len (valP nm z) 0 L
                  have h3 := HL6.out
                  unfold postX at h1
                  omega) (post_wf HL6.out)
                clear hyc hy hyw
                go_upto_region 20 with fail
                go_region_held3 (fun W => (W.cell? ⟨bq, oq + k2 * 2, none⟩ = some (.string nm) ∧ W.cell? ⟨bq, oq + k2 * 2 + 1, none⟩ = some (.string vv)) ∧ Hid (Below v.heap.size v W)) (first | with_reducible exact S0.out | with_reducible exact KP.out _ _ (by assumption) (by assumption)) (first
                  | (go_at_call 15; (with_reducible refine (PX.out _ (by assumption) vv HV9.out).mono ?_); rintro e W1 ⟨pa1, pn1, pc1, rfl, po1, pb1⟩; have P1 := hide (MSL.out _ _ _ _ _ _ po1))
                  | (go_at_call 16; (with_reducible refine (PW.out _ (by assumption) vv).mono ?_); rintro e W2 ⟨pa2, pn2, pc2, rfl, po2, pb2⟩; have P2 := hide (MSL.out _ _ _ _ _ _ po2); have P1' := hide (P1.out.below pb2 (Nat.le_refl _)))
                  | (go_at_call 14; (with_reducible refine (SMI.out _ _ _ _ _ _ _ _ P1'.out P2.out).mono ?_); rintro e W3 ⟨rfl, pb3⟩)
                  | (go_at_call 15; (with_reducible refine (PX.out _ (by assumption) ⟨#[]⟩ (by decide)).mono ?_); rintro e W4 ⟨pa4, pn4, pc4, rfl, po4, pb4⟩; have P4 := hide (MSL.out _ _ _ _ _ _ po4))
                  | (go_at_call 16; (with_reducible refine (PW.out _ (by assumption) ⟨#[]⟩).mono ?_); rintro e W5 ⟨pa5, pn5, pc5, rfl, po5, pb5⟩; have P5 := hide (MSL.out _ _ _ _ _ _ po5); have P4' := hide (P4.out.below pb5 (Nat.le_refl _)))
                  | (go_at_call 14; (with_reducible refine (SMI.out _ _ _ _ _ _ _ _ P4'.out P5.out).mono ?_); rintro e W6 ⟨rfl, pb6⟩))
                rename_i hh
                have B7 := hide (bel_to BU.out (Nat.le_refl _) hh.2.out)
                clear hh S0 KP PX PW SMI MSL P1 P2 P1' P4 P5 P4' po1 po2 po4 po5 pb1 pb2 pb3 pb4 pb5 pb6
                go_wp2
                go_roundw
                case rel => exact ⟨k2 + 1, by omega, by omega, by go_num, B7⟩
                case measure => simp [intOf]; omega
              · have AW := hide (awakeX_of HI.out v)
                have hend : ¬ ((k2 : Int) < (nq : Int)) ∨ (((k2 : Int) < (nq : Int)) ∧ ¬ ((k2 : Int) < 20)) := by omega
                clear hlt
                rcases hend with hend | ⟨hend1, hend⟩
                · go_wp2_with fail
                  with_reducible refine AW.out.mono ?_
                  rintro e v9 ⟨rfl, b9⟩
                  have B9 := hide (bel_to BW.out (Nat.le_refl _) (bel_to BU.out (Nat.le_refl _) b9))
                  clear b9 AW
                  go_wp2
                  go_ret
                  exact ⟨rfl, B9.out⟩
                · go_wp2_with fail
                  with_reducible refine AW.out.mono ?_
                  rintro e v9 ⟨rfl, b9⟩
                  have B9 := hide (bel_to BW.out (Nat.le_refl _) (bel_to BU.out (Nat.le_refl _) b9))
                  clear b9 AW
                  go_wp2
                  go_ret
                  exact ⟨rfl, B9.out⟩
end Go.Proofs.Ytpffhpnmbpjifaa
