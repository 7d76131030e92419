/-
  Statement IndexOwn over what is asked: what is told is new memory: a contract, for every world.
  Conditions: the index does what is asked.
-/
import Derived.Test.YtpffhpnmbpjifabIdxA
import Derived.BigQuiet
import Derived.Deep.QuietTactic
import Derived.Deep.DeepCutAuto
import Derived.Deep.CutBlock
namespace Go.Proofs.Ytpffhpnmbpjifab
open Go.RowKit
set_option maxRecDepth 20000

theorem postN_wf {L : Lx} {nm v : ByteArray} (hL : L.length ≤ 5000) : ∀ z ∈ postX L nm v, (Lit.int .i64 z).wf = true := idx_wf hL
theorem atN_at {L : Lx} {k : Nat} {l : List Lb} (h : L[k]? = some l) : atX L (k : Int) = some l := by
  unfold atX
  rw [if_pos (by omega), Int.toNat_natCast]
  exact h
/-- The four cells that are read of the document's index, and what was there before. -/
def FourN (u1 : World) (g2 b k bl ol : Nat) (m cx n1 c1 : Nat) (nm vv : ByteArray) (W : World) : Prop :=
  (W.cell? ⟨g2, 0, none⟩ = some (.slice (some ⟨b, 0, none⟩) m cx) ∧ W.cell? ⟨b, k, none⟩ = some (.slice (some ⟨bl, ol, none⟩) n1 c1)) ∧ (W.cell? ⟨bl, ol, none⟩ = some (.string nm) ∧ W.cell? ⟨bl, ol + 1, none⟩ = some (.string vv)) ∧ Below u1.heap.size u1 W
theorem FourN.to {u1 : World} {g2 b k bl ol m cx n1 c1 : Nat} {nm vv : ByteArray} {W W' : World} (h : FourN u1 g2 b k bl ol m cx n1 c1 nm vv W) (hb : Below W.heap.size W W') : FourN u1 g2 b k bl ol m cx n1 c1 nm vv W' := by
  obtain ⟨⟨h1, h2⟩, ⟨h3, h4⟩, h5⟩ := h
  refine ⟨⟨?_, ?_⟩, ⟨?_, ?_⟩, bel_to h5 (Nat.le_refl _) hb⟩
  · rw [hb.cell (p := ⟨g2, 0, none⟩) (World.block_lt_of_cell? W _ h1)]; exact h1
  · rw [hb.cell (p := ⟨b, k, none⟩) (World.block_lt_of_cell? W _ h2)]; exact h2
  · rw [hb.cell (p := ⟨bl, ol, none⟩) (World.block_lt_of_cell? W _ h3)]; exact h3
  · rw [hb.cell (p := ⟨bl, ol + 1, none⟩) (World.block_lt_of_cell? W _ h4)]; exact h4

set_option maxHeartbeats 16000000 in
theorem own_of {At : World → Nat → (Nat → Prop) → Lx → Prop} (I : IxI At) (a : Option Addr) (n c : Nat) (sets : Lx) (mt : ByteArray) (w : World) (hs : RowLL w a n sets) :
    Calls Try.prog 3 #[.slice a n c, .string mt] w fun e w' => e = .returned (.bool true) ∧ Below w.heap.size w w' := by
  have HI := hide I
  have LD := hide (laid_of I a n c sets w hs)
  obtain ⟨L, hLd⟩ : ∃ L, Hid (laidX (sets.take 60) = L) := ⟨_, rfl⟩
  have GL := laidX_good (sets.take 60)
  rw [hLd.out] at LD GL
  have HGL := hide GL.1
  have hL60 : L.length ≤ 60 := by have := GL.2; rw [List.length_take] at this; omega
  have HL6 : Hid (L.length ≤ 5000) := by show _ ≤ _; omega
  obtain ⟨m, hm⟩ : ∃ m, Hid (L.length = m) := ⟨_, rfl⟩
  rw [hm.out] at hL60
  clear I hs GL hLd
  go_enter Try.func3, Try.ntmps3
  go_wp2_with fail
  with_reducible refine LD.out.mono ?_
  rintro e u1 ⟨g1, g2, rfl, ⟨S1, S2, t1, t2, -, -, -⟩, b1⟩
  have A1 := hide (fun v (hv : Below u1.heap.size u1 v) => HI.out.below t1 hv)
  have A2 := hide (fun v (hv : Below u1.heap.size u1 v) => t2.below hv)
  have BW := hide b1
  clear t1 t2 b1 LD
  go_wp2
  go_loopw [8] (fun i wr => ∃ k : Nat, k ≤ m ∧ i = .int .i64 k ∧ Hid (Below u1.heap.size u1 wr)) (fun i _ => m - (intOf i).toNat)
  case atStart => exact ⟨0, by omega, rfl, Below.refl _ _⟩
  case round =>
    obtain ⟨k, hk, rfl, BU⟩ := hrel
    obtain ⟨u, rfl⟩ : ∃ u, u = wr := ⟨wr, rfl⟩
    obtain ⟨ax, cx, hc2, hat⟩ := (A2.out u BU.out).open2
    rw [hm.out] at hc2 hat
    by_cases hlt : k < m
    · obtain ⟨b, a1, n1, c1, l, e, hx, q1, q2, -⟩ := hat k hlt
      subst e
      have hk8 := chkL_size (HGL.out l (List.mem_of_getElem? hx))
      have hn1 : l.length = n1 := q2.len
      obtain ⟨bl, ol, y, e, hy, hyw, hyc⟩ := q2.1.at' (j := 0) (by show 0 < n1; omega)
      subst e
      obtain ⟨nm, vv⟩ := y
      obtain ⟨y0, y1⟩ := hyc u (Below.refl _ _)
      simp only [Nat.zero_mul, Nat.add_zero] at y0 y1
      have F0 : Hid (FourN u1 g2 b k bl ol m cx n1 c1 nm vv u) := ⟨⟨hc2, q1⟩, ⟨y0, y1⟩, BU.out⟩
      have RL := hide (fun W (hW : Below u.heap.size u W) => q2.1.below hW (Nat.le_refl _))
      have HW9 : Hid (nm.size ≤ 9223372036854775807) := hyw.1
      have HV9 : Hid (vv.size ≤ 9223372036854775807) := hyw.2
      have HLW : Hid (∀ x ∈ l, LbW x) := q2.1.2.2.1
      have LA := hide (fun v (hv : Below u1.heap.size u1 v) => HI.out.labels g1 S1 L (k : Int) v (A1.out v hv) (by simp [Lit.wf, IntKind.min, IntKind.max, IntKind.signed, IntKind.bits]; omega))
      rw [atN_at hx] at LA
      have i1 : (0 : Int) ≤ (k : Int) := by omega
      have i2 : (k : Int) < (m : Int) := by omega
      have i3 : (0 : Int) < (n1 : Int) := by omega
      have i4 : 0 < n1 := by omega
      have i5 : ¬ n1 = 0 := by omega
      have hn8 : n1 ≤ 8 := by omega
      obtain ⟨ln, hln⟩ : ∃ ln, Hid (l.length = ln) := ⟨_, rfl⟩
      have hln8 : ln ≤ 8 := by have := hln.out; omega
      have LA1 := hide (LA.out u BU.out)
      clear hat hyc y0 y1 q1 q2 hx hy hyw hk8 hn1
      go_wp2_with fail
      with_reducible refine LA1.out.mono ?_
      rintro e v1 ⟨bb1, a6, c6, rfl, ow6⟩
      rw [hln.out] at ow6 ⊢
      have BK : Hid (ln = 0 ∨ ∃ x, a6 = some ⟨x, 0, none⟩ ∧ u.heap.size ≤ x ∧ Blk v1 x (ln * 2)) := by
        rcases id ow6.2 with ⟨_, h⟩ | ⟨x, cc, cur, e, hb, hg, h4, -, h6, -⟩
        · exact Or.inl h
        · simp only [Value.slice.injEq, true_and] at e
          obtain ⟨rfl, rfl⟩ := e
          exact Or.inr ⟨x, rfl, hb, cur, _, hg, by rw [h6]; exact Nat.mul_le_mul_right _ h4⟩
      have BV1 := hide bb1
      clear bb1 ow6 LA1 hc2
      go_upto_block 2 with fail
      go_cut [11] (fun _ wx => Hid (Below u.heap.size u wx))
      case first =>
        go_wp2
        go_loopw [11] (fun i wr => ∃ j : Nat, j ≤ ln ∧ i = .int .i64 j ∧ Hid (Below u.heap.size u wr) ∧ Hid (ln = 0 ∨ ∃ x, a6 = some ⟨x, 0, none⟩ ∧ u.heap.size ≤ x ∧ Blk wr x (ln * 2))) (fun i _ => ln - (intOf i).toNat)
        case atStart => exact ⟨0, by omega, rfl, BV1, BK⟩
        case round =>
          clear BK BV1
          obtain ⟨j, hj, rfl, BV, HBK⟩ := hrel
          by_cases hjt : j < ln
          · rcases HBK.out with h | ⟨x, rfl, hx1, hbk⟩
            · omega
            obtain ⟨x0, c0⟩ := hbk.cell (i := j * 2) (by omega)
            obtain ⟨x1, d1⟩ := hbk.cell (i := j * 2 + 1) (by omega)
            have f0 := hbk.fz (j * 2)
            have f1 := hbk.fz (j * 2 + 1)
            have j1 : (0 : Int) ≤ (j : Int) := by omega
            have j2 : (j : Int) < (ln : Int) := by omega
            have BV2 : Hid (Below u.heap.size u ((wr.setCell ⟨x, j * 2, none⟩ (.string mt)).setCell ⟨x, j * 2 + 1, none⟩ (.string mt))) := (BV.out.setCell (p := ⟨x, j * 2, none⟩) hx1 _).setCell (p := ⟨x, j * 2 + 1, none⟩) hx1 _
            have HB2 : Hid (ln = 0 ∨ ∃ x', some (⟨x, 0, none⟩ : Addr) = some ⟨x', 0, none⟩ ∧ u.heap.size ≤ x' ∧ Blk ((wr.setCell ⟨x, j * 2, none⟩ (.string mt)).setCell ⟨x, j * 2 + 1, none⟩ (.string mt)) x' (ln * 2)) :=
              Or.inr ⟨x, rfl, hx1, (hbk.set x (j * 2) _).set x (j * 2 + 1) _⟩
            obtain ⟨x2, c2⟩ := (hbk.set x (j * 2) (.string mt)).cell (i := j * 2 + 1) (by omega)
            clear HBK hbk BV
            go_wp2
            go_roundw
            case rel => exact ⟨j + 1, by omega, by go_num, BV2, HB2⟩
            case measure => simp [intOf]; omega
          · have j2 : ¬ (j : Int) < (ln : Int) := by omega
            go_wp2
            go_meet
            case rel => exact BV
      case rest =>
        have BV1 := hcut
        clear hcut BK
        obtain ⟨v2, rfl⟩ : ∃ v2, v2 = wc := ⟨wc, rfl⟩
        have FN := hide (F0.out.to BV1.out)
        have S0 : Hid ((v2.drew.cell? ⟨g2, 0, none⟩ = some (.slice (some ⟨b, 0, none⟩) m cx) ∧ v2.drew.cell? ⟨b, k, none⟩ = some (.slice (some ⟨bl, ol, none⟩) n1 c1)) ∧ (v2.drew.cell? ⟨bl, ol, none⟩ = some (.string nm) ∧ v2.drew.cell? ⟨bl, ol + 1, none⟩ = some (.string vv)) ∧ Hid (Below u1.heap.size u1 v2.drew)) := FN.out.to ((Below.refl _ _).drew)
        have KP : Hid (∀ W W', Below W.heap.size W W' → ((W.cell? ⟨g2, 0, none⟩ = some (.slice (some ⟨b, 0, none⟩) m cx) ∧ W.cell? ⟨b, k, none⟩ = some (.slice (some ⟨bl, ol, none⟩) n1 c1)) ∧ (W.cell? ⟨bl, ol, none⟩ = some (.string nm) ∧ W.cell? ⟨bl, ol + 1, none⟩ = some (.string vv)) ∧ Hid (Below u1.heap.size u1 W)) → ((W'.cell? ⟨g2, 0, none⟩ = some (.slice (some ⟨b, 0, none⟩) m cx) ∧ W'.cell? ⟨b, k, none⟩ = some (.slice (some ⟨bl, ol, none⟩) n1 c1)) ∧ (W'.cell? ⟨bl, ol, none⟩ = some (.string nm) ∧ W'.cell? ⟨bl, ol + 1, none⟩ = some (.string vv)) ∧ Hid (Below u1.heap.size u1 W'))) := fun W W' hb h => FourN.to h hb
        have PX := hide (fun W (hW : ((W.cell? ⟨g2, 0, none⟩ = some (.slice (some ⟨b, 0, none⟩) m cx) ∧ W.cell? ⟨b, k, none⟩ = some (.slice (some ⟨bl, ol, none⟩) n1 c1)) ∧ (W.cell? ⟨bl, ol, none⟩ = some (.string nm) ∧ W.cell? ⟨bl, ol + 1, none⟩ = some (.string vv)) ∧ Hid (Below u1.heap.size u1 W))) => HI.out.post g1 S1 L nm vv W (A1.out W hW.2.2.out) HW9.out HV9.out)
        go_upto_region 12 with fail
        go_region_held3 (fun W => ((W.cell? ⟨g2, 0, none⟩ = some (.slice (some ⟨b, 0, none⟩) m cx) ∧ W.cell? ⟨b, k, none⟩ = some (.slice (some ⟨bl, ol, none⟩) n1 c1)) ∧ (W.cell? ⟨bl, ol, none⟩ = some (.string nm) ∧ W.cell? ⟨bl, ol + 1, none⟩ = some (.string vv)) ∧ Hid (Below u1.heap.size u1 W))) (first | with_reducible exact S0.out | with_reducible exact KP.out _ _ (by assumption) (by assumption)) (first
          | (go_at_call 7; (with_reducible refine (PX.out _ (by assumption)).mono ?_); rintro e W1 ⟨pa1, pn1, pc1, rfl, po1, pb1⟩))
        rename_i hh
        have FN2 := hide (show FourN u1 g2 b k bl ol m cx n1 c1 nm vv _ from hh)
        have BK : Hid (pn1 = 0 ∨ ∃ x, pa1 = some ⟨x, 0, none⟩ ∧ v2.heap.size ≤ x ∧ Blk W1 x pn1) := by
          rcases id po1.2 with ⟨_, h⟩ | ⟨x, cc, cur, e, hb, hg, h4, -, h6, -⟩
          · exact Or.inl h
          · simp only [Value.slice.injEq, true_and] at e
            obtain ⟨rfl, rfl⟩ := e
            exact Or.inr ⟨x, rfl, hb, cur, _, hg, by rw [h6, Nat.mul_one]; exact h4⟩
        have hpn : pn1 ≤ 60 := by
          have h1 := po1.len
          have h2 := idxs_len (valP nm vv) 0 L
          have h3 := hm.out
          unfold postX at h1
          omega
        have BX : Hid (Below v2.heap.size v2 W1) := ((Below.refl _ v2).drew).trans pb1
        clear hh po1 pb1 S0
        go_upto_block 4 with fail
        go_cut [13] (fun _ wx => Hid (Below v2.heap.size v2 wx))
        case first =>
          go_wp2
          go_loopw [13] (fun i wr => ∃ j : Nat, j ≤ pn1 ∧ i = .int .i64 j ∧ Hid (Below v2.heap.size v2 wr) ∧ Hid (pn1 = 0 ∨ ∃ x, pa1 = some ⟨x, 0, none⟩ ∧ v2.heap.size ≤ x ∧ Blk wr x pn1)) (fun i _ => pn1 - (intOf i).toNat)
          case atStart => exact ⟨0, by omega, rfl, BX, BK⟩
          case round =>
            clear BK BX
            obtain ⟨j, hj, rfl, BV, HBK⟩ := hrel
            by_cases hjt : j < pn1
            · rcases HBK.out with h | ⟨x, rfl, hx1, hbk⟩
              · omega
              obtain ⟨x0, c0⟩ := hbk.cell (i := j) (by omega)
              have f0 := hbk.fz j
              have j1 : (0 : Int) ≤ (j : Int) := by omega
              have j2 : (j : Int) < (pn1 : Int) := by omega
              have BV2 : Hid (Below v2.heap.size v2 (wr.setCell ⟨x, j, none⟩ (.int .i64 (-5)))) := BV.out.setCell (p := ⟨x, j, none⟩) hx1 _
              have HB2 : Hid (pn1 = 0 ∨ ∃ x', some (⟨x, 0, none⟩ : Addr) = some ⟨x', 0, none⟩ ∧ v2.heap.size ≤ x' ∧ Blk (wr.setCell ⟨x, j, none⟩ (.int .i64 (-5))) x' pn1) :=
                Or.inr ⟨x, rfl, hx1, hbk.set x j _⟩
              clear HBK hbk BV
              go_wp2
              go_roundw
              case rel => exact ⟨j + 1, by omega, by go_num, BV2, HB2⟩
              case measure => simp [intOf]; omega
            · have j2 : ¬ (j : Int) < (pn1 : Int) := by omega
              go_wp2
              go_meet
              case rel => exact BV
        case rest =>
          have BX := hcut
          clear hcut BK FN2
          obtain ⟨v3, rfl⟩ : ∃ v3, v3 = wc := ⟨wc, rfl⟩
          have FN3 := hide (FN.out.to BX.out)
          have BU3 : Hid (Below u1.heap.size u1 v3) := FN3.out.2.2
          have LA3 := hide (LA.out v3 BU3.out)
          have BUV : Hid (Below u.heap.size u v3) := bel_to BV1.out (Nat.le_refl _) BX.out
          clear FN PX BX
          go_wp2_with fail
          with_reducible refine LA3.out.mono ?_
          rintro e v4 ⟨bb4, a7, c7, rfl, ow7⟩
          rw [hln.out] at ow7 ⊢
          have FN4 := hide (FN3.out.to bb4)
          have O7 := hide (ow7.row (by omega) HLW.out)
          have BU4 := hide (bel_to BUV.out (Nat.le_refl _) bb4)
          clear bb4 ow7 LA3 FN3
          have S0 : Hid ((v4.drew.cell? ⟨g2, 0, none⟩ = some (.slice (some ⟨b, 0, none⟩) m cx) ∧ v4.drew.cell? ⟨b, k, none⟩ = some (.slice (some ⟨bl, ol, none⟩) n1 c1)) ∧ (v4.drew.cell? ⟨bl, ol, none⟩ = some (.string nm) ∧ v4.drew.cell? ⟨bl, ol + 1, none⟩ = some (.string vv)) ∧ Hid (Below u1.heap.size u1 v4.drew) ∧ Hid (Below v4.heap.size v4 v4.drew)) := by
            have h := FN4.out.to ((Below.refl _ v4).drew)
            exact ⟨h.1, h.2.1, h.2.2, (Below.refl _ _).drew⟩
          have KP : Hid (∀ W W', Below W.heap.size W W' → ((W.cell? ⟨g2, 0, none⟩ = some (.slice (some ⟨b, 0, none⟩) m cx) ∧ W.cell? ⟨b, k, none⟩ = some (.slice (some ⟨bl, ol, none⟩) n1 c1)) ∧ (W.cell? ⟨bl, ol, none⟩ = some (.string nm) ∧ W.cell? ⟨bl, ol + 1, none⟩ = some (.string vv)) ∧ Hid (Below u1.heap.size u1 W) ∧ Hid (Below v4.heap.size v4 W)) → ((W'.cell? ⟨g2, 0, none⟩ = some (.slice (some ⟨b, 0, none⟩) m cx) ∧ W'.cell? ⟨b, k, none⟩ = some (.slice (some ⟨bl, ol, none⟩) n1 c1)) ∧ (W'.cell? ⟨bl, ol, none⟩ = some (.string nm) ∧ W'.cell? ⟨bl, ol + 1, none⟩ = some (.string vv)) ∧ Hid (Below u1.heap.size u1 W') ∧ Hid (Below v4.heap.size v4 W'))) := fun W W' hb h => by
            have h2 := FourN.to (u1 := u1) (⟨h.1, h.2.1, h.2.2.1⟩ : FourN u1 g2 b k bl ol m cx n1 c1 nm vv W) hb
            exact ⟨h2.1, h2.2.1, h2.2.2, bel_to h.2.2.2.out (Nat.le_refl _) hb⟩
          have SL := hide (fun W (hW : ((W.cell? ⟨g2, 0, none⟩ = some (.slice (some ⟨b, 0, none⟩) m cx) ∧ W.cell? ⟨b, k, none⟩ = some (.slice (some ⟨bl, ol, none⟩) n1 c1)) ∧ (W.cell? ⟨bl, ol, none⟩ = some (.string nm) ∧ W.cell? ⟨bl, ol + 1, none⟩ = some (.string vv)) ∧ Hid (Below u1.heap.size u1 W) ∧ Hid (Below v4.heap.size v4 W))) => (samelabs_any a7 ln c7 l (some ⟨bl, ol, none⟩) n1 c1 l W (O7.out.below hW.2.2.2.out (Nat.le_refl _)) (RL.out W (bel_to BU4.out (Nat.le_refl _) hW.2.2.2.out))).mono fun e w' (h : e = .returned (.bool (decide (l = l))) ∧ ∃ q, w' = W.drewN q) => (⟨by rw [h.1, decide_eq_true rfl], drewB h.2⟩ : e = .returned (.bool true) ∧ Below W.heap.size W w'))
          have PX := hide (fun W (hW : ((W.cell? ⟨g2, 0, none⟩ = some (.slice (some ⟨b, 0, none⟩) m cx) ∧ W.cell? ⟨b, k, none⟩ = some (.slice (some ⟨bl, ol, none⟩) n1 c1)) ∧ (W.cell? ⟨bl, ol, none⟩ = some (.string nm) ∧ W.cell? ⟨bl, ol + 1, none⟩ = some (.string vv)) ∧ Hid (Below u1.heap.size u1 W) ∧ Hid (Below v4.heap.size v4 W))) => HI.out.post g1 S1 L nm vv W (A1.out W hW.2.2.1.out) HW9.out HV9.out)
          have PW := hide (fun W (hW : ((W.cell? ⟨g2, 0, none⟩ = some (.slice (some ⟨b, 0, none⟩) m cx) ∧ W.cell? ⟨b, k, none⟩ = some (.slice (some ⟨bl, ol, none⟩) n1 c1)) ∧ (W.cell? ⟨bl, ol, none⟩ = some (.string nm) ∧ W.cell? ⟨bl, ol + 1, none⟩ = some (.string vv)) ∧ Hid (Below u1.heap.size u1 W) ∧ Hid (Below v4.heap.size v4 W))) => rpost_any g2 S2 L nm vv W (A2.out W hW.2.2.1.out) HL6.out)
          have SMI := hide (fun (W : World) x c1 n1 l1 y d n2 (q1 : SlI W x n1 c1 l1) (q2 : SlI W y n2 d l1) => (samei_any x n1 c1 l1 y n2 d l1 W q1 q2).mono fun e w' (h : e = .returned (.bool (decide (l1 = l1))) ∧ Below W.heap.size W w') => (⟨by rw [h.1, decide_eq_true rfl], h.2⟩ : e = .returned (.bool true) ∧ Below W.heap.size W w'))
          have MSL : Hid (∀ (W : World) base x n1 c1, MineI W base x n1 c1 (postX L nm vv) → SlI W x n1 c1 (postX L nm vv)) := fun W base x n1 c1 q => MineI.sl q (by
            have h1 := q.len
            have h2 := idxs_len (valP nm vv) 0 L
            have h3 := HL6.out
            unfold postX at h1
            omega) (postN_wf HL6.out)
          clear FN4 O7 RL LA HLW F0
          go_upto_region 18 with fail
          go_region_held3 (fun W => ((W.cell? ⟨g2, 0, none⟩ = some (.slice (some ⟨b, 0, none⟩) m cx) ∧ W.cell? ⟨b, k, none⟩ = some (.slice (some ⟨bl, ol, none⟩) n1 c1)) ∧ (W.cell? ⟨bl, ol, none⟩ = some (.string nm) ∧ W.cell? ⟨bl, ol + 1, none⟩ = some (.string vv)) ∧ Hid (Below u1.heap.size u1 W) ∧ Hid (Below v4.heap.size v4 W))) (first | with_reducible exact S0.out | with_reducible exact KP.out _ _ (by assumption) (by assumption)) (first
            | (go_at_call 8; (with_reducible refine (SL.out _ (by assumption)).mono ?_); rintro e W1 ⟨rfl, pb0⟩)
            | (go_at_call 7; (with_reducible refine (PX.out _ (by assumption)).mono ?_); rintro e W2 ⟨pa2, pn2, pc2, rfl, po2, pb2⟩; have P2 := hide (MSL.out _ _ _ _ _ po2))
            | (go_at_call 10; (with_reducible refine (PW.out _ (by assumption)).mono ?_); rintro e W3 ⟨pa3, pn3, pc3, rfl, po3, pb3⟩; have P3 := hide (MSL.out _ _ _ _ _ po3); have P2' := hide (P2.out.below pb3 (Nat.le_refl _)))
            | (go_at_call 9; (with_reducible refine (SMI.out _ _ _ _ _ _ _ _ P2'.out P3.out).mono ?_); rintro e W4 ⟨rfl, pb4⟩))
          rename_i hh
          have B7 := hide hh.2.2.1.out
          clear hh S0 KP PX PW SMI MSL SL P2 P3 P2' po2 po3 pb0 pb2 pb3 pb4
          go_wp2
          go_roundw
          case rel => exact ⟨k + 1, by omega, by go_num, B7⟩
          case measure => simp [intOf]; omega
    · have i2 : ¬ (k : Int) < (m : Int) := by omega
      have AW := hide (awakeX_of HI.out u)
      clear hat
      go_wp2_with fail
      with_reducible refine AW.out.mono ?_
      rintro e v9 ⟨rfl, b9⟩
      have B9 := hide (bel_to BW.out (Nat.le_refl _) (bel_to BU.out (Nat.le_refl _) b9))
      clear b9 AW
      go_wp2
      go_ret
      exact ⟨rfl, B9.out⟩
end Go.Proofs.Ytpffhpnmbpjifab
