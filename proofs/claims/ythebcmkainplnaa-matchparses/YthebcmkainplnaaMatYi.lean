/-
  The document's reader of a matcher's text (read: the kids of op 7): a contract, for every world (written by gen/matye.gen.py).
  Conditions: the reader and the count lie in blocks of their own; the place is within the text, of at most 20,000 bytes.
-/
import Derived.Test.YthebcmkainplnaaMatYd
namespace Go.Proofs.Ythebcmkainplnaa
open Go.RowKit
set_option maxRecDepth 20000

set_option maxHeartbeats 16000000 in
theorem read_7 (f : Nat) (IH : ∀ F, F < f + 1 → RdF F) (g g2 n : Nat) (s : ByteArray) (k : Nat) (w : World) (h : SB w g s k false) (hb : BX w g2 n) (hgg : g ≠ g2) (hk : k ≤ s.size) (hs : s.size ≤ 20000) (hn : n < 64) (hf : 3 * (64 - n) + 1 ≤ f + 1) (h42 : isS s k false 42 = false) (h38 : isS s k false 38 = false) (h124 : isS s k false 124 = false) (h33 : isS s k false 33 = true) :
    Calls Try.prog 39 #[.pointer (some ⟨g, 0, none⟩), .pointer (some ⟨g2, 0, none⟩)] w fun e w' => RfP (lxM (f + 1) (64 - n) (s.toList.drop k)) g g2 n s w e w' := by
  have hg := h.lt
  have hg2 := hb.lt
  obtain ⟨W, hW⟩ : ∃ W, Hid (w.alloc (.cells #[.int .i64 0, .string ⟨#[]⟩, .string ⟨#[]⟩, .slice none 0 0, .slice none 0 0] 25) = W) := ⟨_, rfl⟩
  obtain ⟨V, hV⟩ : ∃ V, Hid (W.setCell ⟨g2, 0, none⟩ (.int .i64 ((n : Int) + 1)) = V) := ⟨_, rfl⟩
  have R0 := hide (rs_start h hb hgg hW.out hV.out)
  have bx : Hid (BX W g2 n) := by rw [← hW.out]; exact hb.block (Below.heap_alloc _ _ _ hb.lt)
  obtain ⟨b0, b1⟩ := bx.out.cell
  obtain ⟨a0, a1⟩ := R0.out.cnt.cell
  rw [show ((n + 1 : Nat) : Int) = (n : Int) + 1 from rfl] at a0
  obtain ⟨s0, s1, s2, sf⟩ := R0.out.sb.cell
  obtain ⟨ans, HA⟩ : ∃ ans, Hid (lxM (f + 1) (64 - n) (s.toList.drop k) = ans) := ⟨_, rfl⟩
  rw [HA.out]
  clear h hb bx
  obtain ⟨left, hl⟩ : ∃ left, 64 - n = left + 1 := ⟨64 - n - 1, by omega⟩
  obtain ⟨f1, hf1⟩ : ∃ f1, f = f1 + 2 := ⟨f - 2, by omega⟩
  obtain ⟨q1, q2⟩ := is_yes h33
  have hl2 : 64 - (n + 1) = left := by omega
  rw [hl, lxM, is_no h42, is_no h38, is_no h124] at HA
  simp only at HA
  rw [q1] at HA
  simp only at HA
  rw [hf1, lxK] at HA
  have t1 : ¬ (64 : Int) < (n : Int) + 1 := by omega
  have MT := hide (fun F (hF : F < f + 1) (n k : Nat) u (q : SB u g s k false) (c : BX u g2 n) (hk : k ≤ s.size) (hn : n ≤ 64) (h3 : 3 * (64 - n) + 1 ≤ F) => IH F hF g g2 n s k u q c hgg hk hs hn h3)
  obtain ⟨i0, hi, hz0, hz1, hz2⟩ := info_parts Try.infoM
  clear sf q1 IH
  go_enter Try.func39, Try.ntmps39
  go_upto_region 1 with fail
  rw [hW.out]
  go_upto_region 2 with fail
  rw [hV.out]
  clear hW hV b0 b1
  have K41 : Hid (Calls Try.prog 63 #[.pointer (some ⟨g, 0, none⟩), .int .u8 42] V fun e w' => e = .returned (.bool (isS s (k) false 42)) ∧ Ch (fun b => b = g) V w' ∧ SB w' g s (if isS s (k) false 42 then (k) + 1 else (k)) false) := is_any g s (k) false 42 V R0.out.sb hk hs
  go_wp2_with fail
  with_reducible refine K41.out.mono ?_
  rw [h42]
  rintro e u42 ⟨rfl, c44, t45⟩
  rw [if_neg (by decide)] at t45
  have R43 := hide (R0.out.to c44 t45)
  clear c44 t45 K41 R0 s0 s1 s2 a0 a1
  have K46 : Hid (Calls Try.prog 63 #[.pointer (some ⟨g, 0, none⟩), .int .u8 38] u42 fun e w' => e = .returned (.bool (isS s (k) false 38)) ∧ Ch (fun b => b = g) u42 w' ∧ SB w' g s (if isS s (k) false 38 then (k) + 1 else (k)) false) := is_any g s (k) false 38 u42 R43.out.sb hk hs
  go_wp2_with fail
  with_reducible refine K46.out.mono ?_
  rw [h38]
  rintro e u47 ⟨rfl, c49, t50⟩
  rw [if_neg (by decide)] at t50
  have R48 := hide (R43.out.to c49 t50)
  clear c49 t50 K46 R43
  have K51 : Hid (Calls Try.prog 63 #[.pointer (some ⟨g, 0, none⟩), .int .u8 124] u47 fun e w' => e = .returned (.bool (isS s (k) false 124)) ∧ Ch (fun b => b = g) u47 w' ∧ SB w' g s (if isS s (k) false 124 then (k) + 1 else (k)) false) := is_any g s (k) false 124 u47 R48.out.sb hk hs
  go_wp2_with fail
  with_reducible refine K51.out.mono ?_
  rw [h124]
  rintro e u52 ⟨rfl, c54, t55⟩
  rw [if_neg (by decide)] at t55
  have R53 := hide (R48.out.to c54 t55)
  clear c54 t55 K51 R48
  have K56 : Hid (Calls Try.prog 63 #[.pointer (some ⟨g, 0, none⟩), .int .u8 33] u52 fun e w' => e = .returned (.bool (isS s (k) false 33)) ∧ Ch (fun b => b = g) u52 w' ∧ SB w' g s (if isS s (k) false 33 then (k) + 1 else (k)) false) := is_any g s (k) false 33 u52 R53.out.sb hk hs
  go_wp2_with fail
  with_reducible refine K56.out.mono ?_
  rw [h33]
  rintro e u57 ⟨rfl, c59, t60⟩
  rw [if_pos rfl] at t60
  have R58 := hide (R53.out.to c59 t60)
  clear c59 t60 K56 R53
  have hk1 := q2
  obtain ⟨v0, hv0⟩ : ∃ v0, Hid (u57.alloc (.cells #[.int .i64 7, .string ⟨#[]⟩, .string ⟨#[]⟩, .slice none 0 0, .slice none 0 0] 25) = v0) := ⟨_, rfl⟩
  have D0 := hide (KdR.start R58.out hv0.out)
  have GM : Hid (u57.heap.size < v0.heap.size) := D0.out.mb.lt
  go_upto_region 15 with fail
  rw [hv0.out]
  clear hv0 R58
  generalize u57.heap.size = gm at *
  have K61 : Hid (Calls Try.prog 64 #[.pointer (some ⟨g, 0, none⟩), .int .u8 40] v0 fun e w' => e = .returned (.tuple #[]) ∧ Ch (fun b => b = g) v0 w' ∧ SB w' g s (if isS s (k + 1) false 40 then (k + 1) + 1 else (k + 1)) (!isS s (k + 1) false 40)) := must_any g s (k + 1) false 40 v0 D0.out.rs.sb hk1 hs
  go_wp2_with fail
  with_reducible refine K61.out.mono ?_
  cases h40 : isS s (k + 1) false 40 with
  | false =>
    rw [is_no h40] at HA
    have HF : Hid (none = ans) := HA.out
    rintro e v1 ⟨rfl, c1, t2⟩
    rw [if_neg (by decide)] at t2
    rw [Bool.not_false] at t2
    have D1 := hide (D0.out.bad c1 t2)
    clear c1 t2 D0 K61 h40
    have K62 : Hid (Calls Try.prog 63 #[.pointer (some ⟨g, 0, none⟩), .int .u8 41] v1 fun e w' => e = .returned (.bool (isS s (k + 1) true 41)) ∧ Ch (fun b => b = g) v1 w' ∧ SB w' g s (if isS s (k + 1) true 41 then (k + 1) + 1 else (k + 1)) true) := is_any g s (k + 1) true 41 v1 D1.out.sb hk1 hs
    go_wp2_with fail
    with_reducible refine K62.out.mono ?_
    rintro e v2 ⟨rfl, c2, t3⟩
    rw [is_bad, if_neg (by decide)] at t3
    rw [is_bad]
    have D2 := hide (D1.out.to c2 t3)
    clear c2 t3 D1 K62
    obtain ⟨s0, s1, s2, _⟩ := D2.out.sb.cell
    obtain ⟨m0, m1, m2, m3, m4, _⟩ := D2.out.q.mb.all
    dsimp only at m0 m1 m2 m3 m4
    go_upto_region 18 with fail
    go_loopg [] 1 (fun gh wr => Hid (wr = v2))
    case atStart => exact hide rfl
    case round =>
      have hw := hrel.out
      subst hw
      have DN : Hid (RfP ans g g2 n s w (.returned (.agg #[.int .i64 7, .string ⟨#[]⟩, .string ⟨#[]⟩, .slice none 0 0, .slice none 0 0])) (put5 wr w.heap.size ⟨7, ⟨#[]⟩, ⟨#[]⟩, none, 0, 0, none, 0, 0⟩)) := by
        rw [← HF.out]
        exact rf_bad D2.out.q.ch D2.out.sb D2.out.lt hk1 ⟨7, ⟨#[]⟩, ⟨#[]⟩, none, 0, 0, none, 0, 0⟩
      have BZ := hide (D2.out.q.box)
      obtain ⟨d0, d1, d2, d3, d4, df⟩ := BZ.out.all
      have f10 := df 0
      have f11 := df 1
      have f12 := df 2
      have f13 := df 3
      have f14 := df 4
      dsimp only [hm0] at d0 d1 d2 d3 d4
      have FP := hide (BZ.out.put ⟨7, ⟨#[]⟩, ⟨#[]⟩, none, 0, 0, none, 0, 0⟩)
      clear df
      go_wp2
      obtain ⟨x0, x1, x2, x3, x4, _⟩ := FP.out.all
      unfold put5 at x0 x1 x2 x3 x4
      dsimp only at x0 x1 x2 x3 x4
      exact bodyPost_ret (v := .agg #[.int .i64 7, .string ⟨#[]⟩, .string ⟨#[]⟩, .slice none 0 0, .slice none 0 0]) (by simp [results, Try.results39, go_sem, x0, x1, x2, x3, x4]) rfl DN.out
  | true =>
    obtain ⟨q3, q4⟩ := is_yes h40
    rw [q3] at HA
    simp only at HA
    rintro e v1 ⟨rfl, c1, t2⟩
    rw [if_pos rfl] at t2
    rw [Bool.not_true] at t2
    have D1 := hide (D0.out.to c1 t2)
    clear c1 t2 D0 K61 h40 q3
    have K63 : Hid (Calls Try.prog 63 #[.pointer (some ⟨g, 0, none⟩), .int .u8 41] v1 fun e w' => e = .returned (.bool (isS s (k + 1 + 1) false 41)) ∧ Ch (fun b => b = g) v1 w' ∧ SB w' g s (if isS s (k + 1 + 1) false 41 then (k + 1 + 1) + 1 else (k + 1 + 1)) false) := is_any g s (k + 1 + 1) false 41 v1 D1.out.rs.sb q4 hs
    go_wp2_with fail
    with_reducible refine K63.out.mono ?_
    cases h41 : isS s (k + 1 + 1) false 41 with
    | true =>
      obtain ⟨q5, q6⟩ := is_yes h41
      rw [q5] at HA
      simp only [Option.map_some] at HA
      have HF : Hid (some (.mk 7 .empty .empty [] [], s.toList.drop (k + 1 + 1 + 1), left) = ans) := HA.out
      rintro e v2 ⟨rfl, c2, t3⟩
      rw [if_pos rfl] at t3
      have D2 := hide (D1.out.to c2 t3)
      clear c2 t3 D1 K63 h41 q5
      obtain ⟨m0, m1, m2, m3, m4, _⟩ := D2.out.mb.all
      dsimp only at m0 m1 m2 m3 m4
      have DN : Hid (RfP ans g g2 n s w (.returned (.agg #[.int .i64 7, .string ⟨#[]⟩, .string ⟨#[]⟩, .slice none 0 0, .slice none 0 0])) (put5 v2 w.heap.size ⟨7, ⟨#[]⟩, ⟨#[]⟩, none, 0, 0, none, 0, 0⟩)) := by
        rw [← HF.out]
        exact rf_some D2.out.rs q6 rfl (D2.out.fin (by omega) (by decide)) (by omega) hl2 (by omega)
      have BZ := hide (D2.out.rs.box)
      obtain ⟨d0, d1, d2, d3, d4, df⟩ := BZ.out.all
      have f10 := df 0
      have f11 := df 1
      have f12 := df 2
      have f13 := df 3
      have f14 := df 4
      dsimp only [hm0] at d0 d1 d2 d3 d4
      have FP := hide (BZ.out.put ⟨7, ⟨#[]⟩, ⟨#[]⟩, none, 0, 0, none, 0, 0⟩)
      clear df
      go_wp2
      obtain ⟨x0, x1, x2, x3, x4, _⟩ := FP.out.all
      unfold put5 at x0 x1 x2 x3 x4
      dsimp only at x0 x1 x2 x3 x4
      exact bodyPost_ret (v := .agg #[.int .i64 7, .string ⟨#[]⟩, .string ⟨#[]⟩, .slice none 0 0, .slice none 0 0]) (by simp [results, Try.results39, go_sem, x0, x1, x2, x3, x4]) rfl DN.out
    | false =>
      rw [is_no h41] at HA
      simp only at HA
      rintro e v2 ⟨rfl, c2, t3⟩
      rw [if_neg (by decide)] at t3
      have D2 := hide (D1.out.to c2 t3)
      clear c2 t3 D1 K63 h41
      have HI : Hid (ans = (lxT (f1 + 1) (64 - (n + 1)) (s.toList.drop (k + 1 + 1))).map (fun z => (.mk 7 .empty .empty [] ([] ++ z.1), z.2))) := by
        rw [← HA.out, hl2]
        exact rfl
      have hF2 : 3 * (64 - (n + 1)) + 2 ≤ f1 + 1 := by omega
      have hFF : f1 + 1 < f + 1 + 1 := by omega
      clear HA
      go_upto_region 18 with fail
      go_loopg [] 65 (fun gh wr => (∃ (n2 k : Nat) (a : Option Addr) (j c : Nat) (ks : List Mt) (hs' : List Hm) (F : Nat), k ≤ s.size ∧ n2 ≤ 64 ∧ n + 1 ≤ n2 ∧ 64 - n2 + 1 ≤ gh ∧ 3 * (64 - n2) + 2 ≤ F ∧ F < f + 1 + 1 ∧ Hid (KdR w wr g g2 s k n2 gm 7 a j c ks hs') ∧ Hid (ans = (lxT F (64 - n2) (s.toList.drop k)).map (fun z => (.mk 7 .empty .empty [] (ks ++ z.1), z.2)))) ∨ (∃ (k : Nat) (a : Option Addr) (j c : Nat) (hs' : List Hm), k ≤ s.size ∧ Hid (KdB w wr g g2 s k gm 7 a j c hs') ∧ Hid (none = ans)))
      case atStart => exact Or.inl ⟨n + 1, k + 1 + 1, none, 0, 0, [], [], f1 + 1, q4, by omega, Nat.le_refl _, by omega, hF2, hFF, D2, HI⟩
      case round =>
        clear D2 HI hF2 hFF
        rcases hrel with ⟨n2, k, a, j, c, ks, hs', F, hk, hn2, hn12, hg1, hF, hFF, D, HI⟩ | ⟨k, a, j, c, hs', hk, D, HF⟩
        · obtain ⟨u, rfl⟩ : ∃ u, u = wr := ⟨wr, rfl⟩
          obtain ⟨F, rfl⟩ : ∃ F', F = F' + 1 := ⟨F - 1, by omega⟩
          have V5 := hide (MT.out F (by omega) n2 k u D.out.rs.sb D.out.rs.cnt hk hn2 (by omega))
          obtain ⟨s0, s1, s2, _⟩ := D.out.rs.sb.cell
          have hjs : j ≤ 64 := by have := D.out.few; omega
          cases hu : lxM F (64 - n2) (s.toList.drop k) with
          | none =>
            have HF : Hid (none = ans) := by
              rw [HI.out, lxT_step, hu]
              exact rfl
            rw [hu] at V5
            go_wp2_with fail
            with_reducible refine V5.out.mono ?_
            rintro e u6 ⟨c6, h6, k6, rfl, hk6, p6⟩
            obtain ⟨op2, nm2, vl2, va2, vn2, vc2, ka2, kn2, kc2⟩ := h6
            have t6 : SB u6 g s k6 true := p6
            dsimp only
            obtain ⟨u7, hu7⟩ : ∃ u7, Hid ((u6.alloc (.cells #[.int .i64 op2, .string nm2, .string vl2, .slice va2 vn2 vc2, .slice ka2 kn2 kc2] 25)) = u7) := ⟨_, rfl⟩
            have A7 : Hid (Below u6.heap.size u6 u7) := by rw [← hu7.out]; exact (Below.refl _ _).alloc (Nat.le_refl _) _
            have X7 : Hid (BoxM u7 u6.heap.size ⟨op2, nm2, vl2, va2, vn2, vc2, ka2, kn2, kc2⟩) := by rw [← hu7.out]; exact boxM_new u6 ⟨op2, nm2, vl2, va2, vn2, vc2, ka2, kn2, kc2⟩
            have Q7 := hide ((D.out.rest c6).bel A7.out)
            obtain ⟨u8, hu8⟩ : ∃ u8, Hid ((u7.alloc (.cells #[.int .i64 op2, .string nm2, .string vl2, .slice va2 vn2 vc2, .slice ka2 kn2 kc2] 25)) = u8) := ⟨_, rfl⟩
            have A8 : Hid (Below u7.heap.size u7 u8) := by rw [← hu8.out]; exact (Below.refl _ _).alloc (Nat.le_refl _) _
            have Q8 := hide (Q7.out.bel A8.out)
            have B8 : Hid (Below u6.heap.size u6 u8) := bel_to A7.out (Nat.le_refl _) A8.out
            have HCC : Hid (∀ jj v, (Hm.cells ⟨op2, nm2, vl2, va2, vn2, vc2, ka2, kn2, kc2⟩)[jj]? = some v → u8.cell? ((⟨u7.heap.size, 0, none⟩ : Addr).add jj) = some v) := by
              intro jj v hv
              rw [Addr.add_lit, ← hu8.out]
              exact five_new u7 ⟨op2, nm2, vl2, va2, vn2, vc2, ka2, kn2, kc2⟩ _ jj v hv
            have HBS : Hid (gm + 1 ≤ u8.heap.size) := Q8.out.big
            have C6 := hide c6
            obtain ⟨m0, m1, m2', m3, m4, _⟩ := Q7.out.mb.all
            obtain ⟨y0, y1, y2, y3, y4, _⟩ := X7.out.all
            dsimp only at m0 m1 m2' m3 m4 y0 y1 y2 y3 y4
            clear s0 s1 s2 c6
            have T6 := hide t6
            clear t6
            clear V5 hu HI
            go_upto_region 20 with fail
            rw [hu7.out]
            clear hu7
            go_wp2_with (at_builtin; rw [hu8.out]; refine wpList_pushM _ rfl _ _ 23 rfl (gm + 1) i0 Try.underlying23 hi hz0 hz1 hz2 a j c hs' rfl Q8.out.own ⟨u7.heap.size, 0, none⟩ 1 ⟨op2, nm2, vl2, va2, vn2, vc2, ka2, kn2, kc2⟩ rfl HCC.out (by omega) HBS.out ?_)
            intro g' c' w4 o4 ch4 bl4 wh4
            have M4 : Hid (BoxM w4 gm ⟨7, ⟨#[]⟩, ⟨#[]⟩, none, 0, 0, a, j, c⟩) := Q8.out.mb.block (bl4.block _ (Nat.lt_succ_self _))
            obtain ⟨z0, z1, z2, z3, z4, zf⟩ := M4.out.all
            have zf4 := zf 4
            dsimp only at z0 z1 z2 z3 z4
            have T8 := hide (T6.out.keep (B8.out.block g T6.out.lt))
            have L7 := hide (Q8.out.bad D.out.gt D.out.rs.lt.1 T8.out o4 ch4)
            obtain ⟨u9, hu9⟩ : ∃ u9, Hid (w4.setCell ⟨gm, 4, none⟩ (.slice (some ⟨g', 0, none⟩) (j + 1) c') = u9) := ⟨_, rfl⟩
            rw [hu9.out] at L7
            clear o4 ch4 bl4 wh4 HBS HCC D T6 C6 A7 A8 B8 Q7 Q8 X7 hu8 zf M4 m0 m1 m2' m3 m4 y0 y1 y2 y3 y4 T8
            go_upto_region 21 with fail
            rw [hu9.out]
            clear hu9 z0 z1 z2 z3 z4 zf4
            have K64 : Hid (Calls Try.prog 63 #[.pointer (some ⟨g, 0, none⟩), .int .u8 41] u9 fun e w' => e = .returned (.bool (isS s (k6) true 41)) ∧ Ch (fun b => b = g) u9 w' ∧ SB w' g s (if isS s (k6) true 41 then (k6) + 1 else (k6)) true) := is_any g s (k6) true 41 u9 L7.out.sb hk6 hs
            go_wp2_with fail
            with_reducible refine K64.out.mono ?_
            rintro e v5 ⟨rfl, c5, t5⟩
            rw [is_bad, if_neg (by decide)] at t5
            rw [is_bad]
            have L8 := hide (L7.out.to c5 t5)
            clear c5 t5 L7 K64
            have K65 : Hid (Calls Try.prog 64 #[.pointer (some ⟨g, 0, none⟩), .int .u8 44] v5 fun e w' => e = .returned (.tuple #[]) ∧ Ch (fun b => b = g) v5 w' ∧ SB w' g s (if isS s (k6) true 44 then (k6) + 1 else (k6)) (!isS s (k6) true 44)) := must_any g s (k6) true 44 v5 L8.out.sb hk6 hs
            go_wp2_with fail
            with_reducible refine K65.out.mono ?_
            rintro e v6 ⟨rfl, c5, t5⟩
            have t6 := must_bad t5
            have L9 := hide (L8.out.to c5 t6)
            clear c5 t5 t6 L8 K65
            go_wp2
            go_roundg 0
            case measure => omega
            case rel => exact Or.inr ⟨k6, _, _, _, _, hk6, L9, HF⟩
          | some q =>
            obtain ⟨m2, r, left2⟩ := q
            rw [hu] at V5
            go_wp2_with fail
            with_reducible refine V5.out.mono ?_
            rintro e u6 ⟨c6, h6, k6, rfl, hk6, p6⟩
            obtain ⟨op2, nm2, vl2, va2, vn2, vc2, ka2, kn2, kc2⟩ := h6
            obtain ⟨t6, hd6, s6, n6, x6, hn6, hl6, hnn6⟩ : SB u6 g s k6 false ∧ s.toList.drop k6 = r ∧ SeeM (fun b => u.heap.size ≤ b) u6 m2 ⟨op2, nm2, vl2, va2, vn2, vc2, ka2, kn2, kc2⟩ ∧ ∃ n' : Nat, BX u6 g2 n' ∧ n' ≤ 64 ∧ 64 - n' = left2 ∧ n2 < n' := p6
            dsimp only
            obtain ⟨u7, hu7⟩ : ∃ u7, Hid ((u6.alloc (.cells #[.int .i64 op2, .string nm2, .string vl2, .slice va2 vn2 vc2, .slice ka2 kn2 kc2] 25)) = u7) := ⟨_, rfl⟩
            have A7 : Hid (Below u6.heap.size u6 u7) := by rw [← hu7.out]; exact (Below.refl _ _).alloc (Nat.le_refl _) _
            have X7 : Hid (BoxM u7 u6.heap.size ⟨op2, nm2, vl2, va2, vn2, vc2, ka2, kn2, kc2⟩) := by rw [← hu7.out]; exact boxM_new u6 ⟨op2, nm2, vl2, va2, vn2, vc2, ka2, kn2, kc2⟩
            have Q7 := hide ((D.out.rest c6).bel A7.out)
            obtain ⟨u8, hu8⟩ : ∃ u8, Hid ((u7.alloc (.cells #[.int .i64 op2, .string nm2, .string vl2, .slice va2 vn2 vc2, .slice ka2 kn2 kc2] 25)) = u8) := ⟨_, rfl⟩
            have A8 : Hid (Below u7.heap.size u7 u8) := by rw [← hu8.out]; exact (Below.refl _ _).alloc (Nat.le_refl _) _
            have Q8 := hide (Q7.out.bel A8.out)
            have B8 : Hid (Below u6.heap.size u6 u8) := bel_to A7.out (Nat.le_refl _) A8.out
            have HCC : Hid (∀ jj v, (Hm.cells ⟨op2, nm2, vl2, va2, vn2, vc2, ka2, kn2, kc2⟩)[jj]? = some v → u8.cell? ((⟨u7.heap.size, 0, none⟩ : Addr).add jj) = some v) := by
              intro jj v hv
              rw [Addr.add_lit, ← hu8.out]
              exact five_new u7 ⟨op2, nm2, vl2, va2, vn2, vc2, ka2, kn2, kc2⟩ _ jj v hv
            have HBS : Hid (gm + 1 ≤ u8.heap.size) := Q8.out.big
            have C6 := hide c6
            obtain ⟨m0, m1, m2', m3, m4, _⟩ := Q7.out.mb.all
            obtain ⟨y0, y1, y2, y3, y4, _⟩ := X7.out.all
            dsimp only at m0 m1 m2' m3 m4 y0 y1 y2 y3 y4
            clear s0 s1 s2 c6
            have T6 := hide t6
            have S6 := hide s6
            have X6 := hide x6
            have HI3 : Hid (ans = (lxC F (64 - n6) (s.toList.drop k6)).map (fun z => (.mk 7 .empty .empty [] (ks ++ [m2] ++ z.1), z.2))) := by
              rw [HI.out, lxT_step, hu, hd6, hl6, Option.map_map]
              show _ = _
              congr 1
              funext z
              simp
            clear t6 s6 x6 hd6 hl6
            clear V5 hu HI
            go_upto_region 20 with fail
            rw [hu7.out]
            clear hu7
            go_wp2_with (at_builtin; rw [hu8.out]; refine wpList_pushM _ rfl _ _ 23 rfl (gm + 1) i0 Try.underlying23 hi hz0 hz1 hz2 a j c hs' rfl Q8.out.own ⟨u7.heap.size, 0, none⟩ 1 ⟨op2, nm2, vl2, va2, vn2, vc2, ka2, kn2, kc2⟩ rfl HCC.out (by omega) HBS.out ?_)
            intro g' c' w4 o4 ch4 bl4 wh4
            have M4 : Hid (BoxM w4 gm ⟨7, ⟨#[]⟩, ⟨#[]⟩, none, 0, 0, a, j, c⟩) := Q8.out.mb.block (bl4.block _ (Nat.lt_succ_self _))
            obtain ⟨z0, z1, z2, z3, z4, zf⟩ := M4.out.all
            have zf4 := zf 4
            dsimp only at z0 z1 z2 z3 z4
            have L7 := hide (D.out.push C6.out B8.out T6.out X6.out hnn6 S6.out o4 ch4 wh4)
            obtain ⟨u9, hu9⟩ : ∃ u9, Hid (w4.setCell ⟨gm, 4, none⟩ (.slice (some ⟨g', 0, none⟩) (j + 1) c') = u9) := ⟨_, rfl⟩
            rw [hu9.out] at L7
            clear o4 ch4 bl4 wh4 HBS HCC D T6 C6 A7 A8 B8 Q7 Q8 X7 hu8 zf M4 m0 m1 m2' m3 m4 y0 y1 y2 y3 y4 S6 X6
            go_upto_region 21 with fail
            rw [hu9.out]
            clear hu9 z0 z1 z2 z3 z4 zf4
            have K66 : Hid (Calls Try.prog 63 #[.pointer (some ⟨g, 0, none⟩), .int .u8 41] u9 fun e w' => e = .returned (.bool (isS s (k6) false 41)) ∧ Ch (fun b => b = g) u9 w' ∧ SB w' g s (if isS s (k6) false 41 then (k6) + 1 else (k6)) false) := is_any g s (k6) false 41 u9 L7.out.rs.sb hk6 hs
            go_wp2_with fail
            with_reducible refine K66.out.mono ?_
            cases h61 : isS s k6 false 41 with
            | true =>
              obtain ⟨q7, q8⟩ := is_yes h61
              unfold lxC at HI3
              rw [q7] at HI3
              simp only [Option.map_some, List.append_nil] at HI3
              have HF : Hid (some (.mk 7 .empty .empty [] (ks ++ [m2]), s.toList.drop (k6 + 1), 64 - n6) = ans) := HI3.out.symm
              rintro e v5 ⟨rfl, c5, t5⟩
              rw [if_pos rfl] at t5
              have L8 := hide (L7.out.to c5 t5)
              clear c5 t5 L7 K66 h61 q7 HI3
              obtain ⟨m0, m1, m2', m3, m4, _⟩ := L8.out.mb.all
              dsimp only at m0 m1 m2' m3 m4
              have DN : Hid (RfP ans g g2 n s w (.returned (.agg #[.int .i64 7, .string ⟨#[]⟩, .string ⟨#[]⟩, .slice none 0 0, .slice (some ⟨g', 0, none⟩) (j + 1) c'])) (put5 v5 w.heap.size ⟨7, ⟨#[]⟩, ⟨#[]⟩, none, 0, 0, (some ⟨g', 0, none⟩), (j + 1), c'⟩)) := by
                rw [← HF.out]
                exact rf_some L8.out.rs q8 rfl (L8.out.fin hn6 (by decide)) hn6 rfl (by omega)
              have BZ := hide (L8.out.rs.box)
              obtain ⟨d0, d1, d2, d3, d4, df⟩ := BZ.out.all
              have f10 := df 0
              have f11 := df 1
              have f12 := df 2
              have f13 := df 3
              have f14 := df 4
              dsimp only [hm0] at d0 d1 d2 d3 d4
              have FP := hide (BZ.out.put ⟨7, ⟨#[]⟩, ⟨#[]⟩, none, 0, 0, (some ⟨g', 0, none⟩), (j + 1), c'⟩)
              clear df
              go_wp2
              obtain ⟨x0, x1, x2, x3, x4, _⟩ := FP.out.all
              unfold put5 at x0 x1 x2 x3 x4
              dsimp only at x0 x1 x2 x3 x4
              exact bodyPost_ret (v := .agg #[.int .i64 7, .string ⟨#[]⟩, .string ⟨#[]⟩, .slice none 0 0, .slice (some ⟨g', 0, none⟩) (j + 1) c']) (by simp [results, Try.results39, go_sem, x0, x1, x2, x3, x4]) rfl DN.out
            | false =>
              unfold lxC at HI3
              rw [is_no h61] at HI3
              simp only at HI3
              rintro e v5 ⟨rfl, c5, t5⟩
              rw [if_neg (by decide)] at t5
              have L8 := hide (L7.out.to c5 t5)
              clear c5 t5 L7 K66 h61
              have K67 : Hid (Calls Try.prog 64 #[.pointer (some ⟨g, 0, none⟩), .int .u8 44] v5 fun e w' => e = .returned (.tuple #[]) ∧ Ch (fun b => b = g) v5 w' ∧ SB w' g s (if isS s (k6) false 44 then (k6) + 1 else (k6)) (!isS s (k6) false 44)) := must_any g s (k6) false 44 v5 L8.out.rs.sb hk6 hs
              go_wp2_with fail
              with_reducible refine K67.out.mono ?_
              cases h62 : isS s k6 false 44 with
              | true =>
                obtain ⟨q7, q8⟩ := is_yes h62
                rw [q7] at HI3
                simp only at HI3
                rintro e v6 ⟨rfl, c5, t5⟩
                rw [if_pos rfl] at t5
                rw [Bool.not_true] at t5
                have L9 := hide (L8.out.to c5 t5)
                clear c5 t5 L8 K67 h62 q7
                go_wp2
                go_roundg (64 - n6 + 1)
                case measure => omega
                case rel => exact Or.inl ⟨n6, k6 + 1, _, _, _, _, _, F, q8, hn6, by omega, Nat.le_refl _, by omega, by omega, L9, HI3⟩
              | false =>
                rw [is_no h62] at HI3
                have HF : Hid (none = ans) := HI3.out.symm
                rintro e v6 ⟨rfl, c5, t5⟩
                rw [if_neg (by decide)] at t5
                rw [Bool.not_false] at t5
                have L9 := hide (L8.out.bad c5 t5)
                clear c5 t5 L8 K67 h62
                go_wp2
                go_roundg 0
                case measure => omega
                case rel => exact Or.inr ⟨k6, _, _, _, _, hk6, L9, HF⟩
        · obtain ⟨u, rfl⟩ : ∃ u, u = wr := ⟨wr, rfl⟩
          obtain ⟨s0, s1, s2, _⟩ := D.out.sb.cell
          obtain ⟨m0, m1, m2, m3, m4, _⟩ := D.out.q.mb.all
          dsimp only at m0 m1 m2 m3 m4
          have DN : Hid (RfP ans g g2 n s w (.returned (.agg #[.int .i64 7, .string ⟨#[]⟩, .string ⟨#[]⟩, .slice none 0 0, .slice a j c])) (put5 u w.heap.size ⟨7, ⟨#[]⟩, ⟨#[]⟩, none, 0, 0, a, j, c⟩)) := by
            rw [← HF.out]
            exact rf_bad D.out.q.ch D.out.sb D.out.lt hk ⟨7, ⟨#[]⟩, ⟨#[]⟩, none, 0, 0, a, j, c⟩
          have BZ := hide (D.out.q.box)
          obtain ⟨d0, d1, d2, d3, d4, df⟩ := BZ.out.all
          have f10 := df 0
          have f11 := df 1
          have f12 := df 2
          have f13 := df 3
          have f14 := df 4
          dsimp only [hm0] at d0 d1 d2 d3 d4
          have FP := hide (BZ.out.put ⟨7, ⟨#[]⟩, ⟨#[]⟩, none, 0, 0, a, j, c⟩)
          clear df
          go_wp2
          obtain ⟨x0, x1, x2, x3, x4, _⟩ := FP.out.all
          unfold put5 at x0 x1 x2 x3 x4
          dsimp only at x0 x1 x2 x3 x4
          exact bodyPost_ret (v := .agg #[.int .i64 7, .string ⟨#[]⟩, .string ⟨#[]⟩, .slice none 0 0, .slice a j c]) (by simp [results, Try.results39, go_sem, x0, x1, x2, x3, x4]) rfl DN.out
end Go.Proofs.Ythebcmkainplnaa
