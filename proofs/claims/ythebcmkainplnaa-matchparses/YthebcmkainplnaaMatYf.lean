/-
  The document's reader of a matcher's text (read: what begins with a name): a contract, for every world (written by gen/matyf.gen.py).
  Conditions: the reader and the count lie in blocks of their own; the place is within the text, of at most 20,000 bytes.
-/
import Derived.Test.YthebcmkainplnaaMatYd
namespace Go.Proofs.Ythebcmkainplnaa
open Go.RowKit
set_option maxRecDepth 20000

set_option maxHeartbeats 16000000 in
theorem read_nm (f : Nat) (g g2 n : Nat) (s : ByteArray) (k : Nat) (w : World) (h : SB w g s k false) (hb : BX w g2 n) (hgg : g ≠ g2) (hk : k ≤ s.size) (hs : s.size ≤ 20000) (hn : n < 64) (h42 : isS s k false 42 = false) (h38 : isS s k false 38 = false) (h124 : isS s k false 124 = false) (h33 : isS s k false 33 = false) :
    Calls Try.prog 39 #[.pointer (some ⟨g, 0, none⟩), .pointer (some ⟨g2, 0, none⟩)] w fun e w' => RfP (lxM (f + 1) (64 - n) (s.toList.drop k)) g g2 n s w e w' := by
  have hg := h.lt
  have hg2 := hb.lt
  obtain ⟨W, hW⟩ : ∃ W, Hid (w.alloc (.cells #[.int .i64 0, .string ⟨#[]⟩, .string ⟨#[]⟩, .slice none 0 0, .slice none 0 0] 25) = W) := ⟨_, rfl⟩
  obtain ⟨V, hV⟩ : ∃ V, Hid (W.setCell ⟨g2, 0, none⟩ (.int .i64 ((n : Int) + 1)) = V) := ⟨_, rfl⟩
  have R0 := hide (rs_start h hb hgg hW.out hV.out)
  have bx : Hid (BX W g2 n) := by rw [← hW.out]; exact hb.block (Below.heap_alloc _ _ _ hb.lt)
  obtain ⟨b0, b1⟩ := bx.out.cell
  obtain ⟨a0, a1⟩ := R0.out.cnt.cell
  rw [show ((n + 1 : Nat) : Int) = (n : Int) + 1 from rfl] at a0
  obtain ⟨s0, s1, s2, sf⟩ := R0.out.sb.cell
  obtain ⟨ans, HA⟩ : ∃ ans, Hid (lxM (f + 1) (64 - n) (s.toList.drop k) = ans) := ⟨_, rfl⟩
  rw [HA.out]
  clear h hb bx
  obtain ⟨left, hl⟩ : ∃ left, 64 - n = left + 1 := ⟨64 - n - 1, by omega⟩
  have hl2 : 64 - (n + 1) = left := by omega
  rw [hl, lxM, is_no h42, is_no h38, is_no h124, is_no h33] at HA
  simp only at HA
  obtain ⟨ne1, ne2⟩ := nmE_is s k
  unfold lxN at HA
  rw [← ne1, ← ne2] at HA
  have hkn := nmE_in s k hk
  have hnm : (s.extract k (nmE s k)).size ≤ 20000 := by
    rw [ByteArray.size_extract]
    omega
  have t1 : ¬ (64 : Int) < (n : Int) + 1 := by omega
  have NM := hide (fun u (q : SB u g s k false) => sname_any g s k false u q hk hs)
  unfold lxA at HA
  clear sf ne1 ne2
  generalize s.extract k (nmE s k) = nm at *
  generalize nmE s k = kn at *
  go_enter Try.func39, Try.ntmps39
  go_upto_region 1 with fail
  rw [hW.out]
  go_upto_region 2 with fail
  rw [hV.out]
  clear hW hV b0 b1
  have K1 : Hid (Calls Try.prog 63 #[.pointer (some ⟨g, 0, none⟩), .int .u8 42] V fun e w' => e = .returned (.bool (isS s (k) false 42)) ∧ Ch (fun b => b = g) V w' ∧ SB w' g s (if isS s (k) false 42 then (k) + 1 else (k)) false) := is_any g s (k) false 42 V R0.out.sb hk hs
  go_wp2_with fail
  with_reducible refine K1.out.mono ?_
  rw [h42]
  rintro e u2 ⟨rfl, c4, t5⟩
  rw [if_neg (by decide)] at t5
  have R3 := hide (R0.out.to c4 t5)
  clear c4 t5 K1 R0 s0 s1 s2 a0 a1
  have K6 : Hid (Calls Try.prog 63 #[.pointer (some ⟨g, 0, none⟩), .int .u8 38] u2 fun e w' => e = .returned (.bool (isS s (k) false 38)) ∧ Ch (fun b => b = g) u2 w' ∧ SB w' g s (if isS s (k) false 38 then (k) + 1 else (k)) false) := is_any g s (k) false 38 u2 R3.out.sb hk hs
  go_wp2_with fail
  with_reducible refine K6.out.mono ?_
  rw [h38]
  rintro e u7 ⟨rfl, c9, t10⟩
  rw [if_neg (by decide)] at t10
  have R8 := hide (R3.out.to c9 t10)
  clear c9 t10 K6 R3
  have K11 : Hid (Calls Try.prog 63 #[.pointer (some ⟨g, 0, none⟩), .int .u8 124] u7 fun e w' => e = .returned (.bool (isS s (k) false 124)) ∧ Ch (fun b => b = g) u7 w' ∧ SB w' g s (if isS s (k) false 124 then (k) + 1 else (k)) false) := is_any g s (k) false 124 u7 R8.out.sb hk hs
  go_wp2_with fail
  with_reducible refine K11.out.mono ?_
  rw [h124]
  rintro e u12 ⟨rfl, c14, t15⟩
  rw [if_neg (by decide)] at t15
  have R13 := hide (R8.out.to c14 t15)
  clear c14 t15 K11 R8
  have K16 : Hid (Calls Try.prog 63 #[.pointer (some ⟨g, 0, none⟩), .int .u8 33] u12 fun e w' => e = .returned (.bool (isS s (k) false 33)) ∧ Ch (fun b => b = g) u12 w' ∧ SB w' g s (if isS s (k) false 33 then (k) + 1 else (k)) false) := is_any g s (k) false 33 u12 R13.out.sb hk hs
  go_wp2_with fail
  with_reducible refine K16.out.mono ?_
  rw [h33]
  rintro e u17 ⟨rfl, c19, t20⟩
  rw [if_neg (by decide)] at t20
  have R18 := hide (R13.out.to c19 t20)
  clear c19 t20 K16 R13
  go_wp2_with fail
  with_reducible refine (NM.out _ R18.out.sb).mono ?_
  rintro e un ⟨rfl, cn, tn⟩
  have RN := hide (R18.out.to cn tn)
  clear cn tn NM R18
  have K21 : Hid (Calls Try.prog 63 #[.pointer (some ⟨g, 0, none⟩), .int .u8 61] un fun e w' => e = .returned (.bool (isS s (kn) false 61)) ∧ Ch (fun b => b = g) un w' ∧ SB w' g s (if isS s (kn) false 61 then (kn) + 1 else (kn)) false) := is_any g s (kn) false 61 un RN.out.sb hkn hs
  go_wp2_with fail
  with_reducible refine K21.out.mono ?_
  cases h22 : isS s (kn) false 61 with
  | true =>
    obtain ⟨q27, q28⟩ := is_yes h22
    rw [q27] at HA
    simp only at HA
    rintro e u23 ⟨rfl, c25, t26⟩
    rw [if_pos rfl] at t26
    have R24 := hide (RN.out.to c25 t26)
    clear c25 t26 K21 RN h22 q27
    have VV := hide (svalue_any g s (kn + 1) false u23 R24.out.sb q28 hs)
    rw [val_va] at VV
    cases hu : vaL (s.toList.drop (kn + 1)) with
    | none =>
      rw [hu] at VV HA
      have HF : Hid (none = ans) := HA.out
      go_wp2_with fail
      with_reducible refine VV.out.mono ?_
      rintro e v9 ⟨x, k9, rfl, hk9, hx9, c9, p9⟩
      have t9 : SB v9 g s k9 true := p9
      have RZ := hide (R24.out.to c9 t9)
      clear c9 t9 p9 VV R24 hu
      have DN : Hid (RfP ans g g2 n s w (.returned (.agg #[.int .i64 1, .string nm, .string x, .slice none 0 0, .slice none 0 0])) (put5 v9 w.heap.size ⟨1, nm, x, none, 0, 0, none, 0, 0⟩)) := by
        rw [← HF.out]
        exact rf_bad RZ.out.ch RZ.out.sb RZ.out.lt.1 hk9 ⟨1, nm, x, none, 0, 0, none, 0, 0⟩
      have BZ := hide (RZ.out.box)
      obtain ⟨d0, d1, d2, d3, d4, df⟩ := BZ.out.all
      have f10 := df 0
      have f11 := df 1
      have f12 := df 2
      have f13 := df 3
      have f14 := df 4
      dsimp only [hm0] at d0 d1 d2 d3 d4
      have FP := hide (BZ.out.put ⟨1, nm, x, none, 0, 0, none, 0, 0⟩)
      clear df
      go_wp2
      obtain ⟨x0, x1, x2, x3, x4, _⟩ := FP.out.all
      unfold put5 at x0 x1 x2 x3 x4
      dsimp only at x0 x1 x2 x3 x4
      exact bodyPost_ret (v := .agg #[.int .i64 1, .string nm, .string x, .slice none 0 0, .slice none 0 0]) (by simp [results, Try.results39, go_sem, x0, x1, x2, x3, x4]) rfl DN.out
    | some q =>
      obtain ⟨v, r⟩ := q
      rw [hu] at VV HA
      simp only [Option.map_some] at HA
      go_wp2_with fail
      with_reducible refine VV.out.mono ?_
      rintro e v9 ⟨x, k9, rfl, hk9, hx9, c9, p9⟩
      obtain ⟨hx, hd9, t9⟩ : x = ⟨v.toArray⟩ ∧ s.toList.drop k9 = r ∧ SB v9 g s k9 false := p9
      have HF : Hid (some (.mk 1 nm x [] [], r, left) = ans) := by
        rw [← HA.out, hx]
        exact rfl
      have RZ := hide (R24.out.to c9 t9)
      clear c9 t9 VV R24 hu hx HA
      have DN : Hid (RfP ans g g2 n s w (.returned (.agg #[.int .i64 1, .string nm, .string x, .slice none 0 0, .slice none 0 0])) (put5 v9 w.heap.size ⟨1, nm, x, none, 0, 0, none, 0, 0⟩)) := by
        rw [← HF.out]
        exact rf_some RZ.out hk9 hd9 (leaf_see _ _ (by decide) (by omega) (by omega)) (by omega) hl2 (by omega)
      have BZ := hide (RZ.out.box)
      obtain ⟨d0, d1, d2, d3, d4, df⟩ := BZ.out.all
      have f10 := df 0
      have f11 := df 1
      have f12 := df 2
      have f13 := df 3
      have f14 := df 4
      dsimp only [hm0] at d0 d1 d2 d3 d4
      have FP := hide (BZ.out.put ⟨1, nm, x, none, 0, 0, none, 0, 0⟩)
      clear df
      go_wp2
      obtain ⟨x0, x1, x2, x3, x4, _⟩ := FP.out.all
      unfold put5 at x0 x1 x2 x3 x4
      dsimp only at x0 x1 x2 x3 x4
      exact bodyPost_ret (v := .agg #[.int .i64 1, .string nm, .string x, .slice none 0 0, .slice none 0 0]) (by simp [results, Try.results39, go_sem, x0, x1, x2, x3, x4]) rfl DN.out
  | false =>
    rw [is_no h22] at HA
    simp only at HA
    rintro e u23 ⟨rfl, c25, t26⟩
    rw [if_neg (by decide)] at t26
    have R24 := hide (RN.out.to c25 t26)
    clear c25 t26 K21 RN h22
    have K29 : Hid (Calls Try.prog 63 #[.pointer (some ⟨g, 0, none⟩), .int .u8 33] u23 fun e w' => e = .returned (.bool (isS s (kn) false 33)) ∧ Ch (fun b => b = g) u23 w' ∧ SB w' g s (if isS s (kn) false 33 then (kn) + 1 else (kn)) false) := is_any g s (kn) false 33 u23 R24.out.sb hkn hs
    go_wp2_with fail
    with_reducible refine K29.out.mono ?_
    cases h30 : isS s (kn) false 33 with
    | true =>
      obtain ⟨q35, q36⟩ := is_yes h30
      rw [q35] at HA
      simp only at HA
      rintro e u31 ⟨rfl, c33, t34⟩
      rw [if_pos rfl] at t34
      have R32 := hide (R24.out.to c33 t34)
      clear c33 t34 K29 R24 h30 q35
      have K37 : Hid (Calls Try.prog 64 #[.pointer (some ⟨g, 0, none⟩), .int .u8 61] u31 fun e w' => e = .returned (.tuple #[]) ∧ Ch (fun b => b = g) u31 w' ∧ SB w' g s (if isS s (kn + 1) false 61 then (kn + 1) + 1 else (kn + 1)) (!isS s (kn + 1) false 61)) := must_any g s (kn + 1) false 61 u31 R32.out.sb q36 hs
      go_wp2_with fail
      with_reducible refine K37.out.mono ?_
      cases h38 : isS s (kn + 1) false 61 with
      | true =>
        obtain ⟨q43, q44⟩ := is_yes h38
        rw [q43] at HA
        simp only at HA
        rintro e u39 ⟨rfl, c41, t42⟩
        rw [if_pos rfl] at t42
        rw [Bool.not_true] at t42
        have R40 := hide (R32.out.to c41 t42)
        clear c41 t42 K37 R32 h38 q43
        have VV := hide (svalue_any g s (kn + 1 + 1) false u39 R40.out.sb q44 hs)
        rw [val_va] at VV
        cases hu : vaL (s.toList.drop (kn + 1 + 1)) with
        | none =>
          rw [hu] at VV HA
          have HF : Hid (none = ans) := HA.out
          go_wp2_with fail
          with_reducible refine VV.out.mono ?_
          rintro e v9 ⟨x, k9, rfl, hk9, hx9, c9, p9⟩
          have t9 : SB v9 g s k9 true := p9
          have RZ := hide (R40.out.to c9 t9)
          clear c9 t9 p9 VV R40 hu
          have DN : Hid (RfP ans g g2 n s w (.returned (.agg #[.int .i64 2, .string nm, .string x, .slice none 0 0, .slice none 0 0])) (put5 v9 w.heap.size ⟨2, nm, x, none, 0, 0, none, 0, 0⟩)) := by
            rw [← HF.out]
            exact rf_bad RZ.out.ch RZ.out.sb RZ.out.lt.1 hk9 ⟨2, nm, x, none, 0, 0, none, 0, 0⟩
          have BZ := hide (RZ.out.box)
          obtain ⟨d0, d1, d2, d3, d4, df⟩ := BZ.out.all
          have f10 := df 0
          have f11 := df 1
          have f12 := df 2
          have f13 := df 3
          have f14 := df 4
          dsimp only [hm0] at d0 d1 d2 d3 d4
          have FP := hide (BZ.out.put ⟨2, nm, x, none, 0, 0, none, 0, 0⟩)
          clear df
          go_wp2
          obtain ⟨x0, x1, x2, x3, x4, _⟩ := FP.out.all
          unfold put5 at x0 x1 x2 x3 x4
          dsimp only at x0 x1 x2 x3 x4
          exact bodyPost_ret (v := .agg #[.int .i64 2, .string nm, .string x, .slice none 0 0, .slice none 0 0]) (by simp [results, Try.results39, go_sem, x0, x1, x2, x3, x4]) rfl DN.out
        | some q =>
          obtain ⟨v, r⟩ := q
          rw [hu] at VV HA
          simp only [Option.map_some] at HA
          go_wp2_with fail
          with_reducible refine VV.out.mono ?_
          rintro e v9 ⟨x, k9, rfl, hk9, hx9, c9, p9⟩
          obtain ⟨hx, hd9, t9⟩ : x = ⟨v.toArray⟩ ∧ s.toList.drop k9 = r ∧ SB v9 g s k9 false := p9
          have HF : Hid (some (.mk 2 nm x [] [], r, left) = ans) := by
            rw [← HA.out, hx]
            exact rfl
          have RZ := hide (R40.out.to c9 t9)
          clear c9 t9 VV R40 hu hx HA
          have DN : Hid (RfP ans g g2 n s w (.returned (.agg #[.int .i64 2, .string nm, .string x, .slice none 0 0, .slice none 0 0])) (put5 v9 w.heap.size ⟨2, nm, x, none, 0, 0, none, 0, 0⟩)) := by
            rw [← HF.out]
            exact rf_some RZ.out hk9 hd9 (leaf_see _ _ (by decide) (by omega) (by omega)) (by omega) hl2 (by omega)
          have BZ := hide (RZ.out.box)
          obtain ⟨d0, d1, d2, d3, d4, df⟩ := BZ.out.all
          have f10 := df 0
          have f11 := df 1
          have f12 := df 2
          have f13 := df 3
          have f14 := df 4
          dsimp only [hm0] at d0 d1 d2 d3 d4
          have FP := hide (BZ.out.put ⟨2, nm, x, none, 0, 0, none, 0, 0⟩)
          clear df
          go_wp2
          obtain ⟨x0, x1, x2, x3, x4, _⟩ := FP.out.all
          unfold put5 at x0 x1 x2 x3 x4
          dsimp only at x0 x1 x2 x3 x4
          exact bodyPost_ret (v := .agg #[.int .i64 2, .string nm, .string x, .slice none 0 0, .slice none 0 0]) (by simp [results, Try.results39, go_sem, x0, x1, x2, x3, x4]) rfl DN.out
      | false =>
        rw [is_no h38] at HA
        have HF : Hid (none = ans) := HA.out
        rintro e u39 ⟨rfl, c41, t42⟩
        rw [if_neg (by decide)] at t42
        rw [Bool.not_false] at t42
        have R40 := hide (R32.out.to c41 t42)
        clear c41 t42 K37 R32 h38 HA
        have VV := hide (svalue_any g s (kn + 1) true u39 R40.out.sb q36 hs)
        rw [val_bad] at VV
        go_wp2_with fail
        with_reducible refine VV.out.mono ?_
        rintro e v9 ⟨x, k9, rfl, hk9, hx9, c9, p9⟩
        have t9 : SB v9 g s k9 true := p9
        have RZ := hide (R40.out.to c9 t9)
        clear c9 t9 p9 VV R40
        have DN : Hid (RfP ans g g2 n s w (.returned (.agg #[.int .i64 2, .string nm, .string x, .slice none 0 0, .slice none 0 0])) (put5 v9 w.heap.size ⟨2, nm, x, none, 0, 0, none, 0, 0⟩)) := by
          rw [← HF.out]
          exact rf_bad RZ.out.ch RZ.out.sb RZ.out.lt.1 hk9 ⟨2, nm, x, none, 0, 0, none, 0, 0⟩
        have BZ := hide (RZ.out.box)
        obtain ⟨d0, d1, d2, d3, d4, df⟩ := BZ.out.all
        have f10 := df 0
        have f11 := df 1
        have f12 := df 2
        have f13 := df 3
        have f14 := df 4
        dsimp only [hm0] at d0 d1 d2 d3 d4
        have FP := hide (BZ.out.put ⟨2, nm, x, none, 0, 0, none, 0, 0⟩)
        clear df
        go_wp2
        obtain ⟨x0, x1, x2, x3, x4, _⟩ := FP.out.all
        unfold put5 at x0 x1 x2 x3 x4
        dsimp only at x0 x1 x2 x3 x4
        exact bodyPost_ret (v := .agg #[.int .i64 2, .string nm, .string x, .slice none 0 0, .slice none 0 0]) (by simp [results, Try.results39, go_sem, x0, x1, x2, x3, x4]) rfl DN.out
    | false =>
      rw [is_no h30] at HA
      simp only at HA
      rintro e u31 ⟨rfl, c33, t34⟩
      rw [if_neg (by decide)] at t34
      have R32 := hide (R24.out.to c33 t34)
      clear c33 t34 K29 R24 h30
      have K45 : Hid (Calls Try.prog 63 #[.pointer (some ⟨g, 0, none⟩), .int .u8 94] u31 fun e w' => e = .returned (.bool (isS s (kn) false 94)) ∧ Ch (fun b => b = g) u31 w' ∧ SB w' g s (if isS s (kn) false 94 then (kn) + 1 else (kn)) false) := is_any g s (kn) false 94 u31 R32.out.sb hkn hs
      go_wp2_with fail
      with_reducible refine K45.out.mono ?_
      cases h46 : isS s (kn) false 94 with
      | true =>
        obtain ⟨q51, q52⟩ := is_yes h46
        rw [q51] at HA
        simp only at HA
        rintro e u47 ⟨rfl, c49, t50⟩
        rw [if_pos rfl] at t50
        have R48 := hide (R32.out.to c49 t50)
        clear c49 t50 K45 R32 h46 q51
        have K53 : Hid (Calls Try.prog 64 #[.pointer (some ⟨g, 0, none⟩), .int .u8 61] u47 fun e w' => e = .returned (.tuple #[]) ∧ Ch (fun b => b = g) u47 w' ∧ SB w' g s (if isS s (kn + 1) false 61 then (kn + 1) + 1 else (kn + 1)) (!isS s (kn + 1) false 61)) := must_any g s (kn + 1) false 61 u47 R48.out.sb q52 hs
        go_wp2_with fail
        with_reducible refine K53.out.mono ?_
        cases h54 : isS s (kn + 1) false 61 with
        | true =>
          obtain ⟨q59, q60⟩ := is_yes h54
          rw [q59] at HA
          simp only at HA
          rintro e u55 ⟨rfl, c57, t58⟩
          rw [if_pos rfl] at t58
          rw [Bool.not_true] at t58
          have R56 := hide (R48.out.to c57 t58)
          clear c57 t58 K53 R48 h54 q59
          have VV := hide (svalue_any g s (kn + 1 + 1) false u55 R56.out.sb q60 hs)
          rw [val_va] at VV
          cases hu : vaL (s.toList.drop (kn + 1 + 1)) with
          | none =>
            rw [hu] at VV HA
            have HF : Hid (none = ans) := HA.out
            go_wp2_with fail
            with_reducible refine VV.out.mono ?_
            rintro e v9 ⟨x, k9, rfl, hk9, hx9, c9, p9⟩
            have t9 : SB v9 g s k9 true := p9
            have RZ := hide (R56.out.to c9 t9)
            clear c9 t9 p9 VV R56 hu
            have DN : Hid (RfP ans g g2 n s w (.returned (.agg #[.int .i64 3, .string nm, .string x, .slice none 0 0, .slice none 0 0])) (put5 v9 w.heap.size ⟨3, nm, x, none, 0, 0, none, 0, 0⟩)) := by
              rw [← HF.out]
              exact rf_bad RZ.out.ch RZ.out.sb RZ.out.lt.1 hk9 ⟨3, nm, x, none, 0, 0, none, 0, 0⟩
            have BZ := hide (RZ.out.box)
            obtain ⟨d0, d1, d2, d3, d4, df⟩ := BZ.out.all
            have f10 := df 0
            have f11 := df 1
            have f12 := df 2
            have f13 := df 3
            have f14 := df 4
            dsimp only [hm0] at d0 d1 d2 d3 d4
            have FP := hide (BZ.out.put ⟨3, nm, x, none, 0, 0, none, 0, 0⟩)
            clear df
            go_wp2
            obtain ⟨x0, x1, x2, x3, x4, _⟩ := FP.out.all
            unfold put5 at x0 x1 x2 x3 x4
            dsimp only at x0 x1 x2 x3 x4
            exact bodyPost_ret (v := .agg #[.int .i64 3, .string nm, .string x, .slice none 0 0, .slice none 0 0]) (by simp [results, Try.results39, go_sem, x0, x1, x2, x3, x4]) rfl DN.out
          | some q =>
            obtain ⟨v, r⟩ := q
            rw [hu] at VV HA
            simp only [Option.map_some] at HA
            go_wp2_with fail
            with_reducible refine VV.out.mono ?_
            rintro e v9 ⟨x, k9, rfl, hk9, hx9, c9, p9⟩
            obtain ⟨hx, hd9, t9⟩ : x = ⟨v.toArray⟩ ∧ s.toList.drop k9 = r ∧ SB v9 g s k9 false := p9
            have HF : Hid (some (.mk 3 nm x [] [], r, left) = ans) := by
              rw [← HA.out, hx]
              exact rfl
            have RZ := hide (R56.out.to c9 t9)
            clear c9 t9 VV R56 hu hx HA
            have DN : Hid (RfP ans g g2 n s w (.returned (.agg #[.int .i64 3, .string nm, .string x, .slice none 0 0, .slice none 0 0])) (put5 v9 w.heap.size ⟨3, nm, x, none, 0, 0, none, 0, 0⟩)) := by
              rw [← HF.out]
              exact rf_some RZ.out hk9 hd9 (leaf_see _ _ (by decide) (by omega) (by omega)) (by omega) hl2 (by omega)
            have BZ := hide (RZ.out.box)
            obtain ⟨d0, d1, d2, d3, d4, df⟩ := BZ.out.all
            have f10 := df 0
            have f11 := df 1
            have f12 := df 2
            have f13 := df 3
            have f14 := df 4
            dsimp only [hm0] at d0 d1 d2 d3 d4
            have FP := hide (BZ.out.put ⟨3, nm, x, none, 0, 0, none, 0, 0⟩)
            clear df
            go_wp2
            obtain ⟨x0, x1, x2, x3, x4, _⟩ := FP.out.all
            unfold put5 at x0 x1 x2 x3 x4
            dsimp only at x0 x1 x2 x3 x4
            exact bodyPost_ret (v := .agg #[.int .i64 3, .string nm, .string x, .slice none 0 0, .slice none 0 0]) (by simp [results, Try.results39, go_sem, x0, x1, x2, x3, x4]) rfl DN.out
        | false =>
          rw [is_no h54] at HA
          have HF : Hid (none = ans) := HA.out
          rintro e u55 ⟨rfl, c57, t58⟩
          rw [if_neg (by decide)] at t58
          rw [Bool.not_false] at t58
          have R56 := hide (R48.out.to c57 t58)
          clear c57 t58 K53 R48 h54 HA
          have VV := hide (svalue_any g s (kn + 1) true u55 R56.out.sb q52 hs)
          rw [val_bad] at VV
          go_wp2_with fail
          with_reducible refine VV.out.mono ?_
          rintro e v9 ⟨x, k9, rfl, hk9, hx9, c9, p9⟩
          have t9 : SB v9 g s k9 true := p9
          have RZ := hide (R56.out.to c9 t9)
          clear c9 t9 p9 VV R56
          have DN : Hid (RfP ans g g2 n s w (.returned (.agg #[.int .i64 3, .string nm, .string x, .slice none 0 0, .slice none 0 0])) (put5 v9 w.heap.size ⟨3, nm, x, none, 0, 0, none, 0, 0⟩)) := by
            rw [← HF.out]
            exact rf_bad RZ.out.ch RZ.out.sb RZ.out.lt.1 hk9 ⟨3, nm, x, none, 0, 0, none, 0, 0⟩
          have BZ := hide (RZ.out.box)
          obtain ⟨d0, d1, d2, d3, d4, df⟩ := BZ.out.all
          have f10 := df 0
          have f11 := df 1
          have f12 := df 2
          have f13 := df 3
          have f14 := df 4
          dsimp only [hm0] at d0 d1 d2 d3 d4
          have FP := hide (BZ.out.put ⟨3, nm, x, none, 0, 0, none, 0, 0⟩)
          clear df
          go_wp2
          obtain ⟨x0, x1, x2, x3, x4, _⟩ := FP.out.all
          unfold put5 at x0 x1 x2 x3 x4
          dsimp only at x0 x1 x2 x3 x4
          exact bodyPost_ret (v := .agg #[.int .i64 3, .string nm, .string x, .slice none 0 0, .slice none 0 0]) (by simp [results, Try.results39, go_sem, x0, x1, x2, x3, x4]) rfl DN.out
      | false =>
        rw [is_no h46] at HA
        simp only at HA
        rintro e u47 ⟨rfl, c49, t50⟩
        rw [if_neg (by decide)] at t50
        have R48 := hide (R32.out.to c49 t50)
        clear c49 t50 K45 R32 h46
        have K61 : Hid (Calls Try.prog 64 #[.pointer (some ⟨g, 0, none⟩), .int .u8 64] u47 fun e w' => e = .returned (.tuple #[]) ∧ Ch (fun b => b = g) u47 w' ∧ SB w' g s (if isS s (kn) false 64 then (kn) + 1 else (kn)) (!isS s (kn) false 64)) := must_any g s (kn) false 64 u47 R48.out.sb hkn hs
        go_wp2_with fail
        with_reducible refine K61.out.mono ?_
        cases h62 : isS s (kn) false 64 with
        | true =>
          obtain ⟨q67, q68⟩ := is_yes h62
          rw [q67] at HA
          simp only at HA
          rintro e u63 ⟨rfl, c65, t66⟩
          rw [if_pos rfl] at t66
          rw [Bool.not_true] at t66
          have R64 := hide (R48.out.to c65 t66)
          clear c65 t66 K61 R48 h62 q67
          have K69 : Hid (Calls Try.prog 64 #[.pointer (some ⟨g, 0, none⟩), .int .u8 40] u63 fun e w' => e = .returned (.tuple #[]) ∧ Ch (fun b => b = g) u63 w' ∧ SB w' g s (if isS s (kn + 1) false 40 then (kn + 1) + 1 else (kn + 1)) (!isS s (kn + 1) false 40)) := must_any g s (kn + 1) false 40 u63 R64.out.sb q68 hs
          go_wp2_with fail
          with_reducible refine K69.out.mono ?_
          cases h70 : isS s (kn + 1) false 40 with
          | true =>
            obtain ⟨q75, q76⟩ := is_yes h70
            rw [q75] at HA
            simp only at HA
            rintro e u71 ⟨rfl, c73, t74⟩
            rw [if_pos rfl] at t74
            rw [Bool.not_true] at t74
            have R72 := hide (R64.out.to c73 t74)
            clear c73 t74 K69 R64 h70 q75
            obtain ⟨v0, hv0⟩ : ∃ v0, Hid (u71.alloc (.cells #[.int .i64 4, .string nm, .string ⟨#[]⟩, .slice none 0 0, .slice none 0 0] 25) = v0) := ⟨_, rfl⟩
            have D0 := hide (VaR.start (nm := nm) R72.out hv0.out)
            have HI : Hid (ans = (lxV 17 (s.toList.drop (kn + 1 + 1))).map (fun z => (.mk 4 nm .empty ([] ++ z.1) [], z.2, left))) := by
              rw [← HA.out]
              show _ = _
              cases lxV 17 (s.toList.drop (kn + 1 + 1)) <;> rfl
            go_upto_region 36 with fail
            rw [hv0.out]
            clear hv0 R72 HA
            generalize u71.heap.size = gm at *
            go_loopg [] 19 (fun gh wr => (∃ (k : Nat) (a : Option Addr) (j c : Nat) (ss : List ByteArray), k ≤ s.size ∧ j ≤ 17 ∧ 18 - j ≤ gh ∧ Hid (VaR w wr g g2 s k false (n + 1) gm nm a j c ss) ∧ Hid (ans = (lxV (17 - j) (s.toList.drop k)).map (fun z => (.mk 4 nm .empty (ss ++ z.1) [], z.2, left)))) ∨ (∃ (k : Nat) (a : Option Addr) (j c : Nat) (ss : List ByteArray), k ≤ s.size ∧ j ≤ 17 ∧ Hid (VaR w wr g g2 s k true (n + 1) gm nm a j c ss) ∧ Hid (none = ans)))
            case atStart => exact Or.inl ⟨kn + 1 + 1, none, 0, 0, [], q76, by omega, by omega, D0, HI⟩
            case round =>
              clear D0 HI
              rcases hrel with ⟨k9, a, j, c, ss, hk9, hj, hg1, D, HI⟩ | ⟨k9, a, j, c, ss, hk9, hj, D, HF⟩
              · obtain ⟨u, rfl⟩ : ∃ u, u = wr := ⟨wr, rfl⟩
                obtain ⟨s0, s1, s2, _⟩ := D.out.rs.sb.cell
                obtain ⟨m0, m1, m2, m3, m4, _⟩ := D.out.mb.all
                dsimp only at m0 m1 m2 m3 m4
                by_cases h17 : j = 17
                · have i1 : ¬ (j : Int) ≤ 16 := by omega
                  have i2 : decide ((j : Int) ≤ 16) = false := decide_eq_false i1
                  have HF : Hid (none = ans) := by
                    rw [HI.out, h17]
                    exact rfl
                  clear HI h17 s0 s1 s2 m0 m1 m2 m3 m4
                  obtain ⟨m0, m1, m2, m3, m4, _⟩ := D.out.mb.all
                  dsimp only at m0 m1 m2 m3 m4
                  obtain ⟨s0, s1, s2, sf⟩ := D.out.rs.sb.cell
                  have sf2 := sf 2
                  clear sf
                  obtain ⟨v8, hv8⟩ : ∃ v8, Hid (u.setCell ⟨g, 2, none⟩ (.bool true) = v8) := ⟨_, rfl⟩
                  have DZ := hide (D.out.to (ch_set u g 2 (.bool true)) D.out.rs.sb.spoil)
                  rw [hv8.out] at DZ
                  obtain ⟨n0, n1, n2, n3, n4, _⟩ := D.out.mb.all
                  dsimp only at n0 n1 n2 n3 n4
                  go_upto_region 43 with fail
                  rw [hv8.out]
                  clear hv8 s0 s1 s2 sf2 n0 n1 n2 n3 n4
                  obtain ⟨m0, m1, m2, m3, m4, _⟩ := DZ.out.mb.all
                  dsimp only at m0 m1 m2 m3 m4
                  have DN : Hid (RfP ans g g2 n s w (.returned (.agg #[.int .i64 4, .string nm, .string ⟨#[]⟩, .slice a j c, .slice none 0 0])) (put5 v8 w.heap.size ⟨4, nm, ⟨#[]⟩, a, j, c, none, 0, 0⟩)) := by
                    rw [← HF.out]
                    exact rf_bad DZ.out.rs.ch DZ.out.rs.sb DZ.out.rs.lt.1 hk9 ⟨4, nm, ⟨#[]⟩, a, j, c, none, 0, 0⟩
                  have BZ := hide (DZ.out.rs.box)
                  obtain ⟨d0, d1, d2, d3, d4, df⟩ := BZ.out.all
                  have f10 := df 0
                  have f11 := df 1
                  have f12 := df 2
                  have f13 := df 3
                  have f14 := df 4
                  dsimp only [hm0] at d0 d1 d2 d3 d4
                  have FP := hide (BZ.out.put ⟨4, nm, ⟨#[]⟩, a, j, c, none, 0, 0⟩)
                  clear df
                  go_wp2
                  obtain ⟨x0, x1, x2, x3, x4, _⟩ := FP.out.all
                  unfold put5 at x0 x1 x2 x3 x4
                  dsimp only at x0 x1 x2 x3 x4
                  exact bodyPost_ret (v := .agg #[.int .i64 4, .string nm, .string ⟨#[]⟩, .slice a j c, .slice none 0 0]) (by simp [results, Try.results39, go_sem, x0, x1, x2, x3, x4]) rfl DN.out
                · have i1 : (j : Int) ≤ 16 := by omega
                  obtain ⟨F, hF⟩ : ∃ F, 17 - j = F + 1 := ⟨17 - j - 1, by omega⟩
                  have hF2 : 17 - (j + 1) = F := by omega
                  rw [hF, lxV_step] at HI
                  have VV := hide (svalue_any g s k9 false u D.out.rs.sb hk9 hs)
                  rw [val_va] at VV
                  cases hu : vaL (s.toList.drop k9) with
                  | none =>
                    rw [hu] at VV HI
                    have HF : Hid (none = ans) := by
                      rw [HI.out]
                      exact rfl
                    go_wp2_with fail
                    with_reducible refine VV.out.mono ?_
                    rintro e u6 ⟨x, k6, rfl, hk6, hx6, c6, p6⟩
                    have t6 : SB u6 g s k6 true := p6
                    have D6 := hide (D.out.to c6 t6)
                    clear c6 t6 p6 VV D hu HI s0 s1 s2 m0 m1 m2 m3 m4
                    have hx2 : x.size ≤ 20000 := by omega
                    have O6 : Hid ((u6.alloc (.cells #[.string x] 9)).ownsRow (gm + 1) 9 1 (.slice a j c) j (ss.map Value.string)) := row_ch D6.out.own (Ch.of_below ((Below.refl _ _).alloc (Nat.le_refl _) _)) (fun _ _ => id)
                    have HBS : Hid (gm + 1 ≤ (u6.alloc (.cells #[.string x] 9)).heap.size) := by
                      have := D6.out.mb.lt
                      show _ ≤ _
                      simp
                      omega
                    obtain ⟨m0, m1, m2, m3, m4, _⟩ := D6.out.mb.all
                    dsimp only at m0 m1 m2 m3 m4
                    obtain ⟨i7, hj7, hy0, hy1, hy2⟩ := info_parts Try.infoS
                    go_wp2_with (at_builtin; refine wpList_push _ rfl _ _ 22 rfl (gm + 1) 9 i7 (.string .empty) 16 Try.underlying22 hj7 hy0 hy1 hy2 rfl a j c (ss.map Value.string) rfl O6.out ⟨u6.heap.size, 0, none⟩ 1 (.string x) rfl (one_strcell u6 x _) rfl (by unfold maxLen; omega) (by omega) HBS.out ?_)
                    intro g' c' w4 o4 gr4 _
                    have D7 := hide (D6.out.push hx2 o4 gr4)
                    have M4 : Hid (BoxM w4 gm ⟨4, nm, ⟨#[]⟩, a, j, c, none, 0, 0⟩) := by
                      have c4 := Ch.grown gr4
                      have b1 : BoxM (u6.alloc (.cells #[.string x] 9)) gm ⟨4, nm, ⟨#[]⟩, a, j, c, none, 0, 0⟩ := D6.out.mb.block (Below.heap_alloc _ _ _ D6.out.mb.lt)
                      exact b1.block (c4.block _ b1.lt (fun e => by have := (row_cells D6.out.own e).2; omega))
                    obtain ⟨z0, z1, z2, z3, z4, zf⟩ := M4.out.all
                    have zf3 := zf 3
                    dsimp only at z0 z1 z2 z3 z4
                    obtain ⟨u9, hu9⟩ : ∃ u9, Hid (w4.setCell ⟨gm, 3, none⟩ (.slice (some ⟨g', 0, none⟩) (j + 1) c') = u9) := ⟨_, rfl⟩
                    rw [hu9.out] at D7
                    clear o4 gr4 O6 HBS D6 M4 zf m0 m1 m2 m3 m4
                    go_upto_region 39 with fail
                    rw [hu9.out]
                    clear hu9 z0 z1 z2 z3 z4 zf3
                    have K77 : Hid (Calls Try.prog 63 #[.pointer (some ⟨g, 0, none⟩), .int .u8 41] u9 fun e w' => e = .returned (.bool (isS s (k6) true 41)) ∧ Ch (fun b => b = g) u9 w' ∧ SB w' g s (if isS s (k6) true 41 then (k6) + 1 else (k6)) true) := is_any g s (k6) true 41 u9 D7.out.rs.sb hk6 hs
                    go_wp2_with fail
                    with_reducible refine K77.out.mono ?_
                    rintro e v5 ⟨rfl, c5, t5⟩
                    rw [is_bad, if_neg (by decide)] at t5
                    rw [is_bad]
                    have D8 := hide (D7.out.to c5 t5)
                    clear c5 t5 D7 K77
                    have K78 : Hid (Calls Try.prog 64 #[.pointer (some ⟨g, 0, none⟩), .int .u8 44] v5 fun e w' => e = .returned (.tuple #[]) ∧ Ch (fun b => b = g) v5 w' ∧ SB w' g s (if isS s (k6) true 44 then (k6) + 1 else (k6)) (!isS s (k6) true 44)) := must_any g s (k6) true 44 v5 D8.out.rs.sb hk6 hs
                    go_wp2_with fail
                    with_reducible refine K78.out.mono ?_
                    rintro e v6 ⟨rfl, c5, t5⟩
                    have D9 := hide (D8.out.to c5 (must_bad t5))
                    clear c5 t5 D8 K78
                    go_wp2
                    go_roundg 0
                    case measure => omega
                    case rel => exact Or.inr ⟨k6, _, _, _, _, hk6, by omega, D9, HF⟩
                  | some q =>
                    obtain ⟨v, r⟩ := q
                    rw [hu] at VV
                    go_wp2_with fail
                    with_reducible refine VV.out.mono ?_
                    rintro e u6 ⟨x, k6, rfl, hk6, hx6, c6, p6⟩
                    obtain ⟨hx, hd6, t6⟩ : x = ⟨v.toArray⟩ ∧ s.toList.drop k6 = r ∧ SB u6 g s k6 false := p6
                    have HI3 : Hid (ans = (lxVC F (s.toList.drop k6)).map (fun z => (.mk 4 nm .empty (ss ++ [x] ++ z.1) [], z.2, left))) := by
                      rw [HI.out, hu, hd6, hx, Option.map_map]
                      show _ = _
                      congr 1
                      funext z
                      simp [bar]
                    clear hx hd6
                    have D6 := hide (D.out.to c6 t6)
                    clear c6 t6 VV D hu HI s0 s1 s2 m0 m1 m2 m3 m4
                    have hx2 : x.size ≤ 20000 := by omega
                    have O6 : Hid ((u6.alloc (.cells #[.string x] 9)).ownsRow (gm + 1) 9 1 (.slice a j c) j (ss.map Value.string)) := row_ch D6.out.own (Ch.of_below ((Below.refl _ _).alloc (Nat.le_refl _) _)) (fun _ _ => id)
                    have HBS : Hid (gm + 1 ≤ (u6.alloc (.cells #[.string x] 9)).heap.size) := by
                      have := D6.out.mb.lt
                      show _ ≤ _
                      simp
                      omega
                    obtain ⟨m0, m1, m2, m3, m4, _⟩ := D6.out.mb.all
                    dsimp only at m0 m1 m2 m3 m4
                    obtain ⟨i7, hj7, hy0, hy1, hy2⟩ := info_parts Try.infoS
                    go_wp2_with (at_builtin; refine wpList_push _ rfl _ _ 22 rfl (gm + 1) 9 i7 (.string .empty) 16 Try.underlying22 hj7 hy0 hy1 hy2 rfl a j c (ss.map Value.string) rfl O6.out ⟨u6.heap.size, 0, none⟩ 1 (.string x) rfl (one_strcell u6 x _) rfl (by unfold maxLen; omega) (by omega) HBS.out ?_)
                    intro g' c' w4 o4 gr4 _
                    have D7 := hide (D6.out.push hx2 o4 gr4)
                    have M4 : Hid (BoxM w4 gm ⟨4, nm, ⟨#[]⟩, a, j, c, none, 0, 0⟩) := by
                      have c4 := Ch.grown gr4
                      have b1 : BoxM (u6.alloc (.cells #[.string x] 9)) gm ⟨4, nm, ⟨#[]⟩, a, j, c, none, 0, 0⟩ := D6.out.mb.block (Below.heap_alloc _ _ _ D6.out.mb.lt)
                      exact b1.block (c4.block _ b1.lt (fun e => by have := (row_cells D6.out.own e).2; omega))
                    obtain ⟨z0, z1, z2, z3, z4, zf⟩ := M4.out.all
                    have zf3 := zf 3
                    dsimp only at z0 z1 z2 z3 z4
                    obtain ⟨u9, hu9⟩ : ∃ u9, Hid (w4.setCell ⟨gm, 3, none⟩ (.slice (some ⟨g', 0, none⟩) (j + 1) c') = u9) := ⟨_, rfl⟩
                    rw [hu9.out] at D7
                    clear o4 gr4 O6 HBS D6 M4 zf m0 m1 m2 m3 m4
                    go_upto_region 39 with fail
                    rw [hu9.out]
                    clear hu9 z0 z1 z2 z3 z4 zf3
                    have K79 : Hid (Calls Try.prog 63 #[.pointer (some ⟨g, 0, none⟩), .int .u8 41] u9 fun e w' => e = .returned (.bool (isS s (k6) false 41)) ∧ Ch (fun b => b = g) u9 w' ∧ SB w' g s (if isS s (k6) false 41 then (k6) + 1 else (k6)) false) := is_any g s (k6) false 41 u9 D7.out.rs.sb hk6 hs
                    go_wp2_with fail
                    with_reducible refine K79.out.mono ?_
                    cases h61 : isS s k6 false 41 with
                    | true =>
                      obtain ⟨q7, q8⟩ := is_yes h61
                      unfold lxVC at HI3
                      rw [q7] at HI3
                      simp only [Option.map_some, List.append_nil] at HI3
                      have HF : Hid (some (.mk 4 nm .empty (ss ++ [x]) [], s.toList.drop (k6 + 1), left) = ans) := HI3.out.symm
                      rintro e v5 ⟨rfl, c5, t5⟩
                      rw [if_pos rfl] at t5
                      have D8 := hide (D7.out.to c5 t5)
                      clear c5 t5 D7 K79 h61 q7 HI3
                      obtain ⟨m0, m1, m2, m3, m4, _⟩ := D8.out.mb.all
                      dsimp only at m0 m1 m2 m3 m4
                      have DN : Hid (RfP ans g g2 n s w (.returned (.agg #[.int .i64 4, .string nm, .string ⟨#[]⟩, .slice (some ⟨g', 0, none⟩) (j + 1) c', .slice none 0 0])) (put5 v5 w.heap.size ⟨4, nm, ⟨#[]⟩, (some ⟨g', 0, none⟩), (j + 1), c', none, 0, 0⟩)) := by
                        rw [← HF.out]
                        exact rf_some D8.out.rs q8 rfl (D8.out.fin (by omega) hnm) (by omega) hl2 (by omega)
                      have BZ := hide (D8.out.rs.box)
                      obtain ⟨d0, d1, d2, d3, d4, df⟩ := BZ.out.all
                      have f10 := df 0
                      have f11 := df 1
                      have f12 := df 2
                      have f13 := df 3
                      have f14 := df 4
                      dsimp only [hm0] at d0 d1 d2 d3 d4
                      have FP := hide (BZ.out.put ⟨4, nm, ⟨#[]⟩, (some ⟨g', 0, none⟩), (j + 1), c', none, 0, 0⟩)
                      clear df
                      go_wp2
                      obtain ⟨x0, x1, x2, x3, x4, _⟩ := FP.out.all
                      unfold put5 at x0 x1 x2 x3 x4
                      dsimp only at x0 x1 x2 x3 x4
                      exact bodyPost_ret (v := .agg #[.int .i64 4, .string nm, .string ⟨#[]⟩, .slice (some ⟨g', 0, none⟩) (j + 1) c', .slice none 0 0]) (by simp [results, Try.results39, go_sem, x0, x1, x2, x3, x4]) rfl DN.out
                    | false =>
                      unfold lxVC at HI3
                      rw [is_no h61] at HI3
                      simp only at HI3
                      rintro e v5 ⟨rfl, c5, t5⟩
                      rw [if_neg (by decide)] at t5
                      have D8 := hide (D7.out.to c5 t5)
                      clear c5 t5 D7 K79 h61
                      have K80 : Hid (Calls Try.prog 64 #[.pointer (some ⟨g, 0, none⟩), .int .u8 44] v5 fun e w' => e = .returned (.tuple #[]) ∧ Ch (fun b => b = g) v5 w' ∧ SB w' g s (if isS s (k6) false 44 then (k6) + 1 else (k6)) (!isS s (k6) false 44)) := must_any g s (k6) false 44 v5 D8.out.rs.sb hk6 hs
                      go_wp2_with fail
                      with_reducible refine K80.out.mono ?_
                      cases h62 : isS s k6 false 44 with
                      | true =>
                        obtain ⟨q7, q8⟩ := is_yes h62
                        rw [q7] at HI3
                        simp only at HI3
                        rw [← hF2] at HI3
                        rintro e v6 ⟨rfl, c5, t5⟩
                        rw [if_pos rfl] at t5
                        rw [Bool.not_true] at t5
                        have D9 := hide (D8.out.to c5 t5)
                        clear c5 t5 D8 K80 h62 q7
                        go_wp2
                        go_roundg (18 - (j + 1))
                        case measure => omega
                        case rel => exact Or.inl ⟨k6 + 1, _, j + 1, _, _, q8, by omega, Nat.le_refl _, D9, HI3⟩
                      | false =>
                        rw [is_no h62] at HI3
                        have HF : Hid (none = ans) := HI3.out.symm
                        rintro e v6 ⟨rfl, c5, t5⟩
                        rw [if_neg (by decide)] at t5
                        rw [Bool.not_false] at t5
                        have D9 := hide (D8.out.to c5 t5)
                        clear c5 t5 D8 K80 h62
                        go_wp2
                        go_roundg 0
                        case measure => omega
                        case rel => exact Or.inr ⟨k6, _, _, _, _, hk6, by omega, D9, HF⟩
              · obtain ⟨u, rfl⟩ : ∃ u, u = wr := ⟨wr, rfl⟩
                obtain ⟨s0, s1, s2, _⟩ := D.out.rs.sb.cell
                obtain ⟨s0, s1, s2, sf⟩ := D.out.rs.sb.cell
                have sf2 := sf 2
                clear sf
                obtain ⟨v8, hv8⟩ : ∃ v8, Hid (u.setCell ⟨g, 2, none⟩ (.bool true) = v8) := ⟨_, rfl⟩
                have DZ := hide (D.out.to (ch_set u g 2 (.bool true)) D.out.rs.sb.spoil)
                rw [hv8.out] at DZ
                obtain ⟨n0, n1, n2, n3, n4, _⟩ := D.out.mb.all
                dsimp only at n0 n1 n2 n3 n4
                go_upto_region 43 with fail
                rw [hv8.out]
                clear hv8 s0 s1 s2 sf2 n0 n1 n2 n3 n4
                obtain ⟨m0, m1, m2, m3, m4, _⟩ := DZ.out.mb.all
                dsimp only at m0 m1 m2 m3 m4
                have DN : Hid (RfP ans g g2 n s w (.returned (.agg #[.int .i64 4, .string nm, .string ⟨#[]⟩, .slice a j c, .slice none 0 0])) (put5 v8 w.heap.size ⟨4, nm, ⟨#[]⟩, a, j, c, none, 0, 0⟩)) := by
                  rw [← HF.out]
                  exact rf_bad DZ.out.rs.ch DZ.out.rs.sb DZ.out.rs.lt.1 hk9 ⟨4, nm, ⟨#[]⟩, a, j, c, none, 0, 0⟩
                have BZ := hide (DZ.out.rs.box)
                obtain ⟨d0, d1, d2, d3, d4, df⟩ := BZ.out.all
                have f10 := df 0
                have f11 := df 1
                have f12 := df 2
                have f13 := df 3
                have f14 := df 4
                dsimp only [hm0] at d0 d1 d2 d3 d4
                have FP := hide (BZ.out.put ⟨4, nm, ⟨#[]⟩, a, j, c, none, 0, 0⟩)
                clear df
                go_wp2
                obtain ⟨x0, x1, x2, x3, x4, _⟩ := FP.out.all
                unfold put5 at x0 x1 x2 x3 x4
                dsimp only at x0 x1 x2 x3 x4
                exact bodyPost_ret (v := .agg #[.int .i64 4, .string nm, .string ⟨#[]⟩, .slice a j c, .slice none 0 0]) (by simp [results, Try.results39, go_sem, x0, x1, x2, x3, x4]) rfl DN.out
          | false =>
            rw [is_no h70] at HA
            have HF : Hid (none = ans) := HA.out
            rintro e u71 ⟨rfl, c73, t74⟩
            rw [if_neg (by decide)] at t74
            rw [Bool.not_false] at t74
            have R72 := hide (R64.out.to c73 t74)
            clear c73 t74 K69 R64 h70 HA
            obtain ⟨v0, hv0⟩ : ∃ v0, Hid (u71.alloc (.cells #[.int .i64 4, .string nm, .string ⟨#[]⟩, .slice none 0 0, .slice none 0 0] 25) = v0) := ⟨_, rfl⟩
            have D0 := hide (VaR.start (nm := nm) R72.out hv0.out)
            go_upto_region 36 with fail
            rw [hv0.out]
            clear hv0 R72
            generalize u71.heap.size = gm at *
            go_loopg [] 1 (fun gh wr => Hid (wr = v0))
            case atStart => exact hide rfl
            case round =>
              have hw := hrel.out
              subst hw
              obtain ⟨s0, s1, s2, sf⟩ := D0.out.rs.sb.cell
              have sf2 := sf 2
              clear sf
              obtain ⟨v8, hv8⟩ : ∃ v8, Hid (wr.setCell ⟨g, 2, none⟩ (.bool true) = v8) := ⟨_, rfl⟩
              have DZ := hide (D0.out.to (ch_set wr g 2 (.bool true)) D0.out.rs.sb.spoil)
              rw [hv8.out] at DZ
              obtain ⟨n0, n1, n2, n3, n4, _⟩ := D0.out.mb.all
              dsimp only at n0 n1 n2 n3 n4
              go_upto_region 43 with fail
              rw [hv8.out]
              clear hv8 s0 s1 s2 sf2 n0 n1 n2 n3 n4
              obtain ⟨m0, m1, m2, m3, m4, _⟩ := DZ.out.mb.all
              dsimp only at m0 m1 m2 m3 m4
              have DN : Hid (RfP ans g g2 n s w (.returned (.agg #[.int .i64 4, .string nm, .string ⟨#[]⟩, .slice none 0 0, .slice none 0 0])) (put5 v8 w.heap.size ⟨4, nm, ⟨#[]⟩, none, 0, 0, none, 0, 0⟩)) := by
                rw [← HF.out]
                exact rf_bad DZ.out.rs.ch DZ.out.rs.sb DZ.out.rs.lt.1 q68 ⟨4, nm, ⟨#[]⟩, none, 0, 0, none, 0, 0⟩
              have BZ := hide (DZ.out.rs.box)
              obtain ⟨d0, d1, d2, d3, d4, df⟩ := BZ.out.all
              have f10 := df 0
              have f11 := df 1
              have f12 := df 2
              have f13 := df 3
              have f14 := df 4
              dsimp only [hm0] at d0 d1 d2 d3 d4
              have FP := hide (BZ.out.put ⟨4, nm, ⟨#[]⟩, none, 0, 0, none, 0, 0⟩)
              clear df
              go_wp2
              obtain ⟨x0, x1, x2, x3, x4, _⟩ := FP.out.all
              unfold put5 at x0 x1 x2 x3 x4
              dsimp only at x0 x1 x2 x3 x4
              exact bodyPost_ret (v := .agg #[.int .i64 4, .string nm, .string ⟨#[]⟩, .slice none 0 0, .slice none 0 0]) (by simp [results, Try.results39, go_sem, x0, x1, x2, x3, x4]) rfl DN.out
        | false =>
          rw [is_no h62] at HA
          have HF : Hid (none = ans) := HA.out
          rintro e u63 ⟨rfl, c65, t66⟩
          rw [if_neg (by decide)] at t66
          rw [Bool.not_false] at t66
          have R64 := hide (R48.out.to c65 t66)
          clear c65 t66 K61 R48 h62 HA
          have K81 : Hid (Calls Try.prog 64 #[.pointer (some ⟨g, 0, none⟩), .int .u8 40] u63 fun e w' => e = .returned (.tuple #[]) ∧ Ch (fun b => b = g) u63 w' ∧ SB w' g s (if isS s (kn) true 40 then (kn) + 1 else (kn)) (!isS s (kn) true 40)) := must_any g s (kn) true 40 u63 R64.out.sb hkn hs
          go_wp2_with fail
          with_reducible refine K81.out.mono ?_
          rintro e u82 ⟨rfl, c84, t85⟩
          have R83 := hide (R64.out.to c84 (must_bad t85))
          clear c84 t85 K81 R64
          obtain ⟨v0, hv0⟩ : ∃ v0, Hid (u82.alloc (.cells #[.int .i64 4, .string nm, .string ⟨#[]⟩, .slice none 0 0, .slice none 0 0] 25) = v0) := ⟨_, rfl⟩
          have D0 := hide (VaR.start (nm := nm) R83.out hv0.out)
          go_upto_region 36 with fail
          rw [hv0.out]
          clear hv0 R83
          generalize u82.heap.size = gm at *
          go_loopg [] 1 (fun gh wr => Hid (wr = v0))
          case atStart => exact hide rfl
          case round =>
            have hw := hrel.out
            subst hw
            obtain ⟨s0, s1, s2, sf⟩ := D0.out.rs.sb.cell
            have sf2 := sf 2
            clear sf
            obtain ⟨v8, hv8⟩ : ∃ v8, Hid (wr.setCell ⟨g, 2, none⟩ (.bool true) = v8) := ⟨_, rfl⟩
            have DZ := hide (D0.out.to (ch_set wr g 2 (.bool true)) D0.out.rs.sb.spoil)
            rw [hv8.out] at DZ
            obtain ⟨n0, n1, n2, n3, n4, _⟩ := D0.out.mb.all
            dsimp only at n0 n1 n2 n3 n4
            go_upto_region 43 with fail
            rw [hv8.out]
            clear hv8 s0 s1 s2 sf2 n0 n1 n2 n3 n4
            obtain ⟨m0, m1, m2, m3, m4, _⟩ := DZ.out.mb.all
            dsimp only at m0 m1 m2 m3 m4
            have DN : Hid (RfP ans g g2 n s w (.returned (.agg #[.int .i64 4, .string nm, .string ⟨#[]⟩, .slice none 0 0, .slice none 0 0])) (put5 v8 w.heap.size ⟨4, nm, ⟨#[]⟩, none, 0, 0, none, 0, 0⟩)) := by
              rw [← HF.out]
              exact rf_bad DZ.out.rs.ch DZ.out.rs.sb DZ.out.rs.lt.1 hkn ⟨4, nm, ⟨#[]⟩, none, 0, 0, none, 0, 0⟩
            have BZ := hide (DZ.out.rs.box)
            obtain ⟨d0, d1, d2, d3, d4, df⟩ := BZ.out.all
            have f10 := df 0
            have f11 := df 1
            have f12 := df 2
            have f13 := df 3
            have f14 := df 4
            dsimp only [hm0] at d0 d1 d2 d3 d4
            have FP := hide (BZ.out.put ⟨4, nm, ⟨#[]⟩, none, 0, 0, none, 0, 0⟩)
            clear df
            go_wp2
            obtain ⟨x0, x1, x2, x3, x4, _⟩ := FP.out.all
            unfold put5 at x0 x1 x2 x3 x4
            dsimp only at x0 x1 x2 x3 x4
            exact bodyPost_ret (v := .agg #[.int .i64 4, .string nm, .string ⟨#[]⟩, .slice none 0 0, .slice none 0 0]) (by simp [results, Try.results39, go_sem, x0, x1, x2, x3, x4]) rfl DN.out
end Go.Proofs.Ythebcmkainplnaa
