/-
  What the landed code's Of, Sum and Merge come to: contracts, for every world; what was there before stays.
  Conditions: the observations, the sketches lie in memory.
-/
import Derived.Test.YtadcaonkmncgoaaPairG
import Derived.Test.YtadcaonkmncgoaaPairE
namespace Go.Proofs.Ytadcaonkmncgoaa
open Go.RowKit Go.Maps
set_option maxRecDepth 20000

theorem take_obs {l : List Ob} {k : Nat} (h : k < l.length) : l.take (k + 1) = l.take k ++ [l.getD k ob0] := by
  rw [List.take_succ_eq_append_getElem h, List.getD_eq_getElem?_getD, List.getElem?_eq_getElem h]
  rfl
theorem ofP_step {l : List Ob} {k : Nat} (h : k < l.length) : ofP (l.take (k + 1)) = addP (ofP (l.take k)) (l.getD k ob0) := by
  rw [take_obs h]
  show (l.take k ++ [_]).foldl addP zeroP = _
  rw [List.foldl_append]
  rfl
theorem RowO.below {B : Nat} {w w' : World} {a : Option Addr} {n : Nat} {l : List Ob} (h : RowO w a n l) (hb : Below B w w') (hB : w.heap.size ≤ B) : RowO w' a n l := by
  obtain ⟨h1, h2, h3, h4⟩ := h
  refine ⟨h1, h2, h3, ?_⟩
  rcases h4 with h4 | ⟨b, off, rfl, hc⟩
  · exact Or.inl h4
  · right
    refine ⟨b, off, rfl, fun i hi => ?_⟩
    have hlt : b < w.heap.size := World.block_lt_of_cell? w _ (hc i hi).1
    rw [hb.cell (p := ⟨b, off + i * 3, none⟩) (Nat.lt_of_lt_of_le hlt hB), hb.cell (p := ⟨b, off + i * 3 + 1, none⟩) (Nat.lt_of_lt_of_le hlt hB), hb.cell (p := ⟨b, off + i * 3 + 2, none⟩) (Nat.lt_of_lt_of_le hlt hB)]
    exact hc i hi
theorem obs_getD {l : List Ob} (h : ∀ o ∈ l, Word o.v ∧ Word o.b ∧ o.t.size ≤ 9223372036854775807) (i : Nat) : Word (l.getD i ob0).v ∧ Word (l.getD i ob0).b ∧ (l.getD i ob0).t.size ≤ 9223372036854775807 := by
  by_cases hi : i < l.length
  · rw [List.getD_eq_getElem?_getD, List.getElem?_eq_getElem hi]
    exact h _ (List.getElem_mem hi)
  · rw [List.getD_eq_getElem?_getD, List.getElem?_eq_none (by omega)]
    exact ⟨⟨by decide, by decide⟩, ⟨by decide, by decide⟩, by decide⟩
/-- What was made, put into a box that was there before. -/
theorem made_put {w wr w' : World} {x : Nat} {h : Hd} {s : Sp} (m : MadeP w' wr.heap.size h s) (hx : x < wr.heap.size) (hB : w.heap.size ≤ wr.heap.size) : MadeP (put6 w' x h s.g) w.heap.size h s :=
  have z := made_of (ownb_put m.oh hx h s.g) (ownu_put m.ok hx h s.g) m.see.rh.2.2.1 m.see.rk.words m.see.g m.see.sh m.see.sk
  ⟨z.oh.mono hB, Own.mono z.ok hB, z.see⟩

set_option maxHeartbeats 4000000 in
theorem pof_any (a : Option Addr) (n cap : Nat) (l : List Ob) (w : World) (hr : RowO w a n l) :
    Calls Try.prog 9 #[.slice a n cap] w fun e w' => ∃ h, e = .returned (Value.agg #[.slice (Hd.a h) (Hd.n h) (Hd.c h), .slice (Hd.k h) (Hd.m h) (Hd.d h), .int .u64 (Gz.n ((ofP l).g)), .int .u64 (Gz.nans ((ofP l).g)), .int .u64 (Gz.lo ((ofP l).g)), .int .u64 (Gz.hi ((ofP l).g))]) ∧ MadeP w' w.heap.size h (ofP l) ∧ Below w.heap.size w w' := by
  obtain ⟨w0, hw0⟩ : ∃ w0, Hid (w.alloc (.cells #[.slice none 0 0, .slice none 0 0, .int .u64 0, .int .u64 0, .int .u64 0, .int .u64 0] 30) = w0) := ⟨_, rfl⟩
  obtain ⟨x, hx⟩ : ∃ x, Hid (w.heap.size = x) := ⟨_, rfl⟩
  have A0 : Hid (SBox w0 x hd0 g0) := by rw [← hw0.out, ← hx.out]; exact SBox.new _ _ hd0 g0
  have L0 : Hid (Below w.heap.size w w0) := by rw [← hw0.out]; exact (Below.refl _ _).alloc (Nat.le_refl _) _
  have HX : Hid (w.heap.size ≤ x) := by rw [hx.out]; exact Nat.le_refl _
  have HR := hide hr
  have HL := hide hr.1
  have hn := hr.2.1
  have C1 := hide (begin_any w0)
  obtain ⟨s, hs⟩ : ∃ s, Hid (ofP l = s) := ⟨_, rfl⟩
  rw [hs.out]
  clear hr
  go_enter Try.func9, Try.ntmps9
  go_upto_region 1 with fail
  rw [hw0.out, hx.out]
  clear hw0 hx
  go_wp2_with fail
  with_reducible refine C1.out.mono ?_
  rintro e w1 ⟨p, g, k, b, rfl, g1, l1, b1⟩
  have Q1 : Hid (Gw w0 w1 p g k b zeroP) := ⟨g1, l1, b1⟩
  clear g1 l1 b1 C1
  go_wp2_with fail
  go_loopw [9] (fun i wr => ∃ j : Nat, j ≤ n ∧ i = .int .i64 j ∧ Hid (Gw w0 wr p g k b (ofP (l.take j)))) (fun i _ => n - (intOf i).toNat)
  case atStart => exact ⟨0, by omega, rfl, Q1⟩
  case round =>
    obtain ⟨j, hj, rfl, HT⟩ := hrel
    by_cases hlt : j < n
    · obtain ⟨_, _, _, h0 | ⟨bb, off, rfl, hc⟩⟩ := HR.out.below (bel_to L0.out (Nat.le_refl _) HT.out.low) (Nat.le_refl _)
      · omega
      obtain ⟨f0, f1, f2⟩ := hc j hlt
      have HO := hide (obs_getD HR.out.2.2.1 j)
      have HS := hide (ofP_step (l := l) (k := j) (by rw [HL.out]; exact hlt))
      generalize l.getD j ob0 = o at f0 f1 f2 HO HS
      have SE := hide (fun W (q : Gw w0 W p g k b (ofP (l.take j))) => see_any w0 p g k b _ o W q HO.out)
      rw [← HS.out] at SE
      have i1 : (0 : Int) ≤ (j : Int) := by omega
      have i2 : (j : Int) < (n : Int) := by omega
      clear hc HS
      go_wp2_with fail
      with_reducible refine (SE.out _ (HT.out.alloc _)).mono ?_
      rintro e w2 ⟨rfl, q2⟩
      have Q2 := hide q2
      clear q2
      go_wp2
      go_roundw
      case rel => exact ⟨j + 1, by omega, by go_num, Q2⟩
      case measure => simp [intOf]; omega
    · have hjn : j = n := by omega
      have e : l.take j = l := List.take_of_length_le (by rw [HL.out]; omega)
      rw [e, hs.out] at HT
      have SK := hide (psk_any w0 p g k b _ wr HT.out)
      have i3 : ¬ (j : Int) < (n : Int) := by omega
      have AR := hide (A0.out.below HT.out.low A0.out.lt)
      have LR := hide (bel_to L0.out (Nat.le_refl _) HT.out.low)
      clear e hjn hlt HT hs
      go_wp2_with fail
      with_reducible refine SK.out.mono ?_
      rintro e w3 ⟨h, rfl, m3, b3⟩
      have A3 := hide (AR.out.below b3 AR.out.lt)
      have F := hide (A3.out.put h s.g)
      have M := hide (made_put m3 AR.out.lt LR.out.size)
      have L3 := hide (below_put (bel_to LR.out (Nat.le_refl _) b3) HX.out h s.g)
      obtain ⟨_, ⟨d0, d1, d2, d3, d4, d5⟩, df⟩ := A3.out
      have f0 := df 0
      have f1 := df 1
      have f2 := df 2
      have f3 := df 3
      have f4 := df 4
      have f5 := df 5
      clear df m3 b3
      dsimp only [hd0, g0] at d0 d1 d2 d3 d4 d5
      go_wp2
      obtain ⟨_, ⟨e0, e1, e2, e3, e4, e5⟩, _⟩ := F.out
      unfold put6 at e0 e1 e2 e3 e4 e5
      exact bodyPost_ret (v := (Value.agg #[.slice (Hd.a h) (Hd.n h) (Hd.c h), .slice (Hd.k h) (Hd.m h) (Hd.d h), .int .u64 (Gz.n s.g), .int .u64 (Gz.nans s.g), .int .u64 (Gz.lo s.g), .int .u64 (Gz.hi s.g)])) (by simp [results, Try.results9, go_sem, e0, e1, e2, e3, e4, e5]) rfl ⟨h, rfl, M.out, L3.out⟩
theorem paO : PaO := ⟨pof_any⟩

theorem sumP_step {L : List (Hd × Sp)} {k : Nat} {y : Hd × Sp} (h : L[k]? = some y) : sumP ((L.take (k + 1)).map (·.2)) = mergeP (sumP ((L.take k).map (·.2))) y.2 := by
  have hk : k < L.length := (List.getElem?_eq_some_iff.1 h).1
  have e : L[k] = y := (List.getElem?_eq_some_iff.1 h).2
  rw [List.take_succ_eq_append_getElem hk, e, List.map_append]
  show ((L.take k).map (·.2) ++ [y.2]).foldl mergeP zeroP = _
  rw [List.foldl_append]
  rfl
theorem RowS.below {B : Nat} {w w' : World} {a : Option Addr} {n : Nat} {L : List (Hd × Sp)} (h : RowS w a n L) (hb : Below B w w') (hB : w.heap.size ≤ B) : RowS w' a n L := by
  obtain ⟨h1, h2, h3, h4⟩ := h
  refine ⟨h1, h2, fun x hx => (h3 x hx).below hb hB, ?_⟩
  rcases h4 with h4 | ⟨b, off, rfl, hc⟩
  · exact Or.inl h4
  · right
    refine ⟨b, off, rfl, fun i y hi => ?_⟩
    have hlt : b < w.heap.size := World.block_lt_of_cell? w _ (hc i y hi).1
    have hlB := Nat.lt_of_lt_of_le hlt hB
    rw [hb.cell (p := ⟨b, off + i * 6, none⟩) hlB, hb.cell (p := ⟨b, off + i * 6 + 1, none⟩) hlB, hb.cell (p := ⟨b, off + i * 6 + 2, none⟩) hlB, hb.cell (p := ⟨b, off + i * 6 + 3, none⟩) hlB, hb.cell (p := ⟨b, off + i * 6 + 4, none⟩) hlB, hb.cell (p := ⟨b, off + i * 6 + 5, none⟩) hlB]
    exact hc i y hi
theorem made_zero (w : World) (base : Nat) : MadeP w base hd0 zeroP := ⟨ownB_nil _ _, own_nil _ _ _ _, see_zero w⟩
theorem all_take {L : List (Hd × Sp)} {k : Nat} {y : Hd × Sp} (h : L[k]? = some y) (ha : ((L.take k).all fun x => chkP x.2) = true) (hy : chkP y.2 = true) : ((L.take (k + 1)).all fun x => chkP x.2) = true := by
  have hk : k < L.length := (List.getElem?_eq_some_iff.1 h).1
  have e : L[k] = y := (List.getElem?_eq_some_iff.1 h).2
  rw [List.take_succ_eq_append_getElem hk, e, List.all_append, ha]
  simp [hy]
theorem all_not {L : List (Hd × Sp)} {k : Nat} {y : Hd × Sp} (h : L[k]? = some y) (hy : chkP y.2 = false) : (L.all fun x => chkP x.2) = false := by
  rw [List.all_eq_false]
  exact ⟨y, List.mem_of_getElem? h, by rw [hy]; decide⟩

/-- What Sum answers. -/
def SummedP (w w' : World) (e : Ending) (L : List (Hd × Sp)) : Prop :=
  Below w.heap.size w w' ∧ if (L.all fun x => chkP x.2) = true then ∃ h2, e = .returned (.tuple #[(Value.agg #[.slice (Hd.a h2) (Hd.n h2) (Hd.c h2), .slice (Hd.k h2) (Hd.m h2) (Hd.d h2), .int .u64 (Gz.n ((sumP (L.map (·.2))).g)), .int .u64 (Gz.nans ((sumP (L.map (·.2))).g)), .int .u64 (Gz.lo ((sumP (L.map (·.2))).g)), .int .u64 (Gz.hi ((sumP (L.map (·.2))).g))]), .int .i64 0]) ∧ MadeP w' w.heap.size h2 (sumP (L.map (·.2)))
      else ∃ h2, e = .returned (.tuple #[(Value.agg #[.slice (Hd.a h2) (Hd.n h2) (Hd.c h2), .slice (Hd.k h2) (Hd.m h2) (Hd.d h2), .int .u64 (Gz.n g0), .int .u64 (Gz.nans g0), .int .u64 (Gz.lo g0), .int .u64 (Gz.hi g0)]), .int .i64 5]) ∧ MadeP w' w.heap.size h2 zeroP

set_option maxHeartbeats 4000000 in
theorem psum_any (a : Option Addr) (n cap : Nat) (L : List (Hd × Sp)) (w : World) (hr : RowS w a n L) :
    Calls Try.prog 20 #[.slice a n cap] w fun e w' => SummedP w w' e L := by
  obtain ⟨w0, hw0⟩ : ∃ w0, Hid (w.alloc (.cells #[.slice none 0 0, .slice none 0 0, .int .u64 0, .int .u64 0, .int .u64 0, .int .u64 0] 30) = w0) := ⟨_, rfl⟩
  obtain ⟨x, hx⟩ : ∃ x, Hid (w.heap.size = x) := ⟨_, rfl⟩
  have A0 : Hid (SBox w0 x hd0 g0) := by rw [← hw0.out, ← hx.out]; exact SBox.new _ _ hd0 g0
  have L0 : Hid (Below w.heap.size w w0) := by rw [← hw0.out]; exact (Below.refl _ _).alloc (Nat.le_refl _) _
  have HX : Hid (w.heap.size ≤ x) := by rw [hx.out]; exact Nat.le_refl _
  have HR := hide hr
  have R0 := hide (hr.below L0.out (Nat.le_refl _))
  have HL := hide hr.1
  have hn := hr.2.1
  have C1 := hide (begin_any w0)
  clear hr
  go_enter Try.func20, Try.ntmps20
  go_upto_region 1 with fail
  rw [hw0.out, hx.out]
  clear hw0 hx
  go_wp2_with fail
  with_reducible refine C1.out.mono ?_
  rintro e w1 ⟨p, g, k, b, rfl, g1, l1, b1⟩
  have Q1 : Hid (Gw w0 w1 p g k b zeroP) := ⟨g1, l1, b1⟩
  clear g1 l1 b1 C1
  go_wp2_with fail
  go_loopw [10] (fun i wr => ∃ j : Nat, j ≤ n ∧ i = .int .i64 j ∧ Hid (Gw w0 wr p g k b (sumP ((L.take j).map (·.2)))) ∧ Hid (((L.take j).all fun x => chkP x.2) = true)) (fun i _ => n - (intOf i).toNat)
  case atStart => exact ⟨0, by omega, rfl, Q1, rfl⟩
  case round =>
    obtain ⟨j, hj, rfl, HT, HA⟩ := hrel
    by_cases hlt : j < n
    · obtain ⟨_, _, h3, h0 | ⟨bb, off, rfl, hc⟩⟩ := R0.out.below HT.out.low (Nat.le_refl _)
      · omega
      obtain ⟨y, hy⟩ : ∃ y, Hid (L[j]? = some y) := ⟨_, List.getElem?_eq_getElem (by rw [HL.out]; exact hlt)⟩
      obtain ⟨f0, f1, f2, f3, f4, f5⟩ := hc j y hy.out
      have HY := hide (R0.out.2.2.1 y (List.mem_of_getElem? hy.out))
      have HS := hide (sumP_step hy.out)
      have CK := hide (fun W (q : SeeP W y.1 y.2) => pchk_any y.1 y.2 W q)
      have NO := hide (all_not hy.out)
      have YES := hide (all_take hy.out HA.out)
      obtain ⟨h, t⟩ := y
      dsimp only at f0 f1 f2 f3 f4 f5 HY HS CK NO YES
      have i1 : (0 : Int) ≤ (j : Int) := by omega
      have i2 : (j : Int) < (n : Int) := by omega
      have TK := hide (fun W (q : Gw w0 W p g k b (sumP ((L.take j).map (·.2)))) (c : chkP t = true) => take_any' w0 p g k b _ h t W q HY.out c)
      rw [← HS.out] at TK
      clear hc HS h3 hy
      go_upto_region 5 with fail
      obtain ⟨z, hz⟩ : ∃ z, Hid (wr.heap.size = z) := ⟨_, rfl⟩
      have BZ := hide (SBox.new wr 30 h t.g)
      have T1 := hide (HT.out.alloc (.cells #[.slice h.a h.n h.c, .slice h.k h.m h.d, .int .u64 t.g.n, .int .u64 t.g.nans, .int .u64 t.g.lo, .int .u64 t.g.hi] 30))
      generalize wr.alloc (.cells #[.slice h.a h.n h.c, .slice h.k h.m h.d, .int .u64 t.g.n, .int .u64 t.g.nans, .int .u64 t.g.lo, .int .u64 t.g.hi] 30) = v1 at BZ T1 ⊢
      rw [hz.out] at BZ
      rw [hz.out]
      clear hz f0 f1 f2 f3 f4 f5 HT
      have AR := hide (A0.out.below T1.out.low A0.out.lt)
      obtain ⟨_, ⟨c0, c1, c2, c3, c4, c5⟩, _⟩ := BZ.out
      have C2 := hide (CK.out v1 (HY.out.below T1.out.low (Nat.le_refl _)))
      cases hck : chkP t
      · rw [hck] at C2
        go_wp2_with fail
        with_reducible refine C2.out.mono ?_
        rintro e v2 ⟨rfl, b2⟩
        have A3 := hide (AR.out.below b2 AR.out.lt)
        have F := hide (A3.out.put hd0 g0)
        have L3 := hide (below_put (bel_to (bel_to L0.out (Nat.le_refl _) T1.out.low) (Nat.le_refl _) b2) HX.out hd0 g0)
        have E := hide (NO.out hck)
        obtain ⟨_, ⟨d0, d1, d2, d3, d4, d5⟩, df⟩ := A3.out
        have f0 := df 0
        have f1 := df 1
        have f2 := df 2
        have f3 := df 3
        have f4 := df 4
        have f5 := df 5
        clear df b2 c0 c1 c2 c3 c4 c5
        dsimp only [hd0, g0] at d0 d1 d2 d3 d4 d5
        go_wp2
        obtain ⟨_, ⟨e0, e1, e2, e3, e4, e5⟩, _⟩ := F.out
        unfold put6 at e0 e1 e2 e3 e4 e5
        dsimp only [hd0, g0] at e0 e1 e2 e3 e4 e5
        refine bodyPost_ret (v := .tuple #[.agg #[.slice none 0 0, .slice none 0 0, .int .u64 0, .int .u64 0, .int .u64 0, .int .u64 0], .int .i64 5]) (by simp [results, Try.results20, go_sem, e0, e1, e2, e3, e4, e5]) rfl ⟨L3.out, ?_⟩
        rw [if_neg (by rw [E.out]; decide)]
        exact ⟨hd0, rfl, made_zero _ _⟩
      · rw [hck] at C2
        go_wp2_with fail
        with_reducible refine C2.out.mono ?_
        rintro e v2 ⟨rfl, b2⟩
        have T2 := hide (T1.out.below b2)
        have B2 := hide (BZ.out.below b2 BZ.out.lt)
        have YE := hide (YES.out hck)
        clear b2 c0 c1 c2 c3 c4 c5 T1 BZ C2
        obtain ⟨_, ⟨c0, c1, c2, c3, c4, c5⟩, _⟩ := B2.out
        go_wp2_with fail
        with_reducible refine (TK.out _ T2.out hck).mono ?_
        rintro e v3 ⟨rfl, q3⟩
        have Q3 := hide q3
        clear q3
        go_wp2
        go_roundw
        case rel => exact ⟨j + 1, by omega, by go_num, Q3, YE⟩
        case measure => simp [intOf]; omega
    · have hjn : j = n := by omega
      have e : L.take j = L := List.take_of_length_le (by rw [HL.out]; omega)
      rw [e] at HT HA
      have SK := hide (psk_any w0 p g k b _ wr HT.out)
      have i3 : ¬ (j : Int) < (n : Int) := by omega
      have AR := hide (A0.out.below HT.out.low A0.out.lt)
      have LR := hide (bel_to L0.out (Nat.le_refl _) HT.out.low)
      obtain ⟨s, hs⟩ : ∃ s, Hid (sumP (L.map (·.2)) = s) := ⟨_, rfl⟩
      rw [hs.out] at SK
      clear e hjn hlt HT
      go_wp2_with fail
      with_reducible refine SK.out.mono ?_
      rintro e w3 ⟨h, rfl, m3, b3⟩
      have A3 := hide (AR.out.below b3 AR.out.lt)
      have F := hide (A3.out.put h s.g)
      have M := hide (made_put m3 AR.out.lt LR.out.size)
      have L3 := hide (below_put (bel_to LR.out (Nat.le_refl _) b3) HX.out h s.g)
      obtain ⟨_, ⟨d0, d1, d2, d3, d4, d5⟩, df⟩ := A3.out
      have f0 := df 0
      have f1 := df 1
      have f2 := df 2
      have f3 := df 3
      have f4 := df 4
      have f5 := df 5
      clear df m3 b3
      dsimp only [hd0, g0] at d0 d1 d2 d3 d4 d5
      go_wp2
      obtain ⟨_, ⟨e0, e1, e2, e3, e4, e5⟩, _⟩ := F.out
      unfold put6 at e0 e1 e2 e3 e4 e5
      refine bodyPost_ret (v := .tuple #[(Value.agg #[.slice (Hd.a h) (Hd.n h) (Hd.c h), .slice (Hd.k h) (Hd.m h) (Hd.d h), .int .u64 (Gz.n s.g), .int .u64 (Gz.nans s.g), .int .u64 (Gz.lo s.g), .int .u64 (Gz.hi s.g)]), .int .i64 0]) (by simp [results, Try.results20, go_sem, e0, e1, e2, e3, e4, e5]) rfl ⟨L3.out, ?_⟩
      rw [if_pos HA.out, hs.out]
      exact ⟨h, rfl, M.out⟩
theorem paU : PaU := ⟨psum_any⟩

theorem rowS_two {w : World} {b : Nat} {h h' : Hd} {s s' : Sp} (q : SeeP w h s) (q' : SeeP w h' s') (c : ∀ i v, #[Value.slice h.a h.n h.c, .slice h.k h.m h.d, .int .u64 s.g.n, .int .u64 s.g.nans, .int .u64 s.g.lo, .int .u64 s.g.hi, Value.slice h'.a h'.n h'.c, .slice h'.k h'.m h'.d, .int .u64 s'.g.n, .int .u64 s'.g.nans, .int .u64 s'.g.lo, .int .u64 s'.g.hi][i]? = some v → w.cell? ⟨b, i, none⟩ = some v) : RowS w (some ⟨b, 0, none⟩) 2 [(h, s), (h', s')] := by
  refine ⟨rfl, by decide, fun x hx => ?_, Or.inr ⟨b, 0, rfl, fun i x hi => ?_⟩⟩
  · simp only [List.mem_cons, List.not_mem_nil, or_false] at hx
    rcases hx with rfl | rfl
    · exact q
    · exact q'
  · match i, hi with
    | 0, hi =>
      obtain rfl : (h, s) = x := by simpa using hi
      exact ⟨c 0 _ rfl, c 1 _ rfl, c 2 _ rfl, c 3 _ rfl, c 4 _ rfl, c 5 _ rfl⟩
    | 1, hi =>
      obtain rfl : (h', s') = x := by simpa using hi
      exact ⟨c 6 _ rfl, c 7 _ rfl, c 8 _ rfl, c 9 _ rfl, c 10 _ rfl, c 11 _ rfl⟩
    | i + 2, hi => simp at hi

set_option maxHeartbeats 4000000 in
theorem pmerge_any (h : Hd) (s : Sp) (h' : Hd) (s' : Sp) (w : World) (q : SeeP w h s) (q' : SeeP w h' s') :
    Calls Try.prog 18 #[(Value.agg #[.slice (Hd.a h) (Hd.n h) (Hd.c h), .slice (Hd.k h) (Hd.m h) (Hd.d h), .int .u64 (Gz.n s.g), .int .u64 (Gz.nans s.g), .int .u64 (Gz.lo s.g), .int .u64 (Gz.hi s.g)]), (Value.agg #[.slice (Hd.a h') (Hd.n h') (Hd.c h'), .slice (Hd.k h') (Hd.m h') (Hd.d h'), .int .u64 (Gz.n s'.g), .int .u64 (Gz.nans s'.g), .int .u64 (Gz.lo s'.g), .int .u64 (Gz.hi s'.g)])] w fun e w' => MergedP w w' e s s' := by
  obtain ⟨w0, hw0⟩ : ∃ w0, Hid (((w.alloc (.cells #[.slice h.a h.n h.c, .slice h.k h.m h.d, .int .u64 s.g.n, .int .u64 s.g.nans, .int .u64 s.g.lo, .int .u64 s.g.hi] 30)).alloc (.cells #[.slice h'.a h'.n h'.c, .slice h'.k h'.m h'.d, .int .u64 s'.g.n, .int .u64 s'.g.nans, .int .u64 s'.g.lo, .int .u64 s'.g.hi] 30)).alloc (.cells #[.slice none 0 0, .slice none 0 0, .int .u64 0, .int .u64 0, .int .u64 0, .int .u64 0] 30) = w0) := ⟨_, rfl⟩
  have B : Hid (SBox w0 w.heap.size h s.g) := by rw [← hw0.out]; exact ((SBox.new w _ _ _).alloc _).alloc _
  have B' : Hid (SBox w0 (w.heap.size + 1) h' s'.g) := by
    rw [← hw0.out]
    have := (SBox.new (w.alloc (.cells #[.slice h.a h.n h.c, .slice h.k h.m h.d, .int .u64 s.g.n, .int .u64 s.g.nans, .int .u64 s.g.lo, .int .u64 s.g.hi] 30)) 30 h' s'.g).alloc (.cells #[.slice none 0 0, .slice none 0 0, .int .u64 0, .int .u64 0, .int .u64 0, .int .u64 0] 30)
    rwa [size_al] at this
  have A : Hid (SBox w0 (w.heap.size + 1 + 1) hd0 g0) := by
    rw [← hw0.out]
    have := SBox.new ((w.alloc (.cells #[.slice h.a h.n h.c, .slice h.k h.m h.d, .int .u64 s.g.n, .int .u64 s.g.nans, .int .u64 s.g.lo, .int .u64 s.g.hi] 30)).alloc (.cells #[.slice h'.a h'.n h'.c, .slice h'.k h'.m h'.d, .int .u64 s'.g.n, .int .u64 s'.g.nans, .int .u64 s'.g.lo, .int .u64 s'.g.hi] 30)) 30 hd0 g0
    rwa [size_al, size_al] at this
  have L : Hid (Below w.heap.size w w0) := by
    rw [← hw0.out]
    exact (bel2 _ _ _).alloc (by rw [size_al, size_al]; omega) _
  have Q := hide (q.below L.out (Nat.le_refl _))
  have Q' := hide (q'.below L.out (Nat.le_refl _))
  have ME : Hid (chkP s = true → mergeP zeroP s = s) := fun c => zero_merge (ok_of q c)
  have SU := hide (fun W b (r : RowS W (some ⟨b, 0, none⟩) 2 [(h, s), (h', s')]) => psum_any (some ⟨b, 0, none⟩) 2 2 _ W r)
  obtain ⟨k, hk⟩ : ∃ k, Hid (w.heap.size = k) := ⟨_, rfl⟩
  obtain ⟨k', hk'⟩ : ∃ k', Hid (k + 1 = k') := ⟨_, rfl⟩
  obtain ⟨k2, hk2⟩ : ∃ k2, Hid (k' + 1 = k2) := ⟨_, rfl⟩
  rw [hk.out] at B B' A
  rw [hk'.out] at B' A
  rw [hk2.out] at A
  have HX : Hid (w.heap.size ≤ k2) := by rw [← hk2.out, ← hk'.out, hk.out]; show _ ≤ _; omega
  clear q q'
  go_enter Try.func18, Try.ntmps18
  go_upto_region 1 with fail
  rw [hw0.out, hk.out, hk'.out, hk2.out]
  clear hw0 hk hk' hk2
  obtain ⟨_, ⟨c0, c1, c2, c3, c4, c5⟩, _⟩ := B.out
  obtain ⟨_, ⟨d0, d1, d2, d3, d4, d5⟩, _⟩ := B'.out
  have NB : Hid (RowS (w0.alloc (.cells #[.slice h.a h.n h.c, .slice h.k h.m h.d, .int .u64 s.g.n, .int .u64 s.g.nans, .int .u64 s.g.lo, .int .u64 s.g.hi, .slice h'.a h'.n h'.c, .slice h'.k h'.m h'.d, .int .u64 s'.g.n, .int .u64 s'.g.nans, .int .u64 s'.g.lo, .int .u64 s'.g.hi] 30)) (some ⟨w0.heap.size, 0, none⟩) 2 [(h, s), (h', s')]) :=
    rowS_two (Q.out.alloc _) (Q'.out.alloc _) (fun i v hi => by rw [World.cell?_alloc_mark]; exact hi)
  go_wp2_with fail
  with_reducible refine (SU.out _ _ NB.out).mono ?_
  rintro e v1 ⟨b1, hm⟩
  have BA : Hid (Below w0.heap.size w0 v1) := bel_to ((Below.refl _ _).alloc (Nat.le_refl _) _) (Nat.le_refl _) b1
  have A3 := hide (A.out.below BA.out A.out.lt)
  have LV : Hid (Below w.heap.size w v1) := bel_to L.out (Nat.le_refl _) BA.out
  have SZ : Hid (w0.heap.size ≤ (w0.alloc (.cells #[.slice h.a h.n h.c, .slice h.k h.m h.d, .int .u64 s.g.n, .int .u64 s.g.nans, .int .u64 s.g.lo, .int .u64 s.g.hi, .slice h'.a h'.n h'.c, .slice h'.k h'.m h'.d, .int .u64 s'.g.n, .int .u64 s'.g.nans, .int .u64 s'.g.lo, .int .u64 s'.g.hi] 30)).heap.size) := by rw [size_al]; show _ ≤ _; omega
  have LT := hide (Nat.lt_of_lt_of_le A.out.lt SZ.out)
  have LE := hide (Nat.le_trans L.out.size SZ.out)
  have hall : ([(h, s), (h', s')].all fun x => chkP x.2) = (chkP s && chkP s') := by simp
  rw [hall] at hm
  have HS : Hid ((chkP s && chkP s') = true → sumP ([(h, s), (h', s')].map (·.2)) = mergeP s s') := fun c => by
    rw [Bool.and_eq_true] at c
    show mergeP (mergeP zeroP s) s' = _
    rw [ME.out c.1]
  clear NB b1 SU Q Q' c0 c1 c2 c3 c4 c5 d0 d1 d2 d3 d4 d5 ME
  have CC : ∃ c : Bool, (chkP s && chkP s') = c := ⟨_, rfl⟩
  obtain ⟨c, hcc⟩ := CC
  cases c
  · rw [if_neg (by rw [hcc]; decide)] at hm
    obtain ⟨h2, rfl, m⟩ := hm
    have F := hide (A3.out.put h2 g0)
    have M := hide (made_put (x := k2) (w := w) (s := zeroP) m LT.out LE.out)
    have L3 := hide (below_put LV.out HX.out h2 g0)
    obtain ⟨_, ⟨d0, d1, d2, d3, d4, d5⟩, df⟩ := A3.out
    have f0 := df 0
    have f1 := df 1
    have f2 := df 2
    have f3 := df 3
    have f4 := df 4
    have f5 := df 5
    clear df m
    dsimp only [hd0, g0] at d0 d1 d2 d3 d4 d5
    go_wp2
    obtain ⟨_, ⟨e0, e1, e2, e3, e4, e5⟩, _⟩ := F.out
    unfold put6 at e0 e1 e2 e3 e4 e5
    refine bodyPost_ret (v := .tuple #[(Value.agg #[.slice (Hd.a h2) (Hd.n h2) (Hd.c h2), .slice (Hd.k h2) (Hd.m h2) (Hd.d h2), .int .u64 (Gz.n g0), .int .u64 (Gz.nans g0), .int .u64 (Gz.lo g0), .int .u64 (Gz.hi g0)]), .int .i64 5]) (by simp [results, Try.results18, go_sem, e0, e1, e2, e3, e4, e5]) rfl ⟨L3.out, ?_⟩
    rw [if_neg (by rw [hcc]; decide)]
    exact ⟨h2, rfl, M.out⟩
  · rw [if_pos hcc, HS.out hcc] at hm
    obtain ⟨h2, rfl, m⟩ := hm
    have F := hide (A3.out.put h2 (mergeP s s').g)
    have M := hide (made_put (x := k2) (w := w) m LT.out LE.out)
    have L3 := hide (below_put LV.out HX.out h2 (mergeP s s').g)
    obtain ⟨_, ⟨d0, d1, d2, d3, d4, d5⟩, df⟩ := A3.out
    have f0 := df 0
    have f1 := df 1
    have f2 := df 2
    have f3 := df 3
    have f4 := df 4
    have f5 := df 5
    clear df m
    dsimp only [hd0, g0] at d0 d1 d2 d3 d4 d5
    obtain ⟨r, hr⟩ : ∃ r, Hid (mergeP s s' = r) := ⟨_, rfl⟩
    rw [hr.out] at F M L3
    rw [hr.out]
    go_wp2
    obtain ⟨_, ⟨e0, e1, e2, e3, e4, e5⟩, _⟩ := F.out
    unfold put6 at e0 e1 e2 e3 e4 e5
    refine bodyPost_ret (v := .tuple #[(Value.agg #[.slice (Hd.a h2) (Hd.n h2) (Hd.c h2), .slice (Hd.k h2) (Hd.m h2) (Hd.d h2), .int .u64 (Gz.n r.g), .int .u64 (Gz.nans r.g), .int .u64 (Gz.lo r.g), .int .u64 (Gz.hi r.g)]), .int .i64 0]) (by simp [results, Try.results18, go_sem, e0, e1, e2, e3, e4, e5]) rfl ⟨L3.out, ?_⟩
    rw [if_pos hcc, hr.out]
    exact ⟨h2, rfl, M.out⟩
theorem paM : PaM := ⟨pmerge_any⟩
end Go.Proofs.Ytadcaonkmncgoaa
