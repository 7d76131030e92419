/-
  What the landed code's Of, Sum and Merge come to: contracts, for every world; what was there before stays.
  Conditions: the observations, the sketches lie in memory.
-/
import Derived.Test.YtadcaonkmncgoaaGreatPairG
import Derived.Test.YtadcaonkmncgoaaGreatPairE
namespace Go.Proofs.YtadcaonkmncgoaaGreat
open Go.RowKit Go.Maps
set_option maxRecDepth 20000

theorem take_obs {l : List Ob} {k : Nat} (h : k < l.length) : l.take (k + 1) = l.take k ++ [l.getD k ob0] := by
  rw [List.take_succ_eq_append_getElem h, List.getD_eq_getElem?_getD, List.getElem?_eq_getElem h]
  rfl
theorem ofP_step {l : List Ob} {k : Nat} (h : k < l.length) : ofP (l.take (k + 1)) = addP (ofP (l.take k)) (l.getD k ob0) := by
  rw [take_obs h]
  show (l.take k ++ [_]).foldl addP zeroP = _
  rw [List.foldl_append]
  rfl
theorem RowO.below {B : Nat} {w w' : World} {a : Option Addr} {n : Nat} {l : List Ob} (h : RowO w a n l) (hb : Below B w w') (hB : w.heap.size ≤ B) : RowO w' a n l := by
  obtain ⟨h1, h2, h3, h4⟩ := h
  refine ⟨h1, h2, h3, ?_⟩
  rcases h4 with h4 | ⟨b, off, rfl, hc⟩
  · exact Or.inl h4
  · right
    refine ⟨b, off, rfl, fun i hi => ?_⟩
    have hlt : b < w.heap.size := World.block_lt_of_cell? w _ (hc i hi).1
    rw [hb.cell (p := ⟨b, off + i * 3, none⟩) (Nat.lt_of_lt_of_le hlt hB), hb.cell (p := ⟨b, off + i * 3 + 1, none⟩) (Nat.lt_of_lt_of_le hlt hB), hb.cell (p := ⟨b, off + i * 3 + 2, none⟩) (Nat.lt_of_lt_of_le hlt hB)]
    exact hc i hi
theorem obs_getD {l : List Ob} (h : ∀ o ∈ l, Word o.v ∧ Word o.b ∧ o.t.size ≤ 9223372036854775807) (i : Nat) : Word (l.getD i ob0).v ∧ Word (l.getD i ob0).b ∧ (l.getD i ob0).t.size ≤ 9223372036854775807 := by
  by_cases hi : i < l.length
  · rw [List.getD_eq_getElem?_getD, List.getElem?_eq_getElem hi]
    exact h _ (List.getElem_mem hi)
  · rw [List.getD_eq_getElem?_getD, List.getElem?_eq_none (by omega)]
    exact ⟨⟨by decide, by decide⟩, ⟨by decide, by decide⟩, by decide⟩
/-- What was made, put into a box that was there before. -/
theorem made_put {w wr w' : World} {x : Nat} {h : Hd} {s : Sp} (m : MadeP w' wr.heap.size h s) (hx : x < wr.heap.size) (hB : w.heap.size ≤ wr.heap.size) : MadeP (put6 w' x h s.g) w.heap.size h s :=
  have z := made_of (ownb_put m.oh hx h s.g) (ownu_put m.ok hx h s.g) m.see.rh.2.2.1 m.see.rk.words m.see.g m.see.sh m.see.sk
  ⟨z.oh.mono hB, Own.mono z.ok hB, z.see⟩

set_option maxHeartbeats 4000000 in
theorem pof_any (a : Option Addr) (n cap : Nat) (l : List Ob) (w : World) (hr : RowO w a n l) :
    Calls Tryz.prog 31 #[.slice a n cap] w fun e w' => ∃ h, e = .returned (Value.agg #[.slice (Hd.a h) (Hd.n h) (Hd.c h), .slice (Hd.k h) (Hd.m h) (Hd.d h), .int .u64 (Gz.n ((ofP l).g)), .int .u64 (Gz.nans ((ofP l).g)), .int .u64 (Gz.lo ((ofP l).g)), .int .u64 (Gz.hi ((ofP l).g))]) ∧ MadeP w' w.heap.size h (ofP l) ∧ Below w.heap.size w w' := by
  obtain ⟨w0, hw0⟩ : ∃ w0, Hid (w.alloc (.cells #[.slice none 0 0, .slice none 0 0, .int .u64 0, .int .u64 0, .int .u64 0, .int .u64 0] 28) = w0) := ⟨_, rfl⟩
  obtain ⟨x, hx⟩ : ∃ x, Hid (w.heap.size = x) := ⟨_, rfl⟩
  have A0 : Hid (SBox w0 x hd0 g0) := by rw [← hw0.out, ← hx.out]; exact SBox.new _ _ hd0 g0
  have L0 : Hid (Below w.heap.size w w0) := by rw [← hw0.out]; exact (Below.refl _ _).alloc (Nat.le_refl _) _
  have HX : Hid (w.heap.size ≤ x) := by rw [hx.out]; exact Nat.le_refl _
  have HR := hide hr
  have HL := hide hr.1
  have hn := hr.2.1
  have C1 := hide (begin_any w0)
  obtain ⟨s, hs⟩ : ∃ s, Hid (ofP l = s) := ⟨_, rfl⟩
  rw [hs.out]
  clear hr
  go_enter Tryz.func31, Tryz.ntmps31
  go_upto_region 1 with fail
  rw [hw0.out, hx.out]
  clear hw0 hx
  go_wp2_with fail
  with_reducible refine C1.out.mono ?_
  rintro e w1 ⟨p, g, k, b, rfl, g1, l1, b1⟩
  have Q1 : Hid (Gw w0 w1 p g k b zeroP) := ⟨g1, l1, b1⟩
  clear g1 l1 b1 C1
  go_wp2_with fail
  go_loopw [9] (fun i wr => ∃ j : Nat, j ≤ n ∧ i = .int .i64 j ∧ Hid (Gw w0 wr p g k b (ofP (l.take j)))) (fun i _ => n - (intOf i).toNat)
  case atStart => exact ⟨0, by omega, rfl, Q1⟩
  case round =>
    obtain ⟨j, hj, rfl, HT⟩ := hrel
    by_cases hlt : j < n
    · obtain ⟨_, _, _, h0 | ⟨bb, off, rfl, hc⟩⟩ := HR.out.below (bel_to L0.out (Nat.le_refl _) HT.out.low) (Nat.le_refl _)
      · omega
      obtain ⟨f0, f1, f2⟩ := hc j hlt
      have HO := hide (obs_getD HR.out.2.2.1 j)
      have HS := hide (ofP_step (l := l) (k := j) (by rw [HL.out]; exact hlt))
      generalize l.getD j ob0 = o at f0 f1 f2 HO HS
      have SE := hide (fun W (q : Gw w0 W p g k b (ofP (l.take j))) => see_any w0 p g k b _ o W q HO.out)
      rw [← HS.out] at SE
      have i1 : (0 : Int) ≤ (j : Int) := by omega
      have i2 : (j : Int) < (n : Int) := by omega
      clear hc HS
      go_wp2_with fail
      with_reducible refine (SE.out _ (HT.out.alloc _)).mono ?_
      rintro e w2 ⟨rfl, q2⟩
      have Q2 := hide q2
      clear q2
      go_wp2
      go_roundw
      case rel => exact ⟨j + 1, by omega, by go_num, Q2⟩
      case measure => simp [intOf]; omega
    · have hjn : j = n := by omega
      have e : l.take j = l := List.take_of_length_le (by rw [HL.out]; omega)
      rw [e, hs.out] at HT
      have SK := hide (psk_any w0 p g k b _ wr HT.out)
      have i3 : ¬ (j : Int) < (n : Int) := by omega
      have AR := hide (A0.out.below HT.out.low A0.out.lt)
      have LR := hide (bel_to L0.out (Nat.le_refl _) HT.out.low)
      clear e hjn hlt HT hs
      go_wp2_with fail
      with_reducible refine SK.out.mono ?_
      rintro e w3 ⟨h, rfl, m3, b3⟩
      have A3 := hide (AR.out.below b3 AR.out.lt)
      have F := hide (A3.out.put h s.g)
      have M := hide (made_put m3 AR.out.lt LR.out.size)
      have L3 := hide (below_put (bel_to LR.out (Nat.le_refl _) b3) HX.out h s.g)
      obtain ⟨_, ⟨d0, d1, d2, d3, d4, d5⟩, df⟩ := A3.out
      have f0 := df 0
      have f1 := df 1
      have f2 := df 2
      have f3 := df 3
      have f4 := df 4
      have f5 := df 5
      clear df m3 b3
      dsimp only [hd0, g0] at d0 d1 d2 d3 d4 d5
      go_wp2
      obtain ⟨_, ⟨e0, e1, e2, e3, e4, e5⟩, _⟩ := F.out
      unfold put6 at e0 e1 e2 e3 e4 e5
      exact bodyPost_ret (v := (Value.agg #[.slice (Hd.a h) (Hd.n h) (Hd.c h), .slice (Hd.k h) (Hd.m h) (Hd.d h), .int .u64 (Gz.n s.g), .int .u64 (Gz.nans s.g), .int .u64 (Gz.lo s.g), .int .u64 (Gz.hi s.g)])) (by simp [results, Tryz.results31, go_sem, e0, e1, e2, e3, e4, e5]) rfl ⟨h, rfl, M.out, L3.out⟩
theorem paO : PaO := ⟨pof_any⟩

theorem sumP_step {L : List (Hd × Sp)} {k : Nat} {y : Hd × Sp} (h : L[k]? = some y) : sumP ((L.take (k + 1)).map (·.2)) = mergeP (sumP ((L.take k).map (·.2))) y.2 := by
  have hk : k < L.length := (List.getElem?_eq_some_iff.1 h).1
  have e : L[k] = y := (List.getElem?_eq_some_iff.1 h).2
  rw [List.take_succ_eq_append_getElem hk, e, List.map_append]
  show ((L.take k).map (·.2) ++ [y.2]).foldl mergeP zeroP = _
  rw [List.foldl_append]
  rfl
theorem RowS.below {B : Nat} {w w' : World} {a : Option Addr} {n : Nat} {L : List (Hd × Sp)} (h : RowS w a n L) (hb : Below B w w') (hB : w.heap.size ≤ B) : RowS w' a n L := by
  obtain ⟨h1, h2, h3, h4⟩ := h
  refine ⟨h1, h2, fun x hx => (h3 x hx).below hb hB, ?_⟩
  rcases h4 with h4 | ⟨b, off, rfl, hc⟩
  · exact Or.inl h4
  · right
    refine ⟨b, off, rfl, fun i y hi => ?_⟩
    have hlt : b < w.heap.size := World.block_lt_of_cell? w _ (hc i y hi).1
    have hlB := Nat.lt_of_lt_of_le hlt hB
    rw [hb.cell (p := ⟨b, off + i * 6, none⟩) hlB, hb.cell (p := ⟨b, off + i * 6 + 1, none⟩) hlB, hb.cell (p := ⟨b, off + i * 6 + 2, none⟩) hlB, hb.cell (p := ⟨b, off + i * 6 + 3, none⟩) hlB, hb.cell (p := ⟨b, off + i * 6 + 4, none⟩) hlB, hb.cell (p := ⟨b, off + i * 6 + 5, none⟩) hlB]
    exact hc i y hi
theorem madeP_zero (w : World) (base : Nat) : MadeP w base hd0 zeroP := ⟨ownB_nil _ _, own_nil _ _ _ _, see_zero w⟩
theorem all_take {L : List (Hd × Sp)} {k : Nat} {y : Hd × Sp} (h : L[k]? = some y) (ha : ((L.take k).all fun x => chkP x.2) = true) (hy : chkP y.2 = true) : ((L.take (k + 1)).all fun x => chkP x.2) = true := by
  have hk : k < L.length := (List.getElem?_eq_some_iff.1 h).1
  have e : L[k] = y := (List.getElem?_eq_some_iff.1 h).2
  rw [List.take_succ_eq_append_getElem hk, e, List.all_append, ha]
  simp [hy]
theorem all_not {L : List (Hd × Sp)} {k : Nat} {y : Hd × Sp} (h : L[k]? = some y) (hy : chkP y.2 = false) : (L.all fun x => chkP x.2) = false := by
  rw [List.all_eq_false]
  exact ⟨y, List.mem_of_getElem? h, by rw [hy]; decide⟩

/-- What Sum answers. -/
def SummedP (w w' : World) (e : Ending) (L : List (Hd × Sp)) : Prop :=
  Below w.heap.size w w' ∧ if (L.all fun x => chkP x.2) = true then ∃ h2, e = .returned (.tuple #[(Value.agg #[.slice (Hd.a h2) (Hd.n h2) (Hd.c h2), .slice (Hd.k h2) (Hd.m h2) (Hd.d h2), .int .u64 (Gz.n ((sumP (L.map (·.2))).g)), .int .u64 (Gz.nans ((sumP (L.map (·.2))).g)), .int .u64 (Gz.lo ((sumP (L.map (·.2))).g)), .int .u64 (Gz.hi ((sumP (L.map (·.2))).g))]), .int .i64 0]) ∧ MadeP w' w.heap.size h2 (sumP (L.map (·.2)))
      else ∃ h2, e = .returned (.tuple #[(Value.agg #[.slice (Hd.a h2) (Hd.n h2) (Hd.c h2), .slice (Hd.k h2) (Hd.m h2) (Hd.d h2), .int .u64 (Gz.n g0), .int .u64 (Gz.nans g0), .int .u64 (Gz.lo g0), .int .u64 (Gz.hi g0)]), .int .i64 5]) ∧ MadeP w' w.heap.size h2 zeroP

theorem rowS_two {w : World} {b : Nat} {h h' : Hd} {s s' : Sp} (q : SeeP w h s) (q' : SeeP w h' s') (c : ∀ i v, #[Value.slice h.a h.n h.c, .slice h.k h.m h.d, .int .u64 s.g.n, .int .u64 s.g.nans, .int .u64 s.g.lo, .int .u64 s.g.hi, Value.slice h'.a h'.n h'.c, .slice h'.k h'.m h'.d, .int .u64 s'.g.n, .int .u64 s'.g.nans, .int .u64 s'.g.lo, .int .u64 s'.g.hi][i]? = some v → w.cell? ⟨b, i, none⟩ = some v) : RowS w (some ⟨b, 0, none⟩) 2 [(h, s), (h', s')] := by
  refine ⟨rfl, by decide, fun x hx => ?_, Or.inr ⟨b, 0, rfl, fun i x hi => ?_⟩⟩
  · simp only [List.mem_cons, List.not_mem_nil, or_false] at hx
    rcases hx with rfl | rfl
    · exact q
    · exact q'
  · match i, hi with
    | 0, hi =>
      obtain rfl : (h, s) = x := by simpa using hi
      exact ⟨c 0 _ rfl, c 1 _ rfl, c 2 _ rfl, c 3 _ rfl, c 4 _ rfl, c 5 _ rfl⟩
    | 1, hi =>
      obtain rfl : (h', s') = x := by simpa using hi
      exact ⟨c 6 _ rfl, c 7 _ rfl, c 8 _ rfl, c 9 _ rfl, c 10 _ rfl, c 11 _ rfl⟩
    | i + 2, hi => simp at hi

end Go.Proofs.YtadcaonkmncgoaaGreat
