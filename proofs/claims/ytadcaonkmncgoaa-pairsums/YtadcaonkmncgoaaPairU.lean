/-
  The law of any number of sketches summed up: as the document says.
  Conditions: the slice came in.
-/
import Derived.Test.YtadcaonkmncgoaaPairA
import Derived.Test.YtadcaonkmncgoaaPairD
namespace Go.Proofs.Ytadcaonkmncgoaa
open Go.RowKit
set_option maxRecDepth 20000

/-- The law's own loop: what it wants so far in its box, copies of the sketches in a row of its own. -/
structure Sx (w W : World) (k B : Nat) (hw : Hd) (sw : Sp) (am : Option Addr) (j cm : Nat) (Lm : List (Hd × Sp)) : Prop where
  low : Below w.heap.size w W
  size : B ≤ W.heap.size
  le : w.heap.size ≤ k ∧ k < B
  box : SBox W k hw sw.g
  made : MadeP W B hw sw
  own : OwnS W B am j cm Lm
  each : ∀ x ∈ Lm, MadeP W B x.1 x.2
theorem MadeP.below {w w' : World} {base : Nat} {h : Hd} {s : Sp} (m : MadeP w base h s) (b : Below w.heap.size w w') : MadeP w' base h s := ⟨m.oh.below b (Nat.le_refl _), Own.below m.ok b (Nat.le_refl _), m.see.below b (Nat.le_refl _)⟩
theorem MadeP.mono {w : World} {base base' : Nat} {h : Hd} {s : Sp} (m : MadeP w base h s) (b : base' ≤ base) : MadeP w base' h s := ⟨m.oh.mono b, Own.mono m.ok b, m.see⟩
theorem MadeP.put {w : World} {base x : Nat} {h h' : Hd} {s : Sp} {g' : Gz} (m : MadeP w base h s) (hx : x < base) : MadeP (put6 w x h' g') base h s :=
  made_of (ownb_put m.oh hx h' g') (ownu_put m.ok hx h' g') m.see.rh.2.2.1 m.see.rk.words m.see.g m.see.sh m.see.sk
/-- A change within blocks of sketches leaves a made sketch's lists. -/
theorem MadeP.chS {w w' : World} {base : Nat} {h : Hd} {s : Sp} (m : MadeP w base h s) {S : Nat → Prop} (c : Ch S w w') (hs : ∀ g, S g → CellsT w g 30) : MadeP w' base h s := by
  have oh : OwnB w' base h.a h.n h.c s.hist := m.oh.ch c (fun g hg hS => (row_cells m.oh hg).1.ne (hs g hS) (by decide) rfl)
  have ok : OwnU w' base h.k h.m h.d s.keys := row_ch m.ok c (fun g hg hS => (row_cells m.ok hg).1.ne (hs g hS) (by decide) rfl)
  exact made_of oh ok m.see.rh.2.2.1 m.see.rk.words m.see.g m.see.sh m.see.sk
section
variable {w W W' : World} {k B j cm : Nat} {hw : Hd} {sw : Sp} {am : Option Addr} {Lm : List (Hd × Sp)}
theorem Sx.below (q : Sx w W k B hw sw am j cm Lm) (b : Below W.heap.size W W') : Sx w W' k B hw sw am j cm Lm :=
  ⟨bel_to q.low (Nat.le_refl _) b, Nat.le_trans q.size b.size, q.le, q.box.below b q.box.lt, q.made.below b, q.own.below b (Nat.le_refl _), fun x hx => (q.each x hx).below b⟩
theorem Sx.alloc (q : Sx w W k B hw sw am j cm Lm) (o : Obj) : Sx w (W.alloc o) k B hw sw am j cm Lm := q.below ((Below.refl _ _).alloc (Nat.le_refl _) o)
theorem Sx.drew (q : Sx w W k B hw sw am j cm Lm) : Sx w W.drew k B hw sw am j cm Lm := q.below (Below.refl _ _).drew
theorem Sx.push (q : Sx w W k B hw sw am j cm Lm) {y : Hd × Sp} (my : MadeP W B y.1 y.2) {am' : Option Addr} {cm' : Nat} (o : OwnS W' B am' (j + 1) cm' (Lm ++ [y])) (g : W.grownBy W' (Value.slice am j cm).ownBlock) : Sx w W' k B hw sw am' (j + 1) cm' (Lm ++ [y]) := by
  have c := Ch.grown g
  have hs : ∀ x, (Value.slice am j cm).ownBlock = some x → CellsT W x 30 := fun x hx => (row_cells q.own hx).1
  have hb : ∀ x, (Value.slice am j cm).ownBlock = some x → B ≤ x := q.own.block
  have le := q.le
  refine ⟨q.low.trans (c.below q.low.size (fun x hx e => by have := hb x e; omega)), Nat.le_trans q.size c.size, q.le, ?_, q.made.chS c hs, o, ?_⟩
  · exact q.box.ch c (fun e => by have := hb k e; omega)
  · intro x hx
    rcases List.mem_append.1 hx with hx | hx
    · exact (q.each x hx).chS c hs
    · rw [List.mem_singleton.1 hx]; exact my.chS c hs
theorem OwnS.put {w : World} {base n cap x : Nat} {a : Option Addr} {l : List (Hd × Sp)} (q : OwnS w base a n cap l) (hx : x < base) (h : Hd) (g : Gz) : OwnS (put6 w x h g) base a n cap l := by
  have s : ∀ {v : World} (_ : OwnS v base a n cap l) (i : Nat) (u : Value), OwnS (v.setCell ⟨x, i, none⟩ u) base a n cap l := fun q i u => q.ch (ch_set _ x i u) (fun g hg e => by have := q.block g hg; omega)
  unfold put6
  exact s (s (s (s (s (s q 0 _) 1 _) 2 _) 3 _) 4 _) 5 _
theorem Sx.put (q : Sx w W k B hw sw am j cm Lm) {h : Hd} {s : Sp} (m : MadeP W B h s) : Sx w (put6 W k h s.g) k B h s am j cm Lm := by
  have le := q.le
  have hz : (put6 W k h s.g).heap.size = W.heap.size := by simp [put6, World.setCell]
  exact ⟨below_put q.low le.1 h s.g, by rw [hz]; exact q.size, le, q.box.put h s.g, m.put le.2, q.own.put le.2 h s.g, fun x hx => (q.each x hx).put le.2⟩
end

theorem all_map {L : List (Hd × Sp)} : (L.all fun x => chkP x.2) = (L.map (·.2)).all chkP := by
  rw [List.all_map]
  rfl
theorem ok_sum {L : List Sp} (h : ∀ s ∈ L, Ok s) : Ok (sumP L) := by
  unfold sumP
  suffices ∀ s0, Ok s0 → Ok (L.foldl mergeP s0) from this zeroP ok_zero
  induction L with
  | nil => exact fun s0 h0 => h0
  | cons x t ih => exact fun s0 h0 => ih (fun s hs => h s (List.mem_cons_of_mem _ hs)) _ (h0.merge (h x (List.mem_cons_self ..)))

set_option maxHeartbeats 8000000 in
theorem sumsP_of (a : Option Addr) (n cap : Nat) (L : List (Hd × Sp)) (w : World) (wl : IsSks w a n cap L) :
    Calls Try.prog 6 #[.slice a n cap] w fun e w' => e = .returned (.bool true) ∧ Below w.heap.size w w' := by
  obtain ⟨h1, h2, h3, hr⟩ := wl
  have AW := hide (awakeP_any paO paE)
  by_cases hbig : 12 < n
  · have i1 : (12 : Int) < (n : Int) := by omega
    clear hr h1 h2 h3 hbig
    go_enter Try.func6, Try.ntmps6
    go_wp2_with fail
    with_reducible refine (AW.out _).mono ?_
    rintro e w1 ⟨rfl, b⟩
    have B := hide b
    clear b
    go_wp2
    go_ret
    exact ⟨rfl, B.out⟩
  · obtain ⟨i0, hi, hz0, hz1, hz2⟩ := info_parts Try.infoS
    have i1 : ¬ (12 : Int) < (n : Int) := by omega
    have HR := hide hr
    have HL := hide hr.1
    have SK := hide (fun W h s (q : SeeP W h s) => sketch_any h s W q)
    have CK := hide (fun W h s (q : SeeP W h s) => refpchk_any h s W q)
    obtain ⟨w0, hw0⟩ : ∃ w0, Hid (w.alloc (.cells #[.slice none 0 0, .slice none 0 0, .int .u64 0, .int .u64 0, .int .u64 0, .int .u64 0] 30) = w0) := ⟨_, rfl⟩
    obtain ⟨k, hk⟩ : ∃ k, Hid (w.heap.size = k) := ⟨_, rfl⟩
    obtain ⟨B, hB⟩ : ∃ B, Hid (w0.heap.size = B) := ⟨_, rfl⟩
    have X0 : Hid (Sx w w0 k B hd0 zeroP none 0 0 []) := by
      have e : B = k + 1 := by rw [← hB.out, ← hw0.out, size_al, hk.out]
      refine ⟨?_, by rw [hB.out]; exact Nat.le_refl _, ⟨by rw [hk.out]; exact Nat.le_refl _, by omega⟩, ?_, made_zero _ _, ownS_nil _ _, (fun x hx => by cases hx)⟩
      · rw [← hw0.out]; exact (Below.refl _ _).alloc (Nat.le_refl _) _
      · rw [← hw0.out, ← hk.out]; exact SBox.new w _ hd0 g0
    clear hr h1 h2 h3 hB
    go_enter Try.func6, Try.ntmps6
    go_upto_region 4 with fail
    rw [hw0.out, hk.out]
    clear hw0 hk
    go_wp2_with fail
    go_loopw [4, 5, 6] (fun bd m i wr => ∃ (j : Nat) (bad : Bool) (am : Option Addr) (cm : Nat) (hw : Hd) (sw : Sp) (Lm : List (Hd × Sp)), j ≤ n ∧ i = .int .i64 j ∧ bd = .bool bad ∧ m = .slice am j cm ∧ Hid (Sx w wr k B hw sw am j cm Lm) ∧ Hid (Lm.map (·.2) = (L.take j).map (·.2)) ∧ Hid (bad = !((L.take j).all fun x => chkP x.2)) ∧ Hid (bad = false → sw = sumP ((L.take j).map (·.2)) ∧ Ok sw)) (fun _ _ i _ => n - (intOf i).toNat)
    case atStart => exact ⟨0, false, none, 0, hd0, zeroP, [], by omega, rfl, rfl, rfl, X0, rfl, rfl, fun _ => ⟨rfl, ok_zero⟩⟩
    case round =>
      obtain ⟨j, bad, am, cm, hw, sw, Lm, hj, rfl, rfl, rfl, HT, HM, HB, HS⟩ := hrel
      by_cases hlt : j < n
      · obtain ⟨y, hy⟩ : ∃ y, Hid (L[j]? = some y) := ⟨_, List.getElem?_eq_getElem (by rw [HL.out]; exact hlt)⟩
        obtain ⟨bb, off, ha, HC⟩ : ∃ b off, a = some ⟨b, off, none⟩ ∧ Hid (∀ W, Below w.heap.size w W → W.cell? ⟨b, off + j * 6, none⟩ = some (.slice y.1.a y.1.n y.1.c) ∧ W.cell? ⟨b, off + j * 6 + 1, none⟩ = some (.slice y.1.k y.1.m y.1.d) ∧ W.cell? ⟨b, off + j * 6 + 2, none⟩ = some (.int .u64 y.2.g.n) ∧ W.cell? ⟨b, off + j * 6 + 3, none⟩ = some (.int .u64 y.2.g.nans) ∧ W.cell? ⟨b, off + j * 6 + 4, none⟩ = some (.int .u64 y.2.g.lo) ∧ W.cell? ⟨b, off + j * 6 + 5, none⟩ = some (.int .u64 y.2.g.hi)) := by
          obtain ⟨_, _, _, h0 | ⟨b, off, e, _⟩⟩ := HR.out
          · omega
          · refine ⟨b, off, e, fun W hW => ?_⟩
            obtain ⟨_, _, _, h0 | ⟨b', off', e', hc⟩⟩ := HR.out.below hW (Nat.le_refl _)
            · omega
            · rw [e] at e'
              simp only [Option.some.injEq, Addr.mk.injEq, and_true] at e'
              obtain ⟨rfl, rfl⟩ := e'
              exact hc j y hy.out
        subst ha
        have HY := hide (fun W (b : Below w.heap.size w W) => (HR.out.2.2.1 y (List.mem_of_getElem? hy.out)).below b (Nat.le_refl _))
        have SM := hide (sumP_step hy.out)
        have AL : Hid (((L.take (j + 1)).all fun x => chkP x.2) = (((L.take j).all fun x => chkP x.2) && chkP y.2)) := by
          have hk : j < L.length := (List.getElem?_eq_some_iff.1 hy.out).1
          have e : L[j] = y := (List.getElem?_eq_some_iff.1 hy.out).2
          show _ = _
          rw [List.take_succ_eq_append_getElem hk, e, List.all_append]
          simp
        have MP : Hid ((L.take (j + 1)).map (·.2) = (L.take j).map (·.2) ++ [y.2]) := by
          have hk : j < L.length := (List.getElem?_eq_some_iff.1 hy.out).1
          have e : L[j] = y := (List.getElem?_eq_some_iff.1 hy.out).2
          show _ = _
          rw [List.take_succ_eq_append_getElem hk, e, List.map_append]
          rfl
        obtain ⟨h, s⟩ := y
        dsimp only at HC HY SM AL MP
        have i2 : (0 : Int) ≤ (j : Int) := by omega
        have i3 : (j : Int) < (n : Int) := by omega
        obtain ⟨f0, f1, f2, f3, f4, f5⟩ := HC.out wr HT.out.low
        clear hy
        go_upto_region 9 with fail
        go_wp2_with fail
        with_reducible refine (SK.out _ _ _ (HY.out _ HT.out.low)).mono ?_
        rintro e v1 ⟨h2, rfl, m1, b1⟩
        have X1 := hide (HT.out.below b1)
        have M1 := hide (m1.mono HT.out.size)
        clear m1 b1 f0 f1 f2 f3 f4 f5 HT
        have MA := hide (M1.out.below ((Below.refl _ _).alloc (Nat.le_refl _) (.cells #[.slice h2.a h2.n h2.c, .slice h2.k h2.m h2.d, .int .u64 s.g.n, .int .u64 s.g.nans, .int .u64 s.g.lo, .int .u64 s.g.hi] 30)))
        have XA := hide (X1.out.alloc (.cells #[.slice h2.a h2.n h2.c, .slice h2.k h2.m h2.d, .int .u64 s.g.n, .int .u64 s.g.nans, .int .u64 s.g.lo, .int .u64 s.g.hi] 30))
        have CA := hide (six_cells v1 (h2, s) 30)
        dsimp only at CA
        go_wp2_with (at_builtin; refine wpList_append_ske _ rfl _ _ 40 rfl B i0 Try.underlying40 hi hz0 hz1 hz2 am j cm Lm rfl XA.out.own ⟨v1.heap.size, 0, none⟩ (h2, s) rfl CA.out (by omega) XA.out.size ?_)
        intro am' cm' v2 o2 g2
        have X2 := hide (XA.out.push MA.out o2 g2)
        have HM2 : Hid ((Lm ++ [(h2, s)]).map (·.2) = (L.take (j + 1)).map (·.2)) := by
          show _ = _
          rw [MP.out, ← HM.out, List.map_append]
          rfl
        clear o2 g2 XA MA CA X1 M1 HM MP
        generalize Lm ++ [(h2, s)] = Lm' at X2 HM2
        obtain ⟨f0, f1, f2, f3, f4, f5⟩ := HC.out v2 X2.out.low
        cases bad
        · go_wp2_with fail
          have CA := hide (CK.out v2 _ _ (HY.out _ X2.out.low))
          cases hc : chkP s
          · rw [hc] at CA
            have HB2 : Hid (true = !((L.take (j + 1)).all fun x => chkP x.2)) := by
              show _ = _
              rw [AL.out, hc]; simp
            with_reducible refine CA.out.mono ?_
            rintro e v3 ⟨rfl, b3⟩
            have X3 := hide (X2.out.below b3)
            clear b3 f0 f1 f2 f3 f4 f5 X2 HB HS
            go_wp2
            go_roundw
            case rel => exact ⟨j + 1, true, am', cm', hw, sw, Lm', by omega, by go_num, rfl, rfl, X3, HM2, HB2, fun e => by cases e⟩
            case measure => simp [intOf]; omega
          · rw [hc] at CA
            have HB2 : Hid (false = !((L.take (j + 1)).all fun x => chkP x.2)) := by
              have h1 := HB.out
              show _ = _
              rw [AL.out, hc, Bool.and_true]
              exact h1
            obtain ⟨e1, ok1⟩ := HS.out (by trivial)
            have HS2 : Hid (mergeP sw s = sumP ((L.take (j + 1)).map (·.2))) := by show _ = _; rw [SM.out, e1]
            have OK2 := hide (fun (o : Ok s) => ok1.merge o)
            have OS := hide (ok_of (HY.out _ X2.out.low) hc)
            have RM := hide (fun W (q : SeeP W hw sw) (q' : SeeP W h s) => refpmerge_made hw sw h s W q q' ok1.chk hc)
            clear e1 ok1
            with_reducible refine CA.out.mono ?_
            rintro e v3 ⟨rfl, b3⟩
            have X3 := hide (X2.out.below b3)
            clear b3 f0 f1 f2 f3 f4 f5 X2 HB HS CA hc
            go_upto_region 12 with fail
            obtain ⟨f0, f1, f2, f3, f4, f5⟩ := HC.out v3 X3.out.low
            obtain ⟨_, ⟨c0, c1, c2, c3, c4, c5⟩, _⟩ := X3.out.box
            have XD := hide X3.out.drew
            have YD := hide (HY.out _ XD.out.low)
            go_region_with (
              go_at_call 19
              with_reducible refine (RM.out _ XD.out.made.see YD.out).mono ?_
              rintro e v4 ⟨h4, rfl, m4, b4⟩
              have M4 := hide (m4.mono XD.out.size)
              have X4 := hide (XD.out.below b4)
              clear c0 c1 c2 c3 c4 c5 m4 b4
              obtain ⟨_, ⟨c0, c1, c2, c3, c4, c5⟩, cf⟩ := X4.out.box
              have z0 := cf 0
              have z1 := cf 1
              have z2 := cf 2
              have z3 := cf 3
              have z4 := cf 4
              have z5 := cf 5
              clear cf)
            all_goals
              have X5 := hide (X4.out.put M4.out)
              have OO := hide (OK2.out OS.out)
              go_wp2
              go_roundw
              case rel => exact ⟨j + 1, false, am', cm', h4, mergeP sw s, Lm', by omega, by go_num, rfl, rfl, X5, HM2, HB2, fun _ => ⟨HS2.out, OO.out⟩⟩
              case measure => simp [intOf]; omega
        · have HB2 : Hid (true = !((L.take (j + 1)).all fun x => chkP x.2)) := by
            have h1 := HB.out
            show _ = _
            rw [AL.out]
            have h2 : ((L.take j).all fun x => chkP x.2) = false := by simpa using h1
            rw [h2]; rfl
          clear f0 f1 f2 f3 f4 f5 HB HS
          go_wp2
          go_roundw
          case rel => exact ⟨j + 1, true, am', cm', hw, sw, Lm', by omega, by go_num, rfl, rfl, X2, HM2, HB2, fun e => by cases e⟩
          case measure => simp [intOf]; omega
      · have hjn : j = n := by omega
        have e : L.take j = L := List.take_of_length_le (by rw [HL.out]; omega)
        rw [e] at HM HB HS
        have i3 : ¬ (j : Int) < (n : Int) := by omega
        have RS := hide (HT.out.own.row (by omega) (fun x hx => (HT.out.each x hx).see))
        have SU := hide (psum_any am j cm Lm wr RS.out)
        unfold SummedP at SU
        rw [all_map, HM.out, ← all_map] at SU
        clear e hjn hlt
        go_wp2_with fail
        with_reducible refine SU.out.mono ?_
        rintro e v1 ⟨b1, hm⟩
        have X1 := hide (HT.out.below b1)
        clear b1 SU RS HT
        cases bad
        · have ha : (L.all fun x => chkP x.2) = true := by
            have := HB.out
            simpa using this
          rw [if_pos ha] at hm
          obtain ⟨e1, _⟩ := HS.out rfl
          rw [← e1] at hm
          obtain ⟨h7, rfl, m7⟩ := hm
          have M7 := hide m7.see
          have SM := hide (fun W h h' (q : SeeP W h sw) (q' : SeeP W h' sw) => refpsame_any h sw h' sw W q q')
          rw [show decide (sw = sw) = true from decide_eq_true rfl] at SM
          clear ha e1 m7 HS HB HM
          go_upto_region 14 with fail
          obtain ⟨k7, hk7⟩ : ∃ k, Hid (v1.heap.size = k) := ⟨_, rfl⟩
          have B7 := hide (SBox.new v1 30 h7 sw.g)
          have Q7 := hide (M7.out.alloc (.cells #[.slice h7.a h7.n h7.c, .slice h7.k h7.m h7.d, .int .u64 sw.g.n, .int .u64 sw.g.nans, .int .u64 sw.g.lo, .int .u64 sw.g.hi] 30))
          have X2 := hide (X1.out.alloc (.cells #[.slice h7.a h7.n h7.c, .slice h7.k h7.m h7.d, .int .u64 sw.g.n, .int .u64 sw.g.nans, .int .u64 sw.g.lo, .int .u64 sw.g.hi] 30))
          generalize v1.alloc (.cells #[.slice h7.a h7.n h7.c, .slice h7.k h7.m h7.d, .int .u64 sw.g.n, .int .u64 sw.g.nans, .int .u64 sw.g.lo, .int .u64 sw.g.hi] 30) = v2 at B7 Q7 X2 ⊢
          rw [hk7.out] at B7
          rw [hk7.out]
          clear hk7 X1 M7
          obtain ⟨_, ⟨c0, c1, c2, c3, c4, c5⟩, _⟩ := B7.out
          obtain ⟨_, ⟨d0, d1, d2, d3, d4, d5⟩, _⟩ := X2.out.box
          go_wp2_with fail
          with_reducible refine (SM.out _ _ _ Q7.out X2.out.made.see).mono ?_
          rintro e v3 ⟨rfl, b3⟩
          have X3 := hide (X2.out.below b3)
          clear b3 c0 c1 c2 c3 c4 c5 d0 d1 d2 d3 d4 d5 X2 B7 Q7
          go_wp2_with fail
          with_reducible refine (AW.out _).mono ?_
          rintro e u ⟨rfl, b⟩
          have X4 := hide (X3.out.below b)
          clear b
          go_wp2
          go_ret
          exact ⟨rfl, X4.out.low⟩
        · have ha : ¬ (L.all fun x => chkP x.2) = true := by
            have := HB.out
            simpa using this
          rw [if_neg ha] at hm
          obtain ⟨h7, rfl, m7⟩ := hm
          have M7 := hide m7.see
          have SM := hide (fun W (q : SeeP W h7 zeroP) => refpsame_any h7 zeroP hd0 zeroP W q (see_zero W))
          rw [show decide (zeroP = zeroP) = true from decide_eq_true rfl] at SM
          dsimp only [zeroP, hd0, g0] at SM
          clear ha m7 HS HB HM
          go_upto_region 14 with fail
          obtain ⟨k7, hk7⟩ : ∃ k, Hid (v1.heap.size = k) := ⟨_, rfl⟩
          have B7 := hide (SBox.new v1 30 h7 g0)
          have Q7 := hide (M7.out.alloc (.cells #[.slice h7.a h7.n h7.c, .slice h7.k h7.m h7.d, .int .u64 g0.n, .int .u64 g0.nans, .int .u64 g0.lo, .int .u64 g0.hi] 30))
          have X2 := hide (X1.out.alloc (.cells #[.slice h7.a h7.n h7.c, .slice h7.k h7.m h7.d, .int .u64 g0.n, .int .u64 g0.nans, .int .u64 g0.lo, .int .u64 g0.hi] 30))
          dsimp only [g0] at B7 Q7 X2
          dsimp only [g0]
          generalize v1.alloc (.cells #[.slice h7.a h7.n h7.c, .slice h7.k h7.m h7.d, .int .u64 0, .int .u64 0, .int .u64 0, .int .u64 0] 30) = v2 at B7 Q7 X2 ⊢
          rw [hk7.out] at B7
          rw [hk7.out]
          clear hk7 X1 M7
          obtain ⟨_, ⟨c0, c1, c2, c3, c4, c5⟩, _⟩ := B7.out
          dsimp only at c2 c3 c4 c5
          go_wp2_with fail
          with_reducible refine (SM.out _ Q7.out).mono ?_
          rintro e v3 ⟨rfl, b3⟩
          have X3 := hide (X2.out.below b3)
          clear b3 c0 c1 c2 c3 c4 c5 X2 B7 Q7
          go_wp2_with fail
          with_reducible refine (AW.out _).mono ?_
          rintro e u ⟨rfl, b⟩
          have X4 := hide (X3.out.below b)
          clear b
          go_wp2
          go_ret
          exact ⟨rfl, X4.out.low⟩
end Go.Proofs.Ytadcaonkmncgoaa
