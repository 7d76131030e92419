/-
  The law of floats added one by one, over what the laws ask of the program's own Check and Add.
  Conditions: as GaC and GaA say.
-/
import Derived.Test.YtnhjjdgdffjdcaaGaugeO
import Derived.Test.YtnhjjdgdffjdcaaVintA
namespace Go.Proofs.Ytnhjjdgdffjdcaa
open Go.RowKit

/-- Two gauges in memory of the call's own; what was there before the call is as it was. -/
structure TwoG (w0 w : World) (B g1 g2 : Nat) (a b : Gz) : Prop where
  box1 : GBox w g1 a.n a.nans a.lo a.hi
  box2 : GBox w g2 b.n b.nans b.lo b.hi
  ne : g1 ≠ g2
  le1 : B ≤ g1
  le2 : B ≤ g2
  low : Below B w0 w
  size : B ≤ w.heap.size
section
variable {w0 w w' : World} {B g1 g2 : Nat} {a b : Gz}
theorem TwoG.below (h : TwoG w0 w B g1 g2 a b) (hb : Below w.heap.size w w') : TwoG w0 w' B g1 g2 a b :=
  ⟨h.box1.below hb h.box1.lt, h.box2.below hb h.box2.lt, h.ne, h.le1, h.le2, h.low.trans (hb.mono h.size), Nat.le_trans h.size hb.size⟩
theorem TwoG.drew (h : TwoG w0 w B g1 g2 a b) : TwoG w0 w.drew B g1 g2 a b := h.below (Below.refl _ _).drew
theorem TwoG.set1 (h : TwoG w0 w B g1 g2 a b) (c : Gz) :
    TwoG w0 ((((w.setCell ⟨g1, 0, none⟩ (.int .u64 c.n)).setCell ⟨g1, 1, none⟩ (.int .u64 c.nans)).setCell ⟨g1, 2, none⟩ (.int .u64 c.lo)).setCell ⟨g1, 3, none⟩ (.int .u64 c.hi)) B g1 g2 c b :=
  ⟨h.box1.set c.n c.nans c.lo c.hi, (((h.box2.far h.ne _).far h.ne _).far h.ne _).far h.ne _, h.ne, h.le1, h.le2, bel_set4 h.low h.le1 _ _ _ _, by simpa [go_sem] using h.size⟩
theorem TwoG.set2 (h : TwoG w0 w B g1 g2 a b) (c : Gz) :
    TwoG w0 ((((w.setCell ⟨g2, 0, none⟩ (.int .u64 c.n)).setCell ⟨g2, 1, none⟩ (.int .u64 c.nans)).setCell ⟨g2, 2, none⟩ (.int .u64 c.lo)).setCell ⟨g2, 3, none⟩ (.int .u64 c.hi)) B g1 g2 a c :=
  ⟨(((h.box1.far h.ne.symm _).far h.ne.symm _).far h.ne.symm _).far h.ne.symm _, h.box2.set c.n c.nans c.lo c.hi, h.ne, h.le1, h.le2, bel_set4 h.low h.le2 _ _ _ _, by simpa [go_sem] using h.size⟩
theorem two_of {g : Gz} (t : TypeId) (h1 : GBox w g1 g.n g.nans g.lo g.hi) (hl : Below B w0 w) (l1 : B ≤ g1) (l : B ≤ w.heap.size) (b : Gz) :
    TwoG w0 (w.alloc (.cells #[.int .u64 b.n, .int .u64 b.nans, .int .u64 b.lo, .int .u64 b.hi] t)) B g1 w.heap.size g b :=
  ⟨h1.alloc _, GBox.new w t b.n b.nans b.lo b.hi, by have := h1.lt; omega, l1, l, hl.alloc l _, by rw [size_al]; omega⟩
theorem keepB (hb : Below w.heap.size w w') (h : ((World.cell? w ⟨g1, 0, none⟩ = some (.int .u64 (Gz.n a))) ∧ (World.cell? w ⟨g1, 1, none⟩ = some (.int .u64 (Gz.nans a))) ∧ (World.cell? w ⟨g1, 2, none⟩ = some (.int .u64 (Gz.lo a))) ∧ (World.cell? w ⟨g1, 3, none⟩ = some (.int .u64 (Gz.hi a)))) ∧ Hid (GBox w g1 a.n a.nans a.lo a.hi ∧ B ≤ w.heap.size ∧ Below B w0 w)) :
    ((World.cell? w' ⟨g1, 0, none⟩ = some (.int .u64 (Gz.n a))) ∧ (World.cell? w' ⟨g1, 1, none⟩ = some (.int .u64 (Gz.nans a))) ∧ (World.cell? w' ⟨g1, 2, none⟩ = some (.int .u64 (Gz.lo a))) ∧ (World.cell? w' ⟨g1, 3, none⟩ = some (.int .u64 (Gz.hi a)))) ∧ Hid (GBox w' g1 a.n a.nans a.lo a.hi ∧ B ≤ w'.heap.size ∧ Below B w0 w') := by
  obtain ⟨h1, l1, l4, hB⟩ := h
  exact ⟨gc_below hb l1.lt h1, l1.below hb l1.lt, Nat.le_trans l4 hb.size, hB.trans (hb.mono l4)⟩
end
theorem take_more {l : List Int} {k : Nat} (h : k < l.length) : l.take (k + 1) = l.take k ++ [l.getD k 0] := by
  rw [List.take_succ_eq_append_getElem h, List.getD_eq_getElem?_getD, List.getElem?_eq_getElem h]
  rfl

set_option maxHeartbeats 1000000 in
theorem addsG_of (C : GaC) (A : GaA) (g : Gz) (ad : Option Addr) (n cap : Nat) (ys : List Int) (w : World) (hg : GW g) (hl : IsRow .u64 w ad n cap ys) :
    Calls Try.prog 3 #[(Value.agg #[.int .u64 (Gz.n g), .int .u64 (Gz.nans g), .int .u64 (Gz.lo g), .int .u64 (Gz.hi g)]), .slice ad n cap] w fun e w' => e = .returned (.bool true) ∧ Below w.heap.size w w' := by
  obtain ⟨hnc, hcap, _, hrow⟩ := row_of hl
  have HR := hide hrow
  have W := hide (awakeG_any A)
  have D1 := hide (fun w => C.chk g hg w)
  have C1 := hide (fun w => refgchk_any g hg w)
  have HG := hide hg
  obtain ⟨zs, hzs⟩ : ∃ zs, ys.take n = zs := ⟨_, rfl⟩
  rw [hzs] at HR
  have HN : Hid (n ≤ 281474976710656) := HR.out.2.1
  have hn := HN.out
  clear hnc hcap hrow hl hzs
  have S0 := hide (keep01 g 24 (Below.refl w.heap.size w) (Nat.le_refl _))
  have G0 := hide (GBox.new w 24 g.n g.nans g.lo g.hi)
  obtain ⟨v, hv⟩ : ∃ v, Hid (w.alloc (.cells #[.int .u64 g.n, .int .u64 g.nans, .int .u64 g.lo, .int .u64 g.hi] 24) = v) := ⟨_, rfl⟩
  go_enter Try.func3, Try.ntmps3
  go_upto_region 1 with fail
  dsimp only at S0
  rw [hv.out] at S0 G0 ⊢
  clear hv
  obtain ⟨g1, hg1⟩ : ∃ k, Hid (w.heap.size = k) := ⟨_, rfl⟩
  have S1 : Hid (((World.cell? v ⟨g1, 0, none⟩ = some (.int .u64 (Gz.n g))) ∧ (World.cell? v ⟨g1, 1, none⟩ = some (.int .u64 (Gz.nans g))) ∧ (World.cell? v ⟨g1, 2, none⟩ = some (.int .u64 (Gz.lo g))) ∧ (World.cell? v ⟨g1, 3, none⟩ = some (.int .u64 (Gz.hi g)))) ∧ Hid (GBox v g1 g.n g.nans g.lo g.hi ∧ w.heap.size ≤ v.heap.size ∧ Below w.heap.size w v)) := by
    rw [← hg1.out]; exact ⟨S0.out.1, G0.out, S0.out.2.out.2.1, S0.out.2.out.2.2⟩
  have L1 : Hid (w.heap.size ≤ g1) := Nat.le_of_eq hg1.out
  rw [hg1.out]
  clear S0 G0 hg1
  have S2 : Hid (((World.cell? v.drew ⟨g1, 0, none⟩ = some (.int .u64 (Gz.n g))) ∧ (World.cell? v.drew ⟨g1, 1, none⟩ = some (.int .u64 (Gz.nans g))) ∧ (World.cell? v.drew ⟨g1, 2, none⟩ = some (.int .u64 (Gz.lo g))) ∧ (World.cell? v.drew ⟨g1, 3, none⟩ = some (.int .u64 (Gz.hi g)))) ∧ Hid (GBox v.drew g1 g.n g.nans g.lo g.hi ∧ w.heap.size ≤ v.drew.heap.size ∧ Below w.heap.size w v.drew)) := keepB (Below.refl _ _).drew S1.out
  clear S1
  obtain ⟨c, hc⟩ : ∃ c, Hid (chkG g = c) := ⟨_, rfl⟩
  rw [hc.out] at D1 C1
  go_region_held3 (fun w' => ((World.cell? w' ⟨g1, 0, none⟩ = some (.int .u64 (Gz.n g))) ∧ (World.cell? w' ⟨g1, 1, none⟩ = some (.int .u64 (Gz.nans g))) ∧ (World.cell? w' ⟨g1, 2, none⟩ = some (.int .u64 (Gz.lo g))) ∧ (World.cell? w' ⟨g1, 3, none⟩ = some (.int .u64 (Gz.hi g)))) ∧ Hid (GBox w' g1 g.n g.nans g.lo g.hi ∧ w.heap.size ≤ w'.heap.size ∧ Below w.heap.size w w')) (first | exact S2.out | exact keepB (by assumption) (by assumption)) (first
    | (go_at_call 9
       refine (D1.out _).mono ?_
       rintro e v4 ⟨rfl, b4⟩)
    | (go_at_call 10
       refine (C1.out _).mono ?_
       rintro e v4 ⟨rfl, b4⟩))
  have S3 : Hid (((World.cell? v4 ⟨g1, 0, none⟩ = some (.int .u64 (Gz.n g))) ∧ (World.cell? v4 ⟨g1, 1, none⟩ = some (.int .u64 (Gz.nans g))) ∧ (World.cell? v4 ⟨g1, 2, none⟩ = some (.int .u64 (Gz.lo g))) ∧ (World.cell? v4 ⟨g1, 3, none⟩ = some (.int .u64 (Gz.hi g)))) ∧ Hid (GBox v4 g1 g.n g.nans g.lo g.hi ∧ w.heap.size ≤ v4.heap.size ∧ Below w.heap.size w v4)) := by assumption
  obtain ⟨⟨p0, p1, p2, p3⟩, hh⟩ := S3.out
  go_wp2_with fail
  refine (C1.out _).mono ?_
  rintro e v5 ⟨rfl, b5⟩
  have S4 := hide (keepB b5 S3.out)
  clear S3 S2 p0 p1 p2 p3 hh b5
  obtain ⟨⟨p0, p1, p2, p3⟩, hh⟩ := S4.out
  have f0 := hh.out.1.f0
  have f1 := hh.out.1.f1
  have f2 := hh.out.1.f2
  have f3 := hh.out.1.f3
  cases c
  have HS' : Hid (GW g0 ∧ chkG g0 = true) := ⟨g0W, chk0⟩
  have T1 := hide (two_of (g := g0) 24 (hh.out.1.set 0 0 0 0) (bel_set4 hh.out.2.2 L1.out _ _ _ _) L1.out (by simpa [go_sem] using hh.out.2.1) g0)
  go_wp2_with fail
  simp only [World.size_setCell] at T1
  dsimp only [g0] at T1
  generalize v5.heap.size = g2 at T1 ⊢
  generalize ((((v5.setCell ⟨g1, 0, none⟩ (.int .u64 0)).setCell ⟨g1, 1, none⟩ (.int .u64 0)).setCell ⟨g1, 2, none⟩ (.int .u64 0)).setCell ⟨g1, 3, none⟩ (.int .u64 0)).alloc (.cells #[.int .u64 0, .int .u64 0, .int .u64 0, .int .u64 0] 24) = v6 at T1 ⊢
  obtain ⟨s, hs⟩ : ∃ s, g0 = s := ⟨_, rfl⟩
  have T : Hid (TwoG w v6 w.heap.size g1 g2 s s) := by rw [← hs]; exact T1.out
  have HS : Hid (GW s ∧ chkG s = true) := by rw [← hs]; exact HS'.out
  clear hs HS' T1 S4 p0 p1 p2 p3 hh f0 f1 f2 f3 hc HG C1 D1
  rotate_left
  have HS' : Hid (GW g ∧ chkG g = true) := ⟨HG.out, hc.out⟩
  have T1 := hide (two_of 24 hh.out.1 hh.out.2.2 L1.out hh.out.2.1 g)
  go_wp2_with fail
  generalize v5.heap.size = g2 at T1 ⊢
  generalize v5.alloc (.cells #[.int .u64 g.n, .int .u64 g.nans, .int .u64 g.lo, .int .u64 g.hi] 24) = v6 at T1 ⊢
  obtain ⟨s, hs⟩ : ∃ s, g = s := ⟨_, rfl⟩
  have T : Hid (TwoG w v6 w.heap.size g1 g2 s s) := by rw [← hs]; exact T1.out
  have HS : Hid (GW s ∧ chkG s = true) := by rw [← hs]; exact HS'.out
  clear hs HS' T1 S4 p0 p1 p2 p3 hh f0 f1 f2 f3 hc HG C1 D1
  all_goals
    obtain ⟨hz, _, hwz, _⟩ := HR.out
    have HZ : Hid (zs.length = n) := hz
    have HW : Hid (∀ x ∈ zs, Word x) := fun x hx => word_of_wf (hwz x hx)
    have HO : Hid (∀ k, GW (addAll s (zs.take k)) ∧ chkG (addAll s (zs.take k)) = true) := fun k => addAll_ok _ s HS.out.1 HS.out.2 fun x hx => HW.out x (List.mem_of_mem_take hx)
    have HL : Hid (∀ j (x : Int), j < n → zs.getD j 0 = x → addAll s (zs.take (j + 1)) = addG (addAll s (zs.take j)) x) := fun j x h e => by rw [take_more (by rw [HZ.out]; exact h), addAll_append, e]; rfl
    clear hz hwz
    go_loopw [6] (fun i wr => ∃ j : Nat, j ≤ n ∧ i = .int .i64 j ∧ Hid (TwoG w wr w.heap.size g1 g2 (addAll s (zs.take j)) (addAll s (zs.take j)))) (fun i _ => n - (intOf i).toNat)
    case atStart => exact ⟨0, by omega, rfl, T⟩
    case round =>
      obtain ⟨j, hj, rfl, HT⟩ := hrel
      obtain ⟨y, hy⟩ : ∃ y, Hid (addAll s (zs.take j) = y) := ⟨_, rfl⟩
      have HOj := hide (HO.out j)
      rw [hy.out] at HT HOj
      by_cases hlt : j < n ∧ j < 200
      · obtain ⟨l1, l2⟩ := hlt
        have i1 : (0 : Int) ≤ (j : Int) := by omega
        have i2 : (j : Int) < (n : Int) := by omega
        have i3 : (j : Int) < 200 := by omega
        have HRW : Hid (∀ W, Below w.heap.size w W → ∃ b off, ad = some ⟨b, off, none⟩ ∧ W.cell? ⟨b, off + j, none⟩ = some (.int .u64 (zs.getD j 0))) := by
          intro W hW
          obtain ⟨_, _, _, h | ⟨b, off, rfl, hcell⟩⟩ := HR.out.below hW (Nat.le_refl _)
          · omega
          · exact ⟨b, off, rfl, hcell j l1⟩
        obtain ⟨bb, off, rfl, f9⟩ := HRW.out wr HT.out.low
        clear f9
        have HC : Hid (∀ W, Below w.heap.size w W → W.cell? ⟨bb, off + j, none⟩ = some (.int .u64 (zs.getD j 0))) := by
          intro W hW
          obtain ⟨b', off', hbo, f1⟩ := HRW.out W hW
          simp only [Option.some.injEq, Addr.mk.injEq, and_true] at hbo
          obtain ⟨rfl, rfl⟩ := hbo
          exact f1
        have HX : Hid (Word (zs.getD j 0)) := HR.out.word j
        have HLj := hide (fun x => HL.out j x l1)
        generalize zs.getD j 0 = x at HC HX HLj
        have A1 := hide (fun w => A.add y x HOj.out.1 HX.out HOj.out.2 w)
        have A2 := hide (fun w => refgadd_any y x HOj.out.1 HX.out w)
        have HN1 : Hid (addAll s (zs.take (j + 1)) = addG y x) := by rw [← hy.out]; exact HLj.out x rfl
        obtain ⟨r, hr⟩ : ∃ r, Hid (addG y x = r) := ⟨_, rfl⟩
        rw [hr.out] at A1 A2 HN1
        clear HRW HLj
        go_upto_region 9 with fail
        go_cut [6] (fun x wx => x = .int .i64 (j : Int) ∧ Hid (TwoG w wx w.heap.size g1 g2 r y))
        case first =>
          have HD : Hid (TwoG w wr.drew w.heap.size g1 g2 y y) := HT.out.drew
          have p0 := HT.out.box1.c0
          have p1 := HT.out.box1.c1
          have p2 := HT.out.box1.c2
          have p3 := HT.out.box1.c3
          have px := HC.out wr HT.out.low
          go_region_with (
            go_at_call 11
            with_reducible refine (A1.out _).mono ?_
            rintro e v7 ⟨rfl, b7⟩
            have T7 : Hid (TwoG w v7 w.heap.size g1 g2 y y) := HD.out.below b7
            have z0 := T7.out.box1.c0
            have z1 := T7.out.box1.c1
            have z2 := T7.out.box1.c2
            have z3 := T7.out.box1.c3
            have f0 := T7.out.box1.f0
            have f1 := T7.out.box1.f1
            have f2 := T7.out.box1.f2
            have f3 := T7.out.box1.f3)
          all_goals
            go_wp2_with fail
            go_meet
            case rel => exact ⟨rfl, T7.out.set1 r⟩
        case rest =>
          obtain ⟨rfl, T8⟩ := hcut
          clear HT A1
          generalize wc = wr at T8 ⊢
          go_upto_region 10 with fail
          go_cut [6] (fun x wx => x = .int .i64 (j : Int) ∧ Hid (TwoG w wx w.heap.size g1 g2 r r))
          case first =>
            have HD : Hid (TwoG w wr.drew w.heap.size g1 g2 r y) := T8.out.drew
            have p0 := T8.out.box2.c0
            have p1 := T8.out.box2.c1
            have p2 := T8.out.box2.c2
            have p3 := T8.out.box2.c3
            have px := HC.out wr T8.out.low
            go_region_with (
              go_at_call 12
              with_reducible refine (A2.out _).mono ?_
              rintro e v7 ⟨rfl, b7⟩
              have T7 : Hid (TwoG w v7 w.heap.size g1 g2 r y) := HD.out.below b7
              have z0 := T7.out.box2.c0
              have z1 := T7.out.box2.c1
              have z2 := T7.out.box2.c2
              have z3 := T7.out.box2.c3
              have f0 := T7.out.box2.f0
              have f1 := T7.out.box2.f1
              have f2 := T7.out.box2.f2
              have f3 := T7.out.box2.f3)
            all_goals
              go_wp2_with fail
              go_meet
              case rel => exact ⟨rfl, T7.out.set2 r⟩
          case rest =>
            obtain ⟨rfl, T9⟩ := hcut
            clear T8 A2
            generalize wc = wr at T9 ⊢
            have p0 := T9.out.box1.c0
            have p1 := T9.out.box1.c1
            have p2 := T9.out.box1.c2
            have p3 := T9.out.box1.c3
            have q0 := T9.out.box2.c0
            have q1 := T9.out.box2.c1
            have q2 := T9.out.box2.c2
            have q3 := T9.out.box2.c3
            go_wp2
            go_roundw
            case measure => simp [intOf]; omega
            case rel => exact ⟨j + 1, by omega, by go_num, by rw [HN1.out]; exact T9.out⟩
      · have p0 := HT.out.box1.c0
        have p1 := HT.out.box1.c1
        have p2 := HT.out.box1.c2
        have p3 := HT.out.box1.c3
        have D2 := hide (fun w => C.chk y HOj.out.1 w)
        rw [HOj.out.2] at D2
        by_cases l1 : j < n
        · have i2 : (j : Int) < (n : Int) := by omega
          have i3 : ¬ (j : Int) < 200 := by omega
          go_wp2_with fail
          refine (D2.out _).mono ?_
          rintro e v7 ⟨rfl, b7⟩
          have T7 := hide (HT.out.below b7)
          go_wp2_with fail
          refine (W.out _).mono ?_
          rintro e v8 ⟨rfl, b8⟩
          have T8 := hide (T7.out.below b8)
          go_wp2
          go_ret
          exact ⟨rfl, T8.out.low⟩
        · have i2 : ¬ (j : Int) < (n : Int) := by omega
          go_wp2_with fail
          refine (D2.out _).mono ?_
          rintro e v7 ⟨rfl, b7⟩
          have T7 := hide (HT.out.below b7)
          go_wp2_with fail
          refine (W.out _).mono ?_
          rintro e v8 ⟨rfl, b8⟩
          have T8 := hide (T7.out.below b8)
          go_wp2
          go_ret
          exact ⟨rfl, T8.out.low⟩
end Go.Proofs.Ytnhjjdgdffjdcaa
