/-
  The law that what was added lies within, over what the laws ask of the program's own Add.
  Conditions: as GaA says.
-/
import Derived.Test.YtnhjjdgdffjdcabGaugeW
import Derived.Test.YtnhjjdgdffjdcabGaugeA
import Derived.Deep.QuietTactic
import Derived.BigQuiet
namespace Go.Proofs.Ytnhjjdgdffjdcab
open Go.RowKit

/-- One gauge in memory of the call's own; what was there before the call is as it was. -/
structure OneG (w0 w : World) (B g1 : Nat) (a : Gz) : Prop where
  box1 : GBox w g1 a.n a.nans a.lo a.hi
  le1 : B ≤ g1
  low : Below B w0 w
  size : B ≤ w.heap.size
section
variable {w0 w w' : World} {B g1 : Nat} {a : Gz}
theorem OneG.below (h : OneG w0 w B g1 a) (hb : Below w.heap.size w w') : OneG w0 w' B g1 a :=
  ⟨h.box1.below hb h.box1.lt, h.le1, h.low.trans (hb.mono h.size), Nat.le_trans h.size hb.size⟩
theorem OneG.drew (h : OneG w0 w B g1 a) : OneG w0 w.drew B g1 a := h.below (Below.refl _ _).drew
theorem OneG.drewN (h : OneG w0 w B g1 a) (k : Nat) : OneG w0 (w.drewN k) B g1 a :=
  ⟨h.box1.drewN k, h.le1, ⟨h.low.os, h.low.tape, h.low.output, h.low.size, h.low.block⟩, h.size⟩
theorem OneG.set1 (h : OneG w0 w B g1 a) (c : Gz) :
    OneG w0 ((((w.setCell ⟨g1, 0, none⟩ (.int .u64 c.n)).setCell ⟨g1, 1, none⟩ (.int .u64 c.nans)).setCell ⟨g1, 2, none⟩ (.int .u64 c.lo)).setCell ⟨g1, 3, none⟩ (.int .u64 c.hi)) B g1 c :=
  ⟨h.box1.set c.n c.nans c.lo c.hi, h.le1, bel_set4 h.low h.le1 _ _ _ _, by simpa [go_sem] using h.size⟩
theorem one_of (w : World) (t : TypeId) (b : Gz) : OneG w (w.alloc (.cells #[.int .u64 b.n, .int .u64 b.nans, .int .u64 b.lo, .int .u64 b.hi] t)) w.heap.size w.heap.size b :=
  ⟨GBox.new w t b.n b.nans b.lo b.hi, Nat.le_refl _, (Below.refl _ _).alloc (Nat.le_refl _) _, by rw [size_al]; omega⟩
end

set_option maxHeartbeats 2000000 in
theorem withinG_of (A : GaA) (ad : Option Addr) (n cap : Nat) (ys : List Int) (w : World) (hl : IsRow .u64 w ad n cap ys) :
    Calls Try.prog 4 #[.slice ad n cap] w fun e w' => e = .returned (.bool true) ∧ Below w.heap.size w w' := by
  obtain ⟨hnc, hcap, _, hrow⟩ := row_of hl
  have HR := hide hrow
  have W := hide (awakeG_any A)
  obtain ⟨zs, hzs⟩ : ∃ zs, ys.take n = zs := ⟨_, rfl⟩
  rw [hzs] at HR
  clear hnc hcap hrow hl hzs
  by_cases hn : 100 < n
  · have i1 : (100 : Int) < (n : Int) := by omega
    go_enter Try.func4, Try.ntmps4
    go_wp2_with fail
    refine (W.out _).mono ?_
    rintro e v1 ⟨rfl, b1⟩
    go_wp2
    go_ret
    exact ⟨rfl, b1⟩
  have i1 : ¬ (100 : Int) < (n : Int) := by omega
  have T0 := hide (one_of w 24 g0)
  dsimp only [g0] at T0
  obtain ⟨hz, _, hwz, _⟩ := HR.out
  have HZ : Hid (zs.length = n) := hz
  have HW : Hid (∀ x ∈ zs, Word x) := fun x hx => word_of_wf (hwz x hx)
  have HE : Hid (Ends zs (addAll g0 zs)) := ends_all HW.out
  have HO : Hid (∀ k, GW (addAll g0 (zs.take k)) ∧ chkG (addAll g0 (zs.take k)) = true) := fun k => addAll_ok _ g0 g0W chk0 fun x hx => HW.out x (List.mem_of_mem_take hx)
  have HL : Hid (∀ j (x : Int), j < n → zs.getD j 0 = x → addAll g0 (zs.take (j + 1)) = addG (addAll g0 (zs.take j)) x) := fun j x h e => by rw [take_more (by rw [HZ.out]; exact h), addAll_append, e]; rfl
  have HX : Hid (∀ j, j < n → Word (zs.getD j 0) ∧ zs.getD j 0 ∈ zs) := fun j h => ⟨HR.out.word j, by
    rw [List.getD_eq_getElem?_getD, List.getElem?_eq_getElem (by rw [HZ.out]; exact h)]; exact List.getElem_mem _⟩
  have HRW : Hid (∀ j W, j < n → Below w.heap.size w W → ∃ b off, ad = some ⟨b, off, none⟩ ∧ W.cell? ⟨b, off + j, none⟩ = some (.int .u64 (zs.getD j 0))) := by
    intro j W hj hW
    obtain ⟨_, _, _, h | ⟨b, off, rfl, hcell⟩⟩ := HR.out.below hW (Nat.le_refl _)
    · omega
    · exact ⟨b, off, rfl, hcell j hj⟩
  clear hz hwz
  go_enter Try.func4, Try.ntmps4
  go_wp2_with fail
  generalize w.alloc (.cells #[.int .u64 0, .int .u64 0, .int .u64 0, .int .u64 0] 24) = v0 at T0 ⊢
  obtain ⟨g1, hg1⟩ : ∃ k, Hid (w.heap.size = k) := ⟨_, rfl⟩
  have T : Hid (OneG w v0 w.heap.size g1 g0) := by
    have := T0.out; rw [hg1.out] at this ⊢; exact this
  clear T0
  rw [hg1.out]
  go_loopw [4] (fun i wr => ∃ j : Nat, j ≤ n ∧ i = .int .i64 j ∧ Hid (OneG w wr w.heap.size g1 (addAll g0 (zs.take j)))) (fun i _ => n - (intOf i).toNat)
  case atStart => exact ⟨0, by omega, rfl, T⟩
  case round =>
    obtain ⟨j, hj, rfl, HT⟩ := hrel
    obtain ⟨y, hy⟩ : ∃ y, Hid (addAll g0 (zs.take j) = y) := ⟨_, rfl⟩
    have HOj := hide (HO.out j)
    rw [hy.out] at HT HOj
    by_cases l1 : j < n
    · have i2 : (0 : Int) ≤ (j : Int) := by omega
      have i3 : (j : Int) < (n : Int) := by omega
      obtain ⟨bb, off, rfl, f9⟩ := HRW.out j wr l1 HT.out.low
      have HXj := hide (HX.out j l1).1
      have HLj := hide (fun x => HL.out j x l1)
      generalize zs.getD j 0 = x at f9 HXj HLj
      have A1 := hide (fun w => A.add y x HOj.out.1 HXj.out HOj.out.2 w)
      have HN1 : Hid (addAll g0 (zs.take (j + 1)) = addG y x) := by rw [← hy.out]; exact HLj.out x rfl
      obtain ⟨r, hr⟩ : ∃ r, Hid (addG y x = r) := ⟨_, rfl⟩
      rw [hr.out] at A1 HN1
      clear HLj
      go_upto_region 7 with fail
      have HD : Hid (OneG w wr.drew w.heap.size g1 y) := HT.out.drew
      have p0 := HT.out.box1.c0
      have p1 := HT.out.box1.c1
      have p2 := HT.out.box1.c2
      have p3 := HT.out.box1.c3
      go_region_with (
        go_at_call 9
        with_reducible refine (A1.out _).mono ?_
        rintro e v7 ⟨rfl, b7⟩
        have T7 : Hid (OneG w v7 w.heap.size g1 y) := HD.out.below b7
        have z0 := T7.out.box1.c0
        have z1 := T7.out.box1.c1
        have z2 := T7.out.box1.c2
        have z3 := T7.out.box1.c3
        have f0 := T7.out.box1.f0
        have f1 := T7.out.box1.f1
        have f2 := T7.out.box1.f2
        have f3 := T7.out.box1.f3)
      all_goals
        go_wp2
        go_roundw
        case measure => simp [intOf]; omega
        case rel => exact ⟨j + 1, by omega, by go_num, by rw [HN1.out]; exact T7.out.set1 r⟩
    · have i3 : ¬ (j : Int) < (n : Int) := by omega
      have p0 := HT.out.box1.c0
      have hjn : j = n := by omega
      have HT2 : Hid (OneG w wr w.heap.size g1 (addAll g0 zs)) := by
        have h := hy.out
        rw [hjn, ← HZ.out, List.take_length] at h
        rw [h]; exact HT.out
      have HOn : Hid (GW (addAll g0 zs) ∧ chkG (addAll g0 zs) = true) := by
        have h := HO.out n
        rw [← HZ.out, List.take_length] at h
        exact h
      clear HT hy HOj p0 HO HL
      generalize addAll g0 zs = y at HT2 HOn HE
      have p0 := HT2.out.box1.c0
      go_upto_region 8 with fail
      go_quiet (fail)
      have HT3 : Hid (OneG w (wr.drewN nq) w.heap.size g1 y) := HT2.out.drewN nq
      generalize wr.drewN nq = wq at HT3 ⊢
      clear HT2 p0
      go_wp2_with fail
      clear hjn hj
      go_loopw [5, 6, 7] (fun a b i wr => ∃ (j : Nat) (L H : Bool), j ≤ n ∧ a = .bool L ∧ b = .bool H ∧ i = .int .i64 j ∧ Hid (OneG w wr w.heap.size g1 y) ∧ Hid ((y.n = 0 ∨ y.lo ∈ zs.take j → L = true) ∧ (y.n = 0 ∨ y.hi ∈ zs.take j → H = true))) (fun _ _ i _ => n - (intOf i).toNat)
      case atStart => exact ⟨0, _, _, by omega, rfl, rfl, rfl, HT3, by simp, by simp⟩
      case round =>
        obtain ⟨j, L, H, hj, rfl, rfl, rfl, HT, HLH⟩ := hrel
        by_cases l1 : j < n
        · have i2 : (0 : Int) ≤ (j : Int) := by omega
          have i3 : (j : Int) < (n : Int) := by omega
          obtain ⟨bb, off, rfl, f9⟩ := HRW.out j wr l1 HT.out.low
          have HCx : Hid (∀ W, Below w.heap.size w W → W.cell? ⟨bb, off + j, none⟩ = some (.int .u64 (zs.getD j 0))) := by
            intro W hW
            obtain ⟨b', off', hbo, f1⟩ := HRW.out j W l1 hW
            simp only [Option.some.injEq, Addr.mk.injEq, and_true] at hbo
            obtain ⟨rfl, rfl⟩ := hbo
            exact f1
          have HXj := hide (HX.out j l1)
          have HTk : Hid (∀ z, z ∈ zs.take (j + 1) ↔ z ∈ zs.take j ∨ z = zs.getD j 0) := fun z => by
            rw [take_more (by rw [HZ.out]; exact l1), List.mem_append, List.mem_singleton]
          generalize zs.getD j 0 = x at f9 HXj HCx HTk
          have K := hide (fun w => refkind_any x HXj.out.1 w)
          have k4 := kind_nan x
          cases e : nanI x
          · rw [e] at k4
            have ha := HE.out.all x HXj.out.2 e
            have L1 := hide (fun w => refless_any x y.lo HXj.out.1 HOn.out.1.lo w)
            have L2 := hide (fun w => refless_any y.hi x HOn.out.1.hi HXj.out.1 w)
            have hyn : y.n ≠ 0 := fun z => by rw [HE.out.none z x HXj.out.2] at e; cases e
            obtain ⟨e1, e2, _⟩ := chk_some HOn.out.2 hyn
            rw [less_num e e1, decide_eq_false (by omega)] at L1
            rw [less_num e2 e, decide_eq_false (by omega)] at L2
            have HB : Hid (∀ L H : Bool, ((y.n = 0 ∨ y.lo ∈ zs.take j → L = true) ∧ (y.n = 0 ∨ y.hi ∈ zs.take j → H = true)) → ((y.n = 0 ∨ y.lo ∈ zs.take (j + 1) → (L || (x == y.lo)) = true) ∧ (y.n = 0 ∨ y.hi ∈ zs.take (j + 1) → (H || (x == y.hi)) = true))) := by
              intro L H h
              constructor
              · intro k
                rcases k with k | k
                · exact absurd k hyn
                · rcases (HTk.out _).1 k with k | k
                  · rw [h.1 (Or.inr k)]; rfl
                  · rw [← k, beq_self_eq_true, Bool.or_true]
              · intro k
                rcases k with k | k
                · exact absurd k hyn
                · rcases (HTk.out _).1 k with k | k
                  · rw [h.2 (Or.inr k)]; rfl
                  · rw [← k, beq_self_eq_true, Bool.or_true]
            clear ha hyn e1 e2 e
            go_wp2_with fail
            refine (K.out _).mono ?_
            rintro e w1 ⟨rfl, rfl⟩
            have p2 := HT.out.box1.c2
            have p3 := HT.out.box1.c3
            go_upto_region 13 with fail
            go_quiet (first | (go_at_call 11; with_reducible exact Calls.quiet_of_same (L1.out _)) | (go_at_call 11; with_reducible exact Calls.quiet_of_same (L2.out _)))
            have HT4 : Hid (OneG w (w1.drewN nq) w.heap.size g1 y) := HT.out.drewN nq
            have f8 := HCx.out _ HT4.out.low
            generalize w1.drewN nq = wa at HT4 f8 ⊢
            clear f9 p2 p3
            have p2 := HT4.out.box1.c2
            have p3 := HT4.out.box1.c3
            go_upto_region 15 with fail
            have HB1 := hide (HB.out L H HLH.out)
            obtain ⟨b1, hb1⟩ : ∃ b, (x == y.lo) = b := ⟨_, rfl⟩
            obtain ⟨b2, hb2⟩ : ∃ b, (x == y.hi) = b := ⟨_, rfl⟩
            rw [hb1, hb2] at HB1
            clear HB HLH HT
            cases L <;> cases H
            all_goals
              go_quiet (fail)
              have HT5 : Hid (OneG w (wa.drewN nq) w.heap.size g1 y) := HT4.out.drewN nq
              have f7 := HCx.out _ HT5.out.low
              generalize wa.drewN nq = wb at HT5 f7 ⊢
              have p2' := HT5.out.box1.c2
              have p3' := HT5.out.box1.c3
              clear f8 p2 p3
              go_upto_region 16 with fail
              go_quiet (fail)
              have HT6 : Hid (OneG w (wb.drewN nq) w.heap.size g1 y) := HT5.out.drewN nq
              have f6 := HCx.out _ HT6.out.low
              generalize wb.drewN nq = wd at HT6 f6 ⊢
              go_wp2
              go_roundw
              case measure => simp [intOf]; omega
              case rel => exact ⟨j + 1, _, _, by omega, rfl, rfl, by go_num, HT6, hide HB1.out⟩
          · rw [e] at k4
            have HB : Hid ((y.n = 0 ∨ y.lo ∈ zs.take (j + 1) → L = true) ∧ (y.n = 0 ∨ y.hi ∈ zs.take (j + 1) → H = true)) := by
              by_cases z : y.n = 0
              · exact ⟨fun _ => HLH.out.1 (Or.inl z), fun _ => HLH.out.2 (Or.inl z)⟩
              · obtain ⟨e1, e2, _⟩ := chk_some HOn.out.2 z
                refine ⟨fun k => HLH.out.1 (k.imp_right fun k => ?_), fun k => HLH.out.2 (k.imp_right fun k => ?_)⟩
                · rcases (HTk.out _).1 k with k | k
                  · exact k
                  · rw [k, e] at e1; cases e1
                · rcases (HTk.out _).1 k with k | k
                  · exact k
                  · rw [k, e] at e2; cases e2
            clear HLH e
            go_wp2_with fail
            refine (K.out _).mono ?_
            rintro e w1 ⟨rfl, rfl⟩
            go_wp2
            go_roundw
            case measure => simp [intOf]; omega
            case rel => exact ⟨j + 1, L, H, by omega, rfl, rfl, by go_num, HT, HB⟩
        · have i3 : ¬ (j : Int) < (n : Int) := by omega
          have hjn : j = n := by omega
          have hL : L = true ∧ H = true := by
            have h := HLH.out
            rw [hjn, ← HZ.out, List.take_length] at h
            by_cases z : y.n = 0
            · exact ⟨h.1 (Or.inl z), h.2 (Or.inl z)⟩
            · exact ⟨h.1 (Or.inr (HE.out.lo z)), h.2 (Or.inr (HE.out.hi z))⟩
          obtain ⟨rfl, rfl⟩ := hL
          go_wp2_with fail
          refine (W.out _).mono ?_
          rintro e v8 ⟨rfl, b8⟩
          have T8 := hide (HT.out.below b8)
          go_wp2
          go_ret
          exact ⟨rfl, T8.out.low⟩
end Go.Proofs.Ytnhjjdgdffjdcab
