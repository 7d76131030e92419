/-
  The law that the least and the greatest are what the machine's floats say, over what the laws ask of the program's own Add.
  Conditions: as GaA says.
-/
import Derived.Test.YtnhjjdgdffjdcaaGaugeP
import Derived.Test.YtnhjjdgdffjdcaaGaugeV
namespace Go.Proofs.Ytnhjjdgdffjdcaa
open Go.RowKit
attribute [local go_sem] run_bits run_frombits

set_option maxHeartbeats 4000000 in
theorem trueG_of (A : GaA) (ad : Option Addr) (n cap : Nat) (ys : List Int) (w : World) (hl : IsRow .u64 w ad n cap ys) :
    Calls Try.prog 7 #[.slice ad n cap] w fun e w' => e = .returned (.bool true) ∧ Below w.heap.size w w' := by
  obtain ⟨hnc, hcap, _, hrow⟩ := row_of hl
  have HR := hide hrow
  have W := hide (awakeG_any A)
  obtain ⟨zs, hzs⟩ : ∃ zs, ys.take n = zs := ⟨_, rfl⟩
  rw [hzs] at HR
  clear hnc hcap hrow hl hzs
  by_cases hn : 300 < n
  · have i1 : (300 : Int) < (n : Int) := by omega
    go_enter Try.func7, Try.ntmps7
    go_wp2_with fail
    refine (W.out _).mono ?_
    rintro e v1 ⟨rfl, b1⟩
    go_wp2
    go_ret
    exact ⟨rfl, b1⟩
  have i1 : ¬ (300 : Int) < (n : Int) := by omega
  have T0 := hide (one_of w 24 g0)
  dsimp only [g0] at T0
  obtain ⟨hz, _, hwz, _⟩ := HR.out
  have HZ : Hid (zs.length = n) := hz
  have HW : Hid (∀ x ∈ zs, Word x) := fun x hx => word_of_wf (hwz x hx)
  have HO : Hid (∀ k, GW (addAll g0 (zs.take k)) ∧ chkG (addAll g0 (zs.take k)) = true) := fun k => addAll_ok _ g0 g0W chk0 fun x hx => HW.out x (List.mem_of_mem_take hx)
  have HL : Hid (∀ j (x : Int), j < n → zs.getD j 0 = x → addAll g0 (zs.take (j + 1)) = addG (addAll g0 (zs.take j)) x) := fun j x h e => by rw [take_more (by rw [HZ.out]; exact h), addAll_append, e]; rfl
  have HX : Hid (∀ j, Word (zs.getD j 0)) := fun j => HR.out.word j
  have HRW : Hid (∀ j W, j < n → Below w.heap.size w W → ∃ b off, ad = some ⟨b, off, none⟩ ∧ W.cell? ⟨b, off + j, none⟩ = some (.int .u64 (zs.getD j 0))) := by
    intro j W hj hW
    obtain ⟨_, _, _, h | ⟨b, off, rfl, hcell⟩⟩ := HR.out.below hW (Nat.le_refl _)
    · omega
    · exact ⟨b, off, rfl, hcell j hj⟩
  clear hz hwz
  go_enter Try.func7, Try.ntmps7
  go_wp2_with fail
  generalize w.alloc (.cells #[.int .u64 0, .int .u64 0, .int .u64 0, .int .u64 0] 24) = v0 at T0 ⊢
  obtain ⟨g1, hg1⟩ : ∃ k, Hid (w.heap.size = k) := ⟨_, rfl⟩
  have T : Hid (OneG w v0 w.heap.size g1 g0) := by
    have := T0.out; rw [hg1.out] at this ⊢; exact this
  clear T0
  rw [hg1.out]
  go_loopw [4, 5, 6, 7, 8] (fun sc sd sp sq i wr => ∃ j c d p q : Nat, j ≤ n ∧ sc = .int .i64 c ∧ sd = .int .i64 d ∧ sp = .float .f64 p ∧ sq = .float .f64 q ∧ i = .int .i64 j ∧ Hid (OneG w wr w.heap.size g1 (addAll g0 (zs.take j))) ∧ Hid (Beside j (addAll g0 (zs.take j)) c d p q)) (fun _ _ _ _ i _ => n - (intOf i).toNat)
  case atStart => exact ⟨0, 0, 0, 0, 0, by omega, rfl, rfl, rfl, rfl, rfl, T, beside0⟩
  case round =>
    obtain ⟨j, c, d, p, q, hj, rfl, rfl, rfl, rfl, rfl, HT, HB⟩ := hrel
    obtain ⟨y, hy⟩ : ∃ y, Hid (addAll g0 (zs.take j) = y) := ⟨_, rfl⟩
    have HOj := hide (HO.out j)
    rw [hy.out] at HT HOj HB
    have hcd : c + d = j := HB.out.sum
    by_cases l1 : j < n
    · have i2 : (0 : Int) ≤ (j : Int) := by omega
      have i3 : (j : Int) < (n : Int) := by omega
      obtain ⟨bb, off, rfl, f9⟩ := HRW.out j wr l1 HT.out.low
      have HCx : Hid (∀ W, Below w.heap.size w W → W.cell? ⟨bb, off + j, none⟩ = some (.int .u64 (zs.getD j 0))) := by
        intro W hW
        obtain ⟨b', off', hbo, f1⟩ := HRW.out j W l1 hW
        simp only [Option.some.injEq, Addr.mk.injEq, and_true] at hbo
        obtain ⟨rfl, rfl⟩ := hbo
        exact f1
      have HXj := hide (HX.out j)
      have HLj := hide (fun x => HL.out j x l1)
      generalize zs.getD j 0 = x at f9 HXj HLj HCx
      have A1 := hide (fun w => A.add y x HOj.out.1 HXj.out HOj.out.2 w)
      have HN1 : Hid (addAll g0 (zs.take (j + 1)) = addG y x) := by rw [← hy.out]; exact HLj.out x rfl
      have lx : x.toNat < 18446744073709551616 := by obtain ⟨_, _⟩ := HXj.out; omega
      have N := hide (fun w => isnan_any x.toNat lx w)
      rw [nan_nat HXj.out] at N
      clear HLj lx
      have HBn : Hid (nanI x = true → Beside (j + 1) (addG y x) c (d + 1) p q) := fun e => HB.out.nan (by omega) HOj.out.1 HOj.out.2 e
      have HBf : Hid (nanI x = false → c = 0 → Beside (j + 1) (addG y x) (c + 1) d x.toNat x.toNat) := fun e z => HB.out.first HOj.out.1 HXj.out e z
      have HBx : Hid (nanI x = false → c ≠ 0 → ∀ p' q', p' = (if (FloatKind.f64.format.order x.toNat p == some .lt) = true then x.toNat else p) → q' = (if (FloatKind.f64.format.order x.toNat q == some .gt) = true then x.toNat else q) → Beside (j + 1) (addG y x) (c + 1) d p' q') :=
        fun e z p' q' h1 h2 => HB.out.next (by omega) HOj.out.1 HOj.out.2 HXj.out e z h1 h2
      obtain ⟨r, hr⟩ : ∃ r, Hid (addG y x = r) := ⟨_, rfl⟩
      rw [hr.out] at A1 HN1 HBn HBf HBx
      go_upto_region 9 with fail
      have HD : Hid (OneG w wr.drew w.heap.size g1 y) := HT.out.drew
      have p0 := HT.out.box1.c0
      have p1 := HT.out.box1.c1
      have p2 := HT.out.box1.c2
      have p3 := HT.out.box1.c3
      go_region_with (
        go_at_call 11
        with_reducible refine (A1.out _).mono ?_
        rintro e v7 ⟨rfl, b7⟩
        have T7 : Hid (OneG w v7 w.heap.size g1 y) := HD.out.below b7
        have z0 := T7.out.box1.c0
        have z1 := T7.out.box1.c1
        have z2 := T7.out.box1.c2
        have z3 := T7.out.box1.c3
        have f0 := T7.out.box1.f0
        have f1 := T7.out.box1.f1
        have f2 := T7.out.box1.f2
        have f3 := T7.out.box1.f3)
      all_goals
        have T8 := hide (T7.out.set1 r)
        have f8 := HCx.out _ T8.out.low
        generalize ((((v7.setCell ⟨g1, 0, none⟩ (.int .u64 r.n)).setCell ⟨g1, 1, none⟩ (.int .u64 r.nans)).setCell ⟨g1, 2, none⟩ (.int .u64 r.lo)).setCell ⟨g1, 3, none⟩ (.int .u64 r.hi)) = v8 at T8 f8 ⊢
        clear b7 T7 z0 z1 z2 z3 f0 f1 f2 f3 p0 p1 p2 p3 HD HT f9
        go_wp2_with fail
        refine (N.out _).mono ?_
        rintro e w1 ⟨rfl, rfl⟩
        cases en : nanI x
        · by_cases hc : c = 0
          · have e0 : ((c : Int) == 0) = true := beq_iff_eq.2 (by omega)
            go_wp2
            go_roundw
            case measure => simp [intOf]; omega
            case rel => exact ⟨j + 1, c + 1, d, x.toNat, x.toNat, by omega, by go_num, rfl, rfl, rfl, by go_num, by rw [HN1.out]; exact T8, by rw [HN1.out]; exact HBf.out en hc⟩
          · have e0 : ((c : Int) == 0) = false := beq_eq_false_iff_ne.2 (by omega)
            have HB2 := hide (HBx.out en hc)
            cases e1 : (FloatKind.f64.format.order x.toNat p == some .lt) <;> cases e2 : (FloatKind.f64.format.order x.toNat q == some .gt)
            all_goals
              rw [e1, e2] at HB2
              go_wp2
              go_roundw
              case measure => simp [intOf]; omega
              case rel => exact ⟨j + 1, c + 1, d, _, _, by omega, by go_num, rfl, rfl, rfl, by go_num, by rw [HN1.out]; exact T8, by rw [HN1.out]; exact HB2.out _ _ rfl rfl⟩
        · go_wp2
          go_roundw
          case measure => simp [intOf]; omega
          case rel => exact ⟨j + 1, c, d + 1, p, q, by omega, rfl, by go_num, rfl, rfl, by go_num, by rw [HN1.out]; exact T8, by rw [HN1.out]; exact HBn.out en⟩
    · have i3 : ¬ (j : Int) < (n : Int) := by omega
      have p0 := HT.out.box1.c0
      have p1 := HT.out.box1.c1
      have p2 := HT.out.box1.c2
      have p3 := HT.out.box1.c3
      rw [HB.out.n] at p0
      rw [HB.out.nans] at p1
      have hj2 : j ≤ 300 := by omega
      by_cases hc : c = 0
      · have e0 : ((c : Int) == 0) = true := beq_iff_eq.2 (by omega)
        go_wp2_with fail
        refine (W.out _).mono ?_
        rintro e v8 ⟨rfl, b8⟩
        have T8 := hide (HT.out.below b8)
        go_wp2
        go_ret
        exact ⟨rfl, T8.out.low⟩
      · have e0 : ((c : Int) == 0) = false := beq_eq_false_iff_ne.2 (by omega)
        have e1 := HB.out.eqlo HOj.out.1 HOj.out.2 hc
        have e2 := HB.out.eqhi HOj.out.1 HOj.out.2 hc
        go_wp2_with fail
        refine (W.out _).mono ?_
        rintro e v8 ⟨rfl, b8⟩
        have T8 := hide (HT.out.below b8)
        go_wp2
        go_ret
        exact ⟨rfl, T8.out.low⟩
end Go.Proofs.Ytnhjjdgdffjdcaa
