/-
  Statement VfsSure over the landed file system: a contract, for every world (written by gen/vfslj.gen.py).
  Conditions: the arguments are told.
-/
import Derived.Test.YthlkmjaflomflaaVfsLa
import Derived.Test.YthlkmjaflomflaaVfsLi
import Derived.Test.YthlkmjaflomflaaPlace
namespace Go.Proofs.Ythlkmjaflomflaa
open Go.RowKit Go.Maps
set_option maxRecDepth 20000
set_option linter.unusedVariables false

set_option maxHeartbeats 16000000 in
theorem sure_walk (a : Option Addr) (n c : Nat) (zs : List Int) (a2 : Option Addr) (n2 c2 : Nat) (zs2 : List Int) (ops : Int) (a3 : Option Addr) (n3 c3 : Nat) (zs3 : List Int) (w : World) (h1 : IsRow .u8 w a n c zs) (h2 : IsRow .u8 w a2 n2 c2 zs2) (ho : (Lit.int .i64 ops).wf = true) (h3 : IsRow .i64 w a3 n3 c3 zs3) (hb3 : c3 ≤ 17592186044416) :
    Calls Try.prog 3 #[.slice a n c, .slice a2 n2 c2, .int .i64 ops, .slice a3 n3 c3] w fun e w' => e = .returned (.bool true) ∧ Below w.heap.size w w' := by
  obtain ⟨hnc1, -, hc1, r1⟩ := row_of h1
  obtain ⟨hnc2, -, hc2, r2⟩ := row_of h2
  obtain ⟨data, hdata⟩ : ∃ data, zs.take n = data := ⟨_, rfl⟩
  obtain ⟨more, hmore⟩ : ∃ more, zs2.take n2 = more := ⟨_, rfl⟩
  rw [hdata] at r1
  rw [hmore] at r2
  have R1 := hide r1
  have R2 := hide r2
  clear h1 h2 r1 r2 hdata hmore
  obtain ⟨-, -, hc3, r3⟩ := row_of h3
  have hnc3 := (row_of h3).1
  obtain ⟨ps, hps⟩ : ∃ ps, zs3.take n3 = ps := ⟨_, rfl⟩
  rw [hps] at r3
  have R3 := hide r3
  clear h3 r3 hps
  by_cases hbig : 2000 < n ∨ 2000 < n2
  · by_cases hb1 : 2000 < n
    · have d1 : decide ((2000 : Int) < (n : Int)) = true := decide_eq_true (by omega)
      have d2 : decide (2000 < n) = true := decide_eq_true hb1
      go_enter Try.func3, Try.ntmps3
      go_wp2_with fail
      with_reducible refine (awakeV_any _).mono ?_
      rintro e u0 ⟨rfl, b0⟩
      have B0 := hide b0
      clear b0
      go_wp2_with fail
      with_reducible refine (awakeV_any _).mono ?_
      rintro e u1 ⟨rfl, b1⟩
      have B1 := hide (bel_to B0.out (Nat.le_refl _) b1)
      clear b1 B0
      go_wp2
      go_ret
      exact ⟨rfl, B1.out⟩
    · have d1 : decide ((2000 : Int) < (n : Int)) = false := decide_eq_false (by omega)
      have d2 : decide (2000 < n) = false := decide_eq_false hb1
      have hb2 : 2000 < n2 := hbig.resolve_left hb1
      have d3 : decide ((2000 : Int) < (n2 : Int)) = true := decide_eq_true (by omega)
      have d4 : decide (2000 < n2) = true := decide_eq_true hb2
      go_enter Try.func3, Try.ntmps3
      go_wp2_with fail
      with_reducible refine (awakeV_any _).mono ?_
      rintro e u0 ⟨rfl, b0⟩
      have B0 := hide b0
      clear b0
      go_wp2_with fail
      with_reducible refine (awakeV_any _).mono ?_
      rintro e u1 ⟨rfl, b1⟩
      have B1 := hide (bel_to B0.out (Nat.le_refl _) b1)
      clear b1 B0
      go_wp2
      go_ret
      exact ⟨rfl, B1.out⟩
  · have hn1 : n ≤ 2000 := by omega
    have hn2 : n2 ≤ 2000 := by omega
    have d1 : decide ((2000 : Int) < (n : Int)) = false := decide_eq_false (by omega)
    have d2 : decide (2000 < n) = false := decide_eq_false (by omega)
    have d3 : decide ((2000 : Int) < (n2 : Int)) = false := decide_eq_false (by omega)
    have d4 : decide (2000 < n2) = false := decide_eq_false (by omega)
    clear hbig
    go_enter Try.func3, Try.ntmps3
    go_wp2_with fail
    with_reducible refine (awakeV_any _).mono ?_
    rintro e u0 ⟨rfl, b0⟩
    have BW0 := hide b0
    clear b0
    have hdl := R1.out.1
    have hml := R2.out.1
    go_wp2_with fail
    with_reducible refine (lnew_any _).mono ?_
    rintro e u1 ⟨g, rfl, hm⟩
    have H1 := hide (onL_from' BW0.out hm)
    clear hm BW0
    have CR := hide (on_create H1.out limB0 (by omega) ⟨#[97]⟩ (by decide))
    rw [ex_create] at CR
    clear H1
    go_wp2_with fail
    with_reducible refine CR.out.mono ?_
    rintro e u2 ⟨rfl, h2⟩
    have H2 := hide h2
    have BM := hide (bytes8_any a n c data u2 (R1.out.below h2.bel (Nat.le_refl _)) hc1 (by omega))
    clear h2 CR
    go_wp2_with fail
    with_reducible refine BM.out.mono ?_
    rintro e v2 ⟨xa, xc, rfl, ox, b2⟩
    have AP := hide (on_append (H2.out.below b2) ex_lim1 (by omega) ⟨#[97]⟩ (by decide) xa n xc data (ownB_row ox (by omega) R1.out.bytes) (by omega) (OwnG.capped ox).1)
    rw [su_append (by omega)] at AP
    have L3 : Hid (LimB 2002 (oneG data 2 false 0 0)) := by have := ex_lim1.append ⟨#[97]⟩ data; rw [su_append (by omega)] at this; exact this.mono (by omega)
    clear ox b2 BM H2
    go_wp2_with fail
    with_reducible refine AP.out.mono ?_
    rintro e u3 ⟨rfl, h3⟩
    have H3 := hide h3
    have SY := hide (on_sync h3 L3.out (by omega) ⟨#[97]⟩ (by decide))
    rw [su_sync] at SY
    have L4 : Hid (LimB 2003 (su2 data)) := by have := L3.out.sync ⟨#[97]⟩; rw [su_sync] at this; exact this
    clear h3 AP H3
    go_wp2_with fail
    with_reducible refine SY.out.mono ?_
    rintro e u4 ⟨rfl, h4⟩
    have SD := hide (on_syncdir h4 L4.out (by omega))
    rw [su_dir] at SD
    have L5 : Hid (LimB 2004 (su3 data)) := by have := L4.out.syncdir; rw [su_dir] at this; exact this
    clear h4 SY
    go_wp2_with fail
    with_reducible refine SD.out.mono ?_
    rintro e u5 ⟨rfl, h5⟩
    have H5 := hide h5
    have BM := hide (bytes8_any a2 n2 c2 more u5 (R2.out.below h5.bel (Nat.le_refl _)) hc2 (by omega))
    clear h5 SD
    go_wp2_with fail
    with_reducible refine BM.out.mono ?_
    rintro e v5 ⟨xa2, xc2, rfl, ox, b5⟩
    have AP := hide (on_append (H5.out.below b5) L5.out (by omega) ⟨#[97]⟩ (by decide) xa2 n2 xc2 more (ownB_row ox (by omega) R2.out.bytes) (by omega) (OwnG.capped ox).1)
    rw [su_more (by omega) (by omega)] at AP
    have L6 : Hid (LimB 4005 (su4 data more)) := by have := L5.out.append ⟨#[97]⟩ more; rw [su_more (by omega) (by omega)] at this; exact this.mono (by omega)
    clear ox b5 BM H5
    go_wp2_with fail
    with_reducible refine AP.out.mono ?_
    rintro e u6 ⟨rfl, h6⟩
    have CR := hide (on_create h6 L6.out (by omega) ⟨#[98]⟩ (by decide))
    rw [su_create] at CR
    have L7 : Hid (LimB 4007 (su5 data more)) := by have := L6.out.create ⟨#[98]⟩; rw [su_create] at this; exact this
    clear h6 AP L3 L4 L5 L6
    go_wp2_with fail
    with_reducible refine CR.out.mono ?_
    rintro e u7 ⟨rfl, h7⟩
    have H7 := hide h7
    have IN := hide (ints8_any a3 n3 c3 ps u7 (R3.out.below h7.bel (Nat.le_refl _)) hc3 (by omega))
    clear h7 CR
    go_wp2_with fail
    with_reducible refine IN.out.mono ?_
    rintro e v7 ⟨ya, yc, rfl, ry, b7⟩
    have HV := hide (H7.out.below b7)
    have CS := hide (on_crash HV.out L7.out (by omega) ops ho ya n3 yc ps ry (by omega))
    obtain ⟨q1, q2, q3⟩ := su_crash data more ops ps
    obtain ⟨nn, hnd⟩ : ∃ nn : Nat, min (cutN (pickF ps 0)) n2 = nn := ⟨_, rfl⟩
    have hnn : nn ≤ n2 := by omega
    have TK : more.take (cutN (pickF ps 0)) = more.take nn := by
      by_cases h : cutN (pickF ps 0) ≤ n2
      · rw [← hnd, Nat.min_eq_left h]
      · rw [← hnd, Nat.min_eq_right (by omega), List.take_of_length_le (by omega), List.take_of_length_le (by omega)]
    rw [TK] at q1
    have HND := hide hnd
    have Q1 := hide q1
    have Q2 := hide q2
    have Q3 := hide q3
    clear ry b7 IN H7 TK q1 q2 q3 hnd
    go_wp2_with fail
    with_reducible refine CS.out.mono ?_
    rintro e u8 ⟨g8, rfl, b8, h8⟩
    have H8 := hide h8
    have F8 := hide (HV.out.below b8)
    have LC := hide (L7.out.crash ops ps)
    have RD := hide (on_read h8 LC.out (by omega) ⟨#[97]⟩ (by decide))
    rw [Q1.out] at RD
    clear h8 b8 CS HV
    go_wp2_with fail
    with_reducible refine RD.out.mono ?_
    rintro e u9 ⟨b9, ar, ac, rfl, o9⟩
    have H9 := hide (H8.out.below b9)
    have F9 := hide (F8.out.below b9)
    have TKL : Hid ((data ++ more.take nn).length = n + nn) := by show _ = _; rw [List.length_append, List.length_take]; omega
    obtain ⟨LN, hLN⟩ : ∃ LN, n + nn = LN := ⟨_, rfl⟩
    rw [TKL.out, hLN] at o9 ⊢
    have O9 : Hid (OwnB u9 u8.heap.size ar LN ac (data ++ more.take nn)) := o9
    have HLN := hide hLN
    clear hLN
    clear o9 b9 RD H8 F8
    have R9 := hide (R3.out.below H9.out.bel (Nat.le_refl _))
    go_upto_if 76 with fail
    go_cut [13] from 76 to 83 (fun x wx => x = .int .i64 (nn : Int) ∧ wx = u9)
    case first =>
      by_cases h0 : n3 = 0
      · have hz : nn = 0 := by
          rw [← HND.out]
          have : ps.length = 0 := by rw [R3.out.1]; exact h0
          unfold pickF cutN
          rw [if_pos this]
          simp
        have hz2 : ¬ (0 : Int) < (n3 : Int) := by omega
        have hz3 : ¬ 0 < n3 := by omega
        have FN : Hid (Value.int .i64 0 = Value.int .i64 (nn : Int)) := by show _ = _; rw [hz]; rfl
        clear hz h0
        clear HND R9 H9 F9 O9 TKL LC Q1 Q2 Q3 HLN
        go_wp2_with fail
        go_meet
        case rel => exact ⟨FN.out, rfl⟩
      · have hp : pickF ps 0 = ps.getD 0 0 := by
          unfold pickF
          rw [if_neg (by rw [R3.out.1]; exact h0), Nat.zero_mod]
        obtain ⟨b3, off3, rfl, cell3⟩ : ∃ b off, a3 = some ⟨b, off, none⟩ ∧ u9.cell? ⟨b, off, none⟩ = some (.int .i64 (ps.getD 0 0)) := by
          rcases R9.out.2.2.2 with e | ⟨b, off, rfl, hc⟩
          · exact absurd e h0
          · exact ⟨b, off, rfl, hc 0 (by omega)⟩
        have hn3 : (0 : Int) < (n3 : Int) := by omega
        have hn4 : 0 < n3 := by omega
        have hnd := HND.out
        rw [hp] at hnd
        generalize ps.getD 0 0 = p0 at *
        unfold cutN at hnd
        clear HND R9 H9 F9 O9 TKL LC Q1 Q2 Q3 hp HLN
        by_cases p1 : p0 < 0
        · have e1 : ¬ (n2 : Int) < p0 := by omega
          have e2 : min p0 (n2 : Int) = p0 := by omega
          have e3 : max (0 : Int) p0 = 0 := by omega
          have FN : Hid (Value.int .i64 0 = Value.int .i64 (nn : Int)) := by show _ = _; rw [show nn = 0 by omega]; rfl
          clear hnd
          go_wp2_with fail
          go_meet
          case rel => exact ⟨FN.out, rfl⟩
        · by_cases p2 : p0 ≤ (n2 : Int)
          · have e2 : min p0 (n2 : Int) = p0 := by omega
            have e3 : max (0 : Int) p0 = p0 := by omega
            have FN : Hid (Value.int .i64 p0 = Value.int .i64 (nn : Int)) := by show _ = _; rw [show p0 = (nn : Int) by omega]
            clear hnd
            go_wp2_with fail
            go_meet
            case rel => exact ⟨FN.out, rfl⟩
          · have e2 : min p0 (n2 : Int) = (n2 : Int) := by omega
            have e3 : max (0 : Int) (n2 : Int) = (n2 : Int) := by omega
            have FN : Hid (Value.int .i64 (n2 : Int) = Value.int .i64 (nn : Int)) := by show _ = _; rw [show nn = n2 by omega]
            clear hnd
            go_wp2_with fail
            go_meet
            case rel => exact ⟨FN.out, rfl⟩
    case rest =>
      obtain ⟨rfl, hw9⟩ := hcut
      rw [hw9]
      clear hw9 R9 HND
      have RF := hide (on_read F9.out L7.out (by omega) ⟨#[97]⟩ (by decide))
      rw [su_read] at RF
      obtain ⟨LM, hLM⟩ : ∃ LM, (data ++ more).length = LM := ⟨_, rfl⟩
      have hLM2 : LM = n + n2 := by rw [← hLM, List.length_append]; omega
      have HLM := hide hLM2
      have HLE := hide hLM
      clear hLM hLM2
      go_wp2_with fail
      with_reducible refine RF.out.mono ?_
      rintro e v ⟨bv, ar2, ac2, rfl, ov⟩
      rw [HLE.out] at ov ⊢
      have OV : Hid (OwnB v u9.heap.size ar2 LM ac2 (data ++ more)) := ov
      have HV := hide (H9.out.below bv)
      have FV := hide (F9.out.below bv)
      have BY : Hid (∀ k, ∀ z ∈ data ++ more.take k, 0 ≤ z ∧ z ≤ 255) := fun k z hz => by
        rcases List.mem_append.1 hz with q | q
        · exact R1.out.bytes z q
        · exact R2.out.bytes z (List.mem_of_mem_take q)
      have BY2 : Hid (∀ z ∈ data ++ more, 0 ≤ z ∧ z ≤ 255) := fun z hz => by
        rcases List.mem_append.1 hz with q | q
        · exact R1.out.bytes z q
        · exact R2.out.bytes z q
      have KEEP : Hid (∀ u, Below v.heap.size v u → (convert 22 9 (.slice ar LN ac)).run Try.prog u = .ok (.string (strOfNums (data ++ more.take nn))) u ∧ (convert 22 9 (.slice a n c)).run Try.prog u = .ok (.string (strOfNums (data))) u ∧ (convert 22 9 (.slice a2 nn c2)).run Try.prog u = .ok (.string (strOfNums (more.take nn))) u ∧ (convert 22 9 (.slice ar2 LM ac2)).run Try.prog u = .ok (.string (strOfNums (data ++ more))) u ∧ (convert 22 9 (.slice a2 n2 c2)).run Try.prog u = .ok (.string (strOfNums (more))) u) := fun u hu => by
        have hb := bel_to HV.out.bel (by have := HV.out.bel.size; omega) hu
        have h1 := OwnG.below (OwnG.below O9.out bv (Nat.le_refl _)) hu (Nat.le_refl _)
        have h2 := OwnG.below OV.out hu (Nat.le_refl _)
        exact ⟨string8 (ownB_row h1 (by have := HLN.out; omega) (BY.out nn)), string8 (R1.out.below hb (Nat.le_refl _)), string8 ((R2.out.to nn hnn).below hb (Nat.le_refl _)), string8 (ownB_row h2 (by have := HLM.out; omega) BY2.out), string8 (R2.out.below hb (Nat.le_refl _))⟩
      have ADD : Hid (∀ (xs ys : List Int) (u : World), xs.length ≤ 2000 → ys.length ≤ 2000 → (Op.stringOp .add (strOfNums xs) (strOfNums ys)).run Try.prog u = .ok (.string (strOfNums (xs ++ ys))) u) := fun xs ys u h1 h2 => by
        rw [run_string_add_sum (P := Try.prog) u _ _ (by rw [strOfNums_size, strOfNums_size]; omega), strOf_append]
      have sl := fun u => slice_to16 a2 n2 c2 nn (by omega) u
      have AD1 := fun u => ADD.out data (more.take nn) u (by omega) (by rw [List.length_take]; omega)
      have AD2 := fun u => ADD.out data more u (by omega) (by omega)
      have LG := hide (fun u (hu : Below v.heap.size v u) => on_list (HV.out.below hu) LC.out (by omega))
      rw [Q2.out] at LG
      have CG := hide (fun u (hu : Below v.heap.size v u) => on_calls (HV.out.below hu))
      rw [Q3.out] at CG
      have LF := hide (fun u (hu : Below v.heap.size v u) => on_list (FV.out.below hu) L7.out (by omega))
      rw [su_list] at LF
      have FIN := hide (fun u (hu : Below v.heap.size v u) => bel_to HV.out.bel (by have := HV.out.bel.size; omega) hu)
      have S0 := KEEP.out _ (Below.refl _ v).drew
      clear ov bv RF O9 OV BY BY2 H9 F9 R1 R2 R3 Q1 Q2 Q3 TKL ADD HV FV LC L7 HLN HLM
      generalize strOfNums (data ++ more.take nn) = s1 at *
      generalize strOfNums (data ++ more) = s2 at *
      generalize strOfNums (more.take nn) = s3 at *
      generalize strOfNums data = s4 at *
      generalize strOfNums more = s5 at *
      obtain ⟨k2, hk2⟩ : ∃ k2 : Nat, (if 1 ≤ ops then 2 else 1) = k2 := ⟨_, rfl⟩
      rw [hk2] at LG
      obtain ⟨M0, hM0⟩ : ∃ M0 : Int, max 0 ops = M0 := ⟨_, rfl⟩
      obtain ⟨M1, hM1⟩ : ∃ M1 : Int, min 1 M0 = M1 := ⟨_, rfl⟩
      have o5 : IntKind.i64.wrap (1 + M1) = (k2 : Int) := by
        rw [IntKind.wrap_i64]
        split at hk2 <;> omega
      clear hk2
      go_upto_region 14 with fail
      refine wp_region_held_drew (S := fun u => (convert 22 9 (.slice ar LN ac)).run Try.prog u = .ok (.string s1) u ∧ (convert 22 9 (.slice a n c)).run Try.prog u = .ok (.string s4) u ∧ (convert 22 9 (.slice a2 nn c2)).run Try.prog u = .ok (.string s3) u ∧ (convert 22 9 (.slice ar2 LM ac2)).run Try.prog u = .ok (.string s2) u ∧ (convert 22 9 (.slice a2 n2 c2)).run Try.prog u = .ok (.string s5) u) (by kernel_rfl) S0 (fun hHeld => ?_)
      refine held_take (i := 0) (d := (some 89)) (v := ?_) rfl rfl (by kernel_rfl) (by kernel_rfl) (by kernel_rfl) (fun _ _ _ h => h) (Or.inl ⟨by rfl, ?_⟩) (by first | assumption | rfl | trivial) ?_
      rotate_left 1
      · (intro w hSw; (try dsimp only at hSw); (try subst hSw); go_simp; try with_reducible rfl)
      simp only [Act.put, List.setIfInBounds_toArray, List.set_cons_zero, List.set_cons_succ]
      refine held_take (i := 1) (d := (some 90)) (v := ?_) rfl rfl (by kernel_rfl) (by kernel_rfl) (by kernel_rfl) (fun _ _ _ h => h) (Or.inl ⟨by rfl, ?_⟩) (by first | assumption | rfl | trivial) ?_
      rotate_left 1
      · (intro w hSw; (try dsimp only at hSw); (try subst hSw); go_simp; try with_reducible rfl)
      simp only [Act.put, List.setIfInBounds_toArray, List.set_cons_zero, List.set_cons_succ]
      refine held_take (i := 2) (d := (some 91)) (v := ?_) rfl rfl (by kernel_rfl) (by kernel_rfl) (by kernel_rfl) (fun _ _ _ h => h) (Or.inl ⟨by rfl, ?_⟩) (by first | assumption | rfl | trivial) ?_
      rotate_left 1
      · (intro w hSw; (try dsimp only at hSw); (try subst hSw); go_simp; try with_reducible rfl)
      simp only [Act.put, List.setIfInBounds_toArray, List.set_cons_zero, List.set_cons_succ]
      refine held_take (i := 3) (d := (some 92)) (v := ?_) rfl rfl (by kernel_rfl) (by kernel_rfl) (by kernel_rfl) (fun _ _ _ h => h) (Or.inl ⟨by rfl, ?_⟩) (by first | assumption | rfl | trivial) ?_
      rotate_left 1
      · (intro w hSw; (try dsimp only at hSw); (try subst hSw); go_simp; try with_reducible rfl)
      simp only [Act.put, List.setIfInBounds_toArray, List.set_cons_zero, List.set_cons_succ]
      refine held_take (i := 4) (d := (some 93)) (v := ?_) rfl rfl (by kernel_rfl) (by kernel_rfl) (by kernel_rfl) (fun _ _ _ h => h) (Or.inl ⟨by rfl, ?_⟩) (by first | assumption | rfl | trivial) ?_
      rotate_left 1
      · (intro w hSw; (try dsimp only at hSw); (try subst hSw); go_simp; try with_reducible rfl)
      simp only [Act.put, List.setIfInBounds_toArray, List.set_cons_zero, List.set_cons_succ]
      refine held_take (i := 5) (d := (some 94)) (v := ?_) rfl rfl (by kernel_rfl) (by kernel_rfl) (by kernel_rfl) (fun _ _ _ h => h) (Or.inl ⟨by rfl, ?_⟩) (by first | assumption | rfl | trivial) ?_
      rotate_left 1
      · (intro w hSw; (try dsimp only at hSw); (try subst hSw); go_simp; try with_reducible rfl)
      simp only [Act.put, List.setIfInBounds_toArray, List.set_cons_zero, List.set_cons_succ]
      refine held_take (i := 6) (d := (some 95)) (v := ?_) rfl rfl (by kernel_rfl) (by kernel_rfl) (by kernel_rfl) (fun _ _ _ h => h) (Or.inl ⟨by rfl, ?_⟩) (by first | assumption | rfl | trivial) ?_
      rotate_left 1
      · (intro w hSw; (try dsimp only at hSw); (try subst hSw); go_simp; try with_reducible rfl)
      simp only [Act.put, List.setIfInBounds_toArray, List.set_cons_zero, List.set_cons_succ]
      refine held_take (i := 7) (d := (some 96)) (v := ?_) rfl rfl (by kernel_rfl) (by kernel_rfl) (by kernel_rfl) (fun _ _ _ h => h) (Or.inl ⟨by rfl, ?_⟩) (by first | assumption | rfl | trivial) ?_
      rotate_left 1
      · (intro w hSw; (try dsimp only at hSw); (try subst hSw); go_simp; try with_reducible rfl)
      simp only [Act.put, List.setIfInBounds_toArray, List.set_cons_zero, List.set_cons_succ]
      refine held_take (i := 8) (d := (some 97)) (v := ?_) rfl rfl (by kernel_rfl) (by kernel_rfl) (by kernel_rfl) (fun _ _ _ h => h) (Or.inl ⟨by rfl, ?_⟩) (by first | assumption | rfl | trivial) ?_
      rotate_left 1
      · (intro w hSw; (try dsimp only at hSw); (try subst hSw); go_simp; try with_reducible rfl)
      simp only [Act.put, List.setIfInBounds_toArray, List.set_cons_zero, List.set_cons_succ]
      refine held_take (i := 9) (d := (some 98)) (v := ?_) rfl rfl (by kernel_rfl) (by kernel_rfl) (by kernel_rfl) (fun _ _ _ h => h) (Or.inl ⟨by rfl, ?_⟩) (by first | assumption | rfl | trivial) ?_
      rotate_left 1
      · (intro w hSw; (try dsimp only at hSw); (try subst hSw); go_simp; try with_reducible rfl)
      simp only [Act.put, List.setIfInBounds_toArray, List.set_cons_zero, List.set_cons_succ]
      refine held_take (i := 10) (d := (some 99)) (v := ?_) rfl rfl (by kernel_rfl) (by kernel_rfl) (by kernel_rfl) (fun _ _ _ h => h) (Or.inl ⟨by rfl, ?_⟩) (by first | assumption | rfl | trivial) ?_
      rotate_left 1
      · (intro w hSw; (try dsimp only at hSw); (try subst hSw); go_simp; try with_reducible rfl)
      simp only [Act.put, List.setIfInBounds_toArray, List.set_cons_zero, List.set_cons_succ]
      refine held_take (i := 11) (d := (some 100)) (v := ?_) rfl rfl (by kernel_rfl) (by kernel_rfl) (by kernel_rfl) (fun _ _ _ h => h) (Or.inl ⟨by rfl, ?_⟩) (by first | assumption | rfl | trivial) ?_
      rotate_left 1
      · (intro w hSw; (try dsimp only at hSw); (try subst hSw); go_simp; try with_reducible rfl)
      simp only [Act.put, List.setIfInBounds_toArray, List.set_cons_zero, List.set_cons_succ]
      refine held_take (i := 12) (d := (some 101)) (v := ?_) rfl rfl (by kernel_rfl) (by kernel_rfl) (by kernel_rfl) (fun _ _ _ h => h) (Or.inl ⟨by rfl, ?_⟩) (by first | assumption | rfl | trivial) ?_
      rotate_left 1
      · (intro w hSw; (try dsimp only at hSw); (try subst hSw); go_simp; try with_reducible rfl)
      simp only [Act.put, List.setIfInBounds_toArray, List.set_cons_zero, List.set_cons_succ]
      refine held_take (i := 13) (d := (some 102)) (v := ?_) rfl rfl (by kernel_rfl) (by kernel_rfl) (by kernel_rfl) (fun _ _ _ h => h) (Or.inl ⟨by rfl, ?_⟩) (by first | assumption | rfl | trivial) ?_
      rotate_left 1
      · (intro w hSw; (try dsimp only at hSw); (try subst hSw); go_simp; try with_reducible rfl)
      simp only [Act.put, List.setIfInBounds_toArray, List.set_cons_zero, List.set_cons_succ]
      refine held_take (i := 14) (d := (some 103)) (v := ?_) rfl rfl (by kernel_rfl) (by kernel_rfl) (by kernel_rfl) (fun _ _ _ h => h) (Or.inl ⟨by rfl, ?_⟩) (by first | assumption | rfl | trivial) ?_
      rotate_left 1
      · (intro w hSw; (try dsimp only at hSw); (try subst hSw); go_simp; try with_reducible rfl)
      simp only [Act.put, List.setIfInBounds_toArray, List.set_cons_zero, List.set_cons_succ]
      refine held_take (i := 15) (d := (some 104)) (v := ?_) rfl rfl (by kernel_rfl) (by kernel_rfl) (by kernel_rfl) (fun _ _ _ h => h) (Or.inl ⟨by rfl, ?_⟩) (by first | assumption | rfl | trivial) ?_
      rotate_left 1
      · (intro w hSw; (try dsimp only at hSw); (try subst hSw); go_simp; try with_reducible rfl)
      simp only [Act.put, List.setIfInBounds_toArray, List.set_cons_zero, List.set_cons_succ]
      refine held_take (i := 18) (d := (some 107)) (v := ?_) rfl rfl (by kernel_rfl) (by kernel_rfl) (by kernel_rfl) (fun _ _ _ h => h) (Or.inl ⟨by rfl, ?_⟩) (by first | assumption | rfl | trivial) ?_
      rotate_left 1
      · (intro w hSw; (try dsimp only at hSw); (try subst hSw); go_simp; try with_reducible rfl)
      simp only [Act.put, List.setIfInBounds_toArray, List.set_cons_zero, List.set_cons_succ]
      refine held_take (i := 19) (d := (some 108)) (v := ?_) rfl rfl (by kernel_rfl) (by kernel_rfl) (by kernel_rfl) (fun _ _ _ h => h) (Or.inl ⟨by rfl, ?_⟩) (by first | assumption | rfl | trivial) ?_
      rotate_left 1
      · (intro w hSw; (try dsimp only at hSw); (try subst hSw); go_simp; try with_reducible rfl)
      simp only [Act.put, List.setIfInBounds_toArray, List.set_cons_zero, List.set_cons_succ]
      refine held_take (i := 20) (d := (some 109)) (v := ?_) rfl rfl (by kernel_rfl) (by kernel_rfl) (by kernel_rfl) (fun _ _ _ h => h) (Or.inl ⟨by rfl, ?_⟩) (by first | assumption | rfl | trivial) ?_
      rotate_left 1
      · (intro w hSw; (try dsimp only at hSw); (try subst hSw); go_simp; try with_reducible rfl)
      simp only [Act.put, List.setIfInBounds_toArray, List.set_cons_zero, List.set_cons_succ]
      refine held_take (i := 21) (d := (some 110)) (v := ?_) rfl rfl (by kernel_rfl) (by kernel_rfl) (by kernel_rfl) (fun _ _ _ h => h) (Or.inl ⟨by rfl, ?_⟩) (by first | assumption | rfl | trivial) ?_
      rotate_left 1
      · (intro w hSw; (try dsimp only at hSw); (try subst hSw); go_simp; try with_reducible rfl)
      simp only [Act.put, List.setIfInBounds_toArray, List.set_cons_zero, List.set_cons_succ]
      refine held_next (i := 16) (by kernel_rfl) rfl (by rfl) (fun K1 hK1 => ?_)
      go_simp
      with_reducible refine (LG.out _ (Below.refl _ v).drew).mono ?_
      rintro e y1 ⟨aL, cL, rfl, -, bL⟩
      have BL : Hid (Below v.heap.size v y1) := (Below.refl _ v).drew.trans (bL.mono (Nat.le_refl _))
      go_wp2_with fail
      have SB := KEEP.out _ BL.out
      refine hK1.out _ _ SB ?_
      clear hK1 bL
      refine held_take (i := 17) (d := (some 106)) (v := ?_) rfl rfl (by kernel_rfl) (by kernel_rfl) (by kernel_rfl) (fun _ _ _ h => h) (Or.inl ⟨by rfl, ?_⟩) (by first | assumption | rfl | trivial) ?_
      rotate_left 1
      · (intro w hSw; (try dsimp only at hSw); (try subst hSw); go_simp; try with_reducible rfl)
      simp only [Act.put, List.setIfInBounds_toArray, List.set_cons_zero, List.set_cons_succ]
      refine held_take (i := 22) (d := (some 111)) (v := ?_) rfl rfl (by kernel_rfl) (by kernel_rfl) (by kernel_rfl) (fun _ _ _ h => h) (Or.inl ⟨by rfl, ?_⟩) (by first | assumption | rfl | trivial) ?_
      rotate_left 1
      · (intro w hSw; (try dsimp only at hSw); (try subst hSw); go_simp; try with_reducible rfl)
      simp only [Act.put, List.setIfInBounds_toArray, List.set_cons_zero, List.set_cons_succ]
      refine held_take (i := 23) (d := (some 112)) (v := ?_) rfl rfl (by kernel_rfl) (by kernel_rfl) (by kernel_rfl) (fun _ _ _ h => h) (Or.inl ⟨by rfl, ?_⟩) (by first | assumption | rfl | trivial) ?_
      rotate_left 1
      · (intro w hSw; (try dsimp only at hSw); (try subst hSw); go_simp; try with_reducible rfl)
      simp only [Act.put, List.setIfInBounds_toArray, List.set_cons_zero, List.set_cons_succ]
      refine held_take (i := 24) (d := (some 113)) (v := ?_) rfl rfl (by kernel_rfl) (by kernel_rfl) (by kernel_rfl) (fun _ _ _ h => h) (Or.inl ⟨by rfl, ?_⟩) (by first | assumption | rfl | trivial) ?_
      rotate_left 1
      · (intro w hSw; (try dsimp only at hSw); (try subst hSw); go_simp; try with_reducible rfl)
      simp only [Act.put, List.setIfInBounds_toArray, List.set_cons_zero, List.set_cons_succ]
      refine held_take (i := 25) (d := (some 114)) (v := ?_) rfl rfl (by kernel_rfl) (by kernel_rfl) (by kernel_rfl) (fun _ _ _ h => h) (Or.inl ⟨by rfl, ?_⟩) (by first | assumption | rfl | trivial) ?_
      rotate_left 1
      · (intro w hSw; (try dsimp only at hSw); (try subst hSw); go_simp; try with_reducible rfl)
      simp only [Act.put, List.setIfInBounds_toArray, List.set_cons_zero, List.set_cons_succ]
      refine held_next (i := 26) (by kernel_rfl) rfl (by rfl) (fun K2 hK2 => ?_)
      go_simp
      with_reducible refine (CG.out _ BL.out).mono ?_
      rintro e y ⟨rfl, hy⟩
      rw [hy]
      clear hy
      go_wp2_with fail
      refine hK2.out _ _ SB ?_
      clear hK2
      refine held_take (i := 27) (d := (some 116)) (v := ?_) rfl rfl (by kernel_rfl) (by kernel_rfl) (by kernel_rfl) (fun _ _ _ h => h) (Or.inl ⟨by rfl, ?_⟩) (by first | assumption | rfl | trivial) ?_
      rotate_left 1
      · (intro w hSw; (try dsimp only at hSw); (try subst hSw); go_simp; try with_reducible rfl)
      simp only [Act.put, List.setIfInBounds_toArray, List.set_cons_zero, List.set_cons_succ]
      refine held_take (i := 28) (d := (some 117)) (v := ?_) rfl rfl (by kernel_rfl) (by kernel_rfl) (by kernel_rfl) (fun _ _ _ h => h) (Or.inl ⟨by rfl, ?_⟩) (by first | assumption | rfl | trivial) ?_
      rotate_left 1
      · (intro w hSw; (try dsimp only at hSw); (try subst hSw); go_simp; try with_reducible rfl)
      simp only [Act.put, List.setIfInBounds_toArray, List.set_cons_zero, List.set_cons_succ]
      refine held_take (i := 29) (d := (some 118)) (v := ?_) rfl rfl (by kernel_rfl) (by kernel_rfl) (by kernel_rfl) (fun _ _ _ h => h) (Or.inl ⟨by rfl, ?_⟩) (by first | assumption | rfl | trivial) ?_
      rotate_left 1
      · (intro w hSw; (try dsimp only at hSw); (try subst hSw); go_simp; try with_reducible rfl)
      simp only [Act.put, List.setIfInBounds_toArray, List.set_cons_zero, List.set_cons_succ]
      refine held_take (i := 30) (d := (some 119)) (v := ?_) rfl rfl (by kernel_rfl) (by kernel_rfl) (by kernel_rfl) (fun _ _ _ h => h) (Or.inl ⟨by rfl, ?_⟩) (by first | assumption | rfl | trivial) ?_
      rotate_left 1
      · (intro w hSw; (try dsimp only at hSw); (try subst hSw); go_simp; try with_reducible rfl)
      simp only [Act.put, List.setIfInBounds_toArray, List.set_cons_zero, List.set_cons_succ]
      refine held_take (i := 31) (d := (some 120)) (v := ?_) rfl rfl (by kernel_rfl) (by kernel_rfl) (by kernel_rfl) (fun _ _ _ h => h) (Or.inl ⟨by rfl, ?_⟩) (by first | assumption | rfl | trivial) ?_
      rotate_left 1
      · (intro w hSw; (try dsimp only at hSw); (try subst hSw); go_simp; try with_reducible rfl)
      simp only [Act.put, List.setIfInBounds_toArray, List.set_cons_zero, List.set_cons_succ]
      refine held_take (i := 32) (d := (some 121)) (v := ?_) rfl rfl (by kernel_rfl) (by kernel_rfl) (by kernel_rfl) (fun _ _ _ h => h) (Or.inl ⟨by rfl, ?_⟩) (by first | assumption | rfl | trivial) ?_
      rotate_left 1
      · (intro w hSw; (try dsimp only at hSw); (try subst hSw); go_simp; try with_reducible rfl)
      simp only [Act.put, List.setIfInBounds_toArray, List.set_cons_zero, List.set_cons_succ]
      refine held_take (i := 33) (d := (some 122)) (v := ?_) rfl rfl (by kernel_rfl) (by kernel_rfl) (by kernel_rfl) (fun _ _ _ h => h) (Or.inl ⟨by rfl, ?_⟩) (by first | assumption | rfl | trivial) ?_
      rotate_left 1
      · (intro w hSw; (try dsimp only at hSw); (try subst hSw); go_simp; try with_reducible rfl)
      simp only [Act.put, List.setIfInBounds_toArray, List.set_cons_zero, List.set_cons_succ]
      refine held_take (i := 34) (d := (some 123)) (v := ?_) rfl rfl (by kernel_rfl) (by kernel_rfl) (by kernel_rfl) (fun _ _ _ h => h) (Or.inl ⟨by rfl, ?_⟩) (by first | assumption | rfl | trivial) ?_
      rotate_left 1
      · (intro w hSw; (try dsimp only at hSw); (try subst hSw); go_simp; try with_reducible rfl)
      simp only [Act.put, List.setIfInBounds_toArray, List.set_cons_zero, List.set_cons_succ]
      refine held_take (i := 35) (d := (some 124)) (v := ?_) rfl rfl (by kernel_rfl) (by kernel_rfl) (by kernel_rfl) (fun _ _ _ h => h) (Or.inl ⟨by rfl, ?_⟩) (by first | assumption | rfl | trivial) ?_
      rotate_left 1
      · (intro w hSw; (try dsimp only at hSw); (try subst hSw); go_simp; try with_reducible rfl)
      simp only [Act.put, List.setIfInBounds_toArray, List.set_cons_zero, List.set_cons_succ]
      refine held_take (i := 36) (d := (some 125)) (v := ?_) rfl rfl (by kernel_rfl) (by kernel_rfl) (by kernel_rfl) (fun _ _ _ h => h) (Or.inl ⟨by rfl, ?_⟩) (by first | assumption | rfl | trivial) ?_
      rotate_left 1
      · (intro w hSw; (try dsimp only at hSw); (try subst hSw); go_simp; try with_reducible rfl)
      simp only [Act.put, List.setIfInBounds_toArray, List.set_cons_zero, List.set_cons_succ]
      refine held_take (i := 37) (d := (some 126)) (v := ?_) rfl rfl (by kernel_rfl) (by kernel_rfl) (by kernel_rfl) (fun _ _ _ h => h) (Or.inl ⟨by rfl, ?_⟩) (by first | assumption | rfl | trivial) ?_
      rotate_left 1
      · (intro w hSw; (try dsimp only at hSw); (try subst hSw); go_simp; try with_reducible rfl)
      simp only [Act.put, List.setIfInBounds_toArray, List.set_cons_zero, List.set_cons_succ]
      refine held_take (i := 38) (d := (some 127)) (v := ?_) rfl rfl (by kernel_rfl) (by kernel_rfl) (by kernel_rfl) (fun _ _ _ h => h) (Or.inl ⟨by rfl, ?_⟩) (by first | assumption | rfl | trivial) ?_
      rotate_left 1
      · (intro w hSw; (try dsimp only at hSw); (try subst hSw); go_simp; try with_reducible rfl)
      simp only [Act.put, List.setIfInBounds_toArray, List.set_cons_zero, List.set_cons_succ]
      refine held_take (i := 39) (d := (some 128)) (v := ?_) rfl rfl (by kernel_rfl) (by kernel_rfl) (by kernel_rfl) (fun _ _ _ h => h) (Or.inl ⟨by rfl, ?_⟩) (by first | assumption | rfl | trivial) ?_
      rotate_left 1
      · (intro w hSw; (try dsimp only at hSw); (try subst hSw); go_simp; try with_reducible rfl)
      simp only [Act.put, List.setIfInBounds_toArray, List.set_cons_zero, List.set_cons_succ]
      refine held_take (i := 40) (d := (some 129)) (v := ?_) rfl rfl (by kernel_rfl) (by kernel_rfl) (by kernel_rfl) (fun _ _ _ h => h) (Or.inl ⟨by rfl, ?_⟩) (by first | assumption | rfl | trivial) ?_
      rotate_left 1
      · (intro w hSw; (try dsimp only at hSw); (try subst hSw); go_simp; try with_reducible rfl)
      simp only [Act.put, List.setIfInBounds_toArray, List.set_cons_zero, List.set_cons_succ]
      refine held_take (i := 41) (d := (some 130)) (v := ?_) rfl rfl (by kernel_rfl) (by kernel_rfl) (by kernel_rfl) (fun _ _ _ h => h) (Or.inl ⟨by rfl, ?_⟩) (by first | assumption | rfl | trivial) ?_
      rotate_left 1
      · (intro w hSw; (try dsimp only at hSw); (try subst hSw); go_simp; try with_reducible rfl)
      simp only [Act.put, List.setIfInBounds_toArray, List.set_cons_zero, List.set_cons_succ]
      refine held_take (i := 42) (d := (some 131)) (v := ?_) rfl rfl (by kernel_rfl) (by kernel_rfl) (by kernel_rfl) (fun _ _ _ h => h) (Or.inl ⟨by rfl, ?_⟩) (by first | assumption | rfl | trivial) ?_
      rotate_left 1
      · (intro w hSw; (try dsimp only at hSw); (try subst hSw); go_simp; try with_reducible rfl)
      simp only [Act.put, List.setIfInBounds_toArray, List.set_cons_zero, List.set_cons_succ]
      refine held_take (i := 43) (d := (some 132)) (v := ?_) rfl rfl (by kernel_rfl) (by kernel_rfl) (by kernel_rfl) (fun _ _ _ h => h) (Or.inl ⟨by rfl, ?_⟩) (by first | assumption | rfl | trivial) ?_
      rotate_left 1
      · (intro w hSw; (try dsimp only at hSw); (try subst hSw); go_simp; try with_reducible rfl)
      simp only [Act.put, List.setIfInBounds_toArray, List.set_cons_zero, List.set_cons_succ]
      refine held_take (i := 44) (d := (some 133)) (v := ?_) rfl rfl (by kernel_rfl) (by kernel_rfl) (by kernel_rfl) (fun _ _ _ h => h) (Or.inl ⟨by rfl, ?_⟩) (by first | assumption | rfl | trivial) ?_
      rotate_left 1
      · (intro w hSw; (try dsimp only at hSw); (try subst hSw); go_simp; try with_reducible rfl)
      simp only [Act.put, List.setIfInBounds_toArray, List.set_cons_zero, List.set_cons_succ]
      refine held_next (i := 45) (by kernel_rfl) rfl (by rfl) (fun K3 hK3 => ?_)
      go_simp
      with_reducible refine (LF.out _ BL.out).mono ?_
      rintro e y2 ⟨aM, cM, rfl, -, bM⟩
      have BM2 : Hid (Below v.heap.size v y2) := bel_to BL.out (Nat.le_refl _) bM
      have FI2 := hide (FIN.out _ BM2.out)
      go_wp2_with fail
      have SC := KEEP.out _ BM2.out
      refine hK3.out _ _ SC ?_
      clear hK3 bM
      refine held_take (i := 46) (d := (some 135)) (v := ?_) rfl rfl (by kernel_rfl) (by kernel_rfl) (by kernel_rfl) (fun _ _ _ h => h) (Or.inl ⟨by rfl, ?_⟩) (by first | assumption | rfl | trivial) ?_
      rotate_left 1
      · (intro w hSw; (try dsimp only at hSw); (try subst hSw); go_simp; try with_reducible rfl)
      simp only [Act.put, List.setIfInBounds_toArray, List.set_cons_zero, List.set_cons_succ]
      refine held_take (i := 47) (d := (some 136)) (v := ?_) rfl rfl (by kernel_rfl) (by kernel_rfl) (by kernel_rfl) (fun _ _ _ h => h) (Or.inl ⟨by rfl, ?_⟩) (by first | assumption | rfl | trivial) ?_
      rotate_left 1
      · (intro w hSw; (try dsimp only at hSw); (try subst hSw); go_simp; try with_reducible rfl)
      simp only [Act.put, List.setIfInBounds_toArray, List.set_cons_zero, List.set_cons_succ]
      refine held_take (i := 48) (d := (some 137)) (v := ?_) rfl rfl (by kernel_rfl) (by kernel_rfl) (by kernel_rfl) (fun _ _ _ h => h) (Or.inl ⟨by rfl, ?_⟩) (by first | assumption | rfl | trivial) ?_
      rotate_left 1
      · (intro w hSw; (try dsimp only at hSw); (try subst hSw); go_simp; try with_reducible rfl)
      simp only [Act.put, List.setIfInBounds_toArray, List.set_cons_zero, List.set_cons_succ]
      refine held_take (i := 49) (d := (some 8)) (v := ?_) rfl rfl (by kernel_rfl) (by kernel_rfl) (by kernel_rfl) (fun _ _ _ h => h) (Or.inl ⟨by rfl, ?_⟩) (by first | assumption | rfl | trivial) ?_
      rotate_left 1
      · (intro w hSw; (try dsimp only at hSw); (try subst hSw); go_simp; try with_reducible rfl)
      simp only [Act.put, List.setIfInBounds_toArray, List.set_cons_zero, List.set_cons_succ]
      clear hHeld S0 KEEP AD1 AD2
      refine wpAnyH_done (by kernel_rfl) ?_ _
      go_wp2
      go_ret
      exact ⟨rfl, FI2.out⟩
end Go.Proofs.Ythlkmjaflomflaa
