/-
  Statement VfsCuts over the landed file system: a contract, for every world (written by gen/vfslc.gen.py).
  Conditions: the arguments are told.
-/
import Derived.Test.YthlkmjaflomflabVfsLa
import Derived.Test.YthlkmjaflomflabVfsLc
import Derived.Test.YthlkmjaflomflabPlace
namespace Go.Proofs.Ythlkmjaflomflab
open Go.RowKit Go.Maps
set_option maxRecDepth 20000
set_option linter.unusedVariables false

set_option maxHeartbeats 16000000 in
theorem cuts_walk (a : Option Addr) (n c : Nat) (zs : List Int) (at' : Int) (a2 : Option Addr) (n2 c2 : Nat) (zs2 : List Int) (un : Int) (w : World) (h1 : IsRow .u8 w a n c zs) (hat : (Lit.int .i64 at').wf = true) (h2 : IsRow .u8 w a2 n2 c2 zs2) (hun : (Lit.int .i64 un).wf = true) :
    Calls Try.prog 4 #[.slice a n c, .int .i64 at', .slice a2 n2 c2, .int .i64 un] w fun e w' => e = .returned (.bool true) ∧ Below w.heap.size w w' := by
  obtain ⟨hnc1, -, hc1, r1⟩ := row_of h1
  obtain ⟨hnc2, -, hc2, r2⟩ := row_of h2
  obtain ⟨data, hdata⟩ : ∃ data, zs.take n = data := ⟨_, rfl⟩
  obtain ⟨more, hmore⟩ : ∃ more, zs2.take n2 = more := ⟨_, rfl⟩
  rw [hdata] at r1
  rw [hmore] at r2
  have R1 := hide r1
  have R2 := hide r2
  clear h1 h2 r1 r2 hdata hmore
  by_cases hbig : 1000 < n ∨ 1000 < n2
  · by_cases hb1 : 1000 < n
    · have d1 : decide ((1000 : Int) < (n : Int)) = true := decide_eq_true (by omega)
      have d2 : decide (1000 < n) = true := decide_eq_true hb1
      go_enter Try.func4, Try.ntmps4
      go_wp2_with fail
      with_reducible refine (awakeV_any _).mono ?_
      rintro e u0 ⟨rfl, b0⟩
      have B0 := hide b0
      clear b0
      go_wp2_with fail
      with_reducible refine (awakeV_any _).mono ?_
      rintro e u1 ⟨rfl, b1⟩
      have B1 := hide (bel_to B0.out (Nat.le_refl _) b1)
      clear b1 B0
      go_wp2
      go_ret
      exact ⟨rfl, B1.out⟩
    · have d1 : decide ((1000 : Int) < (n : Int)) = false := decide_eq_false (by omega)
      have d2 : decide (1000 < n) = false := decide_eq_false hb1
      have hb2 : 1000 < n2 := hbig.resolve_left hb1
      have d3 : decide ((1000 : Int) < (n2 : Int)) = true := decide_eq_true (by omega)
      have d4 : decide (1000 < n2) = true := decide_eq_true hb2
      go_enter Try.func4, Try.ntmps4
      go_wp2_with fail
      with_reducible refine (awakeV_any _).mono ?_
      rintro e u0 ⟨rfl, b0⟩
      have B0 := hide b0
      clear b0
      go_wp2_with fail
      with_reducible refine (awakeV_any _).mono ?_
      rintro e u1 ⟨rfl, b1⟩
      have B1 := hide (bel_to B0.out (Nat.le_refl _) b1)
      clear b1 B0
      go_wp2
      go_ret
      exact ⟨rfl, B1.out⟩
  · have hn1 : n ≤ 1000 := by omega
    have hn2 : n2 ≤ 1000 := by omega
    have d1 : decide ((1000 : Int) < (n : Int)) = false := decide_eq_false (by omega)
    have d2 : decide (1000 < n) = false := decide_eq_false (by omega)
    have d3 : decide ((1000 : Int) < (n2 : Int)) = false := decide_eq_false (by omega)
    have d4 : decide (1000 < n2) = false := decide_eq_false (by omega)
    clear hbig
    go_enter Try.func4, Try.ntmps4
    go_wp2_with fail
    with_reducible refine (awakeV_any _).mono ?_
    rintro e u0 ⟨rfl, b0⟩
    have BW0 := hide b0
    clear b0
    have BD := hide (bytes8_any a n c data (u0.alloc (.cells #[.string ⟨#[97]⟩] 9)) (R1.out.below (bel_al BW0.out (Nat.le_refl _) _) (Nat.le_refl _)) hc1 (by omega))
    go_wp2_with fail
    with_reducible refine BD.out.mono ?_
    rintro e v1 ⟨xa, xc, rfl, ox, b1⟩
    have bn1 : Below u0.heap.size u0 v1 := ((Below.refl _ _).alloc (Nat.le_refl _) _).trans (b1.mono (by simp))
    have NM : Hid (RowX (v1.alloc (.cells #[.slice xa n xc] 22)) (some ⟨u0.heap.size, 0, none⟩) 1 [⟨#[97]⟩]) := ((one_name u0 ⟨#[97]⟩ 9).below b1 (Nat.le_refl _)).below ((Below.refl _ _).alloc (Nat.le_refl _) _) (Nat.le_refl _)
    have DB := hide (one_data v1 (xa, n, xc) data 22 (ownB_row ox (by show n ≤ _; omega) R1.out.bytes) (OwnG.capped ox).1 (fun e => ((OwnG.capped ox).2 e).2))
    have BV1 : Hid (Below w.heap.size w (v1.alloc (.cells #[.slice xa n xc] 22))) := bel_al (BW0.out.trans (bn1.mono BW0.out.size)) (Nat.le_refl _) _
    have LD := hide (llaid_any (some ⟨u0.heap.size, 0, none⟩) 1 1 [⟨#[97]⟩] (some ⟨v1.heap.size, 0, none⟩) 1 1 [(xa, n, xc)] [data] _ NM.out (fun s hs => by obtain rfl := List.mem_singleton.1 hs; decide) DB.out (by omega) (by omega))
    rw [oneL_laid (by have := R1.out.1; omega)] at LD
    clear ox b1 bn1 BD NM DB BW0
    go_wp2_with fail
    with_reducible refine LD.out.mono ?_
    rintro e u1 ⟨-, g, rfl, hm⟩
    have H1 := hide (onL_from BV1.out hm)
    clear hm LD BV1
    have hdl := R1.out.1
    have L1 := hide (oneL_lim (data := data) (m := 1000) (by omega) (by omega))
    obtain ⟨k, hk, hkn⟩ : ∃ k : Nat, at' % ((n : Int) + 1) = (k : Int) ∧ k ≤ n := by
      have q1 := Int.emod_nonneg at' (show (n : Int) + 1 ≠ 0 by omega)
      have q2 := Int.emod_lt_of_pos at' (show (0 : Int) < (n : Int) + 1 by omega)
      exact ⟨(at' % ((n : Int) + 1)).toNat, by omega, by omega⟩
    have PL := hide (fun u => place_any at' ((n : Int) + 1) (by omega) (by omega) u)
    rw [hk] at PL
    have w1 : IntKind.i64.wrap ((n : Int) + 1) = (n : Int) + 1 := by rw [IntKind.wrap_i64]; omega
    go_wp2_with fail
    with_reducible refine (PL.out _).mono ?_
    rintro e u ⟨rfl, hu⟩
    rw [hu]
    clear hu PL hk
    have hml := R2.out.1
    have C1 := hide (on_cut H1.out L1.out (by omega) ⟨#[97]⟩ (by decide) (k : Int) (by simp [Lit.wf, IntKind.min, IntKind.max, IntKind.signed, IntKind.bits]; omega))
    have hkd : k ≤ data.length := by omega
    rw [cu_cut hkd] at C1
    have L2 : Hid (LimB 1002 (cu1 data k)) := by have := L1.out.cut ⟨#[97]⟩ (k : Int); rw [cu_cut hkd] at this; exact this
    clear H1
    go_wp2_with fail
    with_reducible refine C1.out.mono ?_
    rintro e u2 ⟨rfl, h2⟩
    have H2 := hide h2
    clear h2 C1
    have BM := hide (bytes8_any a2 n2 c2 more u2 (R2.out.below H2.out.bel (Nat.le_refl _)) hc2 (by omega))
    go_wp2_with fail
    with_reducible refine BM.out.mono ?_
    rintro e v3 ⟨xa2, xc2, rfl, ox2, b4⟩
    have AP := hide (on_append (H2.out.below b4) L2.out (by omega) ⟨#[97]⟩ (by decide) xa2 n2 xc2 more (ownB_row ox2 (by omega) R2.out.bytes) (by omega) (OwnG.capped ox2).1)
    rw [cu_append (by omega) (by omega)] at AP
    have L4 : Hid (LimB 3003 (cu2 data k more)) := by have := L2.out.append ⟨#[97]⟩ more; rw [cu_append (by omega) (by omega)] at this; exact this.mono (by omega)
    clear ox2 b4 BM H2
    go_wp2_with fail
    with_reducible refine AP.out.mono ?_
    rintro e u4 ⟨rfl, h4⟩
    have H4 := hide h4
    have zf : (data.length : Int) + (more.length : Int) + 1 = (n : Int) + (n2 : Int) + 1 := by omega
    have C2 := hide (on_cut h4 L4.out (by omega) ⟨#[97]⟩ (by decide) ((n : Int) + (n2 : Int) + 1) (by simp [Lit.wf, IntKind.min, IntKind.max, IntKind.signed, IntKind.bits]; omega))
    rw [← zf, cu_far hkd, zf] at C2
    have L5 : Hid (LimB 3005 (cu3 data k more)) := by have := L4.out.cut ⟨#[97]⟩ ((data.length : Int) + (more.length : Int) + 1); rw [cu_far hkd] at this; exact this
    have w2 : IntKind.i64.wrap ((n : Int) + (n2 : Int)) = (n : Int) + (n2 : Int) := by rw [IntKind.wrap_i64]; omega
    have w3 : IntKind.i64.wrap ((n : Int) + (n2 : Int) + 1) = (n : Int) + (n2 : Int) + 1 := by rw [IntKind.wrap_i64]; omega
    clear h4 AP H4 zf
    go_wp2_with fail
    with_reducible refine C2.out.mono ?_
    rintro e u5 ⟨rfl, h5⟩
    have H5 := hide h5
    have RD := hide (on_read h5 L5.out (by omega) ⟨#[97]⟩ (by decide))
    rw [cu_read] at RD
    clear h5 C2
    have TK : Hid ((data.take k ++ more).length = k + n2) := by show _ = _; rw [List.length_append, List.length_take]; omega
    go_wp2_with fail
    with_reducible refine RD.out.mono ?_
    rintro e u6 ⟨b6, ar, ac, rfl, o6⟩
    have H6 := hide (H5.out.below b6)
    rw [TK.out] at o6 ⊢
    have BY : Hid (∀ z ∈ data.take k ++ more, 0 ≤ z ∧ z ≤ 255) := fun z hz => by
      rcases List.mem_append.1 hz with q | q
      · exact R1.out.bytes z (List.mem_of_mem_take q)
      · exact R2.out.bytes z q
    have ADD : Hid (∀ (xs ys : List Int) (u : World), xs.length ≤ 1000 → ys.length ≤ 1000 → (Op.stringOp .add (strOfNums xs) (strOfNums ys)).run Try.prog u = .ok (.string (strOfNums (xs ++ ys))) u) := fun xs ys u h1 h2 => by
      rw [run_string_add_sum (P := Try.prog) u _ _ (by rw [strOfNums_size, strOfNums_size]; omega), strOf_append]
    have sl := fun u => slice_to16 a n c k (by omega) u
    have RK := hide (fun u (hu : Below w.heap.size w u) => string8 (cap := c) ((R1.out.to k hkn).below hu (Nat.le_refl _)))
    have RM := hide (fun u (hu : Below w.heap.size w u) => string8 (cap := c2) (R2.out.below hu (Nat.le_refl _)))
    have AD := fun u => ADD.out (data.take k) more u (by rw [List.length_take]; omega) (by omega)
    have S6 : Hid ((convert 22 9 (.slice ar (k + n2) ac)).run Try.prog u6.drew = .ok (.string (strOfNums (data.take k ++ more))) u6.drew ∧ (convert 22 9 (.slice a k c)).run Try.prog u6.drew = .ok (.string (strOfNums (data.take k))) u6.drew ∧ (convert 22 9 (.slice a2 n2 c2)).run Try.prog u6.drew = .ok (.string (strOfNums more)) u6.drew) := ⟨string8 ((ownB_row o6 (by omega) BY.out).below (Below.refl _ _).drew (Nat.le_refl _)), RK.out _ H6.out.bel.drew, RM.out _ H6.out.bel.drew⟩
    have H6b := hide (H6.out.below (Below.refl _ _).drew)
    clear o6 b6 RD H5 H6
    go_upto_region 8 with fail
    refine wp_region_held_drew (S := fun u => (convert 22 9 (.slice ar (k + n2) ac)).run Try.prog u = .ok (.string (strOfNums (data.take k ++ more))) u ∧ (convert 22 9 (.slice a k c)).run Try.prog u = .ok (.string (strOfNums (data.take k))) u ∧ (convert 22 9 (.slice a2 n2 c2)).run Try.prog u = .ok (.string (strOfNums more)) u) (by kernel_rfl) S6.out (fun hHeld => ?_)
    refine held_take (i := 0) (d := (some 72)) (v := ?_) rfl rfl (by kernel_rfl) (by kernel_rfl) (by kernel_rfl) (fun _ _ _ h => h) (Or.inl ⟨by rfl, ?_⟩) (by first | assumption | rfl | trivial) ?_
    rotate_left 1
    · (intro w hSw; (try dsimp only at hSw); (try subst hSw); go_simp; try with_reducible rfl)
    simp only [Act.put, List.setIfInBounds_toArray, List.set_cons_zero, List.set_cons_succ]
    refine held_take (i := 1) (d := (some 73)) (v := ?_) rfl rfl (by kernel_rfl) (by kernel_rfl) (by kernel_rfl) (fun _ _ _ h => h) (Or.inl ⟨by rfl, ?_⟩) (by first | assumption | rfl | trivial) ?_
    rotate_left 1
    · (intro w hSw; (try dsimp only at hSw); (try subst hSw); go_simp; try with_reducible rfl)
    simp only [Act.put, List.setIfInBounds_toArray, List.set_cons_zero, List.set_cons_succ]
    refine held_take (i := 2) (d := (some 74)) (v := ?_) rfl rfl (by kernel_rfl) (by kernel_rfl) (by kernel_rfl) (fun _ _ _ h => h) (Or.inl ⟨by rfl, ?_⟩) (by first | assumption | rfl | trivial) ?_
    rotate_left 1
    · (intro w hSw; (try dsimp only at hSw); (try subst hSw); go_simp; try with_reducible rfl)
    simp only [Act.put, List.setIfInBounds_toArray, List.set_cons_zero, List.set_cons_succ]
    refine held_take (i := 3) (d := (some 75)) (v := ?_) rfl rfl (by kernel_rfl) (by kernel_rfl) (by kernel_rfl) (fun _ _ _ h => h) (Or.inl ⟨by rfl, ?_⟩) (by first | assumption | rfl | trivial) ?_
    rotate_left 1
    · (intro w hSw; (try dsimp only at hSw); (try subst hSw); go_simp; try with_reducible rfl)
    simp only [Act.put, List.setIfInBounds_toArray, List.set_cons_zero, List.set_cons_succ]
    refine held_take (i := 4) (d := (some 76)) (v := ?_) rfl rfl (by kernel_rfl) (by kernel_rfl) (by kernel_rfl) (fun _ _ _ h => h) (Or.inl ⟨by rfl, ?_⟩) (by first | assumption | rfl | trivial) ?_
    rotate_left 1
    · (intro w hSw; (try dsimp only at hSw); (try subst hSw); go_simp; try with_reducible rfl)
    simp only [Act.put, List.setIfInBounds_toArray, List.set_cons_zero, List.set_cons_succ]
    refine held_take (i := 5) (d := (some 77)) (v := ?_) rfl rfl (by kernel_rfl) (by kernel_rfl) (by kernel_rfl) (fun _ _ _ h => h) (Or.inl ⟨by rfl, ?_⟩) (by first | assumption | rfl | trivial) ?_
    rotate_left 1
    · (intro w hSw; (try dsimp only at hSw); (try subst hSw); go_simp; try with_reducible rfl)
    simp only [Act.put, List.setIfInBounds_toArray, List.set_cons_zero, List.set_cons_succ]
    refine held_take (i := 6) (d := (some 78)) (v := ?_) rfl rfl (by kernel_rfl) (by kernel_rfl) (by kernel_rfl) (fun _ _ _ h => h) (Or.inl ⟨by rfl, ?_⟩) (by first | assumption | rfl | trivial) ?_
    rotate_left 1
    · (intro w hSw; (try dsimp only at hSw); (try subst hSw); go_simp; try with_reducible rfl)
    simp only [Act.put, List.setIfInBounds_toArray, List.set_cons_zero, List.set_cons_succ]
    refine held_take (i := 7) (d := (some 79)) (v := ?_) rfl rfl (by kernel_rfl) (by kernel_rfl) (by kernel_rfl) (fun _ _ _ h => h) (Or.inl ⟨by rfl, ?_⟩) (by first | assumption | rfl | trivial) ?_
    rotate_left 1
    · (intro w hSw; (try dsimp only at hSw); (try subst hSw); go_simp; try with_reducible rfl)
    simp only [Act.put, List.setIfInBounds_toArray, List.set_cons_zero, List.set_cons_succ]
    refine held_take (i := 8) (d := (some 80)) (v := ?_) rfl rfl (by kernel_rfl) (by kernel_rfl) (by kernel_rfl) (fun _ _ _ h => h) (Or.inl ⟨by rfl, ?_⟩) (by first | assumption | rfl | trivial) ?_
    rotate_left 1
    · (intro w hSw; (try dsimp only at hSw); (try subst hSw); go_simp; try with_reducible rfl)
    simp only [Act.put, List.setIfInBounds_toArray, List.set_cons_zero, List.set_cons_succ]
    refine held_take (i := 9) (d := (some 81)) (v := ?_) rfl rfl (by kernel_rfl) (by kernel_rfl) (by kernel_rfl) (fun _ _ _ h => h) (Or.inl ⟨by rfl, ?_⟩) (by first | assumption | rfl | trivial) ?_
    rotate_left 1
    · (intro w hSw; (try dsimp only at hSw); (try subst hSw); go_simp; try with_reducible rfl)
    simp only [Act.put, List.setIfInBounds_toArray, List.set_cons_zero, List.set_cons_succ]
    clear hHeld S6 AD
    refine wpAnyH_done (by kernel_rfl) ?_ _
    go_upto_region 10 with fail
    refine wp_world (fun W => OnL w.heap.size w W g (cu3 data k more)) H6b.out ?_
    intro v6 hv6
    have H6c := hide hv6
    clear hv6 H6b
    obtain ⟨nu, hnu, hnun⟩ : ∃ nu : Nat, un % ((n2 : Int) + 2) = (nu : Int) ∧ nu ≤ n2 + 1 := by
      have q1 := Int.emod_nonneg un (show (n2 : Int) + 2 ≠ 0 by omega)
      have q2 := Int.emod_lt_of_pos un (show (0 : Int) < (n2 : Int) + 2 by omega)
      exact ⟨(un % ((n2 : Int) + 2)).toNat, by omega, by omega⟩
    have PU := hide (fun u => place_any un ((n2 : Int) + 2) (by omega) (by omega) u)
    rw [hnu] at PU
    have w4 : IntKind.i64.wrap ((n2 : Int) + 2) = (n2 : Int) + 2 := by rw [IntKind.wrap_i64]; omega
    go_wp2_with fail
    with_reducible refine (PU.out _).mono ?_
    rintro e u7 ⟨rfl, hu⟩
    rw [hu]
    clear hu PU hnu
    have BA : Hid (Below v6.heap.size v6 (v6.alloc (.cells #[.int .i64 (nu : Int)] 3))) := (Below.refl _ _).alloc (Nat.le_refl _) _
    have CA := hide (on_crash (H6c.out.below BA.out) L5.out (by omega) 0 (by decide) (some ⟨v6.heap.size, 0, none⟩) 1 1 [(nu : Int)] (one_pick v6 (nu : Int) (by simp [Lit.wf, IntKind.min, IntKind.max, IntKind.signed, IntKind.bits]; omega) 3) (by omega))
    go_wp2_with fail
    with_reducible refine CA.out.mono ?_
    rintro e u8 ⟨g8, rfl, b8, h8⟩
    have R8 := hide (on_read h8 (L5.out.crash 0 [(nu : Int)]) (by omega) ⟨#[97]⟩ (by decide))
    rw [cu_crash] at R8
    have H8 := hide h8
    clear h8 b8 CA H6c BA
    go_wp2_with fail
    with_reducible refine R8.out.mono ?_
    rintro e u9 ⟨b9, ar9, ac9, rfl, o9⟩
    have H9 := hide (H8.out.below b9)
    by_cases hnu0 : nu = 0
    · rw [if_pos hnu0] at o9 ⊢
      have S9 := string8 (ownB_row o9 (by omega) R1.out.bytes) (cap := ac9)
      have SD := string8 (cap := c) (R1.out.below H9.out.bel (Nat.le_refl _))
      rw [hdl] at S9 ⊢
      generalize strOfNums data = sm at S9 SD
      have z0 : ((nu : Int) == 0) = true := by simp; omega
      clear o9 b9 R8 H8 RK RM ADD sl
      subst hnu0
      go_wp2
      go_ret
      exact ⟨rfl, H9.out.bel⟩
    · rw [if_neg hnu0] at o9 ⊢
      obtain ⟨j, rfl⟩ : ∃ j, nu = j + 1 := ⟨nu - 1, by omega⟩
      have hj : j + 1 - 1 = j := by omega
      rw [hj] at o9 ⊢
      have TJ : (data.take k ++ more.take j).length = k + j := by rw [List.length_append, List.length_take, List.length_take]; omega
      rw [TJ] at o9 ⊢
      have BY2 : ∀ z ∈ data.take k ++ more.take j, 0 ≤ z ∧ z ≤ 255 := fun z hz => by
        rcases List.mem_append.1 hz with q | q
        · exact R1.out.bytes z (List.mem_of_mem_take q)
        · exact R2.out.bytes z (List.mem_of_mem_take q)
      have sl2 := fun u => slice_to16 a2 n2 c2 j (by omega) u
      have AD := fun u => ADD.out (data.take k) (more.take j) u (by rw [List.length_take]; omega) (by rw [List.length_take]; omega)
      have S9 : Hid ((convert 22 9 (.slice ar9 (k + j) ac9)).run Try.prog u9.drew = .ok (.string (strOfNums (data.take k ++ more.take j))) u9.drew ∧ (convert 22 9 (.slice a k c)).run Try.prog u9.drew = .ok (.string (strOfNums (data.take k))) u9.drew ∧ (convert 22 9 (.slice a2 j c2)).run Try.prog u9.drew = .ok (.string (strOfNums (more.take j))) u9.drew) := ⟨string8 ((ownB_row o9 (by omega) BY2).below (Below.refl _ _).drew (Nat.le_refl _)), RK.out _ H9.out.bel.drew, string8 ((R2.out.to j (by omega)).below H9.out.bel.drew (Nat.le_refl _))⟩
      have z0 : (((j : Int) + 1) == 0) = false := by simp; omega
      have z1 : ((((j + 1 : Nat) : Int)) == 0) = false := by simp; omega
      have z2 : IntKind.i64.wrap (((j + 1 : Nat) : Int) - 1) = (j : Int) := by rw [IntKind.wrap_i64]; omega
      have z3 : IntKind.i64.wrap ((j : Int) + 1 - 1) = (j : Int) := by rw [IntKind.wrap_i64]; omega
      have z4 : (j : Int) + 1 - 1 = (j : Int) := by omega
      have z5 : IntKind.i64.wrap (j : Int) = (j : Int) := by rw [IntKind.wrap_i64]; omega
      have FIN : Hid (Below w.heap.size w u9.drew) := H9.out.bel.drew
      clear o9 b9 R8 H8 RK RM ADD BY2 TJ H9
      go_upto_region 14 with fail
      refine wp_region_held_drew (S := fun u => (convert 22 9 (.slice ar9 (k + j) ac9)).run Try.prog u = .ok (.string (strOfNums (data.take k ++ more.take j))) u ∧ (convert 22 9 (.slice a k c)).run Try.prog u = .ok (.string (strOfNums (data.take k))) u ∧ (convert 22 9 (.slice a2 j c2)).run Try.prog u = .ok (.string (strOfNums (more.take j))) u) (by kernel_rfl) S9.out (fun hHeld => ?_)
      refine held_take (i := 0) (d := (some 102)) (v := ?_) rfl rfl (by kernel_rfl) (by kernel_rfl) (by kernel_rfl) (fun _ _ _ h => h) (Or.inl ⟨by rfl, ?_⟩) (by first | assumption | rfl | trivial) ?_
      rotate_left 1
      · (intro w hSw; (try dsimp only at hSw); (try subst hSw); go_simp; try with_reducible rfl)
      simp only [Act.put, List.setIfInBounds_toArray, List.set_cons_zero, List.set_cons_succ]
      refine held_take (i := 1) (d := (some 103)) (v := ?_) rfl rfl (by kernel_rfl) (by kernel_rfl) (by kernel_rfl) (fun _ _ _ h => h) (Or.inl ⟨by rfl, ?_⟩) (by first | assumption | rfl | trivial) ?_
      rotate_left 1
      · (intro w hSw; (try dsimp only at hSw); (try subst hSw); go_simp; try with_reducible rfl)
      simp only [Act.put, List.setIfInBounds_toArray, List.set_cons_zero, List.set_cons_succ]
      refine held_take (i := 2) (d := (some 104)) (v := ?_) rfl rfl (by kernel_rfl) (by kernel_rfl) (by kernel_rfl) (fun _ _ _ h => h) (Or.inl ⟨by rfl, ?_⟩) (by first | assumption | rfl | trivial) ?_
      rotate_left 1
      · (intro w hSw; (try dsimp only at hSw); (try subst hSw); go_simp; try with_reducible rfl)
      simp only [Act.put, List.setIfInBounds_toArray, List.set_cons_zero, List.set_cons_succ]
      refine held_take (i := 3) (d := (some 105)) (v := ?_) rfl rfl (by kernel_rfl) (by kernel_rfl) (by kernel_rfl) (fun _ _ _ h => h) (Or.inl ⟨by rfl, ?_⟩) (by first | assumption | rfl | trivial) ?_
      rotate_left 1
      · (intro w hSw; (try dsimp only at hSw); (try subst hSw); go_simp; try with_reducible rfl)
      simp only [Act.put, List.setIfInBounds_toArray, List.set_cons_zero, List.set_cons_succ]
      refine held_take (i := 4) (d := (some 106)) (v := ?_) rfl rfl (by kernel_rfl) (by kernel_rfl) (by kernel_rfl) (fun _ _ _ h => h) (Or.inl ⟨by rfl, ?_⟩) (by first | assumption | rfl | trivial) ?_
      rotate_left 1
      · (intro w hSw; (try dsimp only at hSw); (try subst hSw); go_simp; try with_reducible rfl)
      simp only [Act.put, List.setIfInBounds_toArray, List.set_cons_zero, List.set_cons_succ]
      refine held_take (i := 5) (d := (some 107)) (v := ?_) rfl rfl (by kernel_rfl) (by kernel_rfl) (by kernel_rfl) (fun _ _ _ h => h) (Or.inl ⟨by rfl, ?_⟩) (by first | assumption | rfl | trivial) ?_
      rotate_left 1
      · (intro w hSw; (try dsimp only at hSw); (try subst hSw); go_simp; try with_reducible rfl)
      simp only [Act.put, List.setIfInBounds_toArray, List.set_cons_zero, List.set_cons_succ]
      refine held_take (i := 6) (d := (some 108)) (v := ?_) rfl rfl (by kernel_rfl) (by kernel_rfl) (by kernel_rfl) (fun _ _ _ h => h) (Or.inl ⟨by rfl, ?_⟩) (by first | assumption | rfl | trivial) ?_
      rotate_left 1
      · (intro w hSw; (try dsimp only at hSw); (try subst hSw); go_simp; try with_reducible rfl)
      simp only [Act.put, List.setIfInBounds_toArray, List.set_cons_zero, List.set_cons_succ]
      refine held_take (i := 7) (d := (some 109)) (v := ?_) rfl rfl (by kernel_rfl) (by kernel_rfl) (by kernel_rfl) (fun _ _ _ h => h) (Or.inl ⟨by rfl, ?_⟩) (by first | assumption | rfl | trivial) ?_
      rotate_left 1
      · (intro w hSw; (try dsimp only at hSw); (try subst hSw); go_simp; try with_reducible rfl)
      simp only [Act.put, List.setIfInBounds_toArray, List.set_cons_zero, List.set_cons_succ]
      refine held_take (i := 8) (d := (some 110)) (v := ?_) rfl rfl (by kernel_rfl) (by kernel_rfl) (by kernel_rfl) (fun _ _ _ h => h) (Or.inl ⟨by rfl, ?_⟩) (by first | assumption | rfl | trivial) ?_
      rotate_left 1
      · (intro w hSw; (try dsimp only at hSw); (try subst hSw); go_simp; try with_reducible rfl)
      simp only [Act.put, List.setIfInBounds_toArray, List.set_cons_zero, List.set_cons_succ]
      refine held_take (i := 9) (d := (some 111)) (v := ?_) rfl rfl (by kernel_rfl) (by kernel_rfl) (by kernel_rfl) (fun _ _ _ h => h) (Or.inl ⟨by rfl, ?_⟩) (by first | assumption | rfl | trivial) ?_
      rotate_left 1
      · (intro w hSw; (try dsimp only at hSw); (try subst hSw); go_simp; try with_reducible rfl)
      simp only [Act.put, List.setIfInBounds_toArray, List.set_cons_zero, List.set_cons_succ]
      refine held_take (i := 10) (d := (some 112)) (v := ?_) rfl rfl (by kernel_rfl) (by kernel_rfl) (by kernel_rfl) (fun _ _ _ h => h) (Or.inl ⟨by rfl, ?_⟩) (by first | assumption | rfl | trivial) ?_
      rotate_left 1
      · (intro w hSw; (try dsimp only at hSw); (try subst hSw); go_simp; try with_reducible rfl)
      simp only [Act.put, List.setIfInBounds_toArray, List.set_cons_zero, List.set_cons_succ]
      refine held_take (i := 11) (d := (some 113)) (v := ?_) rfl rfl (by kernel_rfl) (by kernel_rfl) (by kernel_rfl) (fun _ _ _ h => h) (Or.inl ⟨by rfl, ?_⟩) (by first | assumption | rfl | trivial) ?_
      rotate_left 1
      · (intro w hSw; (try dsimp only at hSw); (try subst hSw); go_simp; try with_reducible rfl)
      simp only [Act.put, List.setIfInBounds_toArray, List.set_cons_zero, List.set_cons_succ]
      refine held_take (i := 12) (d := (some 114)) (v := ?_) rfl rfl (by kernel_rfl) (by kernel_rfl) (by kernel_rfl) (fun _ _ _ h => h) (Or.inl ⟨by rfl, ?_⟩) (by first | assumption | rfl | trivial) ?_
      rotate_left 1
      · (intro w hSw; (try dsimp only at hSw); (try subst hSw); go_simp; try with_reducible rfl)
      simp only [Act.put, List.setIfInBounds_toArray, List.set_cons_zero, List.set_cons_succ]
      refine held_take (i := 13) (d := (some 8)) (v := ?_) rfl rfl (by kernel_rfl) (by kernel_rfl) (by kernel_rfl) (fun _ _ _ h => h) (Or.inl ⟨by rfl, ?_⟩) (by first | assumption | rfl | trivial) ?_
      rotate_left 1
      · (intro w hSw; (try dsimp only at hSw); (try subst hSw); go_simp; try with_reducible rfl)
      simp only [Act.put, List.setIfInBounds_toArray, List.set_cons_zero, List.set_cons_succ]
      clear hHeld S9 AD
      refine wpAnyH_done (by kernel_rfl) ?_ _
      go_wp2
      go_ret
      exact ⟨rfl, FIN.out⟩
end Go.Proofs.Ythlkmjaflomflab
