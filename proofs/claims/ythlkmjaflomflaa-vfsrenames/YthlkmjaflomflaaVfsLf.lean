/-
  Statement VfsRenames over the landed file system: a contract, for every world (written by gen/vfslf.gen.py).
  Conditions: the arguments are told.
-/
import Derived.Test.YthlkmjaflomflaaVfsLa
import Derived.Test.YthlkmjaflomflaaVfsLo
import Derived.Test.YthlkmjaflomflaaVfsLe
import Derived.Test.YthlkmjaflomflaaPlace
namespace Go.Proofs.Ythlkmjaflomflaa
open Go.RowKit Go.Maps
set_option maxRecDepth 20000
set_option linter.unusedVariables false

set_option maxHeartbeats 16000000 in
theorem renames_walk (a : Option Addr) (n c : Nat) (zs : List Int) (a2 : Option Addr) (n2 c2 : Nat) (zs2 : List Int) (sync : Bool) (ops : Int) (w : World) (h1 : IsRow .u8 w a n c zs) (h2 : IsRow .u8 w a2 n2 c2 zs2) (ho : (Lit.int .i64 ops).wf = true) :
    Calls Try.prog 5 #[.slice a n c, .slice a2 n2 c2, .bool sync, .int .i64 ops] w fun e w' => e = .returned (.bool true) ∧ Below w.heap.size w w' := by
  obtain ⟨hnc1, -, hc1, r1⟩ := row_of h1
  obtain ⟨hnc2, -, hc2, r2⟩ := row_of h2
  obtain ⟨data, hdata⟩ : ∃ data, zs.take n = data := ⟨_, rfl⟩
  obtain ⟨more, hmore⟩ : ∃ more, zs2.take n2 = more := ⟨_, rfl⟩
  rw [hdata] at r1
  rw [hmore] at r2
  have R1 := hide r1
  have R2 := hide r2
  clear h1 h2 r1 r2 hdata hmore
  by_cases hbig : 1000 < n ∨ 1000 < n2
  · by_cases hb1 : 1000 < n
    · have d1 : decide ((1000 : Int) < (n : Int)) = true := decide_eq_true (by omega)
      have d2 : decide (1000 < n) = true := decide_eq_true hb1
      go_enter Try.func5, Try.ntmps5
      go_wp2_with fail
      with_reducible refine (awakeV_any _).mono ?_
      rintro e u0 ⟨rfl, b0⟩
      have B0 := hide b0
      clear b0
      go_wp2_with fail
      with_reducible refine (awakeV_any _).mono ?_
      rintro e u1 ⟨rfl, b1⟩
      have B1 := hide (bel_to B0.out (Nat.le_refl _) b1)
      clear b1 B0
      go_wp2
      go_ret
      exact ⟨rfl, B1.out⟩
    · have d1 : decide ((1000 : Int) < (n : Int)) = false := decide_eq_false (by omega)
      have d2 : decide (1000 < n) = false := decide_eq_false hb1
      have hb2 : 1000 < n2 := hbig.resolve_left hb1
      have d3 : decide ((1000 : Int) < (n2 : Int)) = true := decide_eq_true (by omega)
      have d4 : decide (1000 < n2) = true := decide_eq_true hb2
      go_enter Try.func5, Try.ntmps5
      go_wp2_with fail
      with_reducible refine (awakeV_any _).mono ?_
      rintro e u0 ⟨rfl, b0⟩
      have B0 := hide b0
      clear b0
      go_wp2_with fail
      with_reducible refine (awakeV_any _).mono ?_
      rintro e u1 ⟨rfl, b1⟩
      have B1 := hide (bel_to B0.out (Nat.le_refl _) b1)
      clear b1 B0
      go_wp2
      go_ret
      exact ⟨rfl, B1.out⟩
  · have hn1 : n ≤ 1000 := by omega
    have hn2 : n2 ≤ 1000 := by omega
    have d1 : decide ((1000 : Int) < (n : Int)) = false := decide_eq_false (by omega)
    have d2 : decide (1000 < n) = false := decide_eq_false (by omega)
    have d3 : decide ((1000 : Int) < (n2 : Int)) = false := decide_eq_false (by omega)
    have d4 : decide (1000 < n2) = false := decide_eq_false (by omega)
    clear hbig
    go_enter Try.func5, Try.ntmps5
    go_wp2_with fail
    with_reducible refine (awakeV_any _).mono ?_
    rintro e u0 ⟨rfl, b0⟩
    have BW0 := hide b0
    clear b0
    obtain ⟨UN, hUN⟩ : ∃ UN, Hid (u0.alloc (.cells #[.string ⟨#[110, 101, 119]⟩, .string ⟨#[111, 108, 100]⟩] 9) = UN) := ⟨_, rfl⟩
    have bUN : Hid (Below u0.heap.size u0 UN) := by rw [← hUN.out]; exact (Below.refl _ _).alloc (Nat.le_refl _) _
    have NM0 : Hid (RowX UN (some ⟨u0.heap.size, 0, none⟩) 2 [⟨#[110, 101, 119]⟩, ⟨#[111, 108, 100]⟩]) := by rw [← hUN.out]; exact two_name u0 ⟨#[110, 101, 119]⟩ ⟨#[111, 108, 100]⟩ 9
    have BWN : Hid (Below w.heap.size w UN) := bel_to BW0.out (Nat.le_refl _) bUN.out
    have BD := hide (bytes8_any a n c data UN (R1.out.below BWN.out (Nat.le_refl _)) hc1 (by omega))
    go_wp2_with fail
    rw [hUN.out]
    clear hUN
    with_reducible refine BD.out.mono ?_
    rintro e v1 ⟨xa, xc, rfl, ox, b1⟩
    have B1 := hide (bel_to BWN.out (Nat.le_refl _) b1)
    have NM1 := hide (NM0.out.below b1 (Nat.le_refl _))
    have X1 : Hid (OwnB v1 UN.heap.size xa n xc data) := ox
    have BE := hide (bytes8_any a2 n2 c2 more v1 (R2.out.below B1.out (Nat.le_refl _)) hc2 (by omega))
    clear ox b1 BD NM0 BWN
    go_wp2_with fail
    with_reducible refine BE.out.mono ?_
    rintro e v2 ⟨xb, xd, rfl, oy, b2⟩
    have B2 : Hid (Below w.heap.size w (v2.alloc (.cells #[.slice xa n xc, .slice xb n2 xd] 22))) := bel_al (bel_to B1.out (Nat.le_refl _) b2) (Nat.le_refl _) _
    have NM2 : Hid (RowX (v2.alloc (.cells #[.slice xa n xc, .slice xb n2 xd] 22)) (some ⟨u0.heap.size, 0, none⟩) 2 [⟨#[110, 101, 119]⟩, ⟨#[111, 108, 100]⟩]) := (NM1.out.below b2 (Nat.le_refl _)).below ((Below.refl _ _).alloc (Nat.le_refl _) _) (Nat.le_refl _)
    have DB := hide (two_data v2 (xa, n, xc) (xb, n2, xd) data more 22 (ownB_row (OwnG.below X1.out b2 (Nat.le_refl _)) (by show n ≤ _; omega) R1.out.bytes) (OwnG.capped X1.out).1 (fun e => ((OwnG.capped X1.out).2 e).2) (ownB_row oy (by show n2 ≤ _; omega) R2.out.bytes) (OwnG.capped oy).1 (fun e => ((OwnG.capped oy).2 e).2))
    have LD := hide (llaid_any (some ⟨u0.heap.size, 0, none⟩) 2 2 [⟨#[110, 101, 119]⟩, ⟨#[111, 108, 100]⟩] (some ⟨v2.heap.size, 0, none⟩) 2 2 [(xa, n, xc), (xb, n2, xd)] [data, more] _ NM2.out (fun s hs => by
      rcases List.mem_cons.1 hs with rfl | hs
      · decide
      · obtain rfl := List.mem_singleton.1 hs; decide) DB.out (by omega) (by omega))
    rw [twoL_laid (by have := R1.out.1; omega) (by have := R2.out.1; omega)] at LD
    clear oy b2 BE NM1 NM2 DB BW0 B1 X1
    go_wp2_with fail
    with_reducible refine LD.out.mono ?_
    rintro e u1 ⟨-, g, rfl, hm⟩
    have H1 := hide (onL_from' B2.out hm)
    clear hm LD B2
    have hdl := R1.out.1
    have hml := R2.out.1
    have L1 := hide (twoL_lim (data := data) (old := more) (m := 1000) (by omega) (by omega) (by omega))
    have RN := hide (on_rename H1.out L1.out (by omega) ⟨#[110, 101, 119]⟩ ⟨#[111, 108, 100]⟩ (by decide) (by decide))
    rw [rn_rename] at RN
    have L2 : Hid (LimB 1002 (rn1 data more)) := by have := L1.out.rename ⟨#[110, 101, 119]⟩ ⟨#[111, 108, 100]⟩; rw [rn_rename] at this; exact this
    clear H1
    go_wp2_with fail
    with_reducible refine RN.out.mono ?_
    rintro e u2 ⟨rfl, h2⟩
    have H2 := hide h2
    clear h2 RN

    cases sync with
    | true =>
      have SD := hide (on_syncdir H2.out L2.out (by omega))
      rw [rn_sync] at SD
      have L3 : Hid (LimB 1003 (rn2 data more)) := by have := L2.out.syncdir; rw [rn_sync] at this; exact this
      clear H2
      go_wp2_with fail
      with_reducible refine SD.out.mono ?_
      rintro e u3 ⟨rfl, h3⟩
      have H3 := hide h3
      clear h3 SD
      have RO := hide (on_read H3.out L3.out (by omega) ⟨#[111, 108, 100]⟩ (by decide))
      rw [rn2_old] at RO
      go_wp2_with fail
      with_reducible refine RO.out.mono ?_
      rintro e u4 ⟨b4, ar, ac, rfl, o4⟩
      have H4 := hide (H3.out.below b4)
      have RW := hide (on_read H4.out L3.out (by omega) ⟨#[110, 101, 119]⟩ (by decide))
      rw [rn2_new] at RW
      have O4 : Hid (OwnB u4 u3.heap.size ar data.length ac data) := o4
      clear o4 b4 RO H3
      go_wp2_with fail
      with_reducible refine RW.out.mono ?_
      rintro e u5 ⟨b5, rfl⟩
      have H5 := hide (H4.out.below b5)
      have S4 := string8 (ownB_row (OwnG.below O4.out b5 (Nat.le_refl _)) (by omega) R1.out.bytes) (cap := ac)
      have S1 := string8 (R1.out.below H5.out.bel (Nat.le_refl _)) (cap := c)
      rw [hdl] at S4
      have CS := hide (on_crash H5.out L3.out (by omega) ops ho none 0 0 [] ⟨rfl, by decide, fun z hz => by simp at hz, Or.inl rfl⟩ (by omega))
      clear b5 RW H4 O4
      generalize hsm : strOfNums data = sm at S4 S1
      go_wp2_with fail
      with_reducible refine CS.out.mono ?_
      rintro e u6 ⟨g6, rfl, b6, h6⟩
      subst hsm
      clear S4 S1
      have H6 := hide h6
      have R6 := hide (on_read h6 (L3.out.crash ops []) (by omega) ⟨#[111, 108, 100]⟩ (by decide))
      rw [(rn2_crash data more ops).1] at R6
      clear h6 b6 CS H5
      go_wp2_with fail
      with_reducible refine R6.out.mono ?_
      rintro e u7 ⟨b7, ar7, ac7, rfl, o7⟩
      have H7 := hide (H6.out.below b7)
      have S7 := string8 (ownB_row o7 (by omega) R1.out.bytes) (cap := ac7)
      have SW := string8 (R1.out.below H7.out.bel (Nat.le_refl _)) (cap := c)
      have LI := hide (on_list H7.out (L3.out.crash ops []) (by omega))
      rw [(rn2_crash data more ops).2] at LI
      rw [hdl] at S7 ⊢
      generalize strOfNums data = sm at S7 SW
      clear o7 b7 R6 H6
      go_wp2_with fail
      with_reducible refine LI.out.mono ?_
      rintro e u8 ⟨aL, cL, rfl, oL, bL⟩
      have FIN := hide (bel_to H7.out.bel (by have := H7.out.bel.size; omega) bL)
      clear oL bL LI H7 S7 SW
      go_wp2
      go_ret
      exact ⟨rfl, FIN.out⟩
    | false =>
      by_cases hop : 1 ≤ ops
      · have d5 : decide (1 ≤ ops) = true := decide_eq_true hop
        have RO := hide (on_read H2.out L2.out (by omega) ⟨#[111, 108, 100]⟩ (by decide))
        rw [rn1_old] at RO
        go_wp2_with fail
        with_reducible refine RO.out.mono ?_
        rintro e u4 ⟨b4, ar, ac, rfl, o4⟩
        have H4 := hide (H2.out.below b4)
        have RW := hide (on_read H4.out L2.out (by omega) ⟨#[110, 101, 119]⟩ (by decide))
        rw [rn1_new] at RW
        have O4 : Hid (OwnB u4 u2.heap.size ar data.length ac data) := o4
        clear o4 b4 RO H2
        go_wp2_with fail
        with_reducible refine RW.out.mono ?_
        rintro e u5 ⟨b5, rfl⟩
        have H5 := hide (H4.out.below b5)
        have S4 := string8 (ownB_row (OwnG.below O4.out b5 (Nat.le_refl _)) (by omega) R1.out.bytes) (cap := ac)
        have S1 := string8 (R1.out.below H5.out.bel (Nat.le_refl _)) (cap := c)
        rw [hdl] at S4
        have CS := hide (on_crash H5.out L2.out (by omega) ops ho none 0 0 [] ⟨rfl, by decide, fun z hz => by simp at hz, Or.inl rfl⟩ (by omega))
        clear b5 RW H4 O4
        generalize hsm : strOfNums data = sm at S4 S1
        go_wp2_with fail
        with_reducible refine CS.out.mono ?_
        rintro e u6 ⟨g6, rfl, b6, h6⟩
        subst hsm
        clear S4 S1
        have H6 := hide h6
        have R6 := hide (on_read h6 (L2.out.crash ops []) (by omega) ⟨#[111, 108, 100]⟩ (by decide))
        rw [(rn1_crash data more hop).1] at R6
        clear h6 b6 CS H5
        go_wp2_with fail
        with_reducible refine R6.out.mono ?_
        rintro e u7 ⟨b7, ar7, ac7, rfl, o7⟩
        have H7 := hide (H6.out.below b7)
        have S7 := string8 (ownB_row o7 (by omega) R1.out.bytes) (cap := ac7)
        have SW := string8 (R1.out.below H7.out.bel (Nat.le_refl _)) (cap := c)
        have LI := hide (on_list H7.out (L2.out.crash ops []) (by omega))
        rw [(rn1_crash data more hop).2] at LI
        rw [hdl] at S7 ⊢
        generalize strOfNums data = sm at S7 SW
        clear o7 b7 R6 H6
        go_wp2_with fail
        with_reducible refine LI.out.mono ?_
        rintro e u8 ⟨aL, cL, rfl, oL, bL⟩
        have FIN := hide (bel_to H7.out.bel (by have := H7.out.bel.size; omega) bL)
        clear oL bL LI H7 S7 SW
        go_wp2
        go_ret
        exact ⟨rfl, FIN.out⟩
      · have d5 : decide (1 ≤ ops) = false := decide_eq_false hop
        have RO := hide (on_read H2.out L2.out (by omega) ⟨#[111, 108, 100]⟩ (by decide))
        rw [rn1_old] at RO
        go_wp2_with fail
        with_reducible refine RO.out.mono ?_
        rintro e u4 ⟨b4, ar, ac, rfl, o4⟩
        have H4 := hide (H2.out.below b4)
        have RW := hide (on_read H4.out L2.out (by omega) ⟨#[110, 101, 119]⟩ (by decide))
        rw [rn1_new] at RW
        have O4 : Hid (OwnB u4 u2.heap.size ar data.length ac data) := o4
        clear o4 b4 RO H2
        go_wp2_with fail
        with_reducible refine RW.out.mono ?_
        rintro e u5 ⟨b5, rfl⟩
        have H5 := hide (H4.out.below b5)
        have S4 := string8 (ownB_row (OwnG.below O4.out b5 (Nat.le_refl _)) (by omega) R1.out.bytes) (cap := ac)
        have S1 := string8 (R1.out.below H5.out.bel (Nat.le_refl _)) (cap := c)
        rw [hdl] at S4
        have CS := hide (on_crash H5.out L2.out (by omega) ops ho none 0 0 [] ⟨rfl, by decide, fun z hz => by simp at hz, Or.inl rfl⟩ (by omega))
        clear b5 RW H4 O4
        generalize hsm : strOfNums data = sm at S4 S1
        go_wp2_with fail
        with_reducible refine CS.out.mono ?_
        rintro e u6 ⟨g6, rfl, b6, h6⟩
        subst hsm
        clear S4 S1
        have H6 := hide h6
        have R6 := hide (on_read h6 (L2.out.crash ops []) (by omega) ⟨#[111, 108, 100]⟩ (by decide))
        rw [(rn1_back data more (ops := ops) (by omega)).1] at R6
        clear h6 b6 CS H5
        go_wp2_with fail
        with_reducible refine R6.out.mono ?_
        rintro e u7 ⟨b7, ar7, ac7, rfl, o7⟩
        have H7 := hide (H6.out.below b7)
        have S7 := string8 (ownB_row o7 (by omega) R2.out.bytes) (cap := ac7)
        have SW := string8 (R2.out.below H7.out.bel (Nat.le_refl _)) (cap := c2)
        have LI := hide (on_list H7.out (L2.out.crash ops []) (by omega))
        rw [(rn1_back data more (ops := ops) (by omega)).2] at LI
        rw [hml] at S7 ⊢
        generalize strOfNums more = sm at S7 SW
        clear o7 b7 R6 H6
        go_wp2_with fail
        with_reducible refine LI.out.mono ?_
        rintro e u8 ⟨aL, cL, rfl, oL, bL⟩
        have FIN := hide (bel_to H7.out.bel (by have := H7.out.bel.size; omega) bL)
        clear oL bL LI H7 S7 SW
        go_wp2
        go_ret
        exact ⟨rfl, FIN.out⟩
end Go.Proofs.Ythlkmjaflomflaa
