/-
  The law PostAnds, walked over what is asked of post (written by gen/posl.gen.py).
  Conditions: post's functions do what is asked.
-/
import Derived.Test.YthmcliapdnbdjaaPosL
namespace Go.Proofs.Ythmcliapdnbdjaa
open Go.RowKit
set_option maxRecDepth 20000

theorem len_one (a : List Int) (k : Int) : (mostS [a] k).length ≤ a.length := by
  have := len_most [a] k
  simpa using this
set_option maxHeartbeats 16000000 in
theorem ands_of (H : PoI) (a : Option Addr) (n cap : Nat) (xs : List Int) (b : Option Addr) (m capb : Nat) (ys : List Int) (p : Int) (w : World) (hx : SlI w a n cap xs) (hy : SlI w b m capb ys) :
    Calls Try.prog 3 #[.slice a n cap, .slice b m capb, .int .i64 p] w fun e w' => e = .returned (.bool true) ∧ Below w.heap.size w w' := by
  have AW := hide (awake_of H)
  have HX := hide hx
  have HY := hide hy
  have LX := hide hx.1.1
  have LY := hide hy.1.1
  have hn0 := hx.1.2.1
  have hm0 := hy.1.2.1
  clear hx hy
  by_cases hn1 : 200 < n
  · have tn : (200 : Int) < (n : Int) := by omega
    go_enter Try.func3, Try.ntmps3
    go_wp2_with fail
    with_reducible refine (AW.out _).mono ?_
    rintro e uz ⟨rfl, b⟩
    go_wp2
    go_ret
    exact ⟨rfl, b⟩
  have tn : ¬ (200 : Int) < (n : Int) := by omega
  by_cases hm1 : 200 < m
  · have tm : (200 : Int) < (m : Int) := by omega
    go_enter Try.func3, Try.ntmps3
    go_wp2_with fail
    with_reducible refine (AW.out _).mono ?_
    rintro e uz ⟨rfl, b⟩
    go_wp2
    go_ret
    exact ⟨rfl, b⟩
  have tm : ¬ (200 : Int) < (m : Int) := by omega
  have L0 : Hid (Below w.heap.size w w) := Below.refl _ _
  go_enter Try.func3, Try.ntmps3
  have K629 := hide (ints_any a n cap _ w HX.out (by omega))
  go_wp2_with fail
  with_reducible refine K629.out.mono ?_
  rintro e u631 ⟨ax, cx, rfl, ox, b630⟩
  clear K629
  have Xx := hide (MineI.sl ox (by omega) HX.out.wf)
  clear ox
  have L632 := hide (bel_to L0.out (Nat.le_refl _) b630)
  have F633 := hide (HX.out.below b630 (Nat.le_refl _))
  have F634 := hide (HY.out.below b630 (Nat.le_refl _))
  clear b630 L0 HX HY
  have K635 := hide (ints_any b m capb _ u631 F634.out (by omega))
  go_wp2_with fail
  with_reducible refine K635.out.mono ?_
  rintro e u637 ⟨ay, cy, rfl, oy, b636⟩
  clear K635
  have Xy := hide (MineI.sl oy (by omega) F634.out.wf)
  clear oy
  have L638 := hide (bel_to L632.out (Nat.le_refl _) b636)
  have F639 := hide (F633.out.below b636 (Nat.le_refl _))
  have F640 := hide (F634.out.below b636 (Nat.le_refl _))
  have F641 := hide (Xx.out.below b636 (Nat.le_refl _))
  clear b636 L632 F633 F634 Xx
  obtain ⟨r, hr⟩ : ∃ r, decide (upI xs) = r := ⟨_, rfl⟩
  have tq : (r != r) = false := by simp
  have K642 := hide (H.rises ax n cx _ u637 F641.out)
  rw [hr] at K642
  go_wp2_with fail
  with_reducible refine K642.out.mono ?_
  rintro e u644 ⟨rfl, b643⟩
  clear K642
  have L645 := hide (bel_to L638.out (Nat.le_refl _) b643)
  have F646 := hide (F639.out.below b643 (Nat.le_refl _))
  have F647 := hide (F640.out.below b643 (Nat.le_refl _))
  have F648 := hide (F641.out.below b643 (Nat.le_refl _))
  have F649 := hide (Xy.out.below b643 (Nat.le_refl _))
  clear b643 L638 F639 F640 F641 Xy
  have K650 := hide (rrises_any a n cap _ u644 F646.out)
  rw [hr] at K650
  go_wp2_with fail
  with_reducible refine K650.out.mono ?_
  rintro e u652 ⟨rfl, b651⟩
  clear K650
  have L653 := hide (bel_to L645.out (Nat.le_refl _) b651)
  have F654 := hide (F646.out.below b651 (Nat.le_refl _))
  have F655 := hide (F647.out.below b651 (Nat.le_refl _))
  have F656 := hide (F648.out.below b651 (Nat.le_refl _))
  have F657 := hide (F649.out.below b651 (Nat.le_refl _))
  clear b651 L645 F646 F647 F648 F649
  clear hr
  have K658 := hide (H.and' ax n cx _ ay m cy _ u652 F656.out F657.out (by omega) (by omega))
  go_wp2_with fail
  with_reducible refine K658.out.mono ?_
  rintro e u662 ⟨Fn661, rfl, t660, b659⟩
  clear K658
  have T663 := hide t660
  clear t660
  have L664 := hide (bel_to L653.out (Nat.le_refl _) b659)
  have F665 := hide (F654.out.below b659 (Nat.le_refl _))
  have F666 := hide (F655.out.below b659 (Nat.le_refl _))
  have F667 := hide (F656.out.below b659 (Nat.le_refl _))
  have F668 := hide (F657.out.below b659 (Nat.le_refl _))
  clear b659 L653 F654 F655 F656 F657
  obtain ⟨V669, hV670⟩ : ∃ V, Hid (u662.alloc (.cells #[.slice a n cap, .slice b m capb] 22) = V) := ⟨_, rfl⟩
  have R671 : Hid (RowII V669 (some ⟨u662.heap.size, 0, none⟩) 2 [xs, ys]) := by
    rw [← hV670.out]
    exact rowii_new u662 [(a, n, cap), (b, m, capb)] [xs, ys] 22 rfl (show 2 ≤ 10 by decide) (fun i hi => by
      match i, hi with
      | 0, _ => exact F665.out
      | 1, _ => exact F666.out)
  have b672 : Below u662.heap.size u662 V669 := by rw [← hV670.out]; exact (Below.refl _ _).alloc (Nat.le_refl _) _
  have L673 := hide (bel_to L664.out (Nat.le_refl _) b672)
  have F674 := hide (F665.out.below b672 (Nat.le_refl _))
  have F675 := hide (F666.out.below b672 (Nat.le_refl _))
  have F676 := hide (F667.out.below b672 (Nat.le_refl _))
  have F677 := hide (F668.out.below b672 (Nat.le_refl _))
  have F678 := hide (T663.out.below b672)
  clear b672 L664 F665 F666 F667 F668 T663
  have K679 := hide (rmost_any (some ⟨u662.heap.size, 0, none⟩) 2 2 _ 2 V669 R671.out (by decide) (by intro l hl; simp only [List.mem_cons, List.not_mem_nil, or_false] at hl; rcases hl with rfl | rfl <;> first | (rw [LX.out]; omega) | (rw [LY.out]; omega)))
  go_wp2_with fail
  rw [hV670.out]
  with_reducible refine K679.out.mono ?_
  rintro e u685 ⟨a680, n681, c682, rfl, s683, b684⟩
  clear K679 hV670
  have Q686 := hide s683
  clear s683
  have L687 := hide (bel_to L673.out (Nat.le_refl _) b684)
  have F688 := hide (F674.out.below b684 (Nat.le_refl _))
  have F689 := hide (F675.out.below b684 (Nat.le_refl _))
  have F690 := hide (F676.out.below b684 (Nat.le_refl _))
  have F691 := hide (F677.out.below b684 (Nat.le_refl _))
  have F692 := hide (F678.out.below b684)
  have F693 := hide (R671.out.below b684 (Nat.le_refl _))
  clear b684 L673 F674 F675 F676 F677 F678 R671
  clear F693
  have K694 := hide (both_any Fn661 _ a680 n681 c682 p u685 F692.out Q686.out (by rw [← Q686.out.len]; exact (show _ ≤ 100000 from by have h0 := len_two xs ys 2; have lx := LX.out; have ly := LY.out; omega)))
  go_wp2_with fail
  with_reducible refine K694.out.mono ?_
  rintro e u696 ⟨rfl, b695⟩
  clear K694
  have L697 := hide (bel_to L687.out (Nat.le_refl _) b695)
  have F698 := hide (F688.out.below b695 (Nat.le_refl _))
  have F699 := hide (F689.out.below b695 (Nat.le_refl _))
  have F700 := hide (F690.out.below b695 (Nat.le_refl _))
  have F701 := hide (F691.out.below b695 (Nat.le_refl _))
  have F702 := hide (F692.out.below b695)
  have F703 := hide (Q686.out.below b695 (Nat.le_refl _))
  clear b695 L687 F688 F689 F690 F691 F692 Q686
  clear F702 F703
  have K704 := hide (H.less ax n cx _ ay m cy _ u696 F700.out F701.out (by omega) (by omega))
  go_wp2_with fail
  with_reducible refine K704.out.mono ?_
  rintro e u708 ⟨Fn707, rfl, t706, b705⟩
  clear K704
  have T709 := hide t706
  clear t706
  have L710 := hide (bel_to L697.out (Nat.le_refl _) b705)
  have F711 := hide (F698.out.below b705 (Nat.le_refl _))
  have F712 := hide (F699.out.below b705 (Nat.le_refl _))
  have F713 := hide (F700.out.below b705 (Nat.le_refl _))
  have F714 := hide (F701.out.below b705 (Nat.le_refl _))
  clear b705 L697 F698 F699 F700 F701
  have K715 := hide (rless_any a n cap _ b m capb _ u708 F711.out F712.out (by omega))
  go_wp2_with fail
  with_reducible refine K715.out.mono ?_
  rintro e u721 ⟨a716, n717, c718, rfl, s719, b720⟩
  clear K715
  have Q722 := hide s719
  clear s719
  have L723 := hide (bel_to L710.out (Nat.le_refl _) b720)
  have F724 := hide (F711.out.below b720 (Nat.le_refl _))
  have F725 := hide (F712.out.below b720 (Nat.le_refl _))
  have F726 := hide (F713.out.below b720 (Nat.le_refl _))
  have F727 := hide (F714.out.below b720 (Nat.le_refl _))
  have F728 := hide (T709.out.below b720)
  clear b720 L710 F711 F712 F713 F714 T709
  have K729 := hide (both_any Fn707 _ a716 n717 c718 p u721 F728.out Q722.out (by rw [← Q722.out.len]; exact (show _ ≤ 100000 from by have h0 := len_less xs ys; have lx := LX.out; have ly := LY.out; omega)))
  go_wp2_with fail
  with_reducible refine K729.out.mono ?_
  rintro e u731 ⟨rfl, b730⟩
  clear K729
  have L732 := hide (bel_to L723.out (Nat.le_refl _) b730)
  have F733 := hide (F724.out.below b730 (Nat.le_refl _))
  have F734 := hide (F725.out.below b730 (Nat.le_refl _))
  have F735 := hide (F726.out.below b730 (Nat.le_refl _))
  have F736 := hide (F727.out.below b730 (Nat.le_refl _))
  have F737 := hide (F728.out.below b730)
  have F738 := hide (Q722.out.below b730 (Nat.le_refl _))
  clear b730 L723 F724 F725 F726 F727 F728 Q722
  clear F737 F738
  have K739 := hide (H.from' ax n cx _ u731 F735.out (by omega))
  go_wp2_with fail
  with_reducible refine K739.out.mono ?_
  rintro e u743 ⟨Fn742, rfl, t741, b740⟩
  clear K739
  have T744 := hide t741
  clear t741
  have L745 := hide (bel_to L732.out (Nat.le_refl _) b740)
  have F746 := hide (F733.out.below b740 (Nat.le_refl _))
  have F747 := hide (F734.out.below b740 (Nat.le_refl _))
  have F748 := hide (F735.out.below b740 (Nat.le_refl _))
  have F749 := hide (F736.out.below b740 (Nat.le_refl _))
  clear b740 L732 F733 F734 F735 F736
  obtain ⟨V750, hV751⟩ : ∃ V, Hid (u743.alloc (.cells #[.slice a n cap] 22) = V) := ⟨_, rfl⟩
  have R752 : Hid (RowII V750 (some ⟨u743.heap.size, 0, none⟩) 1 [xs]) := by
    rw [← hV751.out]
    exact rowii_new u743 [(a, n, cap)] [xs] 22 rfl (show 1 ≤ 10 by decide) (fun i hi => by
      match i, hi with
      | 0, _ => exact F746.out)
  have b753 : Below u743.heap.size u743 V750 := by rw [← hV751.out]; exact (Below.refl _ _).alloc (Nat.le_refl _) _
  have L754 := hide (bel_to L745.out (Nat.le_refl _) b753)
  have F755 := hide (F746.out.below b753 (Nat.le_refl _))
  have F756 := hide (F747.out.below b753 (Nat.le_refl _))
  have F757 := hide (F748.out.below b753 (Nat.le_refl _))
  have F758 := hide (F749.out.below b753 (Nat.le_refl _))
  have F759 := hide (T744.out.below b753)
  clear b753 L745 F746 F747 F748 F749 T744
  have K760 := hide (rmost_any (some ⟨u743.heap.size, 0, none⟩) 1 1 _ 1 V750 R752.out (by decide) (by intro l hl; simp only [List.mem_cons, List.not_mem_nil, or_false] at hl; rw [hl, LX.out]; omega))
  go_wp2_with fail
  rw [hV751.out]
  with_reducible refine K760.out.mono ?_
  rintro e u766 ⟨a761, n762, c763, rfl, s764, b765⟩
  clear K760 hV751
  have Q767 := hide s764
  clear s764
  have L768 := hide (bel_to L754.out (Nat.le_refl _) b765)
  have F769 := hide (F755.out.below b765 (Nat.le_refl _))
  have F770 := hide (F756.out.below b765 (Nat.le_refl _))
  have F771 := hide (F757.out.below b765 (Nat.le_refl _))
  have F772 := hide (F758.out.below b765 (Nat.le_refl _))
  have F773 := hide (F759.out.below b765)
  have F774 := hide (R752.out.below b765 (Nat.le_refl _))
  clear b765 L754 F755 F756 F757 F758 F759 R752
  clear F774
  have K775 := hide (both_any Fn742 _ a761 n762 c763 p u766 F773.out Q767.out (by rw [← Q767.out.len]; exact (show _ ≤ 100000 from by have h0 := len_one xs 1; have lx := LX.out; have ly := LY.out; omega)))
  go_wp2_with fail
  with_reducible refine K775.out.mono ?_
  rintro e u777 ⟨rfl, b776⟩
  clear K775
  have L778 := hide (bel_to L768.out (Nat.le_refl _) b776)
  have F779 := hide (F769.out.below b776 (Nat.le_refl _))
  have F780 := hide (F770.out.below b776 (Nat.le_refl _))
  have F781 := hide (F771.out.below b776 (Nat.le_refl _))
  have F782 := hide (F772.out.below b776 (Nat.le_refl _))
  have F783 := hide (F773.out.below b776)
  have F784 := hide (Q767.out.below b776 (Nat.le_refl _))
  clear b776 L768 F769 F770 F771 F772 F773 Q767
  clear F783 F784
  have K785 := hide (samei_any ax n cx _ a n cap _ u777 F781.out F779.out)
  rw [decide_eq_true (rfl)] at K785
  go_wp2_with fail
  with_reducible refine K785.out.mono ?_
  rintro e u787 ⟨rfl, b786⟩
  clear K785
  have L788 := hide (bel_to L778.out (Nat.le_refl _) b786)
  have F789 := hide (F779.out.below b786 (Nat.le_refl _))
  have F790 := hide (F780.out.below b786 (Nat.le_refl _))
  have F791 := hide (F781.out.below b786 (Nat.le_refl _))
  have F792 := hide (F782.out.below b786 (Nat.le_refl _))
  clear b786 L778 F779 F780 F781 F782
  have K793 := hide (samei_any ay m cy _ b m capb _ u787 F792.out F790.out)
  rw [decide_eq_true (rfl)] at K793
  go_wp2_with fail
  with_reducible refine K793.out.mono ?_
  rintro e u795 ⟨rfl, b794⟩
  clear K793
  have L796 := hide (bel_to L788.out (Nat.le_refl _) b794)
  have F797 := hide (F789.out.below b794 (Nat.le_refl _))
  have F798 := hide (F790.out.below b794 (Nat.le_refl _))
  have F799 := hide (F791.out.below b794 (Nat.le_refl _))
  have F800 := hide (F792.out.below b794 (Nat.le_refl _))
  clear b794 L788 F789 F790 F791 F792
  have K801 := hide (AW.out u795)
  go_wp2_with fail
  with_reducible refine K801.out.mono ?_
  rintro e u803 ⟨rfl, b802⟩
  clear K801
  have L804 := hide (bel_to L796.out (Nat.le_refl _) b802)
  have F805 := hide (F797.out.below b802 (Nat.le_refl _))
  have F806 := hide (F798.out.below b802 (Nat.le_refl _))
  have F807 := hide (F799.out.below b802 (Nat.le_refl _))
  have F808 := hide (F800.out.below b802 (Nat.le_refl _))
  clear b802 L796 F797 F798 F799 F800
  go_wp2
  go_ret
  exact ⟨rfl, L804.out⟩
end Go.Proofs.Ythmcliapdnbdjaa
