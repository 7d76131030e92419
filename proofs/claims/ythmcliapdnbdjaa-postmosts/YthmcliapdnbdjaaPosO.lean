/-
  The laws PostMosts, PostNests, walked over what is asked of post (written by gen/posl.gen.py).
  Conditions: post's functions do what is asked.
-/
import Derived.Test.YthmcliapdnbdjaaPosN
import Derived.Test.YthmcliapdnbdjaaPosP
namespace Go.Proofs.Ythmcliapdnbdjaa
open Go.RowKit
set_option maxRecDepth 20000

theorem len_flat {ls : List (List Int)} (h : ∀ l ∈ ls, l.length ≤ 100) : ls.flatten.length ≤ 100 * ls.length := by
  induction ls with
  | nil => simp
  | cons x t ih =>
    have e1 := h x (by simp)
    have e2 := ih (fun l hl => h l (by simp [hl]))
    rw [List.flatten_cons, List.length_append, List.length_cons]
    omega
theorem lists_good {a : Option Addr} {n cap : Nat} {ls : List (List Int)} {w : World} (hs : RowII w a n ls) (hg : n ≤ 10 ∧ ∀ l ∈ ls, l.length ≤ 100) :
    Calls Try.prog 20 #[.slice a n cap] w fun e w' => ∃ a' c', e = .returned (.tuple #[.slice a' n c', .bool true]) ∧ RowII w' a' n ls ∧ n ≤ c' ∧ (a' = none → c' = 0) ∧ Below w.heap.size w w' :=
  (listsL_any a n cap ls w hs).mono fun e w' h => by
    obtain ⟨b, ⟨-, a', c', h1, h2, h3, h4⟩ | ⟨h1, -⟩⟩ := h
    · exact ⟨a', c', h1, h2, h3, h4, b⟩
    · exact absurd hg h1
theorem lists_bad {a : Option Addr} {n cap : Nat} {ls : List (List Int)} {w : World} (hs : RowII w a n ls) (hg : ¬ (n ≤ 10 ∧ ∀ l ∈ ls, l.length ≤ 100)) :
    Calls Try.prog 20 #[.slice a n cap] w fun e w' => e = .returned (.tuple #[.slice none 0 0, .bool false]) ∧ Below w.heap.size w w' :=
  (listsL_any a n cap ls w hs).mono fun e w' h => by
    obtain ⟨b, ⟨h1, -⟩ | ⟨-, h2⟩⟩ := h
    · exact absurd h1 hg
    · exact ⟨h2, b⟩

set_option maxHeartbeats 16000000 in
theorem mosts_of (H : PoI) (a : Option Addr) (n cap : Nat) (ls : List (List Int)) (k p : Int) (w : World) (hs : RowII w a n ls) (hk : (Lit.int .i64 k).wf = true) :
    Calls Try.prog 4 #[.slice a n cap, .int .i64 k, .int .i64 p] w fun e w' => e = .returned (.bool true) ∧ Below w.heap.size w w' := by
  have AW := hide (awake_of H)
  have HS := hide hs
  have HK := hide hk
  have HL := hide hs.1
  clear hs hk
  by_cases hg : n ≤ 10 ∧ ∀ l ∈ ls, l.length ≤ 100
  · have HG := hide hg
    have hn10 := hg.1
    have HF : Hid (∀ kk, (mostS ls kk).length ≤ 1000) := fun kk => by
      have h1 := len_most ls kk
      have h2 := len_flat hg.2
      have h3 := HL.out
      omega
    have H200 : Hid (∀ l ∈ ls, l.length ≤ 200) := fun l hl => by have := hg.2 l hl; omega
    have H2000 : Hid (∀ l ∈ ls, l.length ≤ 2000) := fun l hl => by have := hg.2 l hl; omega
    clear hg
    have L0 : Hid (Below w.heap.size w w) := Below.refl _ _
    go_enter Try.func4, Try.ntmps4
    have K809 := hide (lists_good (cap := cap) HS.out HG.out)
    go_wp2_with fail
    with_reducible refine K809.out.mono ?_
    rintro e u811 ⟨ax, cx, rfl, rx, hx1, hx2, b810⟩
    clear K809
    have Xx := hide rx
    have Nx := hide hx2
    clear rx hx2
    have L812 := hide (bel_to L0.out (Nat.le_refl _) b810)
    have F813 := hide (HS.out.below b810 (Nat.le_refl _))
    clear b810 L0 HS
    have K814 := hide (lists_good (cap := cap) F813.out HG.out)
    go_wp2_with fail
    with_reducible refine K814.out.mono ?_
    rintro e u816 ⟨ay, cy, rfl, ry, hy1, hy2, b815⟩
    clear K814
    have Xy := hide ry
    have Ny := hide hy2
    clear ry hy2
    have L817 := hide (bel_to L812.out (Nat.le_refl _) b815)
    have F818 := hide (F813.out.below b815 (Nat.le_refl _))
    have F819 := hide (Xx.out.below b815 (Nat.le_refl _))
    clear b815 L812 F813 Xx
    have K820 := hide (H.most ax n cx ls k u816 F819.out hx1 Nx.out hn10 H2000.out HK.out)
    go_wp2_with fail
    with_reducible refine K820.out.mono ?_
    rintro e u824 ⟨Fn823, rfl, t822, b821⟩
    clear K820
    have T825 := hide t822
    clear t822
    have L826 := hide (bel_to L817.out (Nat.le_refl _) b821)
    have F827 := hide (F818.out.below b821 (Nat.le_refl _))
    have F828 := hide (F819.out.below b821 (Nat.le_refl _))
    have F829 := hide (Xy.out.below b821 (Nat.le_refl _))
    clear b821 L817 F818 F819 Xy
    have K830 := hide (rmost_any a n cap ls k u824 F827.out hn10 H200.out)
    go_wp2_with fail
    with_reducible refine K830.out.mono ?_
    rintro e u836 ⟨a831, n832, c833, rfl, s834, b835⟩
    clear K830
    have Q837 := hide s834
    clear s834
    have L838 := hide (bel_to L826.out (Nat.le_refl _) b835)
    have F839 := hide (F827.out.below b835 (Nat.le_refl _))
    have F840 := hide (F828.out.below b835 (Nat.le_refl _))
    have F841 := hide (F829.out.below b835 (Nat.le_refl _))
    have F842 := hide (T825.out.below b835)
    clear b835 L826 F827 F828 F829 T825
    have K843 := hide (both_any Fn823 _ a831 n832 c833 p u836 F842.out Q837.out (by rw [← Q837.out.len]; exact (show _ ≤ 100000 from by have := HF.out k; omega)))
    go_wp2_with fail
    with_reducible refine K843.out.mono ?_
    rintro e u845 ⟨rfl, b844⟩
    clear K843
    have L846 := hide (bel_to L838.out (Nat.le_refl _) b844)
    have F847 := hide (F839.out.below b844 (Nat.le_refl _))
    have F848 := hide (F840.out.below b844 (Nat.le_refl _))
    have F849 := hide (F841.out.below b844 (Nat.le_refl _))
    have F850 := hide (F842.out.below b844)
    have F851 := hide (Q837.out.below b844 (Nat.le_refl _))
    clear b844 L838 F839 F840 F841 F842 Q837
    clear F850 F851
    have K852 := hide (H.or' ay n cy ls u845 F849.out hy1 Ny.out hn10 H2000.out)
    go_wp2_with fail
    with_reducible refine K852.out.mono ?_
    rintro e u856 ⟨Fn855, rfl, t854, b853⟩
    clear K852
    have T857 := hide t854
    clear t854
    have L858 := hide (bel_to L846.out (Nat.le_refl _) b853)
    have F859 := hide (F847.out.below b853 (Nat.le_refl _))
    have F860 := hide (F848.out.below b853 (Nat.le_refl _))
    have F861 := hide (F849.out.below b853 (Nat.le_refl _))
    clear b853 L846 F847 F848 F849
    have K862 := hide (rmost_any a n cap ls 1 u856 F859.out hn10 H200.out)
    go_wp2_with fail
    with_reducible refine K862.out.mono ?_
    rintro e u868 ⟨a863, n864, c865, rfl, s866, b867⟩
    clear K862
    have Q869 := hide s866
    clear s866
    have L870 := hide (bel_to L858.out (Nat.le_refl _) b867)
    have F871 := hide (F859.out.below b867 (Nat.le_refl _))
    have F872 := hide (F860.out.below b867 (Nat.le_refl _))
    have F873 := hide (F861.out.below b867 (Nat.le_refl _))
    have F874 := hide (T857.out.below b867)
    clear b867 L858 F859 F860 F861 T857
    have K875 := hide (both_any Fn855 _ a863 n864 c865 p u868 F874.out Q869.out (by rw [← Q869.out.len]; exact (show _ ≤ 100000 from by have := HF.out 1; omega)))
    go_wp2_with fail
    with_reducible refine K875.out.mono ?_
    rintro e u877 ⟨rfl, b876⟩
    clear K875
    have L878 := hide (bel_to L870.out (Nat.le_refl _) b876)
    have F879 := hide (F871.out.below b876 (Nat.le_refl _))
    have F880 := hide (F872.out.below b876 (Nat.le_refl _))
    have F881 := hide (F873.out.below b876 (Nat.le_refl _))
    have F882 := hide (F874.out.below b876)
    have F883 := hide (Q869.out.below b876 (Nat.le_refl _))
    clear b876 L870 F871 F872 F873 F874 Q869
    clear F882 F883
    have K884 := hide (AW.out u877)
    go_wp2_with fail
    with_reducible refine K884.out.mono ?_
    rintro e u886 ⟨rfl, b885⟩
    clear K884
    have L887 := hide (bel_to L878.out (Nat.le_refl _) b885)
    have F888 := hide (F879.out.below b885 (Nat.le_refl _))
    have F889 := hide (F880.out.below b885 (Nat.le_refl _))
    have F890 := hide (F881.out.below b885 (Nat.le_refl _))
    clear b885 L878 F879 F880 F881
    go_wp2
    go_ret
    exact ⟨rfl, L887.out⟩
  · have HG := hide hg
    clear hg
    go_enter Try.func4, Try.ntmps4
    have K1 := hide (lists_bad (cap := cap) HS.out HG.out)
    go_wp2_with fail
    with_reducible refine K1.out.mono ?_
    rintro e u1 ⟨rfl, b1⟩
    have L1 := hide b1
    clear b1 K1
    have K2 := hide (lists_bad (cap := cap) (HS.out.below L1.out (Nat.le_refl _)) HG.out)
    go_wp2_with fail
    with_reducible refine K2.out.mono ?_
    rintro e u2 ⟨rfl, b2⟩
    have L2 := hide (bel_to L1.out (Nat.le_refl _) b2)
    clear b2 K2 L1
    go_wp2_with fail
    with_reducible refine (AW.out _).mono ?_
    rintro e uz ⟨rfl, b⟩
    have LZ := hide (bel_to L2.out (Nat.le_refl _) b)
    clear b
    go_wp2
    go_ret
    exact ⟨rfl, LZ.out⟩

set_option maxHeartbeats 16000000 in
theorem nests_of (H : PoI) (a : Option Addr) (n cap : Nat) (ls : List (List Int)) (k : Int) (w : World) (hs : RowII w a n ls) :
    Calls Try.prog 7 #[.slice a n cap, .int .i64 k] w fun e w' => e = .returned (.bool true) ∧ Below w.heap.size w w' := by
  have AW := hide (awake_of H)
  have HS := hide hs
  have HL := hide hs.1
  clear hs
  by_cases hg : n ≤ 10 ∧ ∀ l ∈ ls, l.length ≤ 100
  case neg =>
    go_enter Try.func7, Try.ntmps7
    have K1 := hide (lists_bad (cap := cap) HS.out hg)
    clear hg
    go_wp2_with fail
    with_reducible refine K1.out.mono ?_
    rintro e u1 ⟨rfl, b1⟩
    have L1 := hide b1
    clear b1 K1
    go_wp2_with fail
    with_reducible refine (AW.out _).mono ?_
    rintro e uz ⟨rfl, b⟩
    have LZ := hide (bel_to L1.out (Nat.le_refl _) b)
    clear b
    go_wp2
    go_ret
    exact ⟨rfl, LZ.out⟩
  have HG := hide hg
  have hn10 := hg.1
  have HF : Hid (∀ kk, (mostS ls kk).length ≤ 1000) := fun kk => by
    have h1 := len_most ls kk
    have h2 := len_flat hg.2
    have h3 := HL.out
    omega
  have H2000 : Hid (∀ l ∈ ls, l.length ≤ 2000) := fun l hl => by have := hg.2 l hl; omega
  have H100 := hide hg.2
  clear hg
  go_enter Try.func7, Try.ntmps7
  have K1 := hide (lists_good (cap := cap) HS.out HG.out)
  go_wp2_with fail
  with_reducible refine K1.out.mono ?_
  rintro e v1 ⟨ax, cx, rfl, rx, hx1, hx2, b1⟩
  have X := hide rx
  have NX := hide hx2
  have L1 := hide b1
  clear rx hx2 b1 K1 HS
  by_cases h0 : n = 0
  · have t0 : ((n : Int) == 0) = true := by simp [h0]
    clear h0
    go_wp2_with fail
    with_reducible refine (AW.out _).mono ?_
    rintro e uz ⟨rfl, b⟩
    have LZ := hide (bel_to L1.out (Nat.le_refl _) b)
    clear b
    go_wp2
    go_ret
    exact ⟨rfl, LZ.out⟩
  · have t0 : ((n : Int) == 0) = false := by simp [h0]
    have hn1 : 1 ≤ n := by omega
    clear h0
    go_upto_block 0 with fail
    go_cut [7] (fun i wx => Hid (∀ l ∈ ls, upI l) ∧ Hid (Below v1.heap.size v1 wx))
    case first =>
      go_wp2
      go_loopw [7] (fun i wr => ∃ j : Nat, j ≤ n ∧ i = .int .i64 j ∧ Hid (∀ l ∈ ls.take j, upI l) ∧ Hid (Below v1.heap.size v1 wr)) (fun i _ => n - (intOf i).toNat)
      case atStart =>
        refine ⟨0, by omega, rfl, ?_, Below.refl _ _⟩
        show ∀ l ∈ _, _
        intro l hl
        simp at hl
      case round =>
        obtain ⟨j, hj, rfl, HU, BV⟩ := hrel
        obtain ⟨u, rfl⟩ : ∃ u, u = wr := ⟨wr, rfl⟩
        by_cases hlt : j < n
        · obtain ⟨b, off, a1, n1, c1, e, g0, q1⟩ := (X.out.below BV.out (Nat.le_refl _)).at' hlt
          subst e
          have i1 : (0 : Int) ≤ (j : Int) := by omega
          have i2 : (j : Int) < (n : Int) := by omega
          have RR := hide (rrises_any a1 n1 c1 _ u q1)
          have TG := hide (takeL_get (ls := ls) (k := j) (by rw [HL.out]; exact hlt))
          clear q1
          by_cases hup : upI (ls.getD j [])
          · rw [decide_eq_true hup] at RR
            have HU1 : Hid (∀ l ∈ ls.take (j + 1), upI l) := by
              show ∀ l ∈ _, _
              rw [TG.out]
              intro l hl
              rcases List.mem_append.1 hl with h | h
              · exact HU.out l h
              · rw [List.mem_singleton] at h
                rw [h]
                exact hup
            clear hup
            go_wp2_with fail
            with_reducible refine RR.out.mono ?_
            rintro e u1 ⟨rfl, b1⟩
            have B1 := hide (bel_to BV.out (Nat.le_refl _) b1)
            clear b1 RR g0
            go_wp2
            go_roundw
            case rel => exact ⟨j + 1, by omega, by go_num, HU1, B1⟩
            case measure => simp [intOf]; omega
          · rw [decide_eq_false hup] at RR
            clear hup
            go_wp2_with fail
            with_reducible refine RR.out.mono ?_
            rintro e u1 ⟨rfl, b1⟩
            have B1 := hide (bel_to L1.out (Nat.le_refl _) (bel_to BV.out (Nat.le_refl _) b1))
            clear b1 RR g0
            go_wp2_with fail
            with_reducible refine (AW.out _).mono ?_
            rintro e uz ⟨rfl, b⟩
            have LZ := hide (bel_to B1.out (Nat.le_refl _) b)
            clear b
            go_wp2
            go_ret
            exact ⟨rfl, LZ.out⟩
        · have i2 : ¬ (j : Int) < (n : Int) := by omega
          rw [List.take_of_length_le (by rw [HL.out]; omega)] at HU
          go_wp2
          go_meet
          case rel => exact ⟨HU, BV⟩
    case rest =>
      obtain ⟨HU, BV⟩ := hcut
      obtain ⟨v2, rfl⟩ : ∃ v, v = wc := ⟨wc, rfl⟩
      have X2 := hide (X.out.below BV.out (Nat.le_refl _))
      have L2 := hide (bel_to L1.out (Nat.le_refl _) BV.out)
      clear X L1 BV
      have PL := hide (place_any k (n : Int) (by omega) (by omega) v2)
      obtain ⟨K, hK, hK0, hK1⟩ : ∃ K : Nat, k % (n : Int) = (K : Int) ∧ 0 ≤ K ∧ K < n := ⟨(k % (n : Int)).toNat, by have := Int.emod_nonneg k (show (n : Int) ≠ 0 by omega); omega, by omega, by have h1 := Int.emod_nonneg k (show (n : Int) ≠ 0 by omega); have h2 := Int.emod_lt_of_pos k (show (0 : Int) < n by omega); omega⟩
      rw [hK] at PL
      clear hK hK0
      go_wp2_with fail
      with_reducible refine PL.out.mono ?_
      rintro e w' ⟨rfl, hw⟩
      rw [hw]
      clear hw PL
      go_upto_region 10 with fail
      have K891 := hide (H.most ax n cx ls (1 + (K : Int)) v2 X2.out hx1 NX.out hn10 H2000.out (wfI (by omega) (by omega)))
      go_wp2_with fail
      with_reducible refine K891.out.mono ?_
      rintro e u895 ⟨Fn894, rfl, t893, b892⟩
      clear K891
      have T896 := hide t893
      clear t893
      have L897 := hide (bel_to L2.out (Nat.le_refl _) b892)
      have F898 := hide (X2.out.below b892 (Nat.le_refl _))
      clear b892 L2 X2
      have K899 := hide (T896.out.lst u895 (Below.refl _ _) 10000 (by decide))
      rw [List.take_of_length_le (show (mostS ls (1 + (K : Int))).length ≤ (10000 : Int).toNat from by have := HF.out (1 + (K : Int)); omega)] at K899
      go_wp2_with fail
      with_reducible refine K899.out.mono ?_
      rintro e u905 ⟨a900, n901, c902, rfl, s903, b904⟩
      clear K899
      have Q906 := hide s903
      have hbn901 : n901 ≤ 1000 := by rw [← s903.len]; exact (show (mostS ls (1 + (K : Int))).length ≤ 1000 from by have := HF.out (1 + (K : Int)); omega)
      clear s903
      clear T896
      have L907 := hide (bel_to L897.out (Nat.le_refl _) b904)
      have F908 := hide (F898.out.below b904 (Nat.le_refl _))
      clear b904 L897 F898
      have K909 := hide (H.most ax n cx ls (1 + (K : Int) - 1) u905 F908.out hx1 NX.out hn10 H2000.out (wfI (by omega) (by omega)))
      go_wp2_with fail
      with_reducible refine K909.out.mono ?_
      rintro e u913 ⟨Fn912, rfl, t911, b910⟩
      clear K909
      have T914 := hide t911
      clear t911
      have L915 := hide (bel_to L907.out (Nat.le_refl _) b910)
      have F916 := hide (F908.out.below b910 (Nat.le_refl _))
      have F917 := hide (Q906.out.below b910 (Nat.le_refl _))
      clear b910 L907 F908 Q906
      have K918 := hide (T914.out.lst u913 (Below.refl _ _) 10000 (by decide))
      rw [List.take_of_length_le (show (mostS ls (1 + (K : Int) - 1)).length ≤ (10000 : Int).toNat from by have := HF.out (1 + (K : Int) - 1); omega)] at K918
      go_wp2_with fail
      with_reducible refine K918.out.mono ?_
      rintro e u924 ⟨a919, n920, c921, rfl, s922, b923⟩
      clear K918
      have Q925 := hide s922
      have hbn920 : n920 ≤ 1000 := by rw [← s922.len]; exact (show (mostS ls (1 + (K : Int) - 1)).length ≤ 1000 from by have := HF.out (1 + (K : Int) - 1); omega)
      clear s922
      clear T914
      have L926 := hide (bel_to L915.out (Nat.le_refl _) b923)
      have F927 := hide (F916.out.below b923 (Nat.le_refl _))
      have F928 := hide (F917.out.below b923 (Nat.le_refl _))
      clear b923 L915 F916 F917
      by_cases hK2 : K = 0
      · subst hK2
        have tk : ¬ (1 : Int) < 1 + ((0 : Nat) : Int) := by omega
        have K929 := hide (H.most ax n cx ls (n : Int) u924 F927.out hx1 NX.out hn10 H2000.out (wfI (by omega) (by omega)))
        go_wp2_with fail
        with_reducible refine K929.out.mono ?_
        rintro e u933 ⟨Fn932, rfl, t931, b930⟩
        clear K929
        have T934 := hide t931
        clear t931
        have L935 := hide (bel_to L926.out (Nat.le_refl _) b930)
        have F936 := hide (F927.out.below b930 (Nat.le_refl _))
        have F937 := hide (F928.out.below b930 (Nat.le_refl _))
        have F938 := hide (Q925.out.below b930 (Nat.le_refl _))
        clear b930 L926 F927 F928 Q925
        have K939 := hide (T934.out.lst u933 (Below.refl _ _) 10000 (by decide))
        rw [List.take_of_length_le (show (mostS ls (n : Int)).length ≤ (10000 : Int).toNat from by have := HF.out (n : Int); omega)] at K939
        go_wp2_with fail
        with_reducible refine K939.out.mono ?_
        rintro e u945 ⟨a940, n941, c942, rfl, s943, b944⟩
        clear K939
        have Q946 := hide s943
        have hbn941 : n941 ≤ 1000 := by rw [← s943.len]; exact (show (mostS ls (n : Int)).length ≤ 1000 from by have := HF.out (n : Int); omega)
        clear s943
        clear T934
        have L947 := hide (bel_to L935.out (Nat.le_refl _) b944)
        have F948 := hide (F936.out.below b944 (Nat.le_refl _))
        have F949 := hide (F937.out.below b944 (Nat.le_refl _))
        have F950 := hide (F938.out.below b944 (Nat.le_refl _))
        clear b944 L935 F936 F937 F938
        go_wp2
        go_loopw [12] (fun i wr => ∃ j : Nat, j ≤ n ∧ i = .int .i64 j ∧ Hid (Below u945.heap.size u945 wr)) (fun i _ => n - (intOf i).toNat)
        case atStart => exact ⟨0, by omega, rfl, Below.refl _ _⟩
        case round =>
          obtain ⟨j, hj, rfl, BJ⟩ := hrel
          obtain ⟨uj, rfl⟩ : ∃ u, u = wr := ⟨wr, rfl⟩
          by_cases hlt : j < n
          · obtain ⟨b, off, a1, n1, c1, e, g0, q1⟩ := (F948.out.below BJ.out (Nat.le_refl _)).at' hlt
            subst e
            have i1 : (0 : Int) ≤ (j : Int) := by omega
            have i2 : (j : Int) < (n : Int) := by omega
            have hmem : ls.getD j [] ∈ ls := getL_mem (by rw [HL.out]; exact hlt)
            have hn1 : n1 ≤ 100 := by rw [← q1.len]; exact H100.out _ hmem
            have ME : Hid (lessS (mostS ls (n : Int)) (ls.getD j []) = []) := by
              have := most_all hmem
              rw [HL.out] at this
              exact this
            have C8 := hide (Q946.out.below BJ.out (Nat.le_refl _))
            have K8 := hide (H.less a940 n941 c942 _ a1 n1 c1 _ uj C8.out q1 (by omega) (by omega))
            rw [ME.out] at K8
            clear q1 hmem ME C8
            go_wp2_with fail
            with_reducible refine K8.out.mono ?_
            rintro e u8 ⟨F8, rfl, t8, b8⟩
            have B8 := hide (bel_to BJ.out (Nat.le_refl _) b8)
            have K9 := hide (t8.lst u8 (Below.refl _ _) 10 (by decide))
            clear t8 b8 K8 g0
            rw [List.take_nil] at K9
            go_wp2_with fail
            with_reducible refine K9.out.mono ?_
            rintro e u9 ⟨a9, n9, c9, rfl, s9, b9⟩
            have B9 := hide (bel_to B8.out (Nat.le_refl _) b9)
            obtain rfl : 0 = n9 := s9.len
            clear s9 b9 K9 B8 BJ
            go_wp2
            go_roundw
            case rel => exact ⟨j + 1, by omega, by go_num, B9⟩
            case measure => simp [intOf]; omega
          · have i2 : ¬ (j : Int) < (n : Int) := by omega
            have L951 := hide (bel_to L947.out (Nat.le_refl _) BJ.out)
            have F952 := hide (F948.out.below BJ.out (Nat.le_refl _))
            have F953 := hide (F949.out.below BJ.out (Nat.le_refl _))
            have F954 := hide (F950.out.below BJ.out (Nat.le_refl _))
            have F955 := hide (Q946.out.below BJ.out (Nat.le_refl _))
            clear BJ L947 F948 F949 F950 Q946
            have K956 := hide (H.rises a900 n901 c902 _ uj F953.out)
            rw [decide_eq_true (upI_most _ _)] at K956
            go_wp2_with fail
            with_reducible refine K956.out.mono ?_
            rintro e u958 ⟨rfl, b957⟩
            clear K956
            have L959 := hide (bel_to L951.out (Nat.le_refl _) b957)
            have F960 := hide (F952.out.below b957 (Nat.le_refl _))
            have F961 := hide (F953.out.below b957 (Nat.le_refl _))
            have F962 := hide (F954.out.below b957 (Nat.le_refl _))
            have F963 := hide (F955.out.below b957 (Nat.le_refl _))
            clear b957 L951 F952 F953 F954 F955
            have K964 := hide (H.most ax n cx ls ((n : Int) + 1) u958 F960.out hx1 NX.out hn10 H2000.out (wfI (by omega) (by omega)))
            rw [show mostS ls ((n : Int) + 1) = [] by rw [← HL.out]; exact most_more ls] at K964
            go_wp2_with fail
            with_reducible refine K964.out.mono ?_
            rintro e u968 ⟨Fn967, rfl, t966, b965⟩
            clear K964
            have T969 := hide t966
            clear t966
            have L970 := hide (bel_to L959.out (Nat.le_refl _) b965)
            have F971 := hide (F960.out.below b965 (Nat.le_refl _))
            have F972 := hide (F961.out.below b965 (Nat.le_refl _))
            have F973 := hide (F962.out.below b965 (Nat.le_refl _))
            have F974 := hide (F963.out.below b965 (Nat.le_refl _))
            clear b965 L959 F960 F961 F962 F963
            have K975 := hide (T969.out.lst u968 (Below.refl _ _) 10 (by decide))
            rw [List.take_nil] at K975
            go_wp2_with fail
            with_reducible refine K975.out.mono ?_
            rintro e u977 ⟨a7, n7, c7, rfl, s7, b976⟩
            obtain rfl : 0 = n7 := s7.len
            clear K975 s7
            clear T969
            have L978 := hide (bel_to L970.out (Nat.le_refl _) b976)
            have F979 := hide (F971.out.below b976 (Nat.le_refl _))
            have F980 := hide (F972.out.below b976 (Nat.le_refl _))
            have F981 := hide (F973.out.below b976 (Nat.le_refl _))
            have F982 := hide (F974.out.below b976 (Nat.le_refl _))
            clear b976 L970 F971 F972 F973 F974
            have K983 := hide (AW.out u977)
            go_wp2_with fail
            with_reducible refine K983.out.mono ?_
            rintro e u985 ⟨rfl, b984⟩
            clear K983
            have L986 := hide (bel_to L978.out (Nat.le_refl _) b984)
            have F987 := hide (F979.out.below b984 (Nat.le_refl _))
            have F988 := hide (F980.out.below b984 (Nat.le_refl _))
            have F989 := hide (F981.out.below b984 (Nat.le_refl _))
            have F990 := hide (F982.out.below b984 (Nat.le_refl _))
            clear b984 L978 F979 F980 F981 F982
            go_wp2
            go_ret
            exact ⟨rfl, L986.out⟩
      · have tk : (1 : Int) < 1 + (K : Int) := by omega
        have K991 := hide (H.less a900 n901 c902 _ a919 n920 c921 _ u924 F928.out Q925.out (by omega) (by omega))
        go_wp2_with fail
        with_reducible refine K991.out.mono ?_
        rintro e u995 ⟨Fn994, rfl, t993, b992⟩
        clear K991
        have T996 := hide t993
        clear t993
        have L997 := hide (bel_to L926.out (Nat.le_refl _) b992)
        have F998 := hide (F927.out.below b992 (Nat.le_refl _))
        have F999 := hide (F928.out.below b992 (Nat.le_refl _))
        have F1000 := hide (Q925.out.below b992 (Nat.le_refl _))
        clear b992 L926 F927 F928 Q925
        have ML : Hid (lessS (mostS ls (1 + (K : Int))) (mostS ls (1 + (K : Int) - 1)) = []) := most_down (ls := ls) (k := 1 + (K : Int)) (by omega)
        have K1001 := hide (T996.out.lst u995 (Below.refl _ _) 10 (by decide))
        rw [ML.out] at K1001
        rw [List.take_nil] at K1001
        go_wp2_with fail
        with_reducible refine K1001.out.mono ?_
        rintro e u1003 ⟨a6, n6, c6, rfl, s6, b1002⟩
        obtain rfl : 0 = n6 := s6.len
        clear K1001 s6 ML
        clear T996
        have L1004 := hide (bel_to L997.out (Nat.le_refl _) b1002)
        have F1005 := hide (F998.out.below b1002 (Nat.le_refl _))
        have F1006 := hide (F999.out.below b1002 (Nat.le_refl _))
        have F1007 := hide (F1000.out.below b1002 (Nat.le_refl _))
        clear b1002 L997 F998 F999 F1000
        have K1008 := hide (H.most ax n cx ls (n : Int) u1003 F1005.out hx1 NX.out hn10 H2000.out (wfI (by omega) (by omega)))
        go_wp2_with fail
        with_reducible refine K1008.out.mono ?_
        rintro e u1012 ⟨Fn1011, rfl, t1010, b1009⟩
        clear K1008
        have T1013 := hide t1010
        clear t1010
        have L1014 := hide (bel_to L1004.out (Nat.le_refl _) b1009)
        have F1015 := hide (F1005.out.below b1009 (Nat.le_refl _))
        have F1016 := hide (F1006.out.below b1009 (Nat.le_refl _))
        have F1017 := hide (F1007.out.below b1009 (Nat.le_refl _))
        clear b1009 L1004 F1005 F1006 F1007
        have K1018 := hide (T1013.out.lst u1012 (Below.refl _ _) 10000 (by decide))
        rw [List.take_of_length_le (show (mostS ls (n : Int)).length ≤ (10000 : Int).toNat from by have := HF.out (n : Int); omega)] at K1018
        go_wp2_with fail
        with_reducible refine K1018.out.mono ?_
        rintro e u1024 ⟨a1019, n1020, c1021, rfl, s1022, b1023⟩
        clear K1018
        have Q1025 := hide s1022
        have hbn1020 : n1020 ≤ 1000 := by rw [← s1022.len]; exact (show (mostS ls (n : Int)).length ≤ 1000 from by have := HF.out (n : Int); omega)
        clear s1022
        clear T1013
        have L1026 := hide (bel_to L1014.out (Nat.le_refl _) b1023)
        have F1027 := hide (F1015.out.below b1023 (Nat.le_refl _))
        have F1028 := hide (F1016.out.below b1023 (Nat.le_refl _))
        have F1029 := hide (F1017.out.below b1023 (Nat.le_refl _))
        clear b1023 L1014 F1015 F1016 F1017
        go_wp2
        go_loopw [12] (fun i wr => ∃ j : Nat, j ≤ n ∧ i = .int .i64 j ∧ Hid (Below u1024.heap.size u1024 wr)) (fun i _ => n - (intOf i).toNat)
        case atStart => exact ⟨0, by omega, rfl, Below.refl _ _⟩
        case round =>
          obtain ⟨j, hj, rfl, BJ⟩ := hrel
          obtain ⟨uj, rfl⟩ : ∃ u, u = wr := ⟨wr, rfl⟩
          by_cases hlt : j < n
          · obtain ⟨b, off, a1, n1, c1, e, g0, q1⟩ := (F1027.out.below BJ.out (Nat.le_refl _)).at' hlt
            subst e
            have i1 : (0 : Int) ≤ (j : Int) := by omega
            have i2 : (j : Int) < (n : Int) := by omega
            have hmem : ls.getD j [] ∈ ls := getL_mem (by rw [HL.out]; exact hlt)
            have hn1 : n1 ≤ 100 := by rw [← q1.len]; exact H100.out _ hmem
            have ME : Hid (lessS (mostS ls (n : Int)) (ls.getD j []) = []) := by
              have := most_all hmem
              rw [HL.out] at this
              exact this
            have C8 := hide (Q1025.out.below BJ.out (Nat.le_refl _))
            have K8 := hide (H.less a1019 n1020 c1021 _ a1 n1 c1 _ uj C8.out q1 (by omega) (by omega))
            rw [ME.out] at K8
            clear q1 hmem ME C8
            go_wp2_with fail
            with_reducible refine K8.out.mono ?_
            rintro e u8 ⟨F8, rfl, t8, b8⟩
            have B8 := hide (bel_to BJ.out (Nat.le_refl _) b8)
            have K9 := hide (t8.lst u8 (Below.refl _ _) 10 (by decide))
            clear t8 b8 K8 g0
            rw [List.take_nil] at K9
            go_wp2_with fail
            with_reducible refine K9.out.mono ?_
            rintro e u9 ⟨a9, n9, c9, rfl, s9, b9⟩
            have B9 := hide (bel_to B8.out (Nat.le_refl _) b9)
            obtain rfl : 0 = n9 := s9.len
            clear s9 b9 K9 B8 BJ
            go_wp2
            go_roundw
            case rel => exact ⟨j + 1, by omega, by go_num, B9⟩
            case measure => simp [intOf]; omega
          · have i2 : ¬ (j : Int) < (n : Int) := by omega
            have L1030 := hide (bel_to L1026.out (Nat.le_refl _) BJ.out)
            have F1031 := hide (F1027.out.below BJ.out (Nat.le_refl _))
            have F1032 := hide (F1028.out.below BJ.out (Nat.le_refl _))
            have F1033 := hide (F1029.out.below BJ.out (Nat.le_refl _))
            have F1034 := hide (Q1025.out.below BJ.out (Nat.le_refl _))
            clear BJ L1026 F1027 F1028 F1029 Q1025
            have K1035 := hide (H.rises a900 n901 c902 _ uj F1032.out)
            rw [decide_eq_true (upI_most _ _)] at K1035
            go_wp2_with fail
            with_reducible refine K1035.out.mono ?_
            rintro e u1037 ⟨rfl, b1036⟩
            clear K1035
            have L1038 := hide (bel_to L1030.out (Nat.le_refl _) b1036)
            have F1039 := hide (F1031.out.below b1036 (Nat.le_refl _))
            have F1040 := hide (F1032.out.below b1036 (Nat.le_refl _))
            have F1041 := hide (F1033.out.below b1036 (Nat.le_refl _))
            have F1042 := hide (F1034.out.below b1036 (Nat.le_refl _))
            clear b1036 L1030 F1031 F1032 F1033 F1034
            have K1043 := hide (H.most ax n cx ls ((n : Int) + 1) u1037 F1039.out hx1 NX.out hn10 H2000.out (wfI (by omega) (by omega)))
            rw [show mostS ls ((n : Int) + 1) = [] by rw [← HL.out]; exact most_more ls] at K1043
            go_wp2_with fail
            with_reducible refine K1043.out.mono ?_
            rintro e u1047 ⟨Fn1046, rfl, t1045, b1044⟩
            clear K1043
            have T1048 := hide t1045
            clear t1045
            have L1049 := hide (bel_to L1038.out (Nat.le_refl _) b1044)
            have F1050 := hide (F1039.out.below b1044 (Nat.le_refl _))
            have F1051 := hide (F1040.out.below b1044 (Nat.le_refl _))
            have F1052 := hide (F1041.out.below b1044 (Nat.le_refl _))
            have F1053 := hide (F1042.out.below b1044 (Nat.le_refl _))
            clear b1044 L1038 F1039 F1040 F1041 F1042
            have K1054 := hide (T1048.out.lst u1047 (Below.refl _ _) 10 (by decide))
            rw [List.take_nil] at K1054
            go_wp2_with fail
            with_reducible refine K1054.out.mono ?_
            rintro e u1056 ⟨a7, n7, c7, rfl, s7, b1055⟩
            obtain rfl : 0 = n7 := s7.len
            clear K1054 s7
            clear T1048
            have L1057 := hide (bel_to L1049.out (Nat.le_refl _) b1055)
            have F1058 := hide (F1050.out.below b1055 (Nat.le_refl _))
            have F1059 := hide (F1051.out.below b1055 (Nat.le_refl _))
            have F1060 := hide (F1052.out.below b1055 (Nat.le_refl _))
            have F1061 := hide (F1053.out.below b1055 (Nat.le_refl _))
            clear b1055 L1049 F1050 F1051 F1052 F1053
            have K1062 := hide (AW.out u1056)
            go_wp2_with fail
            with_reducible refine K1062.out.mono ?_
            rintro e u1064 ⟨rfl, b1063⟩
            clear K1062
            have L1065 := hide (bel_to L1057.out (Nat.le_refl _) b1063)
            have F1066 := hide (F1058.out.below b1063 (Nat.le_refl _))
            have F1067 := hide (F1059.out.below b1063 (Nat.le_refl _))
            have F1068 := hide (F1060.out.below b1063 (Nat.le_refl _))
            have F1069 := hide (F1061.out.below b1063 (Nat.le_refl _))
            clear b1063 L1057 F1058 F1059 F1060 F1061
            go_wp2
            go_ret
            exact ⟨rfl, L1065.out⟩
end Go.Proofs.Ythmcliapdnbdjaa
