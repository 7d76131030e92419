/-
  The laws PostLaws, PostSelf, walked over what is asked of post (written by gen/posl.gen.py).
  Conditions: post's functions do what is asked.
-/
import Derived.Test.YthmcliapdnbdjaaPosA
namespace Go.Proofs.Ythmcliapdnbdjaa
open Go.RowKit
set_option maxRecDepth 20000

theorem len_two (a b : List Int) (k : Int) : (mostS [a, b] k).length ≤ a.length + b.length := by
  have := len_most [a, b] k
  simpa using this
theorem len_three (a b c : List Int) (k : Int) : (mostS [a, b, c] k).length ≤ a.length + (b.length + c.length) := by
  have := len_most [a, b, c] k
  simpa using this

set_option maxHeartbeats 16000000 in
theorem self_of (H : PoI) (a : Option Addr) (n cap : Nat) (zs : List Int) (w : World) (hs : SlI w a n cap zs) :
    Calls Try.prog 8 #[.slice a n cap] w fun e w' => e = .returned (.bool true) ∧ Below w.heap.size w w' := by
  have AW := hide (awake_of H)
  have HS := hide hs
  have hz := hs.1.1
  have hn0 := hs.1.2.1
  clear hs
  by_cases hn : 100 < n
  · have t1 : (100 : Int) < (n : Int) := by omega
    go_enter Try.func8, Try.ntmps8
    go_wp2_with fail
    with_reducible refine (AW.out _).mono ?_
    rintro e u ⟨rfl, b⟩
    go_wp2
    go_ret
    exact ⟨rfl, b⟩
  · have t1 : ¬ (100 : Int) < (n : Int) := by omega
    have RR := hide (rrises_any a n cap zs w HS.out)
    by_cases hu : upI zs
    · rw [decide_eq_true hu] at RR
      have HU := hide hu
      have HZ := hide hz
      clear hu hz
      have L0 : Hid (Below w.heap.size w w) := Below.refl _ _
      go_enter Try.func8, Try.ntmps8
      go_wp2_with fail
      with_reducible refine RR.out.mono ?_
      rintro e u2 ⟨rfl, b1⟩
      clear RR
      have L3 := hide (bel_to L0.out (Nat.le_refl _) b1)
      have F4 := hide (HS.out.below b1 (Nat.le_refl _))
      clear b1 L0 HS
      have K5 := hide (ints_any a n cap zs u2 F4.out (by omega))
      go_wp2_with fail
      with_reducible refine K5.out.mono ?_
      rintro e u7 ⟨a9, c9, rfl, o9, b6⟩
      clear K5
      have X9 := hide (MineI.sl o9 (by omega) F4.out.wf)
      clear o9
      have L8 := hide (bel_to L3.out (Nat.le_refl _) b6)
      have F9 := hide (F4.out.below b6 (Nat.le_refl _))
      clear b6 L3 F4
      have K10 := hide (H.and' a9 n c9 _ a9 n c9 _ u7 X9.out X9.out (by omega) (by omega))
      go_wp2_with fail
      with_reducible refine K10.out.mono ?_
      rintro e u14 ⟨Fn13, rfl, t12, b11⟩
      clear K10
      have T15 := hide t12
      clear t12
      have L16 := hide (bel_to L8.out (Nat.le_refl _) b11)
      have F17 := hide (F9.out.below b11 (Nat.le_refl _))
      have F18 := hide (X9.out.below b11 (Nat.le_refl _))
      clear b11 L8 F9 X9
      have K19 := hide (T15.out.lst u14 (Below.refl _ _) 1000 (by decide))
      rw [List.take_of_length_le (show (mostS [zs, zs] 2).length ≤ (1000 : Int).toNat from by have := len_two zs zs 2; rw [HZ.out] at this; exact Nat.le_trans this (show n + n ≤ 1000 by omega))] at K19
      go_wp2_with fail
      with_reducible refine K19.out.mono ?_
      rintro e u25 ⟨a20, n21, c22, rfl, s23, b24⟩
      clear K19
      have Q26 := hide s23
      skip
      clear s23
      clear T15
      have L27 := hide (bel_to L16.out (Nat.le_refl _) b24)
      have F28 := hide (F17.out.below b24 (Nat.le_refl _))
      have F29 := hide (F18.out.below b24 (Nat.le_refl _))
      clear b24 L16 F17 F18
      have K30 := hide (samei_any a20 n21 c22 _ a n cap _ u25 Q26.out F28.out)
      rw [decide_eq_true (and_self' HU.out)] at K30
      go_wp2_with fail
      with_reducible refine K30.out.mono ?_
      rintro e u32 ⟨rfl, b31⟩
      clear K30
      have L33 := hide (bel_to L27.out (Nat.le_refl _) b31)
      have F34 := hide (F28.out.below b31 (Nat.le_refl _))
      have F35 := hide (F29.out.below b31 (Nat.le_refl _))
      have F36 := hide (Q26.out.below b31 (Nat.le_refl _))
      clear b31 L27 F28 F29 Q26
      clear F36
      obtain ⟨V37, hV38⟩ : ∃ V, Hid (u32.alloc (.cells #[.slice a9 n c9, .slice a9 n c9, .slice a9 n c9] 22) = V) := ⟨_, rfl⟩
      have R39 : Hid (RowII V37 (some ⟨u32.heap.size, 0, none⟩) 3 [zs, zs, zs]) := by
        rw [← hV38.out]
        exact rowii_new u32 [(a9, n, c9), (a9, n, c9), (a9, n, c9)] [zs, zs, zs] 22 rfl (show 3 ≤ 10 by decide) (fun i hi => by
          match i, hi with
          | 0, _ => exact F35.out
          | 1, _ => exact F35.out
          | 2, _ => exact F35.out)
      have b40 : Below u32.heap.size u32 V37 := by rw [← hV38.out]; exact (Below.refl _ _).alloc (Nat.le_refl _) _
      have L41 := hide (bel_to L33.out (Nat.le_refl _) b40)
      have F42 := hide (F34.out.below b40 (Nat.le_refl _))
      have F43 := hide (F35.out.below b40 (Nat.le_refl _))
      clear b40 L33 F34 F35
      have K44 := hide (H.or' (some ⟨u32.heap.size, 0, none⟩) 3 3 _ V37 R39.out (by decide) (fun h => by cases h) (by decide) (by intro l hl; simp at hl; rw [hl, HZ.out]; omega))
      go_wp2_with fail
      rw [hV38.out]
      with_reducible refine K44.out.mono ?_
      rintro e u48 ⟨Fn47, rfl, t46, b45⟩
      clear K44 hV38
      clear R39
      have T49 := hide t46
      clear t46
      have L50 := hide (bel_to L41.out (Nat.le_refl _) b45)
      have F51 := hide (F42.out.below b45 (Nat.le_refl _))
      have F52 := hide (F43.out.below b45 (Nat.le_refl _))
      clear b45 L41 F42 F43
      have K53 := hide (T49.out.lst u48 (Below.refl _ _) 1000 (by decide))
      rw [List.take_of_length_le (show (mostS [zs, zs, zs] 1).length ≤ (1000 : Int).toNat from by have := len_three zs zs zs 1; rw [HZ.out] at this; exact Nat.le_trans this (show n + (n + n) ≤ 1000 by omega))] at K53
      go_wp2_with fail
      with_reducible refine K53.out.mono ?_
      rintro e u59 ⟨a54, n55, c56, rfl, s57, b58⟩
      clear K53
      have Q60 := hide s57
      skip
      clear s57
      clear T49
      have L61 := hide (bel_to L50.out (Nat.le_refl _) b58)
      have F62 := hide (F51.out.below b58 (Nat.le_refl _))
      have F63 := hide (F52.out.below b58 (Nat.le_refl _))
      clear b58 L50 F51 F52
      have K64 := hide (samei_any a54 n55 c56 _ a n cap _ u59 Q60.out F62.out)
      rw [decide_eq_true (most_three HU.out)] at K64
      go_wp2_with fail
      with_reducible refine K64.out.mono ?_
      rintro e u66 ⟨rfl, b65⟩
      clear K64
      have L67 := hide (bel_to L61.out (Nat.le_refl _) b65)
      have F68 := hide (F62.out.below b65 (Nat.le_refl _))
      have F69 := hide (F63.out.below b65 (Nat.le_refl _))
      have F70 := hide (Q60.out.below b65 (Nat.le_refl _))
      clear b65 L61 F62 F63 Q60
      clear F70
      have K71 := hide (H.less a9 n c9 _ a9 n c9 _ u66 F69.out F69.out (by omega) (by omega))
      go_wp2_with fail
      with_reducible refine K71.out.mono ?_
      rintro e u75 ⟨Fn74, rfl, t73, b72⟩
      clear K71
      have T76 := hide t73
      clear t73
      have L77 := hide (bel_to L67.out (Nat.le_refl _) b72)
      have F78 := hide (F68.out.below b72 (Nat.le_refl _))
      have F79 := hide (F69.out.below b72 (Nat.le_refl _))
      clear b72 L67 F68 F69
      have K80 := hide (T76.out.lst u75 (Below.refl _ _) 1000 (by decide))
      rw [List.take_of_length_le (show (lessS zs zs).length ≤ (1000 : Int).toNat from by rw [less_self]; exact Nat.zero_le _)] at K80
      go_wp2_with fail
      with_reducible refine K80.out.mono ?_
      rintro e u86 ⟨a81, n82, c83, rfl, s84, b85⟩
      clear K80
      have Q87 := hide s84
      skip
      clear s84
      clear T76
      have L88 := hide (bel_to L77.out (Nat.le_refl _) b85)
      have F89 := hide (F78.out.below b85 (Nat.le_refl _))
      have F90 := hide (F79.out.below b85 (Nat.le_refl _))
      clear b85 L77 F78 F79
      obtain rfl : n82 = 0 := by rw [← Q87.out.len, less_self]; rfl
      clear Q87
      have K91 := hide (H.less a9 n c9 _ none 0 0 [] u86 F90.out (sli_nil _) (by omega) (by decide))
      go_wp2_with fail
      with_reducible refine K91.out.mono ?_
      rintro e u95 ⟨Fn94, rfl, t93, b92⟩
      clear K91
      have T96 := hide t93
      clear t93
      have L97 := hide (bel_to L88.out (Nat.le_refl _) b92)
      have F98 := hide (F89.out.below b92 (Nat.le_refl _))
      have F99 := hide (F90.out.below b92 (Nat.le_refl _))
      clear b92 L88 F89 F90
      have K100 := hide (T96.out.lst u95 (Below.refl _ _) 1000 (by decide))
      rw [List.take_of_length_le (show (lessS zs []).length ≤ (1000 : Int).toNat from by rw [less_nil HU.out, HZ.out]; exact (show n ≤ 1000 by omega))] at K100
      go_wp2_with fail
      with_reducible refine K100.out.mono ?_
      rintro e u106 ⟨a101, n102, c103, rfl, s104, b105⟩
      clear K100
      have Q107 := hide s104
      skip
      clear s104
      clear T96
      have L108 := hide (bel_to L97.out (Nat.le_refl _) b105)
      have F109 := hide (F98.out.below b105 (Nat.le_refl _))
      have F110 := hide (F99.out.below b105 (Nat.le_refl _))
      clear b105 L97 F98 F99
      have K111 := hide (samei_any a101 n102 c103 _ a n cap _ u106 Q107.out F109.out)
      rw [decide_eq_true (less_nil HU.out)] at K111
      go_wp2_with fail
      with_reducible refine K111.out.mono ?_
      rintro e u113 ⟨rfl, b112⟩
      clear K111
      have L114 := hide (bel_to L108.out (Nat.le_refl _) b112)
      have F115 := hide (F109.out.below b112 (Nat.le_refl _))
      have F116 := hide (F110.out.below b112 (Nat.le_refl _))
      have F117 := hide (Q107.out.below b112 (Nat.le_refl _))
      clear b112 L108 F109 F110 Q107
      clear F117
      have K118 := hide (AW.out u113)
      go_wp2_with fail
      with_reducible refine K118.out.mono ?_
      rintro e u120 ⟨rfl, b119⟩
      clear K118
      have L121 := hide (bel_to L114.out (Nat.le_refl _) b119)
      have F122 := hide (F115.out.below b119 (Nat.le_refl _))
      have F123 := hide (F116.out.below b119 (Nat.le_refl _))
      clear b119 L114 F115 F116
      go_wp2
      go_ret
      exact ⟨rfl, L121.out⟩
    · rw [decide_eq_false hu] at RR
      clear hu
      go_enter Try.func8, Try.ntmps8
      go_wp2_with fail
      with_reducible refine RR.out.mono ?_
      rintro e u ⟨rfl, b⟩
      have L1 := hide b
      clear b RR
      go_wp2_with fail
      with_reducible refine (AW.out _).mono ?_
      rintro e u2 ⟨rfl, b⟩
      have L2 := hide (bel_to L1.out (Nat.le_refl _) b)
      clear b L1
      go_wp2
      go_ret
      exact ⟨rfl, L2.out⟩

set_option maxHeartbeats 16000000 in
theorem laws_of (H : PoI) (a : Option Addr) (n cap : Nat) (xs : List Int) (b : Option Addr) (m capb : Nat) (ys : List Int) (c : Option Addr) (k capc : Nat) (cs : List Int) (w : World) (hx : SlI w a n cap xs) (hy : SlI w b m capb ys) (hc : SlI w c k capc cs) :
    Calls Try.prog 5 #[.slice a n cap, .slice b m capb, .slice c k capc] w fun e w' => e = .returned (.bool true) ∧ Below w.heap.size w w' := by
  have AW := hide (awake_of H)
  have HX := hide hx
  have HY := hide hy
  have HC := hide hc
  have LX := hide hx.1.1
  have LY := hide hy.1.1
  have LC := hide hc.1.1
  have hn0 := hx.1.2.1
  have hm0 := hy.1.2.1
  have hk0 := hc.1.2.1
  clear hx hy hc
  by_cases hn1 : 100 < n
  · have tn : (100 : Int) < (n : Int) := by omega
    go_enter Try.func5, Try.ntmps5
    go_wp2_with fail
    with_reducible refine (AW.out _).mono ?_
    rintro e uz ⟨rfl, b⟩
    go_wp2
    go_ret
    exact ⟨rfl, b⟩
  have tn : ¬ (100 : Int) < (n : Int) := by omega
  by_cases hm1 : 100 < m
  · have tm : (100 : Int) < (m : Int) := by omega
    go_enter Try.func5, Try.ntmps5
    go_wp2_with fail
    with_reducible refine (AW.out _).mono ?_
    rintro e uz ⟨rfl, b⟩
    go_wp2
    go_ret
    exact ⟨rfl, b⟩
  have tm : ¬ (100 : Int) < (m : Int) := by omega
  by_cases hk1 : 100 < k
  · have tk : (100 : Int) < (k : Int) := by omega
    go_enter Try.func5, Try.ntmps5
    go_wp2_with fail
    with_reducible refine (AW.out _).mono ?_
    rintro e uz ⟨rfl, b⟩
    go_wp2
    go_ret
    exact ⟨rfl, b⟩
  have tk : ¬ (100 : Int) < (k : Int) := by omega
  have L0 : Hid (Below w.heap.size w w) := Below.refl _ _
  by_cases h1 : upI xs
  case neg =>
    have R1 := hide (rrises_any a n cap xs w HX.out)
    rw [decide_eq_false h1] at R1
    clear h1
    go_enter Try.func5, Try.ntmps5
    go_wp2_with fail
    with_reducible refine R1.out.mono ?_
    rintro e u1 ⟨rfl, b1⟩
    have L1 := hide b1
    clear b1 R1
    go_wp2_with fail
    with_reducible refine (AW.out _).mono ?_
    rintro e uz ⟨rfl, b⟩
    have LZ := hide (bel_to L1.out (Nat.le_refl _) b)
    clear b
    go_wp2
    go_ret
    exact ⟨rfl, LZ.out⟩
  by_cases h2 : upI ys
  case neg =>
    have R1 := hide (rrises_any a n cap xs w HX.out)
    rw [decide_eq_true h1] at R1
    have R2 := hide (fun u (hu : Below w.heap.size w u) => rrises_any b m capb ys u (HY.out.below hu (Nat.le_refl _)))
    rw [decide_eq_false h2] at R2
    clear h1 h2
    go_enter Try.func5, Try.ntmps5
    go_wp2_with fail
    with_reducible refine R1.out.mono ?_
    rintro e u1 ⟨rfl, b1⟩
    have L1 := hide b1
    clear b1 R1
    go_wp2_with fail
    with_reducible refine (R2.out _ L1.out).mono ?_
    rintro e u2 ⟨rfl, b2⟩
    have L2 := hide (bel_to L1.out (Nat.le_refl _) b2)
    clear b2 R2 L1
    go_wp2_with fail
    with_reducible refine (AW.out _).mono ?_
    rintro e uz ⟨rfl, b⟩
    have LZ := hide (bel_to L2.out (Nat.le_refl _) b)
    clear b
    go_wp2
    go_ret
    exact ⟨rfl, LZ.out⟩
  by_cases h3 : upI cs
  case neg =>
    have R1 := hide (rrises_any a n cap xs w HX.out)
    rw [decide_eq_true h1] at R1
    have R2 := hide (fun u (hu : Below w.heap.size w u) => rrises_any b m capb ys u (HY.out.below hu (Nat.le_refl _)))
    rw [decide_eq_true h2] at R2
    have R3 := hide (fun u (hu : Below w.heap.size w u) => rrises_any c k capc cs u (HC.out.below hu (Nat.le_refl _)))
    rw [decide_eq_false h3] at R3
    clear h1 h2 h3
    go_enter Try.func5, Try.ntmps5
    go_wp2_with fail
    with_reducible refine R1.out.mono ?_
    rintro e u1 ⟨rfl, b1⟩
    have L1 := hide b1
    clear b1 R1
    go_wp2_with fail
    with_reducible refine (R2.out _ L1.out).mono ?_
    rintro e u2 ⟨rfl, b2⟩
    have L2 := hide (bel_to L1.out (Nat.le_refl _) b2)
    clear b2 R2 L1
    go_wp2_with fail
    with_reducible refine (R3.out _ L2.out).mono ?_
    rintro e u3 ⟨rfl, b3⟩
    have L3 := hide (bel_to L2.out (Nat.le_refl _) b3)
    clear b3 R3 L2
    go_wp2_with fail
    with_reducible refine (AW.out _).mono ?_
    rintro e uz ⟨rfl, b⟩
    have LZ := hide (bel_to L3.out (Nat.le_refl _) b)
    clear b
    go_wp2
    go_ret
    exact ⟨rfl, LZ.out⟩
  have U1 := hide h1
  have U2 := hide h2
  have U3 := hide h3
  clear h1 h2 h3
  go_enter Try.func5, Try.ntmps5
  have K124 := hide (rrises_any a n cap _ w HX.out)
  rw [decide_eq_true U1.out] at K124
  go_wp2_with fail
  with_reducible refine K124.out.mono ?_
  rintro e u126 ⟨rfl, b125⟩
  clear K124
  have L127 := hide (bel_to L0.out (Nat.le_refl _) b125)
  have F128 := hide (HX.out.below b125 (Nat.le_refl _))
  have F129 := hide (HY.out.below b125 (Nat.le_refl _))
  have F130 := hide (HC.out.below b125 (Nat.le_refl _))
  clear b125 L0 HX HY HC
  have K131 := hide (rrises_any b m capb _ u126 F129.out)
  rw [decide_eq_true U2.out] at K131
  go_wp2_with fail
  with_reducible refine K131.out.mono ?_
  rintro e u133 ⟨rfl, b132⟩
  clear K131
  have L134 := hide (bel_to L127.out (Nat.le_refl _) b132)
  have F135 := hide (F128.out.below b132 (Nat.le_refl _))
  have F136 := hide (F129.out.below b132 (Nat.le_refl _))
  have F137 := hide (F130.out.below b132 (Nat.le_refl _))
  clear b132 L127 F128 F129 F130
  have K138 := hide (rrises_any c k capc _ u133 F137.out)
  rw [decide_eq_true U3.out] at K138
  go_wp2_with fail
  with_reducible refine K138.out.mono ?_
  rintro e u140 ⟨rfl, b139⟩
  clear K138
  have L141 := hide (bel_to L134.out (Nat.le_refl _) b139)
  have F142 := hide (F135.out.below b139 (Nat.le_refl _))
  have F143 := hide (F136.out.below b139 (Nat.le_refl _))
  have F144 := hide (F137.out.below b139 (Nat.le_refl _))
  clear b139 L134 F135 F136 F137
  have K145 := hide (H.and' a n cap _ b m capb _ u140 F142.out F143.out (by omega) (by omega))
  go_wp2_with fail
  with_reducible refine K145.out.mono ?_
  rintro e u149 ⟨Fn148, rfl, t147, b146⟩
  clear K145
  have T150 := hide t147
  clear t147
  have L151 := hide (bel_to L141.out (Nat.le_refl _) b146)
  have F152 := hide (F142.out.below b146 (Nat.le_refl _))
  have F153 := hide (F143.out.below b146 (Nat.le_refl _))
  have F154 := hide (F144.out.below b146 (Nat.le_refl _))
  clear b146 L141 F142 F143 F144
  have K155 := hide (T150.out.lst u149 (Below.refl _ _) 1000 (by decide))
  rw [List.take_of_length_le (show (mostS [xs, ys] 2).length ≤ (1000 : Int).toNat from by have h0 := len_two xs ys 2; have lx := LX.out; have ly := LY.out; have lc := LC.out; omega)] at K155
  go_wp2_with fail
  with_reducible refine K155.out.mono ?_
  rintro e u161 ⟨a156, n157, c158, rfl, s159, b160⟩
  clear K155
  have Q162 := hide s159
  have hbn157 : n157 ≤ 1000 := by rw [← s159.len]; exact (show (mostS [xs, ys] 2).length ≤ 1000 from by have h0 := len_two xs ys 2; have lx := LX.out; have ly := LY.out; have lc := LC.out; omega)
  clear s159
  clear T150
  have L163 := hide (bel_to L151.out (Nat.le_refl _) b160)
  have F164 := hide (F152.out.below b160 (Nat.le_refl _))
  have F165 := hide (F153.out.below b160 (Nat.le_refl _))
  have F166 := hide (F154.out.below b160 (Nat.le_refl _))
  clear b160 L151 F152 F153 F154
  have K167 := hide (H.and' b m capb _ c k capc _ u161 F165.out F166.out (by omega) (by omega))
  go_wp2_with fail
  with_reducible refine K167.out.mono ?_
  rintro e u171 ⟨Fn170, rfl, t169, b168⟩
  clear K167
  have T172 := hide t169
  clear t169
  have L173 := hide (bel_to L163.out (Nat.le_refl _) b168)
  have F174 := hide (F164.out.below b168 (Nat.le_refl _))
  have F175 := hide (F165.out.below b168 (Nat.le_refl _))
  have F176 := hide (F166.out.below b168 (Nat.le_refl _))
  have F177 := hide (Q162.out.below b168 (Nat.le_refl _))
  clear b168 L163 F164 F165 F166 Q162
  have K178 := hide (T172.out.lst u171 (Below.refl _ _) 1000 (by decide))
  rw [List.take_of_length_le (show (mostS [ys, cs] 2).length ≤ (1000 : Int).toNat from by have h0 := len_two ys cs 2; have lx := LX.out; have ly := LY.out; have lc := LC.out; omega)] at K178
  go_wp2_with fail
  with_reducible refine K178.out.mono ?_
  rintro e u184 ⟨a179, n180, c181, rfl, s182, b183⟩
  clear K178
  have Q185 := hide s182
  have hbn180 : n180 ≤ 1000 := by rw [← s182.len]; exact (show (mostS [ys, cs] 2).length ≤ 1000 from by have h0 := len_two ys cs 2; have lx := LX.out; have ly := LY.out; have lc := LC.out; omega)
  clear s182
  clear T172
  have L186 := hide (bel_to L173.out (Nat.le_refl _) b183)
  have F187 := hide (F174.out.below b183 (Nat.le_refl _))
  have F188 := hide (F175.out.below b183 (Nat.le_refl _))
  have F189 := hide (F176.out.below b183 (Nat.le_refl _))
  have F190 := hide (F177.out.below b183 (Nat.le_refl _))
  clear b183 L173 F174 F175 F176 F177
  obtain ⟨V191, hV192⟩ : ∃ V, Hid (u184.alloc (.cells #[.slice a n cap, .slice b m capb] 22) = V) := ⟨_, rfl⟩
  have R193 : Hid (RowII V191 (some ⟨u184.heap.size, 0, none⟩) 2 [xs, ys]) := by
    rw [← hV192.out]
    exact rowii_new u184 [(a, n, cap), (b, m, capb)] [xs, ys] 22 rfl (show 2 ≤ 10 by decide) (fun i hi => by
      match i, hi with
      | 0, _ => exact F187.out
      | 1, _ => exact F188.out)
  have b194 : Below u184.heap.size u184 V191 := by rw [← hV192.out]; exact (Below.refl _ _).alloc (Nat.le_refl _) _
  have L195 := hide (bel_to L186.out (Nat.le_refl _) b194)
  have F196 := hide (F187.out.below b194 (Nat.le_refl _))
  have F197 := hide (F188.out.below b194 (Nat.le_refl _))
  have F198 := hide (F189.out.below b194 (Nat.le_refl _))
  have F199 := hide (F190.out.below b194 (Nat.le_refl _))
  have F200 := hide (Q185.out.below b194 (Nat.le_refl _))
  clear b194 L186 F187 F188 F189 F190 Q185
  have K201 := hide (H.or' (some ⟨u184.heap.size, 0, none⟩) 2 2 _ V191 R193.out (by decide) (fun h => by cases h) (by decide) (by intro l hl; simp only [List.mem_cons, List.not_mem_nil, or_false] at hl; rcases hl with rfl | rfl <;> first | (rw [LX.out]; omega) | (rw [LY.out]; omega) | (rw [LC.out]; omega)))
  go_wp2_with fail
  rw [hV192.out]
  with_reducible refine K201.out.mono ?_
  rintro e u205 ⟨Fn204, rfl, t203, b202⟩
  clear K201 hV192
  clear R193
  have T206 := hide t203
  clear t203
  have L207 := hide (bel_to L195.out (Nat.le_refl _) b202)
  have F208 := hide (F196.out.below b202 (Nat.le_refl _))
  have F209 := hide (F197.out.below b202 (Nat.le_refl _))
  have F210 := hide (F198.out.below b202 (Nat.le_refl _))
  have F211 := hide (F199.out.below b202 (Nat.le_refl _))
  have F212 := hide (F200.out.below b202 (Nat.le_refl _))
  clear b202 L195 F196 F197 F198 F199 F200
  have K213 := hide (T206.out.lst u205 (Below.refl _ _) 1000 (by decide))
  rw [List.take_of_length_le (show (mostS [xs, ys] 1).length ≤ (1000 : Int).toNat from by have h0 := len_two xs ys 1; have lx := LX.out; have ly := LY.out; have lc := LC.out; omega)] at K213
  go_wp2_with fail
  with_reducible refine K213.out.mono ?_
  rintro e u219 ⟨a214, n215, c216, rfl, s217, b218⟩
  clear K213
  have Q220 := hide s217
  have hbn215 : n215 ≤ 1000 := by rw [← s217.len]; exact (show (mostS [xs, ys] 1).length ≤ 1000 from by have h0 := len_two xs ys 1; have lx := LX.out; have ly := LY.out; have lc := LC.out; omega)
  clear s217
  clear T206
  have L221 := hide (bel_to L207.out (Nat.le_refl _) b218)
  have F222 := hide (F208.out.below b218 (Nat.le_refl _))
  have F223 := hide (F209.out.below b218 (Nat.le_refl _))
  have F224 := hide (F210.out.below b218 (Nat.le_refl _))
  have F225 := hide (F211.out.below b218 (Nat.le_refl _))
  have F226 := hide (F212.out.below b218 (Nat.le_refl _))
  clear b218 L207 F208 F209 F210 F211 F212
  obtain ⟨V227, hV228⟩ : ∃ V, Hid (u219.alloc (.cells #[.slice b m capb, .slice c k capc] 22) = V) := ⟨_, rfl⟩
  have R229 : Hid (RowII V227 (some ⟨u219.heap.size, 0, none⟩) 2 [ys, cs]) := by
    rw [← hV228.out]
    exact rowii_new u219 [(b, m, capb), (c, k, capc)] [ys, cs] 22 rfl (show 2 ≤ 10 by decide) (fun i hi => by
      match i, hi with
      | 0, _ => exact F223.out
      | 1, _ => exact F224.out)
  have b230 : Below u219.heap.size u219 V227 := by rw [← hV228.out]; exact (Below.refl _ _).alloc (Nat.le_refl _) _
  have L231 := hide (bel_to L221.out (Nat.le_refl _) b230)
  have F232 := hide (F222.out.below b230 (Nat.le_refl _))
  have F233 := hide (F223.out.below b230 (Nat.le_refl _))
  have F234 := hide (F224.out.below b230 (Nat.le_refl _))
  have F235 := hide (F225.out.below b230 (Nat.le_refl _))
  have F236 := hide (F226.out.below b230 (Nat.le_refl _))
  have F237 := hide (Q220.out.below b230 (Nat.le_refl _))
  clear b230 L221 F222 F223 F224 F225 F226 Q220
  have K238 := hide (H.or' (some ⟨u219.heap.size, 0, none⟩) 2 2 _ V227 R229.out (by decide) (fun h => by cases h) (by decide) (by intro l hl; simp only [List.mem_cons, List.not_mem_nil, or_false] at hl; rcases hl with rfl | rfl <;> first | (rw [LX.out]; omega) | (rw [LY.out]; omega) | (rw [LC.out]; omega)))
  go_wp2_with fail
  rw [hV228.out]
  with_reducible refine K238.out.mono ?_
  rintro e u242 ⟨Fn241, rfl, t240, b239⟩
  clear K238 hV228
  clear R229
  have T243 := hide t240
  clear t240
  have L244 := hide (bel_to L231.out (Nat.le_refl _) b239)
  have F245 := hide (F232.out.below b239 (Nat.le_refl _))
  have F246 := hide (F233.out.below b239 (Nat.le_refl _))
  have F247 := hide (F234.out.below b239 (Nat.le_refl _))
  have F248 := hide (F235.out.below b239 (Nat.le_refl _))
  have F249 := hide (F236.out.below b239 (Nat.le_refl _))
  have F250 := hide (F237.out.below b239 (Nat.le_refl _))
  clear b239 L231 F232 F233 F234 F235 F236 F237
  have K251 := hide (T243.out.lst u242 (Below.refl _ _) 1000 (by decide))
  rw [List.take_of_length_le (show (mostS [ys, cs] 1).length ≤ (1000 : Int).toNat from by have h0 := len_two ys cs 1; have lx := LX.out; have ly := LY.out; have lc := LC.out; omega)] at K251
  go_wp2_with fail
  with_reducible refine K251.out.mono ?_
  rintro e u257 ⟨a252, n253, c254, rfl, s255, b256⟩
  clear K251
  have Q258 := hide s255
  have hbn253 : n253 ≤ 1000 := by rw [← s255.len]; exact (show (mostS [ys, cs] 1).length ≤ 1000 from by have h0 := len_two ys cs 1; have lx := LX.out; have ly := LY.out; have lc := LC.out; omega)
  clear s255
  clear T243
  have L259 := hide (bel_to L244.out (Nat.le_refl _) b256)
  have F260 := hide (F245.out.below b256 (Nat.le_refl _))
  have F261 := hide (F246.out.below b256 (Nat.le_refl _))
  have F262 := hide (F247.out.below b256 (Nat.le_refl _))
  have F263 := hide (F248.out.below b256 (Nat.le_refl _))
  have F264 := hide (F249.out.below b256 (Nat.le_refl _))
  have F265 := hide (F250.out.below b256 (Nat.le_refl _))
  clear b256 L244 F245 F246 F247 F248 F249 F250
  have K266 := hide (H.and' b m capb _ a n cap _ u257 F261.out F260.out (by omega) (by omega))
  go_wp2_with fail
  with_reducible refine K266.out.mono ?_
  rintro e u270 ⟨Fn269, rfl, t268, b267⟩
  clear K266
  have T271 := hide t268
  clear t268
  have L272 := hide (bel_to L259.out (Nat.le_refl _) b267)
  have F273 := hide (F260.out.below b267 (Nat.le_refl _))
  have F274 := hide (F261.out.below b267 (Nat.le_refl _))
  have F275 := hide (F262.out.below b267 (Nat.le_refl _))
  have F276 := hide (F263.out.below b267 (Nat.le_refl _))
  have F277 := hide (F264.out.below b267 (Nat.le_refl _))
  have F278 := hide (F265.out.below b267 (Nat.le_refl _))
  have F279 := hide (Q258.out.below b267 (Nat.le_refl _))
  clear b267 L259 F260 F261 F262 F263 F264 F265 Q258
  have K280 := hide (T271.out.lst u270 (Below.refl _ _) 1000 (by decide))
  rw [List.take_of_length_le (show (mostS [ys, xs] 2).length ≤ (1000 : Int).toNat from by have h0 := len_two ys xs 2; have lx := LX.out; have ly := LY.out; have lc := LC.out; omega)] at K280
  go_wp2_with fail
  with_reducible refine K280.out.mono ?_
  rintro e u286 ⟨a281, n282, c283, rfl, s284, b285⟩
  clear K280
  have Q287 := hide s284
  have hbn282 : n282 ≤ 1000 := by rw [← s284.len]; exact (show (mostS [ys, xs] 2).length ≤ 1000 from by have h0 := len_two ys xs 2; have lx := LX.out; have ly := LY.out; have lc := LC.out; omega)
  clear s284
  clear T271
  have L288 := hide (bel_to L272.out (Nat.le_refl _) b285)
  have F289 := hide (F273.out.below b285 (Nat.le_refl _))
  have F290 := hide (F274.out.below b285 (Nat.le_refl _))
  have F291 := hide (F275.out.below b285 (Nat.le_refl _))
  have F292 := hide (F276.out.below b285 (Nat.le_refl _))
  have F293 := hide (F277.out.below b285 (Nat.le_refl _))
  have F294 := hide (F278.out.below b285 (Nat.le_refl _))
  have F295 := hide (F279.out.below b285 (Nat.le_refl _))
  clear b285 L272 F273 F274 F275 F276 F277 F278 F279
  have K296 := hide (samei_any a156 n157 c158 _ a281 n282 c283 _ u286 F292.out Q287.out)
  rw [decide_eq_true (and_comm' xs ys)] at K296
  go_wp2_with fail
  with_reducible refine K296.out.mono ?_
  rintro e u298 ⟨rfl, b297⟩
  clear K296
  have L299 := hide (bel_to L288.out (Nat.le_refl _) b297)
  have F300 := hide (F289.out.below b297 (Nat.le_refl _))
  have F301 := hide (F290.out.below b297 (Nat.le_refl _))
  have F302 := hide (F291.out.below b297 (Nat.le_refl _))
  have F303 := hide (F292.out.below b297 (Nat.le_refl _))
  have F304 := hide (F293.out.below b297 (Nat.le_refl _))
  have F305 := hide (F294.out.below b297 (Nat.le_refl _))
  have F306 := hide (F295.out.below b297 (Nat.le_refl _))
  have F307 := hide (Q287.out.below b297 (Nat.le_refl _))
  clear b297 L288 F289 F290 F291 F292 F293 F294 F295 Q287
  clear F307
  have K308 := hide (H.and' a156 n157 c158 _ c k capc _ u298 F303.out F302.out (by omega) (by omega))
  go_wp2_with fail
  with_reducible refine K308.out.mono ?_
  rintro e u312 ⟨Fn311, rfl, t310, b309⟩
  clear K308
  have T313 := hide t310
  clear t310
  have L314 := hide (bel_to L299.out (Nat.le_refl _) b309)
  have F315 := hide (F300.out.below b309 (Nat.le_refl _))
  have F316 := hide (F301.out.below b309 (Nat.le_refl _))
  have F317 := hide (F302.out.below b309 (Nat.le_refl _))
  have F318 := hide (F303.out.below b309 (Nat.le_refl _))
  have F319 := hide (F304.out.below b309 (Nat.le_refl _))
  have F320 := hide (F305.out.below b309 (Nat.le_refl _))
  have F321 := hide (F306.out.below b309 (Nat.le_refl _))
  clear b309 L299 F300 F301 F302 F303 F304 F305 F306
  have K322 := hide (T313.out.lst u312 (Below.refl _ _) 1000 (by decide))
  rw [List.take_of_length_le (show (mostS [mostS [xs, ys] 2, cs] 2).length ≤ (1000 : Int).toNat from by have h0 := len_two (mostS [xs, ys] 2) cs 2; have h1 := len_two xs ys 2; have lx := LX.out; have ly := LY.out; have lc := LC.out; omega)] at K322
  go_wp2_with fail
  with_reducible refine K322.out.mono ?_
  rintro e u328 ⟨a323, n324, c325, rfl, s326, b327⟩
  clear K322
  have Q329 := hide s326
  have hbn324 : n324 ≤ 1000 := by rw [← s326.len]; exact (show (mostS [mostS [xs, ys] 2, cs] 2).length ≤ 1000 from by have h0 := len_two (mostS [xs, ys] 2) cs 2; have h1 := len_two xs ys 2; have lx := LX.out; have ly := LY.out; have lc := LC.out; omega)
  clear s326
  clear T313
  have L330 := hide (bel_to L314.out (Nat.le_refl _) b327)
  have F331 := hide (F315.out.below b327 (Nat.le_refl _))
  have F332 := hide (F316.out.below b327 (Nat.le_refl _))
  have F333 := hide (F317.out.below b327 (Nat.le_refl _))
  have F334 := hide (F318.out.below b327 (Nat.le_refl _))
  have F335 := hide (F319.out.below b327 (Nat.le_refl _))
  have F336 := hide (F320.out.below b327 (Nat.le_refl _))
  have F337 := hide (F321.out.below b327 (Nat.le_refl _))
  clear b327 L314 F315 F316 F317 F318 F319 F320 F321
  have K338 := hide (H.and' a n cap _ a179 n180 c181 _ u328 F331.out F335.out (by omega) (by omega))
  go_wp2_with fail
  with_reducible refine K338.out.mono ?_
  rintro e u342 ⟨Fn341, rfl, t340, b339⟩
  clear K338
  have T343 := hide t340
  clear t340
  have L344 := hide (bel_to L330.out (Nat.le_refl _) b339)
  have F345 := hide (F331.out.below b339 (Nat.le_refl _))
  have F346 := hide (F332.out.below b339 (Nat.le_refl _))
  have F347 := hide (F333.out.below b339 (Nat.le_refl _))
  have F348 := hide (F334.out.below b339 (Nat.le_refl _))
  have F349 := hide (F335.out.below b339 (Nat.le_refl _))
  have F350 := hide (F336.out.below b339 (Nat.le_refl _))
  have F351 := hide (F337.out.below b339 (Nat.le_refl _))
  have F352 := hide (Q329.out.below b339 (Nat.le_refl _))
  clear b339 L330 F331 F332 F333 F334 F335 F336 F337 Q329
  have K353 := hide (T343.out.lst u342 (Below.refl _ _) 1000 (by decide))
  rw [List.take_of_length_le (show (mostS [xs, mostS [ys, cs] 2] 2).length ≤ (1000 : Int).toNat from by have h0 := len_two xs (mostS [ys, cs] 2) 2; have h1 := len_two ys cs 2; have lx := LX.out; have ly := LY.out; have lc := LC.out; omega)] at K353
  go_wp2_with fail
  with_reducible refine K353.out.mono ?_
  rintro e u359 ⟨a354, n355, c356, rfl, s357, b358⟩
  clear K353
  have Q360 := hide s357
  have hbn355 : n355 ≤ 1000 := by rw [← s357.len]; exact (show (mostS [xs, mostS [ys, cs] 2] 2).length ≤ 1000 from by have h0 := len_two xs (mostS [ys, cs] 2) 2; have h1 := len_two ys cs 2; have lx := LX.out; have ly := LY.out; have lc := LC.out; omega)
  clear s357
  clear T343
  have L361 := hide (bel_to L344.out (Nat.le_refl _) b358)
  have F362 := hide (F345.out.below b358 (Nat.le_refl _))
  have F363 := hide (F346.out.below b358 (Nat.le_refl _))
  have F364 := hide (F347.out.below b358 (Nat.le_refl _))
  have F365 := hide (F348.out.below b358 (Nat.le_refl _))
  have F366 := hide (F349.out.below b358 (Nat.le_refl _))
  have F367 := hide (F350.out.below b358 (Nat.le_refl _))
  have F368 := hide (F351.out.below b358 (Nat.le_refl _))
  have F369 := hide (F352.out.below b358 (Nat.le_refl _))
  clear b358 L344 F345 F346 F347 F348 F349 F350 F351 F352
  have K370 := hide (samei_any a323 n324 c325 _ a354 n355 c356 _ u359 F369.out Q360.out)
  rw [decide_eq_true (and_assoc' U1.out U3.out)] at K370
  go_wp2_with fail
  with_reducible refine K370.out.mono ?_
  rintro e u372 ⟨rfl, b371⟩
  clear K370
  have L373 := hide (bel_to L361.out (Nat.le_refl _) b371)
  have F374 := hide (F362.out.below b371 (Nat.le_refl _))
  have F375 := hide (F363.out.below b371 (Nat.le_refl _))
  have F376 := hide (F364.out.below b371 (Nat.le_refl _))
  have F377 := hide (F365.out.below b371 (Nat.le_refl _))
  have F378 := hide (F366.out.below b371 (Nat.le_refl _))
  have F379 := hide (F367.out.below b371 (Nat.le_refl _))
  have F380 := hide (F368.out.below b371 (Nat.le_refl _))
  have F381 := hide (F369.out.below b371 (Nat.le_refl _))
  have F382 := hide (Q360.out.below b371 (Nat.le_refl _))
  clear b371 L361 F362 F363 F364 F365 F366 F367 F368 F369 Q360
  clear F381 F382 F378
  obtain ⟨V383, hV384⟩ : ∃ V, Hid (u372.alloc (.cells #[.slice b m capb, .slice a n cap] 22) = V) := ⟨_, rfl⟩
  have R385 : Hid (RowII V383 (some ⟨u372.heap.size, 0, none⟩) 2 [ys, xs]) := by
    rw [← hV384.out]
    exact rowii_new u372 [(b, m, capb), (a, n, cap)] [ys, xs] 22 rfl (show 2 ≤ 10 by decide) (fun i hi => by
      match i, hi with
      | 0, _ => exact F375.out
      | 1, _ => exact F374.out)
  have b386 : Below u372.heap.size u372 V383 := by rw [← hV384.out]; exact (Below.refl _ _).alloc (Nat.le_refl _) _
  have L387 := hide (bel_to L373.out (Nat.le_refl _) b386)
  have F388 := hide (F374.out.below b386 (Nat.le_refl _))
  have F389 := hide (F375.out.below b386 (Nat.le_refl _))
  have F390 := hide (F376.out.below b386 (Nat.le_refl _))
  have F391 := hide (F377.out.below b386 (Nat.le_refl _))
  have F392 := hide (F379.out.below b386 (Nat.le_refl _))
  have F393 := hide (F380.out.below b386 (Nat.le_refl _))
  clear b386 L373 F374 F375 F376 F377 F379 F380
  have K394 := hide (H.or' (some ⟨u372.heap.size, 0, none⟩) 2 2 _ V383 R385.out (by decide) (fun h => by cases h) (by decide) (by intro l hl; simp only [List.mem_cons, List.not_mem_nil, or_false] at hl; rcases hl with rfl | rfl <;> first | (rw [LX.out]; omega) | (rw [LY.out]; omega) | (rw [LC.out]; omega)))
  go_wp2_with fail
  rw [hV384.out]
  with_reducible refine K394.out.mono ?_
  rintro e u398 ⟨Fn397, rfl, t396, b395⟩
  clear K394 hV384
  clear R385
  have T399 := hide t396
  clear t396
  have L400 := hide (bel_to L387.out (Nat.le_refl _) b395)
  have F401 := hide (F388.out.below b395 (Nat.le_refl _))
  have F402 := hide (F389.out.below b395 (Nat.le_refl _))
  have F403 := hide (F390.out.below b395 (Nat.le_refl _))
  have F404 := hide (F391.out.below b395 (Nat.le_refl _))
  have F405 := hide (F392.out.below b395 (Nat.le_refl _))
  have F406 := hide (F393.out.below b395 (Nat.le_refl _))
  clear b395 L387 F388 F389 F390 F391 F392 F393
  have K407 := hide (T399.out.lst u398 (Below.refl _ _) 1000 (by decide))
  rw [List.take_of_length_le (show (mostS [ys, xs] 1).length ≤ (1000 : Int).toNat from by have h0 := len_two ys xs 1; have lx := LX.out; have ly := LY.out; have lc := LC.out; omega)] at K407
  go_wp2_with fail
  with_reducible refine K407.out.mono ?_
  rintro e u413 ⟨a408, n409, c410, rfl, s411, b412⟩
  clear K407
  have Q414 := hide s411
  have hbn409 : n409 ≤ 1000 := by rw [← s411.len]; exact (show (mostS [ys, xs] 1).length ≤ 1000 from by have h0 := len_two ys xs 1; have lx := LX.out; have ly := LY.out; have lc := LC.out; omega)
  clear s411
  clear T399
  have L415 := hide (bel_to L400.out (Nat.le_refl _) b412)
  have F416 := hide (F401.out.below b412 (Nat.le_refl _))
  have F417 := hide (F402.out.below b412 (Nat.le_refl _))
  have F418 := hide (F403.out.below b412 (Nat.le_refl _))
  have F419 := hide (F404.out.below b412 (Nat.le_refl _))
  have F420 := hide (F405.out.below b412 (Nat.le_refl _))
  have F421 := hide (F406.out.below b412 (Nat.le_refl _))
  clear b412 L400 F401 F402 F403 F404 F405 F406
  have K422 := hide (samei_any a214 n215 c216 _ a408 n409 c410 _ u413 F420.out Q414.out)
  rw [decide_eq_true (or_comm' xs ys)] at K422
  go_wp2_with fail
  with_reducible refine K422.out.mono ?_
  rintro e u424 ⟨rfl, b423⟩
  clear K422
  have L425 := hide (bel_to L415.out (Nat.le_refl _) b423)
  have F426 := hide (F416.out.below b423 (Nat.le_refl _))
  have F427 := hide (F417.out.below b423 (Nat.le_refl _))
  have F428 := hide (F418.out.below b423 (Nat.le_refl _))
  have F429 := hide (F419.out.below b423 (Nat.le_refl _))
  have F430 := hide (F420.out.below b423 (Nat.le_refl _))
  have F431 := hide (F421.out.below b423 (Nat.le_refl _))
  have F432 := hide (Q414.out.below b423 (Nat.le_refl _))
  clear b423 L415 F416 F417 F418 F419 F420 F421 Q414
  clear F432
  obtain ⟨V433, hV434⟩ : ∃ V, Hid (u424.alloc (.cells #[.slice a214 n215 c216, .slice c k capc] 22) = V) := ⟨_, rfl⟩
  have R435 : Hid (RowII V433 (some ⟨u424.heap.size, 0, none⟩) 2 [mostS [xs, ys] 1, cs]) := by
    rw [← hV434.out]
    exact rowii_new u424 [(a214, n215, c216), (c, k, capc)] [mostS [xs, ys] 1, cs] 22 rfl (show 2 ≤ 10 by decide) (fun i hi => by
      match i, hi with
      | 0, _ => exact F430.out
      | 1, _ => exact F428.out)
  have b436 : Below u424.heap.size u424 V433 := by rw [← hV434.out]; exact (Below.refl _ _).alloc (Nat.le_refl _) _
  have L437 := hide (bel_to L425.out (Nat.le_refl _) b436)
  have F438 := hide (F426.out.below b436 (Nat.le_refl _))
  have F439 := hide (F427.out.below b436 (Nat.le_refl _))
  have F440 := hide (F428.out.below b436 (Nat.le_refl _))
  have F441 := hide (F429.out.below b436 (Nat.le_refl _))
  have F442 := hide (F430.out.below b436 (Nat.le_refl _))
  have F443 := hide (F431.out.below b436 (Nat.le_refl _))
  clear b436 L425 F426 F427 F428 F429 F430 F431
  have K444 := hide (H.or' (some ⟨u424.heap.size, 0, none⟩) 2 2 _ V433 R435.out (by decide) (fun h => by cases h) (by decide) (by intro l hl; simp only [List.mem_cons, List.not_mem_nil, or_false] at hl; rcases hl with rfl | rfl <;> first | (rw [LX.out]; omega) | (rw [LY.out]; omega) | (rw [LC.out]; omega) | (have h := len_two xs ys 1; have lx := LX.out; have ly := LY.out; omega)))
  go_wp2_with fail
  rw [hV434.out]
  with_reducible refine K444.out.mono ?_
  rintro e u448 ⟨Fn447, rfl, t446, b445⟩
  clear K444 hV434
  clear R435
  have T449 := hide t446
  clear t446
  have L450 := hide (bel_to L437.out (Nat.le_refl _) b445)
  have F451 := hide (F438.out.below b445 (Nat.le_refl _))
  have F452 := hide (F439.out.below b445 (Nat.le_refl _))
  have F453 := hide (F440.out.below b445 (Nat.le_refl _))
  have F454 := hide (F441.out.below b445 (Nat.le_refl _))
  have F455 := hide (F442.out.below b445 (Nat.le_refl _))
  have F456 := hide (F443.out.below b445 (Nat.le_refl _))
  clear b445 L437 F438 F439 F440 F441 F442 F443
  have K457 := hide (T449.out.lst u448 (Below.refl _ _) 1000 (by decide))
  rw [List.take_of_length_le (show (mostS [mostS [xs, ys] 1, cs] 1).length ≤ (1000 : Int).toNat from by have h0 := len_two (mostS [xs, ys] 1) cs 1; have h1 := len_two xs ys 1; have lx := LX.out; have ly := LY.out; have lc := LC.out; omega)] at K457
  go_wp2_with fail
  with_reducible refine K457.out.mono ?_
  rintro e u463 ⟨a458, n459, c460, rfl, s461, b462⟩
  clear K457
  have Q464 := hide s461
  have hbn459 : n459 ≤ 1000 := by rw [← s461.len]; exact (show (mostS [mostS [xs, ys] 1, cs] 1).length ≤ 1000 from by have h0 := len_two (mostS [xs, ys] 1) cs 1; have h1 := len_two xs ys 1; have lx := LX.out; have ly := LY.out; have lc := LC.out; omega)
  clear s461
  clear T449
  have L465 := hide (bel_to L450.out (Nat.le_refl _) b462)
  have F466 := hide (F451.out.below b462 (Nat.le_refl _))
  have F467 := hide (F452.out.below b462 (Nat.le_refl _))
  have F468 := hide (F453.out.below b462 (Nat.le_refl _))
  have F469 := hide (F454.out.below b462 (Nat.le_refl _))
  have F470 := hide (F455.out.below b462 (Nat.le_refl _))
  have F471 := hide (F456.out.below b462 (Nat.le_refl _))
  clear b462 L450 F451 F452 F453 F454 F455 F456
  obtain ⟨V472, hV473⟩ : ∃ V, Hid (u463.alloc (.cells #[.slice a n cap, .slice a252 n253 c254] 22) = V) := ⟨_, rfl⟩
  have R474 : Hid (RowII V472 (some ⟨u463.heap.size, 0, none⟩) 2 [xs, mostS [ys, cs] 1]) := by
    rw [← hV473.out]
    exact rowii_new u463 [(a, n, cap), (a252, n253, c254)] [xs, mostS [ys, cs] 1] 22 rfl (show 2 ≤ 10 by decide) (fun i hi => by
      match i, hi with
      | 0, _ => exact F466.out
      | 1, _ => exact F471.out)
  have b475 : Below u463.heap.size u463 V472 := by rw [← hV473.out]; exact (Below.refl _ _).alloc (Nat.le_refl _) _
  have L476 := hide (bel_to L465.out (Nat.le_refl _) b475)
  have F477 := hide (F466.out.below b475 (Nat.le_refl _))
  have F478 := hide (F467.out.below b475 (Nat.le_refl _))
  have F479 := hide (F468.out.below b475 (Nat.le_refl _))
  have F480 := hide (F469.out.below b475 (Nat.le_refl _))
  have F481 := hide (F470.out.below b475 (Nat.le_refl _))
  have F482 := hide (F471.out.below b475 (Nat.le_refl _))
  have F483 := hide (Q464.out.below b475 (Nat.le_refl _))
  clear b475 L465 F466 F467 F468 F469 F470 F471 Q464
  have K484 := hide (H.or' (some ⟨u463.heap.size, 0, none⟩) 2 2 _ V472 R474.out (by decide) (fun h => by cases h) (by decide) (by intro l hl; simp only [List.mem_cons, List.not_mem_nil, or_false] at hl; rcases hl with rfl | rfl <;> first | (rw [LX.out]; omega) | (rw [LY.out]; omega) | (rw [LC.out]; omega) | (have h := len_two ys cs 1; have ly := LY.out; have lc := LC.out; omega)))
  go_wp2_with fail
  rw [hV473.out]
  with_reducible refine K484.out.mono ?_
  rintro e u488 ⟨Fn487, rfl, t486, b485⟩
  clear K484 hV473
  clear R474
  have T489 := hide t486
  clear t486
  have L490 := hide (bel_to L476.out (Nat.le_refl _) b485)
  have F491 := hide (F477.out.below b485 (Nat.le_refl _))
  have F492 := hide (F478.out.below b485 (Nat.le_refl _))
  have F493 := hide (F479.out.below b485 (Nat.le_refl _))
  have F494 := hide (F480.out.below b485 (Nat.le_refl _))
  have F495 := hide (F481.out.below b485 (Nat.le_refl _))
  have F496 := hide (F482.out.below b485 (Nat.le_refl _))
  have F497 := hide (F483.out.below b485 (Nat.le_refl _))
  clear b485 L476 F477 F478 F479 F480 F481 F482 F483
  have K498 := hide (T489.out.lst u488 (Below.refl _ _) 1000 (by decide))
  rw [List.take_of_length_le (show (mostS [xs, mostS [ys, cs] 1] 1).length ≤ (1000 : Int).toNat from by have h0 := len_two xs (mostS [ys, cs] 1) 1; have h1 := len_two ys cs 1; have lx := LX.out; have ly := LY.out; have lc := LC.out; omega)] at K498
  go_wp2_with fail
  with_reducible refine K498.out.mono ?_
  rintro e u504 ⟨a499, n500, c501, rfl, s502, b503⟩
  clear K498
  have Q505 := hide s502
  have hbn500 : n500 ≤ 1000 := by rw [← s502.len]; exact (show (mostS [xs, mostS [ys, cs] 1] 1).length ≤ 1000 from by have h0 := len_two xs (mostS [ys, cs] 1) 1; have h1 := len_two ys cs 1; have lx := LX.out; have ly := LY.out; have lc := LC.out; omega)
  clear s502
  clear T489
  have L506 := hide (bel_to L490.out (Nat.le_refl _) b503)
  have F507 := hide (F491.out.below b503 (Nat.le_refl _))
  have F508 := hide (F492.out.below b503 (Nat.le_refl _))
  have F509 := hide (F493.out.below b503 (Nat.le_refl _))
  have F510 := hide (F494.out.below b503 (Nat.le_refl _))
  have F511 := hide (F495.out.below b503 (Nat.le_refl _))
  have F512 := hide (F496.out.below b503 (Nat.le_refl _))
  have F513 := hide (F497.out.below b503 (Nat.le_refl _))
  clear b503 L490 F491 F492 F493 F494 F495 F496 F497
  have K514 := hide (samei_any a458 n459 c460 _ a499 n500 c501 _ u504 F513.out Q505.out)
  rw [decide_eq_true (or_assoc' U1.out U2.out U3.out)] at K514
  go_wp2_with fail
  with_reducible refine K514.out.mono ?_
  rintro e u516 ⟨rfl, b515⟩
  clear K514
  have L517 := hide (bel_to L506.out (Nat.le_refl _) b515)
  have F518 := hide (F507.out.below b515 (Nat.le_refl _))
  have F519 := hide (F508.out.below b515 (Nat.le_refl _))
  have F520 := hide (F509.out.below b515 (Nat.le_refl _))
  have F521 := hide (F510.out.below b515 (Nat.le_refl _))
  have F522 := hide (F511.out.below b515 (Nat.le_refl _))
  have F523 := hide (F512.out.below b515 (Nat.le_refl _))
  have F524 := hide (F513.out.below b515 (Nat.le_refl _))
  have F525 := hide (Q505.out.below b515 (Nat.le_refl _))
  clear b515 L506 F507 F508 F509 F510 F511 F512 F513 Q505
  clear F524 F525 F523
  have K526 := hide (H.less a n cap _ b m capb _ u516 F518.out F519.out (by omega) (by omega))
  go_wp2_with fail
  with_reducible refine K526.out.mono ?_
  rintro e u530 ⟨Fn529, rfl, t528, b527⟩
  clear K526
  have T531 := hide t528
  clear t528
  have L532 := hide (bel_to L517.out (Nat.le_refl _) b527)
  have F533 := hide (F518.out.below b527 (Nat.le_refl _))
  have F534 := hide (F519.out.below b527 (Nat.le_refl _))
  have F535 := hide (F520.out.below b527 (Nat.le_refl _))
  have F536 := hide (F521.out.below b527 (Nat.le_refl _))
  have F537 := hide (F522.out.below b527 (Nat.le_refl _))
  clear b527 L517 F518 F519 F520 F521 F522
  have K538 := hide (T531.out.lst u530 (Below.refl _ _) 1000 (by decide))
  rw [List.take_of_length_le (show (lessS xs ys).length ≤ (1000 : Int).toNat from by have h0 := len_less xs ys; have lx := LX.out; have ly := LY.out; have lc := LC.out; omega)] at K538
  go_wp2_with fail
  with_reducible refine K538.out.mono ?_
  rintro e u544 ⟨a539, n540, c541, rfl, s542, b543⟩
  clear K538
  have Q545 := hide s542
  have hbn540 : n540 ≤ 1000 := by rw [← s542.len]; exact (show (lessS xs ys).length ≤ 1000 from by have h0 := len_less xs ys; have lx := LX.out; have ly := LY.out; have lc := LC.out; omega)
  clear s542
  clear T531
  have L546 := hide (bel_to L532.out (Nat.le_refl _) b543)
  have F547 := hide (F533.out.below b543 (Nat.le_refl _))
  have F548 := hide (F534.out.below b543 (Nat.le_refl _))
  have F549 := hide (F535.out.below b543 (Nat.le_refl _))
  have F550 := hide (F536.out.below b543 (Nat.le_refl _))
  have F551 := hide (F537.out.below b543 (Nat.le_refl _))
  clear b543 L532 F533 F534 F535 F536 F537
  obtain ⟨V552, hV553⟩ : ∃ V, Hid (u544.alloc (.cells #[.slice a539 n540 c541, .slice a156 n157 c158] 22) = V) := ⟨_, rfl⟩
  have R554 : Hid (RowII V552 (some ⟨u544.heap.size, 0, none⟩) 2 [lessS xs ys, mostS [xs, ys] 2]) := by
    rw [← hV553.out]
    exact rowii_new u544 [(a539, n540, c541), (a156, n157, c158)] [lessS xs ys, mostS [xs, ys] 2] 22 rfl (show 2 ≤ 10 by decide) (fun i hi => by
      match i, hi with
      | 0, _ => exact Q545.out
      | 1, _ => exact F550.out)
  have b555 : Below u544.heap.size u544 V552 := by rw [← hV553.out]; exact (Below.refl _ _).alloc (Nat.le_refl _) _
  have L556 := hide (bel_to L546.out (Nat.le_refl _) b555)
  have F557 := hide (F547.out.below b555 (Nat.le_refl _))
  have F558 := hide (F548.out.below b555 (Nat.le_refl _))
  have F559 := hide (F549.out.below b555 (Nat.le_refl _))
  have F560 := hide (F550.out.below b555 (Nat.le_refl _))
  have F561 := hide (F551.out.below b555 (Nat.le_refl _))
  have F562 := hide (Q545.out.below b555 (Nat.le_refl _))
  clear b555 L546 F547 F548 F549 F550 F551 Q545
  have K563 := hide (H.or' (some ⟨u544.heap.size, 0, none⟩) 2 2 _ V552 R554.out (by decide) (fun h => by cases h) (by decide) (by intro l hl; simp only [List.mem_cons, List.not_mem_nil, or_false] at hl; rcases hl with rfl | rfl <;> first | (rw [LX.out]; omega) | (rw [LY.out]; omega) | (rw [LC.out]; omega) | (have h := len_less xs ys; have lx := LX.out; omega) | (have h := len_two xs ys 2; have lx := LX.out; have ly := LY.out; omega)))
  go_wp2_with fail
  rw [hV553.out]
  with_reducible refine K563.out.mono ?_
  rintro e u567 ⟨Fn566, rfl, t565, b564⟩
  clear K563 hV553
  clear R554
  have T568 := hide t565
  clear t565
  have L569 := hide (bel_to L556.out (Nat.le_refl _) b564)
  have F570 := hide (F557.out.below b564 (Nat.le_refl _))
  have F571 := hide (F558.out.below b564 (Nat.le_refl _))
  have F572 := hide (F559.out.below b564 (Nat.le_refl _))
  have F573 := hide (F560.out.below b564 (Nat.le_refl _))
  have F574 := hide (F561.out.below b564 (Nat.le_refl _))
  have F575 := hide (F562.out.below b564 (Nat.le_refl _))
  clear b564 L556 F557 F558 F559 F560 F561 F562
  have K576 := hide (T568.out.lst u567 (Below.refl _ _) 1000 (by decide))
  rw [List.take_of_length_le (show (mostS [lessS xs ys, mostS [xs, ys] 2] 1).length ≤ (1000 : Int).toNat from by have h0 := len_two (lessS xs ys) (mostS [xs, ys] 2) 1; have h1 := len_two xs ys 2; have h2 := len_less xs ys; have lx := LX.out; have ly := LY.out; have lc := LC.out; omega)] at K576
  go_wp2_with fail
  with_reducible refine K576.out.mono ?_
  rintro e u582 ⟨a577, n578, c579, rfl, s580, b581⟩
  clear K576
  have Q583 := hide s580
  have hbn578 : n578 ≤ 1000 := by rw [← s580.len]; exact (show (mostS [lessS xs ys, mostS [xs, ys] 2] 1).length ≤ 1000 from by have h0 := len_two (lessS xs ys) (mostS [xs, ys] 2) 1; have h1 := len_two xs ys 2; have h2 := len_less xs ys; have lx := LX.out; have ly := LY.out; have lc := LC.out; omega)
  clear s580
  clear T568
  have L584 := hide (bel_to L569.out (Nat.le_refl _) b581)
  have F585 := hide (F570.out.below b581 (Nat.le_refl _))
  have F586 := hide (F571.out.below b581 (Nat.le_refl _))
  have F587 := hide (F572.out.below b581 (Nat.le_refl _))
  have F588 := hide (F573.out.below b581 (Nat.le_refl _))
  have F589 := hide (F574.out.below b581 (Nat.le_refl _))
  have F590 := hide (F575.out.below b581 (Nat.le_refl _))
  clear b581 L569 F570 F571 F572 F573 F574 F575
  have K591 := hide (samei_any a577 n578 c579 _ a n cap _ u582 Q583.out F585.out)
  rw [decide_eq_true (less_and U1.out U2.out)] at K591
  go_wp2_with fail
  with_reducible refine K591.out.mono ?_
  rintro e u593 ⟨rfl, b592⟩
  clear K591
  have L594 := hide (bel_to L584.out (Nat.le_refl _) b592)
  have F595 := hide (F585.out.below b592 (Nat.le_refl _))
  have F596 := hide (F586.out.below b592 (Nat.le_refl _))
  have F597 := hide (F587.out.below b592 (Nat.le_refl _))
  have F598 := hide (F588.out.below b592 (Nat.le_refl _))
  have F599 := hide (F589.out.below b592 (Nat.le_refl _))
  have F600 := hide (F590.out.below b592 (Nat.le_refl _))
  have F601 := hide (Q583.out.below b592 (Nat.le_refl _))
  clear b592 L584 F585 F586 F587 F588 F589 F590 Q583
  clear F601 F600
  have K602 := hide (H.rises a214 n215 c216 _ u593 F599.out)
  rw [decide_eq_true (upI_most _ _)] at K602
  go_wp2_with fail
  with_reducible refine K602.out.mono ?_
  rintro e u604 ⟨rfl, b603⟩
  clear K602
  have L605 := hide (bel_to L594.out (Nat.le_refl _) b603)
  have F606 := hide (F595.out.below b603 (Nat.le_refl _))
  have F607 := hide (F596.out.below b603 (Nat.le_refl _))
  have F608 := hide (F597.out.below b603 (Nat.le_refl _))
  have F609 := hide (F598.out.below b603 (Nat.le_refl _))
  have F610 := hide (F599.out.below b603 (Nat.le_refl _))
  clear b603 L594 F595 F596 F597 F598 F599
  have K611 := hide (H.rises a156 n157 c158 _ u604 F609.out)
  rw [decide_eq_true (upI_most _ _)] at K611
  go_wp2_with fail
  with_reducible refine K611.out.mono ?_
  rintro e u613 ⟨rfl, b612⟩
  clear K611
  have L614 := hide (bel_to L605.out (Nat.le_refl _) b612)
  have F615 := hide (F606.out.below b612 (Nat.le_refl _))
  have F616 := hide (F607.out.below b612 (Nat.le_refl _))
  have F617 := hide (F608.out.below b612 (Nat.le_refl _))
  have F618 := hide (F609.out.below b612 (Nat.le_refl _))
  have F619 := hide (F610.out.below b612 (Nat.le_refl _))
  clear b612 L605 F606 F607 F608 F609 F610
  have K620 := hide (AW.out u613)
  go_wp2_with fail
  with_reducible refine K620.out.mono ?_
  rintro e u622 ⟨rfl, b621⟩
  clear K620
  have L623 := hide (bel_to L614.out (Nat.le_refl _) b621)
  have F624 := hide (F615.out.below b621 (Nat.le_refl _))
  have F625 := hide (F616.out.below b621 (Nat.le_refl _))
  have F626 := hide (F617.out.below b621 (Nat.le_refl _))
  have F627 := hide (F618.out.below b621 (Nat.le_refl _))
  have F628 := hide (F619.out.below b621 (Nat.le_refl _))
  clear b621 L614 F615 F616 F617 F618 F619
  go_wp2
  go_ret
  exact ⟨rfl, L623.out⟩
end Go.Proofs.Ythmcliapdnbdjaa
