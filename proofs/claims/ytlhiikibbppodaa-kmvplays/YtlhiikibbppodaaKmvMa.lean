/-
  The law of layer 8 on more than 1024 hashes with gaps that are told, of any layer that keeps its contracts.
  Conditions: the contracts.
-/
import Derived.Test.YtlhiikibbppodaaKmvT
import Derived.Test.YtlhiikibbppodaaPlace
namespace Go.Proofs.Ytlhiikibbppodaa
open Go.RowKit

/-- Numbers with gaps: m of them, from the j-th on. -/
def apK (f d : Int) (j m : Nat) : List Int := (List.range m).map (fun t => f + ((j + t : Nat) : Int) * d)
theorem apK_len (f d : Int) (j m : Nat) : (apK f d j m).length = m := by simp [apK]
theorem apK_cons (f d : Int) (j m : Nat) : apK f d j (m + 1) = (f + (j : Int) * d) :: apK f d (j + 1) m := by
  unfold apK
  rw [List.range_succ_eq_map, List.map_cons, List.map_map]
  congr 1
  refine List.map_congr_left (fun t _ => ?_)
  show f + ((j + (t + 1) : Nat) : Int) * d = f + ((j + 1 + t : Nat) : Int) * d
  rw [show j + (t + 1) = j + 1 + t by omega]
theorem mem_apK {f d x : Int} {j m : Nat} (h : x ∈ apK f d j m) : ∃ t : Nat, t < m ∧ x = f + ((j + t : Nat) : Int) * d := by
  unfold apK at h
  obtain ⟨t, ht, rfl⟩ := List.mem_map.1 h
  exact ⟨t, List.mem_range.1 ht, rfl⟩
theorem apK_lt {f d x : Int} {j m : Nat} (hd : 0 < d) (h : x ∈ apK f d (j + 1) m) : f + (j : Int) * d < x := by
  obtain ⟨t, _, rfl⟩ := mem_apK h
  have : (j : Int) * d < ((j + 1 + t : Nat) : Int) * d := Int.mul_lt_mul_of_pos_right (by omega) hd
  omega
theorem apK_up {f d : Int} (hd : 0 < d) (j m : Nat) : Up (apK f d j m) := by
  induction m generalizing j with
  | zero => exact List.Pairwise.nil
  | succ m ih =>
    rw [apK_cons]
    exact List.pairwise_cons.2 ⟨fun x hx => apK_lt hd hx, ih (j + 1)⟩
theorem insK_first {h : Int} {l : List Int} (hl : ∀ x ∈ l, h < x) : insK h l = h :: l := by
  cases l with
  | nil => rfl
  | cons x t => rw [insK, if_pos (hl x (by simp))]
theorem apK_hash {f d : Int} (hd : 0 < d) (j m : Nat) : hashK 1024 ((apK f d (j + 1) m).take 1024) (f + (j : Int) * d) = (apK f d j (m + 1)).take 1024 := by
  unfold hashK
  rw [insK_take, insK_first (fun x hx => apK_lt hd hx), apK_cons]
theorem apK_words {f d : Int} (hf : 0 ≤ f) (hd : 0 < d) {j m : Nat} (h : f + ((j + m : Nat) : Int) * d < 18446744073709551616) : ∀ x ∈ apK f d j m, W64 x := by
  intro x hx
  obtain ⟨t, ht, rfl⟩ := mem_apK hx
  have h1 : (0 : Int) ≤ ((j + t : Nat) : Int) * d := Int.mul_nonneg (by omega) (by omega)
  have h2 : ((j + t : Nat) : Int) * d < ((j + m : Nat) : Int) * d := Int.mul_lt_mul_of_pos_right (by omega) hd
  exact ⟨by omega, by omega⟩
theorem apK_getD (f d : Int) (j m : Nat) {i : Nat} (h : i < m) : (apK f d j m).getD i 0 = f + ((j + i : Nat) : Int) * d := by
  unfold apK
  rw [List.getD_eq_getElem?_getD, List.getElem?_map, List.getElem?_range h]
  rfl
/-- What is told of the list of n of them. -/
theorem apK_few {f d : Int} (hf : 0 ≤ f) (hf2 : f < 1152921504606846976) (hd : 0 < d) (hd2 : d ≤ 1125899906842624) {n : Nat} (hn : n ≤ 1100) (h : n < 1024) :
    ((apK f d 0 n).take 1024).length = n ∧ distK ((apK f d 0 n).take 1024) = n := by
  have hl : ((apK f d 0 n).take 1024).length = n := by rw [List.length_take, apK_len]; omega
  have hb : ((0 + n : Nat) : Int) * d ≤ 1100 * 1125899906842624 := Int.mul_le_mul (by omega) hd2 (by omega) (by omega)
  have hck : chkK ((apK f d 0 n).take 1024) = true := up_chk (up_take (apK_up hd 0 n) _) (by omega) (fun x hx => apK_words hf hd (j := 0) (m := n) (by omega) x (List.mem_of_mem_take hx))
  refine ⟨hl, ?_⟩
  unfold distK
  rw [if_pos hck, if_pos (by omega), hl]
theorem apK_many {f d : Int} (hf : 0 ≤ f) (hf2 : f < 1152921504606846976) (hd : 0 < d) (hd2 : d ≤ 1125899906842624) {n : Nat} (hn : n ≤ 1100) (h : 1024 ≤ n) :
    ((apK f d 0 n).take 1024).length = 1024 ∧ ((apK f d 0 n).take 1024).getD 0 0 = f ∧ ((apK f d 0 n).take 1024).getD 1023 0 = f + 1023 * d ∧ distK ((apK f d 0 n).take 1024) = 1023 * 18446744073709551616 / (f + 1023 * d + 1) := by
  have hl : ((apK f d 0 n).take 1024).length = 1024 := by rw [List.length_take, apK_len]; omega
  have hb : ((0 + n : Nat) : Int) * d ≤ 1100 * 1125899906842624 := Int.mul_le_mul (by omega) hd2 (by omega) (by omega)
  have hck : chkK ((apK f d 0 n).take 1024) = true := up_chk (up_take (apK_up hd 0 n) _) (by omega) (fun x hx => apK_words hf hd (j := 0) (m := n) (by omega) x (List.mem_of_mem_take hx))
  have g : ∀ i, i < 1024 → ((apK f d 0 n).take 1024).getD i 0 = f + ((0 + i : Nat) : Int) * d := by
    intro i hi
    rw [← apK_getD f d 0 n (i := i) (by omega), List.getD_eq_getElem?_getD, List.getElem?_take_of_lt hi, ← List.getD_eq_getElem?_getD]
  have g0 := g 0 (by omega)
  have g1 := g 1023 (by omega)
  have e0 : f + ((0 + 0 : Nat) : Int) * d = f := by simp
  have e1 : f + ((0 + 1023 : Nat) : Int) * d = f + 1023 * d := by simp
  rw [e0] at g0
  rw [e1] at g1
  refine ⟨hl, g0, g1, ?_⟩
  unfold distK
  rw [if_pos hck, if_neg (by omega), g1, if_neg (by omega)]

section
variable {At : World → Nat → (Nat → Prop) → List Int → Prop}
theorem PoolK.hash (I : KmvI At) {w W : World} (q1 q2 : List (Nat × List Int)) {g : Nat} {l : List Int} (h : PoolK At w W (q1 ++ (g, l) :: q2)) {x : Int} (hx : W64 x) :
    Calls Try.prog 16 #[.pointer (some ⟨g, 0, none⟩), .int .u64 x] W fun e W' => e = .returned (.tuple #[]) ∧ PoolK At w W' (q1 ++ (g, hashK 1024 l x) :: q2) := by
  obtain ⟨S, h1, h2, h3⟩ := (h.bound I).step I (l' := hashK 1024 l x)
  refine (I.hash g S l x W h1 hx).mono ?_
  rintro e W' ⟨rfl, st⟩
  exact ⟨rfl, h3 W' st⟩
theorem PoolK.new (I : KmvI At) {w W : World} {qs : List (Nat × List Int)} (h : PoolK At w W qs) :
    Calls Try.prog 26 #[] W fun e W' => ∃ g, e = .returned (.pointer (some ⟨g, 0, none⟩)) ∧ PoolK At w W' ((g, []) :: qs) := by
  refine (I.new W).mono ?_
  rintro e W' ⟨g, rfl, m⟩
  exact ⟨g, rfl, h.made I m⟩
theorem PoolK.distinct (I : KmvI At) {w W : World} (q1 q2 : List (Nat × List Int)) {g : Nat} {l : List Int} (h : PoolK At w W (q1 ++ (g, l) :: q2)) :
    Calls Try.prog 22 #[.pointer (some ⟨g, 0, none⟩)] W fun e W' => e = .returned (.int .u64 (distK l)) ∧ Below W.heap.size W W' ∧ PoolK At w W' (q1 ++ (g, l) :: q2) := by
  obtain ⟨S, h1, h2⟩ := h.has
  refine (I.distinct g S l W h1).mono ?_
  rintro e W' ⟨rfl, b⟩
  exact ⟨rfl, b, h.below I b⟩
end

set_option maxRecDepth 20000 in
set_option maxHeartbeats 400000 in
theorem many_of {At : World → Nat → (Nat → Prop) → List Int → Prop} (I : KmvI At) (HD : DivK 28) (f0 d0 more : Int) (w : World) (w0 : (Lit.int .u64 f0).wf = true) (w1 : (Lit.int .u64 d0).wf = true) (_ : (Lit.int .i64 more).wf = true) :
    Calls Try.prog 6 #[.int .u64 f0, .int .u64 d0, .int .i64 more] w fun e w' => e = .returned (.bool true) ∧ Below w.heap.size w w' := by
  have AW := hide (fun W (bl : Below w.heap.size w W) => (awakeK_any I W).mono (fun e W' (h : e = .returned (.bool true) ∧ Below W.heap.size W W') => (⟨h.1, bl.trans (h.2.mono bl.size)⟩ : e = .returned (.bool true) ∧ Below w.heap.size w W')))
  have HI := hide I
  have HDD := hide HD
  have PC := hide (fun W => place_any more 100 (by omega) (by omega) W)
  have N0 := hide ((PoolK.nil (At := At) (Below.refl w.heap.size w)).new I)
  obtain ⟨f1, f2⟩ := u64_of_wf w0
  obtain ⟨d1, d2⟩ := u64_of_wf w1
  have p1 := Int.emod_nonneg more (b := 100) (by omega)
  have p2 := Int.emod_lt_of_pos more (b := 100) (by omega)
  have r1 := Int.emod_nonneg f0 (b := 1152921504606846976) (by omega)
  have r2 := Int.emod_lt_of_pos f0 (b := 1152921504606846976) (by omega)
  have s1 := Int.emod_nonneg d0 (b := 1125899906842624) (by omega)
  have s2 := Int.emod_lt_of_pos d0 (b := 1125899906842624) (by omega)
  have tm1 : f0.tmod 1152921504606846976 = f0 % 1152921504606846976 := Int.tmod_eq_emod_of_nonneg f1
  have tm2 : d0.tmod 1125899906842624 = d0 % 1125899906842624 := Int.tmod_eq_emod_of_nonneg d1
  clear I HD w0 w1
  go_enter Try.func6, Try.ntmps6
  go_wp2_with fail
  refine N0.out.mono ?_
  rintro e W1 ⟨g, rfl, p⟩
  have P1 := hide p
  clear p N0
  go_wp2_with fail
  refine (PC.out _).mono ?_
  rintro e W2 ⟨rfl, rfl⟩
  obtain ⟨n, hn⟩ : ∃ n : Nat, (n : Int) = 1000 + more % 100 := ⟨(1000 + more % 100).toNat, by omega⟩
  go_wp2_with fail
  rw [← hn]
  generalize f0 % 1152921504606846976 = f at *
  obtain ⟨d, hd⟩ : ∃ d, 1 + d0 % 1125899906842624 = d := ⟨_, rfl⟩
  rw [hd]
  have hn1 : n ≤ 1100 := by omega
  have hn0 : 1000 ≤ n := by omega
  have dd1 : 0 < d := by omega
  have dd2 : d ≤ 1125899906842624 := by omega
  clear hn hd p1 p2 s1 s2 tm1 tm2 f1 f2 d1 d2 PC
  go_loopw [9] (fun x wr => ∃ i : Int, -1 ≤ i ∧ i < n ∧ x = .int .i64 i ∧ Hid (PoolK At w wr [(g, (apK f d (i + 1).toNat (n - (i + 1).toNat)).take 1024)])) (fun x _ => (intOf x + 1).toNat)
  case atStart =>
    refine ⟨(n : Int) - 1, by omega, by omega, by go_num, ?_⟩
    rw [show ((n : Int) - 1 + 1).toNat = n by omega, Nat.sub_self]
    exact P1
  case round =>
    obtain ⟨i, hi0, hi1, rfl, HP⟩ := hrel
    by_cases hi : 0 ≤ i
    · obtain ⟨j, rfl⟩ := Int.eq_ofNat_of_zero_le hi
      have HN : Hid (hashK 1024 ((apK f d ((j : Int) + 1).toNat (n - ((j : Int) + 1).toNat)).take 1024) (f + (j : Int) * d) = (apK f d ((j : Int) - 1 + 1).toNat (n - ((j : Int) - 1 + 1).toNat)).take 1024) := by
        show _ = _
        rw [show ((j : Int) + 1).toNat = j + 1 by omega, show ((j : Int) - 1 + 1).toNat = j by omega, apK_hash dd1, show n - (j + 1) + 1 = n - j by omega]
      have hb : (j : Int) * d ≤ 1100 * 1125899906842624 := Int.mul_le_mul (by omega) dd2 (by omega) (by omega)
      have hb0 : 0 ≤ (j : Int) * d := Int.mul_nonneg (by omega) (by omega)
      have C := hide (HP.out.hash HI.out [] [] (x := f + (j : Int) * d) ⟨by omega, by omega⟩)
      rw [HN.out] at C
      obtain ⟨jd, hjd⟩ : ∃ x, (j : Int) * d = x := ⟨_, rfl⟩
      rw [hjd] at C hb hb0
      have m1 : IntKind.u64.wrap ((j : Int) * d) = jd := by rw [hjd, IntKind.wrap_u64]; omega
      have m2 : IntKind.u64.wrap (f + jd) = f + jd := by rw [IntKind.wrap_u64]; omega
      clear HN HP hjd
      go_wp2_with fail
      try rw [m1]
      try rw [m2]
      refine C.out.mono ?_
      rintro e W2 ⟨rfl, p⟩
      have P2 := hide p
      clear p C
      go_wp2
      go_roundw
      case rel => exact ⟨(j : Int) - 1, by omega, by omega, by go_num, P2⟩
      case measure => simp [intOf]
    · obtain rfl : i = -1 := by omega
      have HP0 : Hid (PoolK At w wr [(g, (apK f d 0 n).take 1024)]) := HP.out
      clear HP hi hi0 hi1 P1
      have hb : 1023 * d ≤ 1023 * 1125899906842624 := by omega
      obtain ⟨S0, at0, -⟩ := HP0.out.has (q1 := []) (q2 := [])
      have HG := hide (HI.out.good at0)
      clear at0
      have HH := hide (HP0.out.hashes HI.out [] [])
      by_cases hlt : n < 1024
      · obtain ⟨e1, e2⟩ := apK_few r1 r2 dd1 dd2 hn1 hlt
        generalize (apK f d 0 n).take 1024 = L at *
        go_wp2_with fail
        refine HH.out.mono ?_
        rintro e W3 ⟨a3, c3, rfl, -, r3, bl3, p3⟩
        have D := hide (p3.pool.distinct HI.out [] [])
        rw [e2] at D
        rw [e1]
        have m4 : IntKind.u64.wrap (n : Int) = n := by rw [IntKind.wrap_u64]; omega
        clear r3 bl3 p3 HH HP0 e1 e2 HG
        go_wp2_with fail
        refine D.out.mono ?_
        rintro e W4 ⟨rfl, -, p4⟩
        have A4 := hide (AW.out W4 p4.low)
        clear p4 D
        go_wp2_with fail
        refine A4.out.mono ?_
        rintro e W5 ⟨rfl, bl5⟩
        have BL := hide bl5
        clear bl5 A4
        go_wp2
        go_ret
        exact ⟨rfl, BL.out⟩
      · obtain ⟨e1, e2, e3, e4⟩ := apK_many r1 r2 dd1 dd2 hn1 (by omega)
        generalize (apK f d 0 n).take 1024 = L at *
        go_wp2_with fail
        refine HH.out.mono ?_
        rintro e W3 ⟨a3, c3, rfl, -, r3, bl3, p3⟩
        rw [e1] at r3
        obtain ⟨b3, off3, rfl, hc3⟩ := row_at r3 (j := 0) (by omega)
        have HC0 : Hid (∀ W, Below W3.heap.size W3 W → W.cell? ⟨b3, off3, none⟩ = some (.int .u64 f)) := fun W b => by have := hc3 0 (by omega) W b; rw [e2] at this; exact this
        have HC1 : Hid (∀ W, Below W3.heap.size W3 W → W.cell? ⟨b3, off3 + 1023, none⟩ = some (.int .u64 (f + 1023 * d))) := fun W b => by rw [hc3 1023 (by omega) W b, e3]
        have P3 := hide p3.pool
        rw [e1]
        have DV := hide (fun W => HDD.out (f + 1023 * d + 1) W (by omega) (by omega))
        have EE := hide e4
        clear r3 bl3 p3 HH HP0 e1 e2 e3 e4 HG hc3
        go_wp2_with fail
        refine (DV.out _).mono ?_
        rintro e W4 ⟨⟨r, rfl⟩, q, rfl⟩
        have b4 : Below W3.heap.size W3 (W3.drewN q) := bel_drewN (Below.refl _ _) q
        have g0 := HC0.out _ b4
        have g1 := HC1.out _ b4
        have D := hide ((P3.out.below HI.out b4).distinct HI.out [] [])
        rw [EE.out] at D
        clear b4 HC0 HC1 DV P3 EE
        generalize 1023 * 18446744073709551616 / (f + 1023 * d + 1) = Q at *
        generalize W3.drewN q = W4 at *
        have t1 : (f == f) = true := by simp
        have t2 : (f + 1023 * d == f + 1023 * d) = true := by simp
        have t3 : (Q == Q) = true := by simp
        go_wp2_with fail
        refine D.out.mono ?_
        rintro e W5 ⟨rfl, -, p5⟩
        have A5 := hide (AW.out W5 p5.low)
        clear p5 D
        go_wp2_with fail
        refine A5.out.mono ?_
        rintro e W6 ⟨rfl, bl6⟩
        have BL := hide bl6
        clear bl6 A5
        go_wp2
        go_ret
        exact ⟨rfl, BL.out⟩
end Go.Proofs.Ytlhiikibbppodaa
