/-
  The program's own Get of a gauge: a contract, for every world; what was there before stays.
  Conditions: the slice shows its bytes; the place is a number of 64 bits.
-/
import Derived.Test.YtnhjjdgdffjdcaaGaugeX
import Derived.Test.YtnhjjdgdffjdcaaGaugeD
namespace Go.Proofs.Ytnhjjdgdffjdcaa
open Go.RowKit

/-- What Get answers. -/
def gotG (r : Option (Gz × Int)) : Ending :=
  match r with
  | none => .returned (.tuple #[.agg #[.int .u64 0, .int .u64 0, .int .u64 0, .int .u64 0], .int .i64 0, .bool false])
  | some q => .returned (.tuple #[(Value.agg #[.int .u64 (Gz.n q.1), .int .u64 (Gz.nans q.1), .int .u64 (Gz.lo q.1), .int .u64 (Gz.hi q.1)]), .int .i64 q.2, .bool true])

theorem GBox.new1 (w : World) (o : Obj) (t : TypeId) (n m lo hi : Int) : GBox ((w.alloc (.cells #[.int .u64 n, .int .u64 m, .int .u64 lo, .int .u64 hi] t)).alloc o) w.heap.size n m lo hi := (GBox.new w t n m lo hi).alloc o
set_option maxHeartbeats 2000000 in
theorem gget_any (p : Int) (a : Option Addr) (n cap : Nat) (zs : List Int) (w : World) (hp : (Lit.int .i64 p).wf = true) (hc : n ≤ cap) (hr : Row .u8 w a n zs) :
    Calls Try.prog 18 #[.slice a n cap, .int .i64 p] w fun e w' => e = gotG (getG zs p) ∧ Below w.heap.size w w' := by
  have hl := hr.1
  have hn := hr.2.1
  have hzb : Bytes8 zs := hr.bytes
  have R := hide hr
  have G1 := hide (fun W (h : Row .u8 W a n zs) => get_any p a n cap zs W hp hc h)
  have R1 := hide (fun o => hr.alloc o)
  clear hr
  cases e1 : getS zs p with
  | none =>
    have F := hide (getG_no1 e1)
    rw [e1] at G1
    simp only [gotE] at G1
    rw [F.out]
    simp only [gotG]
    clear e1
    go_enter Try.func18, Try.ntmps18
    go_wp2_with fail
    with_reducible refine (G1.out _ (R1.out _)).mono ?_
    rintro e w1 ⟨rfl, rfl⟩
    go_wp2
    refine bodyPost_ret (v := .tuple #[.agg #[.int .u64 0, .int .u64 0, .int .u64 0, .int .u64 0], .int .i64 0, .bool false]) (by simp [results, Try.results18, go_sem]) rfl ⟨rfl, ?_⟩
    exact (Below.refl _ _).alloc (Nat.le_refl _) _
  | some q =>
    obtain ⟨m, q⟩ := q
    obtain ⟨hm, k1, hpk, hk1, hq, hkq, _⟩ := getS_some hzb e1
    clear hpk
    obtain ⟨t, ht⟩ : ∃ t, k1 + (putS m).length = t := ⟨_, rfl⟩
    rw [ht] at hq hkq
    have G2 := hide (fun W (h : Row .u8 W a n zs) => get_any (t : Int) a n cap zs W (i64_wf (by omega) (by omega)) hc h)
    rw [← hq] at G2
    rw [e1] at G1
    simp only [gotE] at G1
    cases e2 : getS zs q with
    | none =>
      have F := hide (getG_no2 e1 e2)
      rw [e2] at G2
      simp only [gotE] at G2
      rw [F.out]
      simp only [gotG]
      clear e1 e2 hq
      go_enter Try.func18, Try.ntmps18
      go_wp2_with fail
      with_reducible refine (G1.out _ (R1.out _)).mono ?_
      rintro e w1 ⟨rfl, rfl⟩
      go_wp2_with fail
      with_reducible refine (G2.out _ (R1.out _)).mono ?_
      rintro e w1 ⟨rfl, rfl⟩
      go_wp2
      refine bodyPost_ret (v := .tuple #[.agg #[.int .u64 0, .int .u64 0, .int .u64 0, .int .u64 0], .int .i64 0, .bool false]) (by simp [results, Try.results18, go_sem]) rfl ⟨rfl, ?_⟩
      exact (Below.refl _ _).alloc (Nat.le_refl _) _
    | some r =>
      obtain ⟨x, r⟩ := r
      obtain ⟨hx, k2, hqk, hk2, hr2, hkr, _⟩ := getS_some hzb e2
      clear hqk
      obtain ⟨u, hu⟩ : ∃ u, k2 + (putS x).length = u := ⟨_, rfl⟩
      rw [hu] at hr2 hkr
      have F := hide (getG_two e1 e2)
      rw [e2] at G2
      simp only [gotE] at G2
      subst hr2
      rw [Int.toNat_natCast] at F
      have hun : u ≤ n := by omega
      clear e1 e2 ht hu hk1 hk2 hkr hkq hp hc hq
      by_cases hx0 : x = 0
      · subst hx0
        have C := hide (fun W => gchk_any ⟨0, m, 0, 0⟩ ⟨w0, hm, w0, w0⟩ W)
        rw [chk_of_none rfl rfl rfl] at C
        dsimp only at C
        rw [if_pos rfl] at F
        rw [F.out]
        simp only [gotG]
        clear F
        go_enter Try.func18, Try.ntmps18
        go_wp2_with fail
        with_reducible refine (G1.out _ (R1.out _)).mono ?_
        rintro e w1 ⟨rfl, rfl⟩
        go_wp2_with fail
        with_reducible refine (G2.out _ (R1.out _)).mono ?_
        rintro e w1 ⟨rfl, rfl⟩
        go_wp2_with fail
        with_reducible refine (C.out _).mono ?_
        rintro e w1 ⟨rfl, hb⟩
        have GA : Hid (GBox w1 w.heap.size 0 0 0 0) := (GBox.new1 w _ _ 0 0 0 0).below hb (by simp [go_sem])
        have GB : Hid (GBox w1 (w.heap.size + 1) 0 m 0 0) := (GBox.new2 w _ _ 0 m 0 0).below hb (by simp [go_sem])
        have B : Hid (Below w.heap.size w w1) := (bel2 w _ _).trans (hb.mono (by rw [size_al, size_al]; omega))
        obtain ⟨_, c0, c1, c2, c3, f0, f1, f2, f3⟩ := GA.out
        obtain ⟨_, d0, d1, d2, d3, _, _, _, _⟩ := GB.out
        clear hb
        go_wp2
        have G2 := GA.out.set 0 m 0 0
        exact bodyPost_ret (v := .tuple #[.agg #[.int .u64 0, .int .u64 m, .int .u64 0, .int .u64 0], .int .i64 u, .bool true]) (by simp [results, Try.results18, go_sem, G2.c0, G2.c1, G2.c2, G2.c3]) rfl ⟨rfl, bel_set4 B.out (Nat.le_refl _) _ _ _ _⟩
      · rw [if_neg hx0, hl] at F
        have ix : 0 < x := by have := hx.1; omega
        by_cases h16 : (n : Int) - (u : Int) < 16
        · rw [if_pos h16] at F
          rw [F.out]
          simp only [gotG]
          clear F hx0
          go_enter Try.func18, Try.ntmps18
          go_wp2_with fail
          with_reducible refine (G1.out _ (R1.out _)).mono ?_
          rintro e w1 ⟨rfl, rfl⟩
          go_wp2_with fail
          with_reducible refine (G2.out _ (R1.out _)).mono ?_
          rintro e w1 ⟨rfl, rfl⟩
          go_wp2
          refine bodyPost_ret (v := .tuple #[.agg #[.int .u64 0, .int .u64 0, .int .u64 0, .int .u64 0], .int .i64 0, .bool false]) (by simp [results, Try.results18, go_sem]) rfl ⟨rfl, ?_⟩
          exact bel2 _ _ _
        · rw [if_neg h16] at F
          have hlo := n8_word hzb u
          have hhi := n8_word hzb (u + 8)
          have T1 := hide (fun W (h : Row .u8 W a n zs) => bitsat_any u a n cap zs W (by omega) h)
          have T2 := hide (fun W (h : Row .u8 W a n zs) => bitsat_any (u + 8) a n cap zs W (by omega) h)
          rw [show ((u + 8 : Nat) : Int) = (u : Int) + 8 by omega] at T2
          generalize n8 zs u 8 = lo at *
          generalize n8 zs (u + 8) 8 = hi at *
          have C := hide (fun W => gchk_any ⟨x, m, lo, hi⟩ ⟨hx, hm, hlo, hhi⟩ W)
          dsimp only at C
          have R2 := hide (fun o o' => (R1.out o).alloc o')
          cases ec : chkG ⟨x, m, lo, hi⟩
          · rw [ec] at C F
            rw [if_neg (by decide)] at F
            rw [F.out]
            simp only [gotG]
            clear F hx0 ec
            go_enter Try.func18, Try.ntmps18
            go_wp2_with fail
            with_reducible refine (G1.out _ (R1.out _)).mono ?_
            rintro e w1 ⟨rfl, rfl⟩
            go_wp2_with fail
            with_reducible refine (G2.out _ (R1.out _)).mono ?_
            rintro e w1 ⟨rfl, rfl⟩
            go_wp2_with fail
            with_reducible refine (T1.out _ (R2.out _ _)).mono ?_
            rintro e w1 ⟨rfl, rfl⟩
            go_wp2_with fail
            with_reducible refine (T2.out _ (R2.out _ _)).mono ?_
            rintro e w1 ⟨rfl, rfl⟩
            go_wp2_with fail
            with_reducible refine (C.out _).mono ?_
            rintro e w1 ⟨rfl, hb⟩
            have GA : Hid (GBox w1 w.heap.size 0 0 0 0) := (GBox.new1 w _ _ 0 0 0 0).below hb (by simp [go_sem])
            have B : Hid (Below w.heap.size w w1) := (bel2 w _ _).trans (hb.mono (by rw [size_al, size_al]; omega))
            obtain ⟨_, c0, c1, c2, c3, f0, f1, f2, f3⟩ := GA.out
            clear hb
            go_wp2
            have G2 := GA.out.set 0 0 0 0
            exact bodyPost_ret (v := .tuple #[.agg #[.int .u64 0, .int .u64 0, .int .u64 0, .int .u64 0], .int .i64 0, .bool false]) (by simp [results, Try.results18, go_sem, G2.c0, G2.c1, G2.c2, G2.c3]) rfl ⟨rfl, bel_set4 B.out (Nat.le_refl _) _ _ _ _⟩
          · rw [ec] at C F
            rw [if_pos rfl] at F
            rw [F.out]
            simp only [gotG]
            clear F hx0 ec
            go_enter Try.func18, Try.ntmps18
            go_wp2_with fail
            with_reducible refine (G1.out _ (R1.out _)).mono ?_
            rintro e w1 ⟨rfl, rfl⟩
            go_wp2_with fail
            with_reducible refine (G2.out _ (R1.out _)).mono ?_
            rintro e w1 ⟨rfl, rfl⟩
            go_wp2_with fail
            with_reducible refine (T1.out _ (R2.out _ _)).mono ?_
            rintro e w1 ⟨rfl, rfl⟩
            go_wp2_with fail
            with_reducible refine (T2.out _ (R2.out _ _)).mono ?_
            rintro e w1 ⟨rfl, rfl⟩
            go_wp2_with fail
            with_reducible refine (C.out _).mono ?_
            rintro e w1 ⟨rfl, hb⟩
            have GA : Hid (GBox w1 w.heap.size 0 0 0 0) := (GBox.new1 w _ _ 0 0 0 0).below hb (by simp [go_sem])
            have GB : Hid (GBox w1 (w.heap.size + 1) x m lo hi) := (GBox.new2 w _ _ x m lo hi).below hb (by simp [go_sem])
            have B : Hid (Below w.heap.size w w1) := (bel2 w _ _).trans (hb.mono (by rw [size_al, size_al]; omega))
            obtain ⟨_, c0, c1, c2, c3, f0, f1, f2, f3⟩ := GA.out
            obtain ⟨_, d0, d1, d2, d3, _, _, _, _⟩ := GB.out
            clear hb
            go_wp2
            have G2 := GA.out.set x m lo hi
            exact bodyPost_ret (v := .tuple #[.agg #[.int .u64 x, .int .u64 m, .int .u64 lo, .int .u64 hi], .int .i64 (u + 16), .bool true]) (by simp [results, Try.results18, go_sem, G2.c0, G2.c1, G2.c2, G2.c3]) rfl ⟨rfl, bel_set4 B.out (Nat.le_refl _) _ _ _ _⟩
end Go.Proofs.Ytnhjjdgdffjdcaa
