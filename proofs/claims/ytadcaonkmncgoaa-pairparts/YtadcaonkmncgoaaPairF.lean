/-
  The law of observations cut anywhere, in any order. 
  Conditions: the slice came in.
-/
import Derived.Test.YtadcaonkmncgoaaPairX
import Derived.Test.YtadcaonkmncgoaaPairV
import Derived.Test.YtadcaonkmncgoaaPairD
import Derived.Test.YtadcaonkmncgoaaPlace
import Derived.Deep.RegionHeld3
namespace Go.Proofs.Ytadcaonkmncgoaa
open Go.RowKit
set_option maxRecDepth 20000

theorem place_nat {v : Int} {n : Nat} : ∃ k : Nat, k ≤ n ∧ v % ((n : Int) + 1) = (k : Int) := by
  have h0 := Int.emod_nonneg v (show ((n : Int) + 1) ≠ 0 by omega)
  have h1 := Int.emod_lt_of_pos v (show (0 : Int) < (n : Int) + 1 by omega)
  exact ⟨(v % ((n : Int) + 1)).toNat, by omega, by omega⟩
theorem pool_one {w v : World} {L : List (Nat × Hd × Sp)} (p : Pool w v L) (i : Nat) {k : Nat} {h : Hd} {s : Sp} (e : L[i]? = some (k, h, s)) : Pool v v.drew [(k, h, s)] :=
  ⟨(Below.refl _ _).drew, (fun x hx => by rw [List.mem_singleton.1 hx]; exact (p.box _ (List.mem_of_getElem? e)).drew), (fun x hx => by rw [List.mem_singleton.1 hx]; exact (p.see _ (List.mem_of_getElem? e)).drew)⟩

set_option maxHeartbeats 8000000 in
theorem partsP_of (a : Option Addr) (n cap : Nat) (l : List Ob) (at_ turn : Int) (w : World) (wl : IsObs w a n cap l) :
    Calls Try.prog 7 #[.slice a n cap, .int .i64 at_, .int .i64 turn] w fun e w' => e = .returned (.bool true) ∧ Below w.heap.size w w' := by
  obtain ⟨h1, h2, h3, hr⟩ := wl
  have AW := hide (awakeP_any paO paE)
  by_cases hbig : 200 < n
  · have i1 : (200 : Int) < (n : Int) := by omega
    clear hr h1 h2 h3 hbig
    go_enter Try.func7, Try.ntmps7
    go_wp2_with fail
    with_reducible refine (AW.out _).mono ?_
    rintro e w1 ⟨rfl, b⟩
    have B := hide b
    clear b
    go_wp2
    go_ret
    exact ⟨rfl, B.out⟩
  · obtain ⟨i0, hi, hz0, hz1, hz2⟩ := info_parts Try.infoO
    have i1 : ¬ (200 : Int) < (n : Int) := by omega
    have HR := hide hr
    have OW : Hid (∀ o ∈ l, ObW o) := hr.2.2.1
    have HN : Hid (a = none → cap = 0) := fun e => (h3 e).2
    obtain ⟨k, hk, ek⟩ := place_nat (v := at_) (n := n)
    obtain ⟨t, ht, et⟩ := place_nat (v := turn) (n := n)
    have PK := hide (fun W => place_any at_ ((n : Int) + 1) (by omega) (by omega) W)
    have PT := hide (fun W => place_any turn ((n : Int) + 1) (by omega) (by omega) W)
    rw [ek] at PK
    rw [et] at PT
    -- the four cuts
    have f1 := fun W => slice_toO a n cap k (by omega) W
    have f2 := fun W => slice_fromO a n cap k (by omega) W
    have f3 := fun W => slice_toO a n cap t (by omega) W
    have f4 := fun W => slice_fromO a n cap t (by omega) W
    have N2 := hide (from_nil (m := k) h3 hk)
    have N4 := hide (from_nil (m := t) h3 ht)
    have R1 := hide (fun W (b : Below w.heap.size w W) => (HR.out.to k hk).below b (Nat.le_refl _))
    have R2 := hide (fun W (b : Below w.heap.size w W) => (HR.out.from k hk h2).below b (Nat.le_refl _))
    have R3 := hide (fun W (b : Below w.heap.size w W) => (HR.out.to t ht).below b (Nat.le_refl _))
    have R4 := hide (fun W (b : Below w.heap.size w W) => (HR.out.from t ht h2).below b (Nat.le_refl _))
    obtain ⟨nk, hnk⟩ : ∃ m, Hid (n - k = m) := ⟨_, rfl⟩
    obtain ⟨nt, hnt⟩ : ∃ m, Hid (n - t = m) := ⟨_, rfl⟩
    have NK : Hid (nk ≤ 200 ∧ k ≤ 200) := ⟨by rw [← hnk.out]; omega, by omega⟩
    have NT : Hid (nt ≤ 200 ∧ t ≤ 200) := ⟨by rw [← hnt.out]; omega, by omega⟩
    rw [hnk.out] at f2 R2
    rw [hnt.out] at f4 R4
    generalize (if cap = k then a else a.map (·.add (k * 3))) = a2 at f2 R2 N2
    generalize (if cap = t then a else a.map (·.add (t * 3))) = a4 at f4 R4 N4
    generalize cap - k = c2 at f2 N2
    generalize cap - t = c4 at f4 N4
    -- what comes to what
    have EC := hide (ofP_cut OW.out k)
    have ER := hide (ofP_round OW.out t)
    have O1 : Hid (∀ o ∈ l.take k, ObW o) := fun o ho => OW.out o (List.mem_of_mem_take ho)
    have O2 : Hid (∀ o ∈ l.drop k, ObW o) := fun o ho => OW.out o (List.mem_of_mem_drop ho)
    have O5 : Hid (∀ o ∈ l.drop t ++ l.take t, ObW o) := fun o ho => (List.mem_append.1 ho).elim (fun h => OW.out o (List.mem_of_mem_drop h)) (fun h => OW.out o (List.mem_of_mem_take h))
    have CA := hide (fun a c W (q : RowO W a k (l.take k)) => pof_any a k c _ W q)
    have CB := hide (fun a c W (q : RowO W a nk (l.drop k)) => pof_any a nk c _ W q)
    have CL := hide (fun a c W (q : RowO W a n l) => pof_any a n c _ W q)
    have CM := hide (fun a c W (q : RowO W a (nt + t) (l.drop t ++ l.take t)) => pof_any a (nt + t) c _ W q)
    rw [ER.out] at CM
    have XA := hide (Ok.of O1.out)
    have XB := hide (Ok.of O2.out)
    have SM := hide (fun W h h' (q : SeeP W h (ofP l)) (q' : SeeP W h' (ofP l)) => psame_any h (ofP l) h' (ofP l) W q q')
    rw [show decide (ofP l = ofP l) = true from decide_eq_true rfl] at SM
    generalize ofP l = s at *
    generalize hsA : ofP (l.take k) = sA at *
    generalize hsB : ofP (l.drop k) = sB at *
    have SU := hide (fun W b h h' (r : RowS W (some ⟨b, 0, none⟩) 2 [(h, sB), (h', sA)]) => psum_any (some ⟨b, 0, none⟩) 2 2 _ W r)
    have HSU : Hid (∀ W w' e h h', SummedP W w' e [(h, sB), (h', sA)] → ∃ h2, e = .returned (.tuple #[(Value.agg #[.slice (Hd.a h2) (Hd.n h2) (Hd.c h2), .slice (Hd.k h2) (Hd.m h2) (Hd.d h2), .int .u64 (Gz.n s.g), .int .u64 (Gz.nans s.g), .int .u64 (Gz.lo s.g), .int .u64 (Gz.hi s.g)]), .int .i64 0]) ∧ SeeP w' h2 s ∧ Below W.heap.size W w') := by
      rintro W w' e h h' ⟨b, hm⟩
      rw [if_pos (by simp only [List.all_cons, List.all_nil, XA.out.chk, XB.out.chk]; rfl)] at hm
      have e1 : sumP ([(h, sB), (h', sA)].map (·.2)) = s := EC.out
      rw [e1] at hm
      obtain ⟨h2, rfl, m⟩ := hm
      exact ⟨h2, rfl, m.see, b⟩
    clear hr h1 h3 hbig ek et hk ht hsA hsB EC ER XA XB hnk hnt
    go_enter Try.func7, Try.ntmps7
    go_wp2_with fail
    with_reducible refine (PK.out _).mono ?_
    rintro e w' ⟨rfl, hw⟩
    rw [hw]
    clear hw w' PK
    go_wp2_with (at_builtin; refine wpList_append_obs _ rfl _ _ 22 rfl w.heap.size i0 Try.underlying22 hi hz0 hz1 hz2 none 0 0 [] rfl (ownO_nil _ _) a k cap _ rfl (R1.out _ (Below.refl _ _)) HN.out (by have := NK.out; omega) (Nat.le_refl _) ?_)
    intro a5 c5 w1 o1 b1
    have Q1 := hide (o1.row (by have := NK.out; omega) O1.out)
    have L1 := hide b1
    clear o1 b1 R1 O1 f1
    go_wp2_with fail
    with_reducible refine (CA.out _ _ _ Q1.out).mono ?_
    rintro e w2 ⟨hA, rfl, m2, b2⟩
    have L2 : Hid (Below w.heap.size w w2) := bel_to L1.out (Nat.le_refl _) b2
    have M2 := hide m2.see
    clear m2 b2 L1 Q1 CA
    go_upto_region 5 with fail
    obtain ⟨kA, hkA⟩ : ∃ k, Hid (w2.heap.size = k) := ⟨_, rfl⟩
    have P3 : Hid (Pool w (w2.alloc (.cells #[.slice hA.a hA.n hA.c, .slice hA.k hA.m hA.d, .int .u64 sA.g.n, .int .u64 sA.g.nans, .int .u64 sA.g.lo, .int .u64 sA.g.hi] 30)) [(kA, hA, sA)]) := Pool.push (L := []) ⟨L2.out, (fun x hx => by cases hx), (fun x hx => by cases hx)⟩ M2.out _ hkA.out
    generalize w2.alloc (.cells #[.slice hA.a hA.n hA.c, .slice hA.k hA.m hA.d, .int .u64 sA.g.n, .int .u64 sA.g.nans, .int .u64 sA.g.lo, .int .u64 sA.g.hi] 30) = v3 at P3 ⊢
    rw [hkA.out]
    clear hkA L2 M2
    go_wp2_with (at_builtin; refine wpList_append_obs _ rfl _ _ 22 rfl v3.heap.size i0 Try.underlying22 hi hz0 hz1 hz2 none 0 0 [] rfl (ownO_nil _ _) a2 nk c2 _ rfl (R2.out _ P3.out.low) N2.out (by have := NK.out; omega) (Nat.le_refl _) ?_)
    intro a6 c6 v4 o1 b1
    have Q1 := hide (o1.row (by have := NK.out; omega) O2.out)
    have P4 := hide (P3.out.below b1)
    clear o1 b1 R2 O2 f2 P3
    go_wp2_with fail
    with_reducible refine (CB.out _ _ _ Q1.out).mono ?_
    rintro e v5 ⟨hB, rfl, m2, b2⟩
    have P5 := hide (P4.out.below b2)
    have M5 := hide m2.see
    clear m2 b2 Q1 CB P4
    go_upto_region 6 with fail
    obtain ⟨kB, hkB⟩ : ∃ k, Hid (v5.heap.size = k) := ⟨_, rfl⟩
    have P6 := hide (P5.out.push M5.out 30 hkB.out)
    simp only [List.cons_append, List.nil_append] at P6
    generalize v5.alloc (.cells #[.slice hB.a hB.n hB.c, .slice hB.k hB.m hB.d, .int .u64 sB.g.n, .int .u64 sB.g.nans, .int .u64 sB.g.lo, .int .u64 sB.g.hi] 30) = v6 at P6 ⊢
    rw [hkB.out]
    clear hkB P5 M5
    obtain ⟨c0, c1, e2, c3, e4, e5⟩ := P6.out.at 0 rfl
    obtain ⟨d0, d1, d2, d3, d4, d5⟩ := P6.out.at 1 rfl
    have NB : Hid (RowS (v6.alloc (.cells #[.slice hB.a hB.n hB.c, .slice hB.k hB.m hB.d, .int .u64 sB.g.n, .int .u64 sB.g.nans, .int .u64 sB.g.lo, .int .u64 sB.g.hi, .slice hA.a hA.n hA.c, .slice hA.k hA.m hA.d, .int .u64 sA.g.n, .int .u64 sA.g.nans, .int .u64 sA.g.lo, .int .u64 sA.g.hi] 30)) (some ⟨v6.heap.size, 0, none⟩) 2 [(hB, sB), (hA, sA)]) :=
      rowS_two ((P6.out.sees 1 rfl).alloc _) ((P6.out.sees 0 rfl).alloc _) (fun i v hi => by rw [World.cell?_alloc_mark]; exact hi)
    go_wp2_with fail
    with_reducible refine (SU.out _ _ _ _ NB.out).mono ?_
    intro e v7 hm
    obtain ⟨hS, rfl, q7, b7⟩ := HSU.out _ _ _ _ _ hm
    have L7 : Hid (Below v6.heap.size v6 v7) := bel_to ((Below.refl _ _).alloc (Nat.le_refl _) _) (Nat.le_refl _) b7
    have P7 := hide (P6.out.below L7.out)
    have Q7 := hide q7
    clear hm q7 b7 L7 NB SU HSU c0 c1 e2 c3 e4 e5 d0 d1 d2 d3 d4 d5 P6
    go_upto_region 8 with fail
    obtain ⟨kS, hkS⟩ : ∃ k, Hid (v7.heap.size = k) := ⟨_, rfl⟩
    have P8 := hide (P7.out.push Q7.out 30 hkS.out)
    simp only [List.cons_append, List.nil_append] at P8
    generalize v7.alloc (.cells #[.slice hS.a hS.n hS.c, .slice hS.k hS.m hS.d, .int .u64 s.g.n, .int .u64 s.g.nans, .int .u64 s.g.lo, .int .u64 s.g.hi] 30) = v8 at P8 ⊢
    rw [hkS.out]
    clear hkS P7 Q7
    go_wp2_with fail
    with_reducible refine (PT.out _).mono ?_
    rintro e w' ⟨rfl, hw⟩
    rw [hw]
    clear hw w' PT
    go_upto_region 9 with fail
    have PD := hide P8.out.drew
    have SZ : Hid (v8.drew.heap.size ≤ v8.drew.heap.size) := Nat.le_refl _
    have Z0 := hide (Below.refl v8.drew.heap.size v8.drew)
    go_region_held3 (fun w' => Hid (Below v8.drew.heap.size v8.drew w')) (assumption) (first
      | (refine wp_append_obs0 _ _ 22 rfl v8.drew.heap.size i0 Try.underlying22 hi hz0 hz1 hz2 rfl a4 nt c4 _ rfl (R4.out _ PD.out.low) N4.out (by have := NT.out; omega) SZ.out ?_; intro a9 c9 v9 o9 b9; have O9 := hide o9; have Z1 := hide b9)
      | (refine wp_append_obs _ _ 22 rfl v8.drew.heap.size i0 Try.underlying22 hi hz0 hz1 hz2 _ _ _ _ rfl O9.out a t cap _ rfl (R3.out _ (PD.out.below Z1.out).low) HN.out (by have := NT.out; omega) Z1.out.size ?_; intro a10 c10 v10 o10 b10; have O10 := hide o10; have Z2 := hide (Z1.out.trans b10)))
    have R10 := hide (O10.out.row (by have := NT.out; omega) O5.out)
    have P10 := hide (PD.out.below Z2.out)
    clear o9 b9 O9 Z0 Z1 o10 b10 O10 Z2 SZ PD P8 f3 f4 R3 R4 N4
    go_upto_region 10 with fail
    have PV := hide (pool_one P10.out 2 rfl)
    have S0 : Hid (((World.cell? v10.drew ⟨kS, 0, none⟩ = some (.slice (Hd.a hS) (Hd.n hS) (Hd.c hS))) ∧ (World.cell? v10.drew ⟨kS, 1, none⟩ = some (.slice (Hd.k hS) (Hd.m hS) (Hd.d hS))) ∧ (World.cell? v10.drew ⟨kS, 2, none⟩ = some (.int .u64 (Gz.n s.g))) ∧ (World.cell? v10.drew ⟨kS, 3, none⟩ = some (.int .u64 (Gz.nans s.g))) ∧ (World.cell? v10.drew ⟨kS, 4, none⟩ = some (.int .u64 (Gz.lo s.g))) ∧ (World.cell? v10.drew ⟨kS, 5, none⟩ = some (.int .u64 (Gz.hi s.g)))) ∧ Hid (Pool v10 v10.drew [(kS, hS, s)])) := ⟨PV.out.at 0 rfl, PV⟩
    have RL := hide (HR.out.below (P10.out.drew).low (Nat.le_refl _))
    have SZ : Hid (v10.drew.heap.size ≤ v10.drew.heap.size) := Nat.le_refl _
    go_region_held3 (fun w' => ((World.cell? w' ⟨kS, 0, none⟩ = some (.slice (Hd.a hS) (Hd.n hS) (Hd.c hS))) ∧ (World.cell? w' ⟨kS, 1, none⟩ = some (.slice (Hd.k hS) (Hd.m hS) (Hd.d hS))) ∧ (World.cell? w' ⟨kS, 2, none⟩ = some (.int .u64 (Gz.n s.g))) ∧ (World.cell? w' ⟨kS, 3, none⟩ = some (.int .u64 (Gz.nans s.g))) ∧ (World.cell? w' ⟨kS, 4, none⟩ = some (.int .u64 (Gz.lo s.g))) ∧ (World.cell? w' ⟨kS, 5, none⟩ = some (.int .u64 (Gz.hi s.g)))) ∧ Hid (Pool v10 w' [(kS, hS, s)])) (first | with_reducible exact S0.out | with_reducible exact keep1 (by assumption) (by assumption)) (first
      | (refine wp_append_obs0 _ _ 22 rfl v10.drew.heap.size i0 Try.underlying22 hi hz0 hz1 hz2 rfl a n cap _ rfl RL.out HN.out (by omega) SZ.out ?_; intro a11 c11 u0 o11 b11; have Q11 := hide (o11.row (by omega) OW.out); have T0 := hide (PV.out.below b11))
      | (go_at_call 9; with_reducible refine (CL.out _ _ _ Q11.out).mono ?_; rintro e u1 ⟨h5, rfl, m5, b5⟩; have Q5 := hide m5.see; have T1 := hide (T0.out.below b5))
      | (go_at_call 17; with_reducible refine (SM.out _ _ _ (T1.out.sees 0 rfl) Q5.out).mono ?_; rintro e u2 ⟨rfl, b6⟩; have T2 := hide (T1.out.below b6); have R12 := hide (R10.out.below T2.out.low (Nat.le_refl _)))
      | (go_at_call 9; with_reducible refine (CM.out _ _ _ R12.out).mono ?_; rintro e u3 ⟨h6, rfl, m6, b7⟩; have Q6 := hide m6.see; have T3 := hide (T2.out.below b7))
      | (go_at_call 17; with_reducible refine (SM.out _ _ _ (T3.out.sees 0 rfl) Q6.out).mono ?_; rintro e u4 ⟨rfl, b8⟩; have T4 := hide (T3.out.below b8))
      | (go_at_call 8; with_reducible refine (AW.out _).mono ?_; rintro e u5 ⟨rfl, b9⟩; have T5 := hide (T4.out.below b9)))
    have LF := hide (bel_to P10.out.low (Nat.le_refl _) T5.out.low)
    go_wp2
    go_ret
    exact ⟨rfl, LF.out⟩
end Go.Proofs.Ytadcaonkmncgoaa
