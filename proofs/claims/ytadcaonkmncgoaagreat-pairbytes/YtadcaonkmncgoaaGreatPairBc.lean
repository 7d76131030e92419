/-
  The law of a sketch's bytes: what was put is the document's bytes, and comes back; any bytes are read as the document reads them.
  Conditions: the arguments came in.
-/
import Derived.Test.YtadcaonkmncgoaaGreatPairBb
import Derived.Test.YtadcaonkmncgoaaGreatPairD
import Derived.Test.YtadcaonkmncgoaaGreatBytB
import Derived.Test.YtadcaonkmncgoaaGreatVintR
import Derived.Laws.Concat
import Derived.Deep.RegionWith
import Derived.Deep.DrawnRows
import Derived.Deep.DeepCutAuto
namespace Go.Proofs.YtadcaonkmncgoaaGreat
open Go.RowKit
set_option maxRecDepth 20000

theorem keepB1 {w v v' : World} {k0 : Nat} {h0 : Hd} {s0 : Sp} (hb : Below v.heap.size v v')
    (q : ((World.cell? v ⟨k0, 0, none⟩ = some (.slice (Hd.a h0) (Hd.n h0) (Hd.c h0))) ∧ (World.cell? v ⟨k0, 1, none⟩ = some (.slice (Hd.k h0) (Hd.m h0) (Hd.d h0))) ∧ (World.cell? v ⟨k0, 2, none⟩ = some (.int .u64 (Gz.n s0.g))) ∧ (World.cell? v ⟨k0, 3, none⟩ = some (.int .u64 (Gz.nans s0.g))) ∧ (World.cell? v ⟨k0, 4, none⟩ = some (.int .u64 (Gz.lo s0.g))) ∧ (World.cell? v ⟨k0, 5, none⟩ = some (.int .u64 (Gz.hi s0.g)))) ∧ Hid (Pool w v [(k0, h0, s0)])) :
    ((World.cell? v' ⟨k0, 0, none⟩ = some (.slice (Hd.a h0) (Hd.n h0) (Hd.c h0))) ∧ (World.cell? v' ⟨k0, 1, none⟩ = some (.slice (Hd.k h0) (Hd.m h0) (Hd.d h0))) ∧ (World.cell? v' ⟨k0, 2, none⟩ = some (.int .u64 (Gz.n s0.g))) ∧ (World.cell? v' ⟨k0, 3, none⟩ = some (.int .u64 (Gz.nans s0.g))) ∧ (World.cell? v' ⟨k0, 4, none⟩ = some (.int .u64 (Gz.lo s0.g))) ∧ (World.cell? v' ⟨k0, 5, none⟩ = some (.int .u64 (Gz.hi s0.g)))) ∧ Hid (Pool w v' [(k0, h0, s0)]) := by
  have p := q.2.out.below hb
  exact ⟨p.at 0 rfl, p⟩

/-- A change to what is newer leaves a pool. -/
theorem pool_ch {w W X : World} {L : List (Nat × Hd × Sp)} {g : Nat} {o : Obj} (p : Pool w W L) (c : Ch (fun k => k = g) (W.alloc o) X) (hg : ∀ k, k = g → W.heap.size ≤ k) : Pool w X L :=
  p.below ⟨c.os, c.tape, c.output, Nat.le_trans (by rw [size_al]; omega) c.size, fun k hk => (c.block k (by rw [size_al]; omega) (fun e => by have := hg k e; omega)).trans (Below.heap_alloc W o k hk)⟩

set_option maxRecDepth 100000 in
set_option maxHeartbeats 16000000 in
theorem bytesP_of (h : Hd) (s : Sp) (a : Option Addr) (n cap : Nat) (bs : List Int) (p : Int) (w : World) (q0 : SeeP w h s) (hcap : n ≤ cap) (hn47 : n ≤ 140737488351232) (hnil : a = none → cap = 0) (hr : Row .u8 w a n bs) (w2 : (Lit.int .i64 p).wf = true) :
    Calls Tryz.prog 3 #[(Value.agg #[.slice (Hd.a h) (Hd.n h) (Hd.c h), .slice (Hd.k h) (Hd.m h) (Hd.d h), .int .u64 (Gz.n s.g), .int .u64 (Gz.nans s.g), .int .u64 (Gz.lo s.g), .int .u64 (Gz.hi s.g)]), .slice a n cap, .int .i64 p] w fun e w' => e = .returned (.bool true) ∧ Below w.heap.size w w' := by
  have HZ : Hid (Bytes8 bs) := hr.bytes
  have R := hide hr
  have HL := hide hr.1
  have HN := hide hnil
  have AW := hide (fun W (bl : Below w.heap.size w W) => (awakeP_any paO paE W).mono (fun e W' (h : e = .returned (.bool true) ∧ Below W.heap.size W W') => (⟨h.1, bl.trans (h.2.mono bl.size)⟩ : e = .returned (.bool true) ∧ Below w.heap.size w W')))
  obtain ⟨k0, hk0⟩ : ∃ k, Hid (w.heap.size = k) := ⟨_, rfl⟩
  have P0 := hide ((pool_nil w).push q0 28 hk0.out)
  simp only [List.nil_append] at P0
  have CK := hide (fun W (q : SeeP W h s) => refpchk_any h s W q)
  have OKP := hide (fun c => ok_of (s := s) q0 c)
  clear q0 hr hnil
  go_enter Tryz.func3, Tryz.ntmps3
  go_upto_region 1 with fail
  generalize w.alloc (.cells #[.slice h.a h.n h.c, .slice h.k h.m h.d, .int .u64 s.g.n, .int .u64 s.g.nans, .int .u64 s.g.lo, .int .u64 s.g.hi] 28) = v0 at P0 ⊢
  rw [hk0.out]
  clear hk0
  obtain ⟨c0, c1, c2, c3, c4, c5⟩ := P0.out.at 0 rfl
  go_wp2_with fail
  with_reducible refine (CK.out _ (P0.out.sees 0 rfl)).mono ?_
  rintro e v1 ⟨rfl, b⟩
  have P1 := hide (P0.out.below b)
  clear b c0 c1 c2 c3 c4 c5 P0 CK
  go_upto_if 17 with fail
  go_cut [7] (fun _ wx => Hid (Below w.heap.size w wx))
  case first =>
    have K1 : Hid (Below w.heap.size w v1) := P1.out.low
    by_cases hck : chkP s = true
    · rw [hck]
      have ok := OKP.out hck
      have OK := hide ok
      have hP := putP_len ok
      have HV := hide (putP_byte ok)
      have BX : Hid (Bytes8 (bs ++ putP s)) := Bytes8.append HZ.out HV.out
      obtain ⟨NL, HNL⟩ : ∃ NL, Hid (n + (putP s).length = NL) := ⟨_, rfl⟩
      have hNL := HNL.out
      have hNLs : NL ≤ 140737488455328 := by omega
      have C1 := hide (fun W (x : Row .u8 W a n bs) => bytes_any a n cap bs W x HN.out (by omega))
      have C2 := hide (fun W (x : SeeP W h s) => sketch_any h s W x)
      have C3 := hide (fun W a1 c1 h2 (x : Row .u8 W a1 n bs) (y : SeeP W h2 s) => pput_any a1 n c1 bs h2 s W x (by omega) y OK.out)
      rw [HNL.out] at C3
      have BE : Hid (getP (bs ++ putP s) (n : Int) = some (s, (NL : Int))) := by
        have e := getP_back ok bs
        rw [HL.out, HNL.out] at e
        exact e
      have PP := hide (fun W (x : SeeP W h s) => refpput_any h s W x OK.out)
      have SM := hide (fun W g g' (x : SeeP W g s) (y : SeeP W g' s) => refpsame_any g s g' s W x y)
      rw [show decide (s = s) = true from decide_eq_true rfl] at SM
      clear ok OK hck hNL
      have PD := hide P1.out.drew
      have S0 : Hid (((World.cell? v1.drew ⟨k0, 0, none⟩ = some (.slice (Hd.a h) (Hd.n h) (Hd.c h))) ∧ (World.cell? v1.drew ⟨k0, 1, none⟩ = some (.slice (Hd.k h) (Hd.m h) (Hd.d h))) ∧ (World.cell? v1.drew ⟨k0, 2, none⟩ = some (.int .u64 (Gz.n s.g))) ∧ (World.cell? v1.drew ⟨k0, 3, none⟩ = some (.int .u64 (Gz.nans s.g))) ∧ (World.cell? v1.drew ⟨k0, 4, none⟩ = some (.int .u64 (Gz.lo s.g))) ∧ (World.cell? v1.drew ⟨k0, 5, none⟩ = some (.int .u64 (Gz.hi s.g)))) ∧ Hid (Pool w v1.drew [(k0, h, s)])) := ⟨PD.out.at 0 rfl, PD⟩
      have R1 := hide (R.out.below PD.out.low (Nat.le_refl _))
      go_upto_region 2 with fail
      go_region_held3 (fun w' => ((World.cell? w' ⟨k0, 0, none⟩ = some (.slice (Hd.a h) (Hd.n h) (Hd.c h))) ∧ (World.cell? w' ⟨k0, 1, none⟩ = some (.slice (Hd.k h) (Hd.m h) (Hd.d h))) ∧ (World.cell? w' ⟨k0, 2, none⟩ = some (.int .u64 (Gz.n s.g))) ∧ (World.cell? w' ⟨k0, 3, none⟩ = some (.int .u64 (Gz.nans s.g))) ∧ (World.cell? w' ⟨k0, 4, none⟩ = some (.int .u64 (Gz.lo s.g))) ∧ (World.cell? w' ⟨k0, 5, none⟩ = some (.int .u64 (Gz.hi s.g)))) ∧ Hid (Pool w w' [(k0, h, s)])) (first | with_reducible exact S0.out | with_reducible exact keepB1 (by assumption) (by assumption)) (first
        | (go_at_call 6; with_reducible refine (C1.out _ R1.out).mono ?_; rintro e u1 ⟨a1, e1, rfl, o1, b1⟩; have O1 := hide (o1.row (by omega) (fits_wf HZ.out)); have T1 := hide (PD.out.below b1))
        | (go_at_call 7; with_reducible refine (C2.out _ (T1.out.sees 0 rfl)).mono ?_; rintro e u2 ⟨h2, rfl, m2, b2⟩; have O2 := hide (O1.out.below b2 (Nat.le_refl _)); have Q2 := hide m2.see; have T2 := hide (T1.out.below b2))
        | (go_at_call 5; with_reducible refine (C3.out _ _ _ _ O2.out Q2.out).mono ?_; rintro e u3 ⟨a3, e3, rfl, o3, b3⟩; have O3 := hide o3; have T3 := hide (T2.out.below b3)))
      have p3 := O3.out.capped.1
      have R3 := hide (O3.out.row (by omega) (fits_wf BX.out))
      clear o1 b1 m2 b2 o3 b3 O1 O2 O3 Q2 T1 T2 S0 PD R1 C1 C2 C3 P1 K1
      have G1 := hide (pget_any (n : Int) a3 NL e3 (bs ++ putP s) u3 (i64_wf (by omega) (by omega)) p3 R3.out)
      rw [BE.out] at G1
      simp only [GotS] at G1
      clear BE
      go_wp2_with fail
      with_reducible refine G1.out.mono ?_
      rintro e u4 ⟨⟨h8, rfl, q8⟩, b4⟩
      have T4 := hide (T3.out.below b4)
      have Q8 := hide q8
      have R4 := hide (R3.out.below b4 (Nat.le_refl _))
      clear b4 q8 G1 T3 R3
      go_upto_region 4 with fail
      obtain ⟨k8, hk8⟩ : ∃ k, Hid (u4.heap.size = k) := ⟨_, rfl⟩
      have P5 := hide (T4.out.push Q8.out 28 hk8.out)
      simp only [List.cons_append, List.nil_append] at P5
      have R5 := hide (R4.out.alloc (.cells #[.slice h8.a h8.n h8.c, .slice h8.k h8.m h8.d, .int .u64 s.g.n, .int .u64 s.g.nans, .int .u64 s.g.lo, .int .u64 s.g.hi] 28))
      generalize u4.alloc (.cells #[.slice h8.a h8.n h8.c, .slice h8.k h8.m h8.d, .int .u64 s.g.n, .int .u64 s.g.nans, .int .u64 s.g.lo, .int .u64 s.g.hi] 28) = x6 at P5 R5 ⊢
      rw [hk8.out]
      clear hk8 T4 Q8 R4
      have RB6 := hide (R.out.below P5.out.low (Nat.le_refl _))
      have F1 := hide (fun w' (x : Row .u8 w' a3 NL (bs ++ putP s)) => row_string (cap := e3) x)
      have F2 := hide (fun w' (x : Row .u8 w' a n bs) => row_string (cap := cap) x)
      have F3 := hide (fun w' base a' c' (x : Mine w' base a' (putP s).length c' (putP s)) => row_string (cap := c') (x.row (by omega) (fits_wf HV.out)))
      have hadd := add_str bs (putP s) (by rw [HL.out]; omega)
      generalize strOfNums (bs ++ putP s) = X at F1 hadd
      generalize strOfNums bs = X1 at F2 hadd
      generalize strOfNums (putP s) = X2 at F3 hadd
      obtain ⟨L, HLL⟩ : ∃ L, Hid ((putP s).length = L) := ⟨_, rfl⟩
      rw [HLL.out] at PP F3
      have tq : ((NL : Int) != (NL : Int)) = false := by simp
      clear hP
      have PE := hide P5.out.drew
      refine wp_region_held_drew (S := fun w' => (convert 29 9 (.slice a3 NL e3)).run Tryz.prog w' = .ok (.string X) w' ∧ (convert 29 9 (.slice a n cap)).run Tryz.prog w' = .ok (.string X1) w' ∧ ((World.cell? w' ⟨k0, 0, none⟩ = some (.slice (Hd.a h) (Hd.n h) (Hd.c h))) ∧ (World.cell? w' ⟨k0, 1, none⟩ = some (.slice (Hd.k h) (Hd.m h) (Hd.d h))) ∧ (World.cell? w' ⟨k0, 2, none⟩ = some (.int .u64 (Gz.n s.g))) ∧ (World.cell? w' ⟨k0, 3, none⟩ = some (.int .u64 (Gz.nans s.g))) ∧ (World.cell? w' ⟨k0, 4, none⟩ = some (.int .u64 (Gz.lo s.g))) ∧ (World.cell? w' ⟨k0, 5, none⟩ = some (.int .u64 (Gz.hi s.g)))) ∧ ((World.cell? w' ⟨k8, 0, none⟩ = some (.slice (Hd.a h8) (Hd.n h8) (Hd.c h8))) ∧ (World.cell? w' ⟨k8, 1, none⟩ = some (.slice (Hd.k h8) (Hd.m h8) (Hd.d h8))) ∧ (World.cell? w' ⟨k8, 2, none⟩ = some (.int .u64 (Gz.n s.g))) ∧ (World.cell? w' ⟨k8, 3, none⟩ = some (.int .u64 (Gz.nans s.g))) ∧ (World.cell? w' ⟨k8, 4, none⟩ = some (.int .u64 (Gz.lo s.g))) ∧ (World.cell? w' ⟨k8, 5, none⟩ = some (.int .u64 (Gz.hi s.g))))) (by kernel_rfl) ⟨F1.out _ R5.out.drew, F2.out _ RB6.out.drew, PE.out.at 0 rfl, PE.out.at 1 rfl⟩ (fun hHeld => ?_)
      refine held_take (i := 0) (d := (some 31)) (v := ?_) rfl rfl (by kernel_rfl) (by kernel_rfl) (by kernel_rfl) (fun _ _ _ h => h) (Or.inl ⟨by rfl, ?_⟩) (by first | assumption | rfl | trivial) ?_
      rotate_left 1
      · (intro w hSw; (try dsimp only at hSw); (try subst hSw); go_simp; try with_reducible rfl)
      simp only [Act.put, List.setIfInBounds_toArray, List.set_cons_zero, List.set_cons_succ]
      refine held_take (i := 1) (d := (some 32)) (v := ?_) rfl rfl (by kernel_rfl) (by kernel_rfl) (by kernel_rfl) (fun _ _ _ h => h) (Or.inl ⟨by rfl, ?_⟩) (by first | assumption | rfl | trivial) ?_
      rotate_left 1
      · (intro w hSw; (try dsimp only at hSw); (try subst hSw); go_simp; try with_reducible rfl)
      simp only [Act.put, List.setIfInBounds_toArray, List.set_cons_zero, List.set_cons_succ]
      refine held_take (i := 2) (d := (some 33)) (v := ?_) rfl rfl (by kernel_rfl) (by kernel_rfl) (by kernel_rfl) (fun _ _ _ h => h) (Or.inl ⟨by rfl, ?_⟩) (by first | assumption | rfl | trivial) ?_
      rotate_left 1
      · (intro w hSw; (try dsimp only at hSw); (try subst hSw); go_simp; try with_reducible rfl)
      simp only [Act.put, List.setIfInBounds_toArray, List.set_cons_zero, List.set_cons_succ]
      refine held_take (i := 3) (d := (some 34)) (v := ?_) rfl rfl (by kernel_rfl) (by kernel_rfl) (by kernel_rfl) (fun _ _ _ h => h) (Or.inl ⟨by rfl, ?_⟩) (by first | assumption | rfl | trivial) ?_
      rotate_left 1
      · (intro w hSw; (try dsimp only at hSw); (try subst hSw); go_simp; try with_reducible rfl)
      simp only [Act.put, List.setIfInBounds_toArray, List.set_cons_zero, List.set_cons_succ]
      refine held_take (i := 4) (d := (some 35)) (v := ?_) rfl rfl (by kernel_rfl) (by kernel_rfl) (by kernel_rfl) (fun _ _ _ h => h) (Or.inl ⟨by rfl, ?_⟩) (by first | assumption | rfl | trivial) ?_
      rotate_left 1
      · (intro w hSw; (try dsimp only at hSw); (try subst hSw); go_simp; try with_reducible rfl)
      simp only [Act.put, List.setIfInBounds_toArray, List.set_cons_zero, List.set_cons_succ]
      refine held_call2 (i := 5) (by kernel_rfl) rfl (by rfl) (fun K hK => ?_)
      go_simp
      with_reducible refine (PP.out _ (PE.out.sees 0 rfl)).mono ?_
      rintro e x7 ⟨a7, e7, rfl, o7, k7⟩
      have R7 := hide (R5.out.drew.below k7 (Nat.le_refl _))
      have RB7 := hide (RB6.out.drew.below k7 (Nat.le_refl _))
      have P7 := hide (PE.out.below k7)
      have hS7 : (convert 29 9 (.slice a3 NL e3)).run Tryz.prog x7 = .ok (.string X) x7 ∧ (convert 29 9 (.slice a n cap)).run Tryz.prog x7 = .ok (.string X1) x7 ∧ ((World.cell? x7 ⟨k0, 0, none⟩ = some (.slice (Hd.a h) (Hd.n h) (Hd.c h))) ∧ (World.cell? x7 ⟨k0, 1, none⟩ = some (.slice (Hd.k h) (Hd.m h) (Hd.d h))) ∧ (World.cell? x7 ⟨k0, 2, none⟩ = some (.int .u64 (Gz.n s.g))) ∧ (World.cell? x7 ⟨k0, 3, none⟩ = some (.int .u64 (Gz.nans s.g))) ∧ (World.cell? x7 ⟨k0, 4, none⟩ = some (.int .u64 (Gz.lo s.g))) ∧ (World.cell? x7 ⟨k0, 5, none⟩ = some (.int .u64 (Gz.hi s.g)))) ∧ ((World.cell? x7 ⟨k8, 0, none⟩ = some (.slice (Hd.a h8) (Hd.n h8) (Hd.c h8))) ∧ (World.cell? x7 ⟨k8, 1, none⟩ = some (.slice (Hd.k h8) (Hd.m h8) (Hd.d h8))) ∧ (World.cell? x7 ⟨k8, 2, none⟩ = some (.int .u64 (Gz.n s.g))) ∧ (World.cell? x7 ⟨k8, 3, none⟩ = some (.int .u64 (Gz.nans s.g))) ∧ (World.cell? x7 ⟨k8, 4, none⟩ = some (.int .u64 (Gz.lo s.g))) ∧ (World.cell? x7 ⟨k8, 5, none⟩ = some (.int .u64 (Gz.hi s.g)))) ∧ (convert 29 9 (.slice a7 L e7)).run Tryz.prog x7 = .ok (.string X2) x7 := ⟨F1.out _ R7.out, F2.out _ RB7.out, P7.out.at 0 rfl, P7.out.at 1 rfl, F3.out _ _ _ _ o7⟩
      have O7 := hide o7
      clear o7 k7 PP hHeld R5 RB6 P5 PE
      go_wp2_with fail
      refine hK.out (fun w' => (convert 29 9 (.slice a3 NL e3)).run Tryz.prog w' = .ok (.string X) w' ∧ (convert 29 9 (.slice a n cap)).run Tryz.prog w' = .ok (.string X1) w' ∧ ((World.cell? w' ⟨k0, 0, none⟩ = some (.slice (Hd.a h) (Hd.n h) (Hd.c h))) ∧ (World.cell? w' ⟨k0, 1, none⟩ = some (.slice (Hd.k h) (Hd.m h) (Hd.d h))) ∧ (World.cell? w' ⟨k0, 2, none⟩ = some (.int .u64 (Gz.n s.g))) ∧ (World.cell? w' ⟨k0, 3, none⟩ = some (.int .u64 (Gz.nans s.g))) ∧ (World.cell? w' ⟨k0, 4, none⟩ = some (.int .u64 (Gz.lo s.g))) ∧ (World.cell? w' ⟨k0, 5, none⟩ = some (.int .u64 (Gz.hi s.g)))) ∧ ((World.cell? w' ⟨k8, 0, none⟩ = some (.slice (Hd.a h8) (Hd.n h8) (Hd.c h8))) ∧ (World.cell? w' ⟨k8, 1, none⟩ = some (.slice (Hd.k h8) (Hd.m h8) (Hd.d h8))) ∧ (World.cell? w' ⟨k8, 2, none⟩ = some (.int .u64 (Gz.n s.g))) ∧ (World.cell? w' ⟨k8, 3, none⟩ = some (.int .u64 (Gz.nans s.g))) ∧ (World.cell? w' ⟨k8, 4, none⟩ = some (.int .u64 (Gz.lo s.g))) ∧ (World.cell? w' ⟨k8, 5, none⟩ = some (.int .u64 (Gz.hi s.g)))) ∧ (convert 29 9 (.slice a7 L e7)).run Tryz.prog w' = .ok (.string X2) w') _ _ (fun _ h => ⟨h.1, h.2.1, h.2.2.1, h.2.2.2.1⟩) hS7 ?_
      clear hK
      refine held_take (i := 6) (d := (some 37)) (v := ?_) rfl rfl (by kernel_rfl) (by kernel_rfl) (by kernel_rfl) (fun _ _ _ h => h) (Or.inl ⟨by rfl, ?_⟩) (by first | assumption | rfl | trivial) ?_
      rotate_left 1
      · (intro w hSw; (try dsimp only at hSw); (try subst hSw); go_simp; try with_reducible rfl)
      simp only [Act.put, List.setIfInBounds_toArray, List.set_cons_zero, List.set_cons_succ]
      refine held_take (i := 7) (d := (some 38)) (v := ?_) rfl rfl (by kernel_rfl) (by kernel_rfl) (by kernel_rfl) (fun _ _ _ h => h) (Or.inl ⟨by rfl, ?_⟩) (by first | assumption | rfl | trivial) ?_
      rotate_left 1
      · (intro w hSw; (try dsimp only at hSw); (try subst hSw); go_simp; try with_reducible rfl)
      simp only [Act.put, List.setIfInBounds_toArray, List.set_cons_zero, List.set_cons_succ]
      refine held_take (i := 8) (d := (some 39)) (v := ?_) rfl rfl (by kernel_rfl) (by kernel_rfl) (by kernel_rfl) (fun _ _ _ h => h) (Or.inl ⟨by rfl, ?_⟩) (by first | assumption | rfl | trivial) ?_
      rotate_left 1
      · (intro w hSw; (try dsimp only at hSw); (try subst hSw); go_simp; try with_reducible rfl)
      simp only [Act.put, List.setIfInBounds_toArray, List.set_cons_zero, List.set_cons_succ]
      refine held_take (i := 9) (d := (some 40)) (v := ?_) rfl rfl (by kernel_rfl) (by kernel_rfl) (by kernel_rfl) (fun _ _ _ h => h) (Or.inl ⟨by rfl, ?_⟩) (by first | assumption | rfl | trivial) ?_
      rotate_left 1
      · (intro w hSw; (try dsimp only at hSw); (try subst hSw); go_simp; try with_reducible rfl)
      simp only [Act.put, List.setIfInBounds_toArray, List.set_cons_zero, List.set_cons_succ]
      refine held_take (i := 10) (d := (some 41)) (v := ?_) rfl rfl (by kernel_rfl) (by kernel_rfl) (by kernel_rfl) (fun _ _ _ h => h) (Or.inl ⟨by rfl, ?_⟩) (by first | assumption | rfl | trivial) ?_
      rotate_left 1
      · (intro w hSw; (try dsimp only at hSw); (try subst hSw); go_simp; try with_reducible rfl)
      simp only [Act.put, List.setIfInBounds_toArray, List.set_cons_zero, List.set_cons_succ]
      refine held_take (i := 11) (d := (some 42)) (v := ?_) rfl rfl (by kernel_rfl) (by kernel_rfl) (by kernel_rfl) (fun _ _ _ h => h) (Or.inl ⟨by rfl, ?_⟩) (by first | assumption | rfl | trivial) ?_
      rotate_left 1
      · (intro w hSw; (try dsimp only at hSw); (try subst hSw); go_simp; try with_reducible rfl)
      simp only [Act.put, List.setIfInBounds_toArray, List.set_cons_zero, List.set_cons_succ]
      refine held_next (i := 12) (by kernel_rfl) rfl (by rfl) (fun K hK => ?_)
      go_simp
      with_reducible refine (SM.out _ _ _ (P7.out.sees 1 rfl) (P7.out.sees 0 rfl)).mono ?_
      rintro e x8 ⟨rfl, k8'⟩
      have P8 := hide (P7.out.below k8')
      have hS8 : (convert 29 9 (.slice a3 NL e3)).run Tryz.prog x8 = .ok (.string X) x8 ∧ (convert 29 9 (.slice a n cap)).run Tryz.prog x8 = .ok (.string X1) x8 ∧ ((World.cell? x8 ⟨k0, 0, none⟩ = some (.slice (Hd.a h) (Hd.n h) (Hd.c h))) ∧ (World.cell? x8 ⟨k0, 1, none⟩ = some (.slice (Hd.k h) (Hd.m h) (Hd.d h))) ∧ (World.cell? x8 ⟨k0, 2, none⟩ = some (.int .u64 (Gz.n s.g))) ∧ (World.cell? x8 ⟨k0, 3, none⟩ = some (.int .u64 (Gz.nans s.g))) ∧ (World.cell? x8 ⟨k0, 4, none⟩ = some (.int .u64 (Gz.lo s.g))) ∧ (World.cell? x8 ⟨k0, 5, none⟩ = some (.int .u64 (Gz.hi s.g)))) ∧ ((World.cell? x8 ⟨k8, 0, none⟩ = some (.slice (Hd.a h8) (Hd.n h8) (Hd.c h8))) ∧ (World.cell? x8 ⟨k8, 1, none⟩ = some (.slice (Hd.k h8) (Hd.m h8) (Hd.d h8))) ∧ (World.cell? x8 ⟨k8, 2, none⟩ = some (.int .u64 (Gz.n s.g))) ∧ (World.cell? x8 ⟨k8, 3, none⟩ = some (.int .u64 (Gz.nans s.g))) ∧ (World.cell? x8 ⟨k8, 4, none⟩ = some (.int .u64 (Gz.lo s.g))) ∧ (World.cell? x8 ⟨k8, 5, none⟩ = some (.int .u64 (Gz.hi s.g)))) ∧ (convert 29 9 (.slice a7 L e7)).run Tryz.prog x8 = .ok (.string X2) x8 := ⟨F1.out _ (R7.out.below k8' (Nat.le_refl _)), F2.out _ (RB7.out.below k8' (Nat.le_refl _)), P8.out.at 0 rfl, P8.out.at 1 rfl, F3.out _ _ _ _ (O7.out.below k8' (Nat.le_refl _))⟩
      clear hS7
      go_wp2_with fail
      refine hK.out _ _ hS8 ?_
      have K8 : Hid (Below w.heap.size w x8) := P8.out.low
      clear hK k8' SM hadd P7 P8 R7 RB7 O7
      refine held_take (i := 13) (d := (some 44)) (v := ?_) rfl rfl (by kernel_rfl) (by kernel_rfl) (by kernel_rfl) (fun _ _ _ h => h) (Or.inl ⟨by rfl, ?_⟩) (by first | assumption | rfl | trivial) ?_
      rotate_left 1
      · (intro w hSw; (try dsimp only at hSw); (try subst hSw); go_simp; try with_reducible rfl)
      simp only [Act.put, List.setIfInBounds_toArray, List.set_cons_zero, List.set_cons_succ]
      refine held_take (i := 14) (d := (some 45)) (v := ?_) rfl rfl (by kernel_rfl) (by kernel_rfl) (by kernel_rfl) (fun _ _ _ h => h) (Or.inl ⟨by rfl, ?_⟩) (by first | assumption | rfl | trivial) ?_
      rotate_left 1
      · (intro w hSw; (try dsimp only at hSw); (try subst hSw); go_simp; try with_reducible rfl)
      simp only [Act.put, List.setIfInBounds_toArray, List.set_cons_zero, List.set_cons_succ]
      refine held_take (i := 15) (d := (some 46)) (v := ?_) rfl rfl (by kernel_rfl) (by kernel_rfl) (by kernel_rfl) (fun _ _ _ h => h) (Or.inl ⟨by rfl, ?_⟩) (by first | assumption | rfl | trivial) ?_
      rotate_left 1
      · (intro w hSw; (try dsimp only at hSw); (try subst hSw); go_simp; try with_reducible rfl)
      simp only [Act.put, List.setIfInBounds_toArray, List.set_cons_zero, List.set_cons_succ]
      refine held_take (i := 16) (d := (some 47)) (v := ?_) rfl rfl (by kernel_rfl) (by kernel_rfl) (by kernel_rfl) (fun _ _ _ h => h) (Or.inl ⟨by rfl, ?_⟩) (by first | assumption | rfl | trivial) ?_
      rotate_left 1
      · (intro w hSw; (try dsimp only at hSw); (try subst hSw); go_simp; try with_reducible rfl)
      simp only [Act.put, List.setIfInBounds_toArray, List.set_cons_zero, List.set_cons_succ]
      refine held_take (i := 17) (d := (some 48)) (v := ?_) rfl rfl (by kernel_rfl) (by kernel_rfl) (by kernel_rfl) (fun _ _ _ h => h) (Or.inl ⟨by rfl, ?_⟩) (by first | assumption | rfl | trivial) ?_
      rotate_left 1
      · (intro w hSw; (try dsimp only at hSw); (try subst hSw); go_simp; try with_reducible rfl)
      simp only [Act.put, List.setIfInBounds_toArray, List.set_cons_zero, List.set_cons_succ]
      refine held_take (i := 18) (d := (some 49)) (v := ?_) rfl rfl (by kernel_rfl) (by kernel_rfl) (by kernel_rfl) (fun _ _ _ h => h) (Or.inl ⟨by rfl, ?_⟩) (by first | assumption | rfl | trivial) ?_
      rotate_left 1
      · (intro w hSw; (try dsimp only at hSw); (try subst hSw); go_simp; try with_reducible rfl)
      simp only [Act.put, List.setIfInBounds_toArray, List.set_cons_zero, List.set_cons_succ]
      refine held_take (i := 19) (d := (some 50)) (v := ?_) rfl rfl (by kernel_rfl) (by kernel_rfl) (by kernel_rfl) (fun _ _ _ h => h) (Or.inl ⟨by rfl, ?_⟩) (by first | assumption | rfl | trivial) ?_
      rotate_left 1
      · (intro w hSw; (try dsimp only at hSw); (try subst hSw); go_simp; try with_reducible rfl)
      simp only [Act.put, List.setIfInBounds_toArray, List.set_cons_zero, List.set_cons_succ]
      refine held_take (i := 20) (d := (some 51)) (v := ?_) rfl rfl (by kernel_rfl) (by kernel_rfl) (by kernel_rfl) (fun _ _ _ h => h) (Or.inl ⟨by rfl, ?_⟩) (by first | assumption | rfl | trivial) ?_
      rotate_left 1
      · (intro w hSw; (try dsimp only at hSw); (try subst hSw); go_simp; try with_reducible rfl)
      simp only [Act.put, List.setIfInBounds_toArray, List.set_cons_zero, List.set_cons_succ]
      refine held_take (i := 21) (d := (some 52)) (v := ?_) rfl rfl (by kernel_rfl) (by kernel_rfl) (by kernel_rfl) (fun _ _ _ h => h) (Or.inl ⟨by rfl, ?_⟩) (by first | assumption | rfl | trivial) ?_
      rotate_left 1
      · (intro w hSw; (try dsimp only at hSw); (try subst hSw); go_simp; try with_reducible rfl)
      simp only [Act.put, List.setIfInBounds_toArray, List.set_cons_zero, List.set_cons_succ]
      refine held_take (i := 22) (d := (some 53)) (v := ?_) rfl rfl (by kernel_rfl) (by kernel_rfl) (by kernel_rfl) (fun _ _ _ h => h) (Or.inl ⟨by rfl, ?_⟩) (by first | assumption | rfl | trivial) ?_
      rotate_left 1
      · (intro w hSw; (try dsimp only at hSw); (try subst hSw); go_simp; try with_reducible rfl)
      simp only [Act.put, List.setIfInBounds_toArray, List.set_cons_zero, List.set_cons_succ]
      refine held_take (i := 23) (d := (some 54)) (v := ?_) rfl rfl (by kernel_rfl) (by kernel_rfl) (by kernel_rfl) (fun _ _ _ h => h) (Or.inl ⟨by rfl, ?_⟩) (by first | assumption | rfl | trivial) ?_
      rotate_left 1
      · (intro w hSw; (try dsimp only at hSw); (try subst hSw); go_simp; try with_reducible rfl)
      simp only [Act.put, List.setIfInBounds_toArray, List.set_cons_zero, List.set_cons_succ]
      refine held_take (i := 24) (d := (some 55)) (v := ?_) rfl rfl (by kernel_rfl) (by kernel_rfl) (by kernel_rfl) (fun _ _ _ h => h) (Or.inl ⟨by rfl, ?_⟩) (by first | assumption | rfl | trivial) ?_
      rotate_left 1
      · (intro w hSw; (try dsimp only at hSw); (try subst hSw); go_simp; try with_reducible rfl)
      simp only [Act.put, List.setIfInBounds_toArray, List.set_cons_zero, List.set_cons_succ]
      refine wpAnyH_done (by kernel_rfl) ?_ _
      go_wp2
      go_meet
      case rel => exact K8.out
    · rw [show chkP s = false by simpa using hck]
      go_wp2
      go_meet
      case rel => exact K1.out
  case rest =>
    have RBc := hide (R.out.below hcut.out (Nat.le_refl _))
    have Kc := hcut
    clear P1 hcut OKP
    have C5 := hide (bytes_any a n cap bs wc RBc.out HN.out (by omega))
    go_wp2_with fail
    with_reducible refine C5.out.mono ?_
    rintro e x6 ⟨a6, e6, rfl, o6, k6⟩
    have p6 := o6.capped.1
    have C6 := hide (pget_any p a6 n e6 bs x6 w2 p6 (o6.row (by omega) (fits_wf HZ.out)))
    have K6 : Hid (Below w.heap.size w x6) := bel_to Kc.out (Nat.le_refl _) k6
    clear o6 k6 C5 RBc Kc
    have N := hide (fun (W : World) (K : Below w.heap.size w W) => refpget_any p W.heap.size a n cap bs w (W.alloc (.cells #[.slice a n cap, .int .i64 p, .bool false] 40)) w2 hcap R.out K.size (K.alloc K.size _) (rb_new W a n cap p))
    cases hgg : getP bs p with
    | none =>
      rw [hgg] at C6 N
      simp only [GotS] at C6
      simp only [GotR] at N
      clear hgg w2
      go_wp2_with fail
      with_reducible refine C6.out.mono ?_
      rintro e x7 ⟨rfl, k7⟩
      have q7 := see_zero x7
      have K7 : Hid (Below w.heap.size w x7) := bel_to K6.out (Nat.le_refl _) k7
      have Q7 := hide q7
      clear k7 q7 C6 K6
      go_upto_region 7 with fail
      obtain ⟨k11, hk11⟩ : ∃ k, Hid (x7.heap.size = k) := ⟨_, rfl⟩
      have P8 : Hid (Pool w (x7.alloc (.cells #[.slice none 0 0, .slice none 0 0, .int .u64 0, .int .u64 0, .int .u64 0, .int .u64 0] 28)) [(k11, hd0, zeroP)]) := Pool.push (L := []) ⟨K7.out, (fun x hx => by cases hx), (fun x hx => by cases hx)⟩ Q7.out _ hk11.out
      generalize x7.alloc (.cells #[.slice none 0 0, .slice none 0 0, .int .u64 0, .int .u64 0, .int .u64 0, .int .u64 0] 28) = x8 at P8 ⊢
      rw [hk11.out]
      clear hk11 K7 Q7
      have N8 := hide (N.out x8 P8.out.low)
      have P9 := hide (P8.out.alloc (.cells #[.slice a n cap, .int .i64 p, .bool false] 40))
      have RG := hide (rb_new x8 a n cap p)
      clear N
      go_wp2_with fail
      with_reducible refine N8.out.mono ?_
      rintro e x9 ⟨k9, rfl, p9, hrb⟩
      have q9 := see_zero x9
      obtain ⟨g, hg⟩ : ∃ g, Hid (x8.heap.size = g) := ⟨_, rfl⟩
      rw [hg.out] at k9 hrb
      have NG : Hid (∀ k, k = g → x8.heap.size ≤ k) := fun k e => by rw [hg.out, e]; exact Nat.le_refl _
      have P10 := hide (pool_ch P8.out k9 NG.out)
      have HRB := hide hrb
      have Q9 := hide q9
      clear k9 hrb q9 N8 P8 P9 RG
      rw [hg.out]
      clear hg NG
      go_upto_region 9 with fail
      obtain ⟨k15, hk15⟩ : ∃ k, Hid (x9.heap.size = k) := ⟨_, rfl⟩
      have P11 := hide (P10.out.push Q9.out 28 hk15.out)
      simp only [List.cons_append, List.nil_append] at P11
      have HR10 := hide (HRB.out.block (((Below.refl x9.heap.size x9).alloc (Nat.le_refl _) (.cells #[.slice none 0 0, .slice none 0 0, .int .u64 0, .int .u64 0, .int .u64 0, .int .u64 0] 28)).block _ HRB.out.lt'))
      dsimp only [zeroP, hd0, g0] at P11
      generalize x9.alloc (.cells #[.slice none 0 0, .slice none 0 0, .int .u64 0, .int .u64 0, .int .u64 0, .int .u64 0] 28) = x10 at P11 HR10 ⊢
      rw [hk15.out]
      clear hk15 P10 Q9 HRB
      obtain ⟨_, d1, d2, _⟩ := HR10.out.cell
      obtain ⟨c0, c1, c2, c3, c4, c5⟩ := P11.out.at 0 rfl
      obtain ⟨f0, f1, f2, f3, f4, f5⟩ := P11.out.at 1 rfl
      dsimp only at c0 c1 c2 c3 c4 c5 f0 f1 f2 f3 f4 f5
      have SM := hide (fun W => refpsame_any hd0 zeroP hd0 zeroP W (see_zero W) (see_zero W))
      rw [show decide (zeroP = zeroP) = true from decide_eq_true rfl] at SM
      dsimp only [zeroP, hd0, g0] at SM
      go_wp2_with fail
      with_reducible refine (SM.out _).mono ?_
      rintro e x11 ⟨rfl, k11'⟩
      have K11 : Hid (Below w.heap.size w x11) := (P11.out.below k11').low
      clear k11' c0 c1 c2 c3 c4 c5 f0 f1 f2 f3 f4 f5 d1 d2 P11 HR10
      go_wp2_with fail
      with_reducible refine (AW.out _ K11.out).mono ?_
      rintro e x12 ⟨rfl, k12⟩
      have K12 := hide k12
      clear k12
      go_wp2
      go_ret
      exact ⟨rfl, K12.out⟩
    | some q =>
      obtain ⟨t, nx⟩ := q
      rw [hgg] at C6 N
      simp only [GotS] at C6
      simp only [GotR] at N
      clear hgg w2
      have tx : (nx == nx) = true := by simp
      go_wp2_with fail
      with_reducible refine C6.out.mono ?_
      rintro e x7 ⟨⟨h7, rfl, q7⟩, k7⟩
      have K7 : Hid (Below w.heap.size w x7) := bel_to K6.out (Nat.le_refl _) k7
      have Q7 := hide q7
      clear k7 q7 C6 K6
      go_upto_region 7 with fail
      obtain ⟨k11, hk11⟩ : ∃ k, Hid (x7.heap.size = k) := ⟨_, rfl⟩
      have P8 : Hid (Pool w (x7.alloc (.cells #[.slice h7.a h7.n h7.c, .slice h7.k h7.m h7.d, .int .u64 t.g.n, .int .u64 t.g.nans, .int .u64 t.g.lo, .int .u64 t.g.hi] 28)) [(k11, h7, t)]) := Pool.push (L := []) ⟨K7.out, (fun x hx => by cases hx), (fun x hx => by cases hx)⟩ Q7.out _ hk11.out
      generalize x7.alloc (.cells #[.slice h7.a h7.n h7.c, .slice h7.k h7.m h7.d, .int .u64 t.g.n, .int .u64 t.g.nans, .int .u64 t.g.lo, .int .u64 t.g.hi] 28) = x8 at P8 ⊢
      rw [hk11.out]
      clear hk11 K7 Q7
      have N8 := hide (N.out x8 P8.out.low)
      have P9 := hide (P8.out.alloc (.cells #[.slice a n cap, .int .i64 p, .bool false] 40))
      have RG := hide (rb_new x8 a n cap p)
      clear N
      go_wp2_with fail
      with_reducible refine N8.out.mono ?_
      rintro e x9 ⟨k9, ⟨h9, rfl, q9⟩, hrb⟩
      obtain ⟨g, hg⟩ : ∃ g, Hid (x8.heap.size = g) := ⟨_, rfl⟩
      rw [hg.out] at k9 hrb
      have NG : Hid (∀ k, k = g → x8.heap.size ≤ k) := fun k e => by rw [hg.out, e]; exact Nat.le_refl _
      have P10 := hide (pool_ch P8.out k9 NG.out)
      have HRB := hide hrb
      have Q9 := hide q9
      clear k9 hrb q9 N8 P8 P9 RG
      rw [hg.out]
      clear hg NG
      go_upto_region 9 with fail
      obtain ⟨k15, hk15⟩ : ∃ k, Hid (x9.heap.size = k) := ⟨_, rfl⟩
      have P11 := hide (P10.out.push Q9.out 28 hk15.out)
      simp only [List.cons_append, List.nil_append] at P11
      have HR10 := hide (HRB.out.block (((Below.refl x9.heap.size x9).alloc (Nat.le_refl _) (.cells #[.slice h9.a h9.n h9.c, .slice h9.k h9.m h9.d, .int .u64 t.g.n, .int .u64 t.g.nans, .int .u64 t.g.lo, .int .u64 t.g.hi] 28)).block _ HRB.out.lt'))
      generalize x9.alloc (.cells #[.slice h9.a h9.n h9.c, .slice h9.k h9.m h9.d, .int .u64 t.g.n, .int .u64 t.g.nans, .int .u64 t.g.lo, .int .u64 t.g.hi] 28) = x10 at P11 HR10 ⊢
      rw [hk15.out]
      clear hk15 P10 Q9 HRB
      obtain ⟨_, d1, d2, _⟩ := HR10.out.cell
      obtain ⟨c0, c1, c2, c3, c4, c5⟩ := P11.out.at 0 rfl
      obtain ⟨f0, f1, f2, f3, f4, f5⟩ := P11.out.at 1 rfl
      have SM := hide (fun W x y (q : SeeP W x t) (q' : SeeP W y t) => refpsame_any x t y t W q q')
      rw [show decide (t = t) = true from decide_eq_true rfl] at SM
      go_wp2_with fail
      with_reducible refine (SM.out _ _ _ (P11.out.sees 0 rfl) (P11.out.sees 1 rfl)).mono ?_
      rintro e x11 ⟨rfl, k11'⟩
      have K11 : Hid (Below w.heap.size w x11) := (P11.out.below k11').low
      have HR11 := hide (HR10.out.block (k11'.block _ HR10.out.lt'))
      clear k11' c0 c1 c2 c3 c4 c5 f0 f1 f2 f3 f4 f5 d1 d2 P11 HR10
      obtain ⟨_, d1, d2, _⟩ := HR11.out.cell
      go_wp2_with fail
      with_reducible refine (AW.out _ K11.out).mono ?_
      rintro e x12 ⟨rfl, k12⟩
      have K12 := hide k12
      clear k12
      go_wp2
      go_ret
      exact ⟨rfl, K12.out⟩
end Go.Proofs.YtadcaonkmncgoaaGreat
