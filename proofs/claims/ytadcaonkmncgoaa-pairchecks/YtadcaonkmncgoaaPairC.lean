/-
  The law whether a sketch may be, is empty, is the same as another, over what the laws ask of the program's own Check, Empty, Same, Of.
  Conditions: as PaC, PaE, PaS, PaO say.
-/
import Derived.Test.YtadcaonkmncgoaaPairJ
import Derived.Deep.RegionHeld3
namespace Go.Proofs.Ytadcaonkmncgoaa
open Go.RowKit
set_option maxRecDepth 20000

set_option maxHeartbeats 8000000 in
theorem checksP_of (C : PaC) (E : PaE) (S : PaS) (O : PaO) (h0 : Hd) (s0 : Sp) (h1 : Hd) (s1 : Sp) (w : World) (q0 : SeeP w h0 s0) (q1 : SeeP w h1 s1) :
    Calls Try.prog 4 #[(Value.agg #[.slice (Hd.a h0) (Hd.n h0) (Hd.c h0), .slice (Hd.k h0) (Hd.m h0) (Hd.d h0), .int .u64 (Gz.n s0.g), .int .u64 (Gz.nans s0.g), .int .u64 (Gz.lo s0.g), .int .u64 (Gz.hi s0.g)]), (Value.agg #[.slice (Hd.a h1) (Hd.n h1) (Hd.c h1), .slice (Hd.k h1) (Hd.m h1) (Hd.d h1), .int .u64 (Gz.n s1.g), .int .u64 (Gz.nans s1.g), .int .u64 (Gz.lo s1.g), .int .u64 (Gz.hi s1.g)])] w fun e w' => e = .returned (.bool true) ∧ Below w.heap.size w w' := by
  have AW := hide (awakeP_any O E)
  obtain ⟨k0, hk0⟩ : ∃ k, Hid (w.heap.size = k) := ⟨_, rfl⟩
  obtain ⟨k1, hk1⟩ : ∃ k, Hid (k0 + 1 = k) := ⟨_, rfl⟩
  have P0 := hide ((pool_nil w).push q0 30 hk0.out)
  have P1 := hide (P0.out.push (q1.alloc _) 30 (by rw [size_al, hk0.out, hk1.out]))
  simp only [List.nil_append, List.cons_append] at P1
  have SK := hide (fun W h s (q : SeeP W h s) => sketch_any h s W q)
  have PC := hide (fun W h (q : SeeP W h s0) => C.chk h s0 W q)
  have RC := hide (fun W h (q : SeeP W h s0) => refpchk_any h s0 W q)
  have PE := hide (fun W h (q : SeeP W h s0) => E.empty h s0 W q)
  have RE := hide (fun W h (q : SeeP W h s0) => refpempty_any h s0 W q)
  have PS := hide (fun W h h' (q : SeeP W h s0) (q' : SeeP W h' s1) => S.same h s0 h' s1 W q q')
  have RS := hide (fun W h h' (q : SeeP W h s0) (q' : SeeP W h' s1) => refpsame_any h s0 h' s1 W q q')
  have PT := hide (fun W h h' (q : SeeP W h s0) (q' : SeeP W h' s0) => S.same h s0 h' s0 W q q')
  rw [show decide (s0 = s0) = true from decide_eq_true rfl] at PT
  generalize chkP s0 = x1 at PC RC
  generalize emptyP s0 = x2 at PE RE
  generalize decide (s0 = s1) = x3 at PS RS
  have e1 : (x1 == x1) = true := by simp
  have e2 : (x2 == x2) = true := by simp
  have e3 : (x3 == x3) = true := by simp
  clear q0 q1 P0 O E C S
  go_enter Try.func4, Try.ntmps4
  go_upto_region 1 with fail
  generalize ((w.alloc (.cells #[.slice h0.a h0.n h0.c, .slice h0.k h0.m h0.d, .int .u64 s0.g.n, .int .u64 s0.g.nans, .int .u64 s0.g.lo, .int .u64 s0.g.hi] 30)).alloc (.cells #[.slice h1.a h1.n h1.c, .slice h1.k h1.m h1.d, .int .u64 s1.g.n, .int .u64 s1.g.nans, .int .u64 s1.g.lo, .int .u64 s1.g.hi] 30)) = v0 at P1 ⊢
  rw [hk0.out, hk1.out]
  clear hk0 hk1
  have PD := hide P1.out.drew
  have S0 : Hid (((World.cell? v0.drew ⟨k0, 0, none⟩ = some (.slice (Hd.a h0) (Hd.n h0) (Hd.c h0))) ∧ (World.cell? v0.drew ⟨k0, 1, none⟩ = some (.slice (Hd.k h0) (Hd.m h0) (Hd.d h0))) ∧ (World.cell? v0.drew ⟨k0, 2, none⟩ = some (.int .u64 (Gz.n s0.g))) ∧ (World.cell? v0.drew ⟨k0, 3, none⟩ = some (.int .u64 (Gz.nans s0.g))) ∧ (World.cell? v0.drew ⟨k0, 4, none⟩ = some (.int .u64 (Gz.lo s0.g))) ∧ (World.cell? v0.drew ⟨k0, 5, none⟩ = some (.int .u64 (Gz.hi s0.g)))) ∧ ((World.cell? v0.drew ⟨k1, 0, none⟩ = some (.slice (Hd.a h1) (Hd.n h1) (Hd.c h1))) ∧ (World.cell? v0.drew ⟨k1, 1, none⟩ = some (.slice (Hd.k h1) (Hd.m h1) (Hd.d h1))) ∧ (World.cell? v0.drew ⟨k1, 2, none⟩ = some (.int .u64 (Gz.n s1.g))) ∧ (World.cell? v0.drew ⟨k1, 3, none⟩ = some (.int .u64 (Gz.nans s1.g))) ∧ (World.cell? v0.drew ⟨k1, 4, none⟩ = some (.int .u64 (Gz.lo s1.g))) ∧ (World.cell? v0.drew ⟨k1, 5, none⟩ = some (.int .u64 (Gz.hi s1.g)))) ∧ Hid (Pool w v0.drew [(k0, h0, s0), (k1, h1, s1)])) := ⟨PD.out.at 0 rfl, PD.out.at 1 rfl, PD⟩
  clear P1
  go_region_held3 (fun w' => ((World.cell? w' ⟨k0, 0, none⟩ = some (.slice (Hd.a h0) (Hd.n h0) (Hd.c h0))) ∧ (World.cell? w' ⟨k0, 1, none⟩ = some (.slice (Hd.k h0) (Hd.m h0) (Hd.d h0))) ∧ (World.cell? w' ⟨k0, 2, none⟩ = some (.int .u64 (Gz.n s0.g))) ∧ (World.cell? w' ⟨k0, 3, none⟩ = some (.int .u64 (Gz.nans s0.g))) ∧ (World.cell? w' ⟨k0, 4, none⟩ = some (.int .u64 (Gz.lo s0.g))) ∧ (World.cell? w' ⟨k0, 5, none⟩ = some (.int .u64 (Gz.hi s0.g)))) ∧ ((World.cell? w' ⟨k1, 0, none⟩ = some (.slice (Hd.a h1) (Hd.n h1) (Hd.c h1))) ∧ (World.cell? w' ⟨k1, 1, none⟩ = some (.slice (Hd.k h1) (Hd.m h1) (Hd.d h1))) ∧ (World.cell? w' ⟨k1, 2, none⟩ = some (.int .u64 (Gz.n s1.g))) ∧ (World.cell? w' ⟨k1, 3, none⟩ = some (.int .u64 (Gz.nans s1.g))) ∧ (World.cell? w' ⟨k1, 4, none⟩ = some (.int .u64 (Gz.lo s1.g))) ∧ (World.cell? w' ⟨k1, 5, none⟩ = some (.int .u64 (Gz.hi s1.g)))) ∧ Hid (Pool w w' [(k0, h0, s0), (k1, h1, s1)])) (first | with_reducible exact S0.out | with_reducible exact keepL2 0 1 rfl rfl (by assumption) (by assumption)) (first
    | (go_at_call 14; with_reducible refine (SK.out _ _ _ (PD.out.sees 0 rfl)).mono ?_; rintro e u1 ⟨j1, rfl, m1, b1⟩; have Q1 := hide m1.see; have T1 := hide (PD.out.below b1))
    | (go_at_call 12; with_reducible refine (PC.out _ _ Q1.out).mono ?_; rintro e u2 ⟨rfl, b2⟩; have T2 := hide (T1.out.below b2))
    | (go_at_call 15; with_reducible refine (RC.out _ _ (T2.out.sees 0 rfl)).mono ?_; rintro e u3 ⟨rfl, b3⟩; have T3 := hide (T2.out.below b3))
    | (go_at_call 14; with_reducible refine (SK.out _ _ _ (T3.out.sees 0 rfl)).mono ?_; rintro e u4 ⟨j4, rfl, m4, b4⟩; have Q4 := hide m4.see; have T4 := hide (T3.out.below b4))
    | (go_at_call 13; with_reducible refine (PE.out _ _ Q4.out).mono ?_; rintro e u5 ⟨rfl, b5⟩; have T5 := hide (T4.out.below b5))
    | (go_at_call 16; with_reducible refine (RE.out _ _ (T5.out.sees 0 rfl)).mono ?_; rintro e u6 ⟨rfl, b6⟩; have T6 := hide (T5.out.below b6))
    | (go_at_call 14; with_reducible refine (SK.out _ _ _ (T6.out.sees 0 rfl)).mono ?_; rintro e u7 ⟨j7, rfl, m7, b7⟩; have Q7 := hide m7.see; have T7 := hide (T6.out.below b7))
    | (go_at_call 14; with_reducible refine (SK.out _ _ _ (T7.out.sees 1 rfl)).mono ?_; rintro e u8 ⟨j8, rfl, m8, b8⟩; have Q8 := hide m8.see; have Q7' := hide (Q7.out.below b8 (Nat.le_refl _)); have T8 := hide (T7.out.below b8))
    | (go_at_call 17; with_reducible refine (PS.out _ _ _ Q7'.out Q8.out).mono ?_; rintro e u9 ⟨rfl, b9⟩; have T9 := hide (T8.out.below b9))
    | (go_at_call 10; with_reducible refine (RS.out _ _ _ (T9.out.sees 0 rfl) (T9.out.sees 1 rfl)).mono ?_; rintro e u10 ⟨rfl, b10⟩; have T10 := hide (T9.out.below b10))
    | (go_at_call 14; with_reducible refine (SK.out _ _ _ (T10.out.sees 0 rfl)).mono ?_; rintro e u11 ⟨j11, rfl, m11, b11⟩; have Q11 := hide m11.see; have T11 := hide (T10.out.below b11))
    | (go_at_call 17; with_reducible refine (PT.out _ _ _ (T11.out.sees 0 rfl) Q11.out).mono ?_; rintro e u12 ⟨rfl, b12⟩; have T12 := hide (T11.out.below b12))
    | (go_at_call 8; with_reducible refine (AW.out _).mono ?_; rintro e u13 ⟨rfl, b13⟩; have T13 := hide (T12.out.below b13)))
  go_wp2
  go_ret
  exact ⟨rfl, T13.out.low⟩
end Go.Proofs.Ytadcaonkmncgoaa
