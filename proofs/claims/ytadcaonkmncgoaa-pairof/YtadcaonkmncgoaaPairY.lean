/-
  The law of observations put into a sketch: as the document says. 
  Conditions: the slice came in.
-/
import Derived.Test.YtadcaonkmncgoaaPairQ
import Derived.Test.YtadcaonkmncgoaaPairV
import Derived.Test.YtadcaonkmncgoaaPairD
namespace Go.Proofs.Ytadcaonkmncgoaa
open Go.RowKit
set_option maxRecDepth 20000

set_option maxHeartbeats 8000000 in
theorem ofsP_of (a : Option Addr) (n cap : Nat) (l : List Ob) (w : World) (wl : IsObs w a n cap l) :
    Calls Try.prog 3 #[.slice a n cap] w fun e w' => e = .returned (.bool true) ∧ Below w.heap.size w w' := by
  obtain ⟨h1, h2, h3, hr⟩ := wl
  have AW := hide (awakeP_any paO paE)
  by_cases hbig : 300 < n
  · have i1 : (300 : Int) < (n : Int) := by omega
    clear hr h1 h2 h3 hbig
    go_enter Try.func3, Try.ntmps3
    go_wp2_with fail
    with_reducible refine (AW.out _).mono ?_
    rintro e w1 ⟨rfl, b⟩
    have B := hide b
    clear b
    go_wp2
    go_ret
    exact ⟨rfl, B.out⟩
  · obtain ⟨i0, hi, hz0, hz1, hz2⟩ := info_parts Try.infoO
    have i1 : ¬ (300 : Int) < (n : Int) := by omega
    have HR := hide hr
    have OW : Hid (∀ o ∈ l, ObW o) := hr.2.2.1
    have HN : Hid (a = none → cap = 0) := fun e => (h3 e).2
    have OK := hide (Ok.of OW.out)
    have EM : emptyP (ofP l) = ((n : Int) == 0) := by rw [emptyP_of, hr.1, Bool.eq_iff_iff]; simp
    have CO := hide (fun a2 c2 W (q : RowO W a2 n l) => pof_any a2 n c2 l W q)
    have RO := hide (fun W (q : RowO W a n l) => refpof_any a n cap l W q)
    have SM := hide (fun W h h' (q : SeeP W h (ofP l)) (q' : SeeP W h' (ofP l)) => refpsame_any h (ofP l) h' (ofP l) W q q')
    rw [show decide (ofP l = ofP l) = true from decide_eq_true rfl] at SM
    have CK := hide (fun W h (q : SeeP W h (ofP l)) => pchk_any h (ofP l) W q)
    rw [OK.out.chk] at CK
    have CE := hide (fun W h (q : SeeP W h (ofP l)) => pempty_any h (ofP l) W q)
    rw [EM] at CE
    have eb : (((n : Int) == 0) == ((n : Int) == 0)) = true := by simp
    obtain ⟨be, hbe⟩ : ∃ b, ((n : Int) == 0) = b := ⟨_, rfl⟩
    rw [hbe] at CE eb
    generalize ofP l = s at *
    clear hr h1 h3 EM OK hbig
    go_enter Try.func3, Try.ntmps3
    go_wp2_with (at_builtin; refine wpList_append_obs _ rfl _ _ 22 rfl w.heap.size i0 Try.underlying22 hi hz0 hz1 hz2 none 0 0 [] rfl (ownO_nil _ _) a n cap l rfl HR.out HN.out (by omega) (Nat.le_refl _) ?_)
    intro a2 c2 w1 o1 b1
    have R1 := hide (o1.row (by omega) OW.out)
    have L1 := hide b1
    clear o1 b1
    go_wp2_with fail
    with_reducible refine (CO.out _ _ _ R1.out).mono ?_
    rintro e w2 ⟨h4, rfl, m4, b4⟩
    have L2 : Hid (Below w.heap.size w w2) := bel_to L1.out (Nat.le_refl _) b4
    have M2 := hide m4.see
    clear m4 b4 L1 R1 CO
    go_upto_region 5 with fail
    obtain ⟨k4, hk4⟩ : ∃ k, Hid (w2.heap.size = k) := ⟨_, rfl⟩
    have P7 : Hid (Pool w (w2.alloc (.cells #[.slice h4.a h4.n h4.c, .slice h4.k h4.m h4.d, .int .u64 s.g.n, .int .u64 s.g.nans, .int .u64 s.g.lo, .int .u64 s.g.hi] 30)) [(k4, h4, s)]) := Pool.push (L := []) ⟨L2.out, (fun x hx => by cases hx), (fun x hx => by cases hx)⟩ M2.out _ hk4.out
    generalize w2.alloc (.cells #[.slice h4.a h4.n h4.c, .slice h4.k h4.m h4.d, .int .u64 s.g.n, .int .u64 s.g.nans, .int .u64 s.g.lo, .int .u64 s.g.hi] 30) = v3 at P7 ⊢
    rw [hk4.out]
    clear hk4 L2 M2
    have PD := hide P7.out.drew
    have S0 : Hid (((World.cell? v3.drew ⟨k4, 0, none⟩ = some (.slice (Hd.a h4) (Hd.n h4) (Hd.c h4))) ∧ (World.cell? v3.drew ⟨k4, 1, none⟩ = some (.slice (Hd.k h4) (Hd.m h4) (Hd.d h4))) ∧ (World.cell? v3.drew ⟨k4, 2, none⟩ = some (.int .u64 (Gz.n s.g))) ∧ (World.cell? v3.drew ⟨k4, 3, none⟩ = some (.int .u64 (Gz.nans s.g))) ∧ (World.cell? v3.drew ⟨k4, 4, none⟩ = some (.int .u64 (Gz.lo s.g))) ∧ (World.cell? v3.drew ⟨k4, 5, none⟩ = some (.int .u64 (Gz.hi s.g)))) ∧ Hid (Pool w v3.drew [(k4, h4, s)])) := ⟨PD.out.at 0 rfl, PD⟩
    have RD := hide (HR.out.below PD.out.low (Nat.le_refl _))
    clear P7
    go_region_held3 (fun w' => ((World.cell? w' ⟨k4, 0, none⟩ = some (.slice (Hd.a h4) (Hd.n h4) (Hd.c h4))) ∧ (World.cell? w' ⟨k4, 1, none⟩ = some (.slice (Hd.k h4) (Hd.m h4) (Hd.d h4))) ∧ (World.cell? w' ⟨k4, 2, none⟩ = some (.int .u64 (Gz.n s.g))) ∧ (World.cell? w' ⟨k4, 3, none⟩ = some (.int .u64 (Gz.nans s.g))) ∧ (World.cell? w' ⟨k4, 4, none⟩ = some (.int .u64 (Gz.lo s.g))) ∧ (World.cell? w' ⟨k4, 5, none⟩ = some (.int .u64 (Gz.hi s.g)))) ∧ Hid (Pool w w' [(k4, h4, s)])) (first | with_reducible exact S0.out | with_reducible exact keep1 (by assumption) (by assumption)) (first
      | (go_at_call 11; with_reducible refine (RO.out _ RD.out).mono ?_; rintro e u1 ⟨h5, rfl, q5, b5⟩; have Q5 := hide q5; have T1 := hide (PD.out.below b5))
      | (go_at_call 10; with_reducible refine (SM.out _ _ _ (T1.out.sees 0 rfl) Q5.out).mono ?_; rintro e u2 ⟨rfl, b6⟩; have T2 := hide (T1.out.below b6))
      | (go_at_call 12; with_reducible refine (CK.out _ _ (T2.out.sees 0 rfl)).mono ?_; rintro e u3 ⟨rfl, b7⟩; have T3 := hide (T2.out.below b7))
      | (go_at_call 13; with_reducible refine (CE.out _ _ (T3.out.sees 0 rfl)).mono ?_; rintro e u4 ⟨rfl, b8⟩; have T4 := hide (T3.out.below b8))
      | (go_at_call 8; with_reducible refine (AW.out _).mono ?_; rintro e u5 ⟨rfl, b9⟩; have T5 := hide (T4.out.below b9)))
    go_wp2
    go_ret
    exact ⟨rfl, T5.out.low⟩
end Go.Proofs.Ytadcaonkmncgoaa
