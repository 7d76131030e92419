/-
  The program's own Make of labels: its contract, for every world; what was there before stays.
  Conditions: the labels lie in memory; at most 100 of them.
-/
import Derived.Test.YtoepdgdagjckbabLabDb
import Derived.Test.YtoepdgdagjckbabLabSo
import Derived.Test.YtoepdgdagjckbabLabUq
namespace Go.Proofs.Ytoepdgdagjckbab
open Go.RowKit
set_option maxRecDepth 20000

theorem two_hrow (u : World) (o : Obj) (x : Lb) (e : TypeId) : ∀ ad, some (⟨u.heap.size + 1, 0, none⟩ : Addr) = some ad → ∀ j v, (flatL [x])[j]? = some v → ((u.alloc o).alloc (.cells #[.string x.1, .string x.2] e)).cell? (ad.add j) = some v := by
  have h := one_hrow (u.alloc o) x e
  rw [show (u.alloc o).heap.size = u.heap.size + 1 by simp] at h
  exact h

set_option maxHeartbeats 4000000 in
theorem make_any (a : Option Addr) (n cap : Nat) (l : List Lb) (w : World) (hr : RowL w a n l) (h100 : n ≤ 100) :
    Calls Try.prog 18 #[.slice a n cap] w fun e w' => MadeL (makeL l) 5 w w' e := by
  obtain ⟨i0, hi, hz0, hz1, hz2⟩ := info_parts Try.infoL
  have hn := hr.2.1
  have HR := hide hr
  have HL := hide hr.1
  have HW := hide hr.2.2.1
  have HTK : Hid (l.take n = l) := List.take_of_length_le (Nat.le_of_eq HL.out)
  have HS : Hid (∀ d : List Lb, d.Perm (fulL l) → d.Pairwise notLess → makeL l = if chkL d then some d else none) := fun d => makeL_sorted
  have FW : Hid (∀ x ∈ fulL l, LbW x) := fun x hx => HW.out x (List.mem_filter.1 hx).1
  generalize makeL l = ans at *
  clear hr
  go_enter Try.func18, Try.ntmps18
  go_wp2
  go_loopw [4, 9] (fun s i wr => ∃ (am : Option Addr) (nm cm k : Nat), s = .slice am nm cm ∧ i = .int .i64 k ∧ k ≤ n ∧ nm ≤ k ∧ Hid (OwnL wr w.heap.size am nm cm (fulL (l.take k))) ∧ Hid (Below w.heap.size w wr)) (fun _ i _ => n - (intOf i).toNat)
  case atStart => exact ⟨none, 0, 0, 0, rfl, rfl, Nat.zero_le _, by omega, ownL_nil _ _, Below.refl _ _⟩
  case round =>
    obtain ⟨am, nm, cm, k, rfl, rfl, hk, hnk, OW, BW⟩ := hrel
    obtain ⟨u, rfl⟩ : ∃ u, u = wr := ⟨wr, rfl⟩
    by_cases hlt : k < n
    · obtain ⟨b1, o1, x, rfl, hx, hxw, hc1⟩ := HR.out.at' hlt
      obtain ⟨f0, f1⟩ := hc1 u BW.out
      have FS := hide (fulL_step hx)
      have i1 : (0 : Int) ≤ (k : Int) := by omega
      have i2 : (k : Int) < (n : Int) := by omega
      clear hc1 hx hxw
      obtain ⟨xn, xv⟩ := x
      by_cases he : xv = .empty
      · subst he
        have OW2 : Hid (OwnL (u.alloc (.cells #[.string xn, .string .empty] 40)) w.heap.size am nm cm (fulL (l.take (k + 1)))) := by show OwnL _ _ _ _ _ _; rw [FS.out, if_pos rfl]; exact OW.out.alloc _
        have BW2 := hide (bel_al BW.out (Nat.le_refl _) (.cells #[.string xn, .string .empty] 40))
        clear FS OW BW
        go_wp2
        go_roundw
        case rel => exact ⟨am, nm, cm, k + 1, rfl, by go_num, by omega, by omega, OW2, BW2⟩
        case measure => simp [intOf]; omega
      · have e0 : (xv.toList == []) = false := by
          rw [beq_eq_false_iff_ne]
          exact fun h => he (ba_nil h)
        have e1 : ¬ xv.toList = [] := fun h => he (ba_nil h)
        have e2 : (xv.toList != []) = true := by rw [bne, e0]; rfl
        rw [if_neg he] at FS
        have OX : Hid (∀ o, OwnL (u.alloc o) w.heap.size am nm cm (fulL (l.take k))) := fun o => OW.out.alloc o
        have BX : Hid (∀ o, Below w.heap.size w (u.alloc o)) := fun o => bel_al BW.out (Nat.le_refl _) o
        generalize fulL (l.take k) = M at *
        clear he OW BW
        go_wp2_with (at_builtin; refine wpList_append_labs _ rfl _ _ 22 rfl w.heap.size i0 Try.underlying22 hi hz0 hz1 hz2 am nm cm M rfl ((OX.out _).alloc _) (some ⟨u.heap.size + 1, 0, none⟩) 1 1 [(xn, xv)] rfl rfl (two_hrow u _ (xn, xv) _) (fun e => by cases e) (by omega) (bel_al (BX.out _) (Nat.le_refl _) _).size ?_)
        intro a4 c4 w4 o4 b4
        rw [← FS.out] at o4
        have O4 := hide o4
        have B4 : Hid (Below w.heap.size w w4) := (bel_al (BX.out _) (Nat.le_refl _) _).trans b4
        clear o4 b4 OX BX FS
        go_wp2
        go_roundw
        case rel => exact ⟨a4, nm + 1, c4, k + 1, by go_num, by go_num, by omega, by omega, O4, B4⟩
        case measure => simp [intOf]; omega
    · have : k = n := by omega
      subst this
      rw [HTK.out] at OW
      have i2 : ¬ (k : Int) < (k : Int) := by omega
      have SC := hide (sort_any w.heap.size am nm cm (fulL l) u OW.out (by omega) FW.out BW.out.size)
      have CP := hide OW.out.capped
      have LN := hide OW.out.len
      clear OW
      go_wp2_with fail
      with_reducible refine SC.out.mono ?_
      rintro e v1 ⟨rfl, d, hp, hs, r1, b1⟩
      have AN := hide (HS.out d hp hs)
      have B1 : Hid (Below w.heap.size w v1) := BW.out.trans b1
      have CC := hide (check_any am nm cm d v1 r1)
      have R1 := hide r1
      have DL := hide r1.1
      clear hp hs b1 r1 SC BW HS
      cases hc : chkL d with
      | true =>
        rw [hc] at CC
        have AN2 : Hid (ans = some d) := by show _ = _; rw [AN.out, hc, if_pos rfl]
        clear hc AN
        go_wp2_with (go_at_call 19; refine CC.out.mono ?_)
        rintro e v2 ⟨rfl, b2⟩
        have B2 : Hid (Below w.heap.size w v2) := bel_to B1.out (Nat.le_refl _) b2
        have R2 := hide (R1.out.below b2 (Nat.le_refl _))
        clear b2 B1 R1 CC
        go_wp2
        go_ret2
        rw [AN2.out]
        refine ⟨B2.out, am, cm, ?_, ?_, ?_, fun e => (CP.out.2 e).2⟩
        · rw [DL.out]; rfl
        · rw [DL.out]; exact R2.out
        · rw [DL.out]; exact CP.out.1
      | false =>
        rw [hc] at CC
        have AN2 : Hid (ans = none) := by show _ = _; rw [AN.out, hc, if_neg (by decide)]
        clear hc AN
        go_wp2_with (go_at_call 19; refine CC.out.mono ?_)
        rintro e v2 ⟨rfl, b2⟩
        have B2 : Hid (Below w.heap.size w v2) := bel_to B1.out (Nat.le_refl _) b2
        clear b2 B1 R1 CC
        go_wp2
        go_ret2
        rw [AN2.out]
        exact ⟨B2.out, none, 0, rfl⟩
theorem laM : LaM := ⟨fun a n cap l w hr h => make_any a n cap l w hr h⟩
end Go.Proofs.Ytoepdgdagjckbab
