/-
  The landed log: Turn, makeRoom: contracts, for every world. The landed log: mend, Ready: contracts, for every world. Frames one behind the other, as plain lists: which frames there are, cut anywhere, and with one byte turned.
  Conditions: as each theorem says.
-/
import Derived.Test.YtknghoecjobkiabGreatDoorZtk
import Derived.WalkMore
import Derived.ScopeJumps
import Derived.Deep.RegionHeld
import Derived.Test.YtknghoecjobkiabGreatDoorZta
import Derived.Test.YtknghoecjobkiabGreatDoorZtj
import Derived.RangeFuncNested
import Derived.RangeFuncBound
import Derived.RangeFuncCalls
import Derived.RangeFuncLeaves
import Derived.RangeFuncBox
import Derived.Shelf.Abstract
import Derived.Shelf.RegionOpen
import Derived.WalkKit
import Derived.OwnWalkIn
import Derived.TacticsInMore
import Derived.LoopNIn
import Derived.LoopIn
import Derived.Scope
namespace Go.Proofs.YtknghoecjobkiabGreatDoor
open Go.RowKit Go.Maps
set_option maxRecDepth 20000
set_option linter.unusedVariables false

set_option maxHeartbeats 8000000 in
theorem wturn_any (g q : Nat) (S : Nat → Prop) (w u : World) (F : Fs) (L : Lg) (m : Nat) (h : Rn g q S w u F L) (hL : LimB m F) (hm : m + 10 ≤ 1073741824) :
    Calls Tryz.prog 9 #[.pointer (some ⟨q, 0, none⟩)] u fun e u' => e = .returned (.int .i64 (turnW F L.last).2.1) ∧ Rn g q S w u' (turnW F L.last).1 { L with last := (turnW F L.last).2.2 } := by
  have hw := h.wf
  have l0 := hw.l0
  have l1 := hw.l1
  have d0 := h.box.cell (i := 0) rfl
  have d1 : u.cell? ⟨q, 1, none⟩ = some (.int .i64 L.last) := h.box.cell (i := 1) rfl
  have NM := hide (rn_name h (L.last + 1) (i64_wf (by omega) (by omega)))
  have SZ := nmW_size (L.last + 1)
  obtain ⟨z, hz⟩ : ∃ z, Hid (L.last = z) := ⟨_, rfl⟩
  have LE : Hid ({ L with last := z } = L) := by have e := hz.out; subst e; rfl
  rw [hz.out] at l0 l1 NM SZ d1
  rw [hz.out]
  by_cases h1 : nmW (z + 1) = ByteArray.empty
  · have HT : Hid (turnW F z = (F, 2, z)) := by show _ = _; unfold turnW; rw [if_pos h1]
    rw [HT.out]
    dsimp only
    rw [LE.out]
    rw [h1] at NM
    clear h1 LE h hL
    go_enter Tryz.func9, Tryz.ntmps9
    go_wp2
    refine wp_scope_jumps 0 (fun a' w' => a'.defers = [] ∧ a'.tmps.size = 36 ∧ a'.tmps.getD 4 undef = .int .i64 2 ∧ Rn g q S w w' F L) (fun _ _ => 0) rfl ?_ ?_
    rotate_left 1
    · rintro ⟨⟨l0⟩, dd⟩ w' ⟨hd, h0, h4, hR⟩
      dsimp only at hd
      subst hd
      have h0 : l0.length = 36 := h0
      obtain ⟨u0, l1, rfl⟩ := List.exists_cons_of_length_eq_add_one h0
      have h_1 : l1.length = 35 := by simpa using h0
      obtain ⟨u1, l2, rfl⟩ := List.exists_cons_of_length_eq_add_one h_1
      have h_2 : l2.length = 34 := by simpa using h_1
      obtain ⟨u2, l3, rfl⟩ := List.exists_cons_of_length_eq_add_one h_2
      have h_3 : l3.length = 33 := by simpa using h_2
      obtain ⟨u3, l4, rfl⟩ := List.exists_cons_of_length_eq_add_one h_3
      have h_4 : l4.length = 32 := by simpa using h_3
      obtain ⟨u4, l5, rfl⟩ := List.exists_cons_of_length_eq_add_one h_4
      have h_5 : l5.length = 31 := by simpa using h_4
      obtain ⟨u5, l6, rfl⟩ := List.exists_cons_of_length_eq_add_one h_5
      have h_6 : l6.length = 30 := by simpa using h_5
      obtain ⟨u6, l7, rfl⟩ := List.exists_cons_of_length_eq_add_one h_6
      have h_7 : l7.length = 29 := by simpa using h_6
      obtain ⟨u7, l8, rfl⟩ := List.exists_cons_of_length_eq_add_one h_7
      have h_8 : l8.length = 28 := by simpa using h_7
      obtain ⟨u8, l9, rfl⟩ := List.exists_cons_of_length_eq_add_one h_8
      have h_9 : l9.length = 27 := by simpa using h_8
      obtain ⟨u9, l10, rfl⟩ := List.exists_cons_of_length_eq_add_one h_9
      have h_10 : l10.length = 26 := by simpa using h_9
      obtain ⟨u10, l11, rfl⟩ := List.exists_cons_of_length_eq_add_one h_10
      have h_11 : l11.length = 25 := by simpa using h_10
      obtain ⟨u11, l12, rfl⟩ := List.exists_cons_of_length_eq_add_one h_11
      have h_12 : l12.length = 24 := by simpa using h_11
      obtain ⟨u12, l13, rfl⟩ := List.exists_cons_of_length_eq_add_one h_12
      have h_13 : l13.length = 23 := by simpa using h_12
      obtain ⟨u13, l14, rfl⟩ := List.exists_cons_of_length_eq_add_one h_13
      have h_14 : l14.length = 22 := by simpa using h_13
      obtain ⟨u14, l15, rfl⟩ := List.exists_cons_of_length_eq_add_one h_14
      have h_15 : l15.length = 21 := by simpa using h_14
      obtain ⟨u15, l16, rfl⟩ := List.exists_cons_of_length_eq_add_one h_15
      have h_16 : l16.length = 20 := by simpa using h_15
      obtain ⟨u16, l17, rfl⟩ := List.exists_cons_of_length_eq_add_one h_16
      have h_17 : l17.length = 19 := by simpa using h_16
      obtain ⟨u17, l18, rfl⟩ := List.exists_cons_of_length_eq_add_one h_17
      have h_18 : l18.length = 18 := by simpa using h_17
      obtain ⟨u18, l19, rfl⟩ := List.exists_cons_of_length_eq_add_one h_18
      have h_19 : l19.length = 17 := by simpa using h_18
      obtain ⟨u19, l20, rfl⟩ := List.exists_cons_of_length_eq_add_one h_19
      have h_20 : l20.length = 16 := by simpa using h_19
      obtain ⟨u20, l21, rfl⟩ := List.exists_cons_of_length_eq_add_one h_20
      have h_21 : l21.length = 15 := by simpa using h_20
      obtain ⟨u21, l22, rfl⟩ := List.exists_cons_of_length_eq_add_one h_21
      have h_22 : l22.length = 14 := by simpa using h_21
      obtain ⟨u22, l23, rfl⟩ := List.exists_cons_of_length_eq_add_one h_22
      have h_23 : l23.length = 13 := by simpa using h_22
      obtain ⟨u23, l24, rfl⟩ := List.exists_cons_of_length_eq_add_one h_23
      have h_24 : l24.length = 12 := by simpa using h_23
      obtain ⟨u24, l25, rfl⟩ := List.exists_cons_of_length_eq_add_one h_24
      have h_25 : l25.length = 11 := by simpa using h_24
      obtain ⟨u25, l26, rfl⟩ := List.exists_cons_of_length_eq_add_one h_25
      have h_26 : l26.length = 10 := by simpa using h_25
      obtain ⟨u26, l27, rfl⟩ := List.exists_cons_of_length_eq_add_one h_26
      have h_27 : l27.length = 9 := by simpa using h_26
      obtain ⟨u27, l28, rfl⟩ := List.exists_cons_of_length_eq_add_one h_27
      have h_28 : l28.length = 8 := by simpa using h_27
      obtain ⟨u28, l29, rfl⟩ := List.exists_cons_of_length_eq_add_one h_28
      have h_29 : l29.length = 7 := by simpa using h_28
      obtain ⟨u29, l30, rfl⟩ := List.exists_cons_of_length_eq_add_one h_29
      have h_30 : l30.length = 6 := by simpa using h_29
      obtain ⟨u30, l31, rfl⟩ := List.exists_cons_of_length_eq_add_one h_30
      have h_31 : l31.length = 5 := by simpa using h_30
      obtain ⟨u31, l32, rfl⟩ := List.exists_cons_of_length_eq_add_one h_31
      have h_32 : l32.length = 4 := by simpa using h_31
      obtain ⟨u32, l33, rfl⟩ := List.exists_cons_of_length_eq_add_one h_32
      have h_33 : l33.length = 3 := by simpa using h_32
      obtain ⟨u33, l34, rfl⟩ := List.exists_cons_of_length_eq_add_one h_33
      have h_34 : l34.length = 2 := by simpa using h_33
      obtain ⟨u34, l35, rfl⟩ := List.exists_cons_of_length_eq_add_one h_34
      have h_35 : l35.length = 1 := by simpa using h_34
      obtain ⟨u35, l36, rfl⟩ := List.exists_cons_of_length_eq_add_one h_35
      have h_36 : l36.length = 0 := by simpa using h_35
      obtain rfl := List.length_eq_zero_iff.1 h_36
      have h5 : u4 = .int .i64 2 := h4
      subst h5
      have HR := hide hR
      clear h4 hR h0 h_1 h_2 h_3 h_4 h_5 h_6 h_7 h_8 h_9 h_10 h_11 h_12 h_13 h_14 h_15 h_16 h_17 h_18 h_19 h_20 h_21 h_22 h_23 h_24 h_25 h_26 h_27 h_28 h_29 h_30 h_31 h_32 h_33 h_34 h_35 h_36
      show Code.wp _ _ _ ⟨#[u0, u1, u2, u3, .int .i64 2, u5, u6, u7, u8, u9, u10, u11, u12, u13, u14, u15, u16, u17, u18, u19, u20, u21, u22, u23, u24, u25, u26, u27, u28, u29, u30, u31, u32, u33, u34, u35], []⟩ w'
      go_wp2
      simp only [Exit.jump]
      go_ret
      exact ⟨rfl, HR.out⟩
    go_wp2_with fail
    with_reducible refine NM.out.mono ?_
    rintro e v1 ⟨rfl, r1⟩
    have R1 := hide r1
    clear r1 NM
    go_wp2
    go_step3
    exact ⟨rfl, rfl, rfl, rfl, R1.out⟩
  · have hb : ((nmW (z + 1)).toList == []) = false := by rw [beq_eq_false_iff_ne]; intro e; exact h1 (ba_ext (by rw [e, ByteArray.toList_eq]; rfl))
    have CR := hide (fun v (r : Rn g q S w v F L) => rn_create r hL (by omega) (nmW (z + 1)) (by omega))
    have LM := hide (hL.create (nmW (z + 1)))
    have HT : Hid (turnW F z = if (createF F (nmW (z + 1))).2 = 0 then (if (syncdirF (createF F (nmW (z + 1))).1).2 = 0 then ((syncdirF (createF F (nmW (z + 1))).1).1, 0, z + 1) else ((syncdirF (createF F (nmW (z + 1))).1).1, (syncdirF (createF F (nmW (z + 1))).1).2, z)) else ((createF F (nmW (z + 1))).1, (createF F (nmW (z + 1))).2, z)) := by show _ = _; unfold turnW; rw [if_neg h1]
    rw [HT.out]
    have WF2 : Hid (LgW { L with last := z + 1 }) := ⟨by show 0 ≤ z + 1; omega, by show z + 1 ≤ _; have := mt nmW_empty.2 h1; omega, hw.f0, hw.f1, hw.t0, hw.t1⟩
    generalize nmW (z + 1) = nm at *
    generalize createF F nm = cr at *
    obtain ⟨F1, c1⟩ := cr
    dsimp only at CR LM HT ⊢
    by_cases h2 : c1 = 0
    · subst h2
      rw [if_pos rfl]
      have SD := hide (fun v (r : Rn g q S w v F1 L) => rn_syncdir r LM.out (by omega))
      generalize syncdirF F1 = sd at *
      obtain ⟨F2, c2⟩ := sd
      dsimp only at SD ⊢
      by_cases h3 : c2 = 0
      · subst h3
        rw [if_pos rfl]
        dsimp only
        clear LE h hL HT
        go_enter Tryz.func9, Tryz.ntmps9
        go_wp2
        refine wp_scope_jumps 0 (fun a' w' => a'.defers = [] ∧ a'.tmps.size = 36 ∧ a'.tmps.getD 4 undef = .int .i64 0 ∧ Rn g q S w w' F2 { L with last := z + 1 }) (fun _ _ => 0) rfl ?_ ?_
        rotate_left 1
        · rintro ⟨⟨l0⟩, dd⟩ w' ⟨hd, h0, h4, hR⟩
          dsimp only at hd
          subst hd
          have h0 : l0.length = 36 := h0
          obtain ⟨u0, l1, rfl⟩ := List.exists_cons_of_length_eq_add_one h0
          have h_1 : l1.length = 35 := by simpa using h0
          obtain ⟨u1, l2, rfl⟩ := List.exists_cons_of_length_eq_add_one h_1
          have h_2 : l2.length = 34 := by simpa using h_1
          obtain ⟨u2, l3, rfl⟩ := List.exists_cons_of_length_eq_add_one h_2
          have h_3 : l3.length = 33 := by simpa using h_2
          obtain ⟨u3, l4, rfl⟩ := List.exists_cons_of_length_eq_add_one h_3
          have h_4 : l4.length = 32 := by simpa using h_3
          obtain ⟨u4, l5, rfl⟩ := List.exists_cons_of_length_eq_add_one h_4
          have h_5 : l5.length = 31 := by simpa using h_4
          obtain ⟨u5, l6, rfl⟩ := List.exists_cons_of_length_eq_add_one h_5
          have h_6 : l6.length = 30 := by simpa using h_5
          obtain ⟨u6, l7, rfl⟩ := List.exists_cons_of_length_eq_add_one h_6
          have h_7 : l7.length = 29 := by simpa using h_6
          obtain ⟨u7, l8, rfl⟩ := List.exists_cons_of_length_eq_add_one h_7
          have h_8 : l8.length = 28 := by simpa using h_7
          obtain ⟨u8, l9, rfl⟩ := List.exists_cons_of_length_eq_add_one h_8
          have h_9 : l9.length = 27 := by simpa using h_8
          obtain ⟨u9, l10, rfl⟩ := List.exists_cons_of_length_eq_add_one h_9
          have h_10 : l10.length = 26 := by simpa using h_9
          obtain ⟨u10, l11, rfl⟩ := List.exists_cons_of_length_eq_add_one h_10
          have h_11 : l11.length = 25 := by simpa using h_10
          obtain ⟨u11, l12, rfl⟩ := List.exists_cons_of_length_eq_add_one h_11
          have h_12 : l12.length = 24 := by simpa using h_11
          obtain ⟨u12, l13, rfl⟩ := List.exists_cons_of_length_eq_add_one h_12
          have h_13 : l13.length = 23 := by simpa using h_12
          obtain ⟨u13, l14, rfl⟩ := List.exists_cons_of_length_eq_add_one h_13
          have h_14 : l14.length = 22 := by simpa using h_13
          obtain ⟨u14, l15, rfl⟩ := List.exists_cons_of_length_eq_add_one h_14
          have h_15 : l15.length = 21 := by simpa using h_14
          obtain ⟨u15, l16, rfl⟩ := List.exists_cons_of_length_eq_add_one h_15
          have h_16 : l16.length = 20 := by simpa using h_15
          obtain ⟨u16, l17, rfl⟩ := List.exists_cons_of_length_eq_add_one h_16
          have h_17 : l17.length = 19 := by simpa using h_16
          obtain ⟨u17, l18, rfl⟩ := List.exists_cons_of_length_eq_add_one h_17
          have h_18 : l18.length = 18 := by simpa using h_17
          obtain ⟨u18, l19, rfl⟩ := List.exists_cons_of_length_eq_add_one h_18
          have h_19 : l19.length = 17 := by simpa using h_18
          obtain ⟨u19, l20, rfl⟩ := List.exists_cons_of_length_eq_add_one h_19
          have h_20 : l20.length = 16 := by simpa using h_19
          obtain ⟨u20, l21, rfl⟩ := List.exists_cons_of_length_eq_add_one h_20
          have h_21 : l21.length = 15 := by simpa using h_20
          obtain ⟨u21, l22, rfl⟩ := List.exists_cons_of_length_eq_add_one h_21
          have h_22 : l22.length = 14 := by simpa using h_21
          obtain ⟨u22, l23, rfl⟩ := List.exists_cons_of_length_eq_add_one h_22
          have h_23 : l23.length = 13 := by simpa using h_22
          obtain ⟨u23, l24, rfl⟩ := List.exists_cons_of_length_eq_add_one h_23
          have h_24 : l24.length = 12 := by simpa using h_23
          obtain ⟨u24, l25, rfl⟩ := List.exists_cons_of_length_eq_add_one h_24
          have h_25 : l25.length = 11 := by simpa using h_24
          obtain ⟨u25, l26, rfl⟩ := List.exists_cons_of_length_eq_add_one h_25
          have h_26 : l26.length = 10 := by simpa using h_25
          obtain ⟨u26, l27, rfl⟩ := List.exists_cons_of_length_eq_add_one h_26
          have h_27 : l27.length = 9 := by simpa using h_26
          obtain ⟨u27, l28, rfl⟩ := List.exists_cons_of_length_eq_add_one h_27
          have h_28 : l28.length = 8 := by simpa using h_27
          obtain ⟨u28, l29, rfl⟩ := List.exists_cons_of_length_eq_add_one h_28
          have h_29 : l29.length = 7 := by simpa using h_28
          obtain ⟨u29, l30, rfl⟩ := List.exists_cons_of_length_eq_add_one h_29
          have h_30 : l30.length = 6 := by simpa using h_29
          obtain ⟨u30, l31, rfl⟩ := List.exists_cons_of_length_eq_add_one h_30
          have h_31 : l31.length = 5 := by simpa using h_30
          obtain ⟨u31, l32, rfl⟩ := List.exists_cons_of_length_eq_add_one h_31
          have h_32 : l32.length = 4 := by simpa using h_31
          obtain ⟨u32, l33, rfl⟩ := List.exists_cons_of_length_eq_add_one h_32
          have h_33 : l33.length = 3 := by simpa using h_32
          obtain ⟨u33, l34, rfl⟩ := List.exists_cons_of_length_eq_add_one h_33
          have h_34 : l34.length = 2 := by simpa using h_33
          obtain ⟨u34, l35, rfl⟩ := List.exists_cons_of_length_eq_add_one h_34
          have h_35 : l35.length = 1 := by simpa using h_34
          obtain ⟨u35, l36, rfl⟩ := List.exists_cons_of_length_eq_add_one h_35
          have h_36 : l36.length = 0 := by simpa using h_35
          obtain rfl := List.length_eq_zero_iff.1 h_36
          have h5 : u4 = .int .i64 0 := h4
          subst h5
          have HR := hide hR
          clear h4 hR h0 h_1 h_2 h_3 h_4 h_5 h_6 h_7 h_8 h_9 h_10 h_11 h_12 h_13 h_14 h_15 h_16 h_17 h_18 h_19 h_20 h_21 h_22 h_23 h_24 h_25 h_26 h_27 h_28 h_29 h_30 h_31 h_32 h_33 h_34 h_35 h_36
          show Code.wp _ _ _ ⟨#[u0, u1, u2, u3, .int .i64 0, u5, u6, u7, u8, u9, u10, u11, u12, u13, u14, u15, u16, u17, u18, u19, u20, u21, u22, u23, u24, u25, u26, u27, u28, u29, u30, u31, u32, u33, u34, u35], []⟩ w'
          go_wp2
          simp only [Exit.jump]
          go_ret
          exact ⟨rfl, HR.out⟩
        go_wp2_with fail
        with_reducible refine NM.out.mono ?_
        rintro e v1 ⟨rfl, r1⟩
        have d0 := r1.box.cell (i := 0) rfl
        have C2 := hide (CR.out _ r1)
        clear r1 NM CR
        go_wp2_with fail
        with_reducible refine C2.out.mono ?_
        rintro e v2 ⟨rfl, r2⟩
        have e0 := r2.box.cell (i := 0) rfl
        have C3 := hide (SD.out _ r2)
        clear r2 C2 SD
        go_wp2_with fail
        with_reducible refine C3.out.mono ?_
        rintro e v3 ⟨rfl, r3⟩
        have f1 : v3.cell? ⟨q, 1, none⟩ = some (.int .i64 z) := by rw [← hz.out]; exact r3.box.cell (i := 1) rfl
        have ff := r3.box.free 1
        have R3 : Hid (Rn g q S w (v3.setCell ⟨q, 1, none⟩ (.int .i64 (z + 1))) F2 { L with last := z + 1 }) := r3.set 1 _ WF2.out rfl
        clear r3 C3
        go_wp2
        go_step3
        go_wp2
        simp only [Exit.jump]
        go_ret
        exact ⟨rfl, R3.out⟩
      · rw [if_neg h3]
        dsimp only
        rw [LE.out]
        have n3 : (c2 != 0) = true := by simpa using h3
        clear LE h hL HT
        go_enter Tryz.func9, Tryz.ntmps9
        go_wp2
        refine wp_scope_jumps 0 (fun a' w' => a'.defers = [] ∧ a'.tmps.size = 36 ∧ a'.tmps.getD 4 undef = .int .i64 c2 ∧ Rn g q S w w' F2 L) (fun _ _ => 0) rfl ?_ ?_
        rotate_left 1
        · rintro ⟨⟨l0⟩, dd⟩ w' ⟨hd, h0, h4, hR⟩
          dsimp only at hd
          subst hd
          have h0 : l0.length = 36 := h0
          obtain ⟨u0, l1, rfl⟩ := List.exists_cons_of_length_eq_add_one h0
          have h_1 : l1.length = 35 := by simpa using h0
          obtain ⟨u1, l2, rfl⟩ := List.exists_cons_of_length_eq_add_one h_1
          have h_2 : l2.length = 34 := by simpa using h_1
          obtain ⟨u2, l3, rfl⟩ := List.exists_cons_of_length_eq_add_one h_2
          have h_3 : l3.length = 33 := by simpa using h_2
          obtain ⟨u3, l4, rfl⟩ := List.exists_cons_of_length_eq_add_one h_3
          have h_4 : l4.length = 32 := by simpa using h_3
          obtain ⟨u4, l5, rfl⟩ := List.exists_cons_of_length_eq_add_one h_4
          have h_5 : l5.length = 31 := by simpa using h_4
          obtain ⟨u5, l6, rfl⟩ := List.exists_cons_of_length_eq_add_one h_5
          have h_6 : l6.length = 30 := by simpa using h_5
          obtain ⟨u6, l7, rfl⟩ := List.exists_cons_of_length_eq_add_one h_6
          have h_7 : l7.length = 29 := by simpa using h_6
          obtain ⟨u7, l8, rfl⟩ := List.exists_cons_of_length_eq_add_one h_7
          have h_8 : l8.length = 28 := by simpa using h_7
          obtain ⟨u8, l9, rfl⟩ := List.exists_cons_of_length_eq_add_one h_8
          have h_9 : l9.length = 27 := by simpa using h_8
          obtain ⟨u9, l10, rfl⟩ := List.exists_cons_of_length_eq_add_one h_9
          have h_10 : l10.length = 26 := by simpa using h_9
          obtain ⟨u10, l11, rfl⟩ := List.exists_cons_of_length_eq_add_one h_10
          have h_11 : l11.length = 25 := by simpa using h_10
          obtain ⟨u11, l12, rfl⟩ := List.exists_cons_of_length_eq_add_one h_11
          have h_12 : l12.length = 24 := by simpa using h_11
          obtain ⟨u12, l13, rfl⟩ := List.exists_cons_of_length_eq_add_one h_12
          have h_13 : l13.length = 23 := by simpa using h_12
          obtain ⟨u13, l14, rfl⟩ := List.exists_cons_of_length_eq_add_one h_13
          have h_14 : l14.length = 22 := by simpa using h_13
          obtain ⟨u14, l15, rfl⟩ := List.exists_cons_of_length_eq_add_one h_14
          have h_15 : l15.length = 21 := by simpa using h_14
          obtain ⟨u15, l16, rfl⟩ := List.exists_cons_of_length_eq_add_one h_15
          have h_16 : l16.length = 20 := by simpa using h_15
          obtain ⟨u16, l17, rfl⟩ := List.exists_cons_of_length_eq_add_one h_16
          have h_17 : l17.length = 19 := by simpa using h_16
          obtain ⟨u17, l18, rfl⟩ := List.exists_cons_of_length_eq_add_one h_17
          have h_18 : l18.length = 18 := by simpa using h_17
          obtain ⟨u18, l19, rfl⟩ := List.exists_cons_of_length_eq_add_one h_18
          have h_19 : l19.length = 17 := by simpa using h_18
          obtain ⟨u19, l20, rfl⟩ := List.exists_cons_of_length_eq_add_one h_19
          have h_20 : l20.length = 16 := by simpa using h_19
          obtain ⟨u20, l21, rfl⟩ := List.exists_cons_of_length_eq_add_one h_20
          have h_21 : l21.length = 15 := by simpa using h_20
          obtain ⟨u21, l22, rfl⟩ := List.exists_cons_of_length_eq_add_one h_21
          have h_22 : l22.length = 14 := by simpa using h_21
          obtain ⟨u22, l23, rfl⟩ := List.exists_cons_of_length_eq_add_one h_22
          have h_23 : l23.length = 13 := by simpa using h_22
          obtain ⟨u23, l24, rfl⟩ := List.exists_cons_of_length_eq_add_one h_23
          have h_24 : l24.length = 12 := by simpa using h_23
          obtain ⟨u24, l25, rfl⟩ := List.exists_cons_of_length_eq_add_one h_24
          have h_25 : l25.length = 11 := by simpa using h_24
          obtain ⟨u25, l26, rfl⟩ := List.exists_cons_of_length_eq_add_one h_25
          have h_26 : l26.length = 10 := by simpa using h_25
          obtain ⟨u26, l27, rfl⟩ := List.exists_cons_of_length_eq_add_one h_26
          have h_27 : l27.length = 9 := by simpa using h_26
          obtain ⟨u27, l28, rfl⟩ := List.exists_cons_of_length_eq_add_one h_27
          have h_28 : l28.length = 8 := by simpa using h_27
          obtain ⟨u28, l29, rfl⟩ := List.exists_cons_of_length_eq_add_one h_28
          have h_29 : l29.length = 7 := by simpa using h_28
          obtain ⟨u29, l30, rfl⟩ := List.exists_cons_of_length_eq_add_one h_29
          have h_30 : l30.length = 6 := by simpa using h_29
          obtain ⟨u30, l31, rfl⟩ := List.exists_cons_of_length_eq_add_one h_30
          have h_31 : l31.length = 5 := by simpa using h_30
          obtain ⟨u31, l32, rfl⟩ := List.exists_cons_of_length_eq_add_one h_31
          have h_32 : l32.length = 4 := by simpa using h_31
          obtain ⟨u32, l33, rfl⟩ := List.exists_cons_of_length_eq_add_one h_32
          have h_33 : l33.length = 3 := by simpa using h_32
          obtain ⟨u33, l34, rfl⟩ := List.exists_cons_of_length_eq_add_one h_33
          have h_34 : l34.length = 2 := by simpa using h_33
          obtain ⟨u34, l35, rfl⟩ := List.exists_cons_of_length_eq_add_one h_34
          have h_35 : l35.length = 1 := by simpa using h_34
          obtain ⟨u35, l36, rfl⟩ := List.exists_cons_of_length_eq_add_one h_35
          have h_36 : l36.length = 0 := by simpa using h_35
          obtain rfl := List.length_eq_zero_iff.1 h_36
          have h5 : u4 = .int .i64 c2 := h4
          subst h5
          have HR := hide hR
          clear h4 hR h0 h_1 h_2 h_3 h_4 h_5 h_6 h_7 h_8 h_9 h_10 h_11 h_12 h_13 h_14 h_15 h_16 h_17 h_18 h_19 h_20 h_21 h_22 h_23 h_24 h_25 h_26 h_27 h_28 h_29 h_30 h_31 h_32 h_33 h_34 h_35 h_36
          show Code.wp _ _ _ ⟨#[u0, u1, u2, u3, .int .i64 c2, u5, u6, u7, u8, u9, u10, u11, u12, u13, u14, u15, u16, u17, u18, u19, u20, u21, u22, u23, u24, u25, u26, u27, u28, u29, u30, u31, u32, u33, u34, u35], []⟩ w'
          go_wp2
          simp only [Exit.jump]
          go_ret
          exact ⟨rfl, HR.out⟩
        go_wp2_with fail
        with_reducible refine NM.out.mono ?_
        rintro e v1 ⟨rfl, r1⟩
        have d0 := r1.box.cell (i := 0) rfl
        have C2 := hide (CR.out _ r1)
        clear r1 NM CR
        go_wp2_with fail
        with_reducible refine C2.out.mono ?_
        rintro e v2 ⟨rfl, r2⟩
        have e0 := r2.box.cell (i := 0) rfl
        have C3 := hide (SD.out _ r2)
        clear r2 C2 SD
        go_wp2_with fail
        with_reducible refine C3.out.mono ?_
        rintro e v3 ⟨rfl, r3⟩
        have R3 := hide r3
        clear r3 C3
        go_wp2
        go_step3
        exact ⟨rfl, rfl, rfl, rfl, R3.out⟩
    · rw [if_neg h2]
      dsimp only
      rw [LE.out]
      have n2 : (c1 != 0) = true := by simpa using h2
      clear LE h hL HT
      go_enter Tryz.func9, Tryz.ntmps9
      go_wp2
      refine wp_scope_jumps 0 (fun a' w' => a'.defers = [] ∧ a'.tmps.size = 36 ∧ a'.tmps.getD 4 undef = .int .i64 c1 ∧ Rn g q S w w' F1 L) (fun _ _ => 0) rfl ?_ ?_
      rotate_left 1
      · rintro ⟨⟨l0⟩, dd⟩ w' ⟨hd, h0, h4, hR⟩
        dsimp only at hd
        subst hd
        have h0 : l0.length = 36 := h0
        obtain ⟨u0, l1, rfl⟩ := List.exists_cons_of_length_eq_add_one h0
        have h_1 : l1.length = 35 := by simpa using h0
        obtain ⟨u1, l2, rfl⟩ := List.exists_cons_of_length_eq_add_one h_1
        have h_2 : l2.length = 34 := by simpa using h_1
        obtain ⟨u2, l3, rfl⟩ := List.exists_cons_of_length_eq_add_one h_2
        have h_3 : l3.length = 33 := by simpa using h_2
        obtain ⟨u3, l4, rfl⟩ := List.exists_cons_of_length_eq_add_one h_3
        have h_4 : l4.length = 32 := by simpa using h_3
        obtain ⟨u4, l5, rfl⟩ := List.exists_cons_of_length_eq_add_one h_4
        have h_5 : l5.length = 31 := by simpa using h_4
        obtain ⟨u5, l6, rfl⟩ := List.exists_cons_of_length_eq_add_one h_5
        have h_6 : l6.length = 30 := by simpa using h_5
        obtain ⟨u6, l7, rfl⟩ := List.exists_cons_of_length_eq_add_one h_6
        have h_7 : l7.length = 29 := by simpa using h_6
        obtain ⟨u7, l8, rfl⟩ := List.exists_cons_of_length_eq_add_one h_7
        have h_8 : l8.length = 28 := by simpa using h_7
        obtain ⟨u8, l9, rfl⟩ := List.exists_cons_of_length_eq_add_one h_8
        have h_9 : l9.length = 27 := by simpa using h_8
        obtain ⟨u9, l10, rfl⟩ := List.exists_cons_of_length_eq_add_one h_9
        have h_10 : l10.length = 26 := by simpa using h_9
        obtain ⟨u10, l11, rfl⟩ := List.exists_cons_of_length_eq_add_one h_10
        have h_11 : l11.length = 25 := by simpa using h_10
        obtain ⟨u11, l12, rfl⟩ := List.exists_cons_of_length_eq_add_one h_11
        have h_12 : l12.length = 24 := by simpa using h_11
        obtain ⟨u12, l13, rfl⟩ := List.exists_cons_of_length_eq_add_one h_12
        have h_13 : l13.length = 23 := by simpa using h_12
        obtain ⟨u13, l14, rfl⟩ := List.exists_cons_of_length_eq_add_one h_13
        have h_14 : l14.length = 22 := by simpa using h_13
        obtain ⟨u14, l15, rfl⟩ := List.exists_cons_of_length_eq_add_one h_14
        have h_15 : l15.length = 21 := by simpa using h_14
        obtain ⟨u15, l16, rfl⟩ := List.exists_cons_of_length_eq_add_one h_15
        have h_16 : l16.length = 20 := by simpa using h_15
        obtain ⟨u16, l17, rfl⟩ := List.exists_cons_of_length_eq_add_one h_16
        have h_17 : l17.length = 19 := by simpa using h_16
        obtain ⟨u17, l18, rfl⟩ := List.exists_cons_of_length_eq_add_one h_17
        have h_18 : l18.length = 18 := by simpa using h_17
        obtain ⟨u18, l19, rfl⟩ := List.exists_cons_of_length_eq_add_one h_18
        have h_19 : l19.length = 17 := by simpa using h_18
        obtain ⟨u19, l20, rfl⟩ := List.exists_cons_of_length_eq_add_one h_19
        have h_20 : l20.length = 16 := by simpa using h_19
        obtain ⟨u20, l21, rfl⟩ := List.exists_cons_of_length_eq_add_one h_20
        have h_21 : l21.length = 15 := by simpa using h_20
        obtain ⟨u21, l22, rfl⟩ := List.exists_cons_of_length_eq_add_one h_21
        have h_22 : l22.length = 14 := by simpa using h_21
        obtain ⟨u22, l23, rfl⟩ := List.exists_cons_of_length_eq_add_one h_22
        have h_23 : l23.length = 13 := by simpa using h_22
        obtain ⟨u23, l24, rfl⟩ := List.exists_cons_of_length_eq_add_one h_23
        have h_24 : l24.length = 12 := by simpa using h_23
        obtain ⟨u24, l25, rfl⟩ := List.exists_cons_of_length_eq_add_one h_24
        have h_25 : l25.length = 11 := by simpa using h_24
        obtain ⟨u25, l26, rfl⟩ := List.exists_cons_of_length_eq_add_one h_25
        have h_26 : l26.length = 10 := by simpa using h_25
        obtain ⟨u26, l27, rfl⟩ := List.exists_cons_of_length_eq_add_one h_26
        have h_27 : l27.length = 9 := by simpa using h_26
        obtain ⟨u27, l28, rfl⟩ := List.exists_cons_of_length_eq_add_one h_27
        have h_28 : l28.length = 8 := by simpa using h_27
        obtain ⟨u28, l29, rfl⟩ := List.exists_cons_of_length_eq_add_one h_28
        have h_29 : l29.length = 7 := by simpa using h_28
        obtain ⟨u29, l30, rfl⟩ := List.exists_cons_of_length_eq_add_one h_29
        have h_30 : l30.length = 6 := by simpa using h_29
        obtain ⟨u30, l31, rfl⟩ := List.exists_cons_of_length_eq_add_one h_30
        have h_31 : l31.length = 5 := by simpa using h_30
        obtain ⟨u31, l32, rfl⟩ := List.exists_cons_of_length_eq_add_one h_31
        have h_32 : l32.length = 4 := by simpa using h_31
        obtain ⟨u32, l33, rfl⟩ := List.exists_cons_of_length_eq_add_one h_32
        have h_33 : l33.length = 3 := by simpa using h_32
        obtain ⟨u33, l34, rfl⟩ := List.exists_cons_of_length_eq_add_one h_33
        have h_34 : l34.length = 2 := by simpa using h_33
        obtain ⟨u34, l35, rfl⟩ := List.exists_cons_of_length_eq_add_one h_34
        have h_35 : l35.length = 1 := by simpa using h_34
        obtain ⟨u35, l36, rfl⟩ := List.exists_cons_of_length_eq_add_one h_35
        have h_36 : l36.length = 0 := by simpa using h_35
        obtain rfl := List.length_eq_zero_iff.1 h_36
        have h5 : u4 = .int .i64 c1 := h4
        subst h5
        have HR := hide hR
        clear h4 hR h0 h_1 h_2 h_3 h_4 h_5 h_6 h_7 h_8 h_9 h_10 h_11 h_12 h_13 h_14 h_15 h_16 h_17 h_18 h_19 h_20 h_21 h_22 h_23 h_24 h_25 h_26 h_27 h_28 h_29 h_30 h_31 h_32 h_33 h_34 h_35 h_36
        show Code.wp _ _ _ ⟨#[u0, u1, u2, u3, .int .i64 c1, u5, u6, u7, u8, u9, u10, u11, u12, u13, u14, u15, u16, u17, u18, u19, u20, u21, u22, u23, u24, u25, u26, u27, u28, u29, u30, u31, u32, u33, u34, u35], []⟩ w'
        go_wp2
        simp only [Exit.jump]
        go_ret
        exact ⟨rfl, HR.out⟩
      go_wp2_with fail
      with_reducible refine NM.out.mono ?_
      rintro e v1 ⟨rfl, r1⟩
      have d0 := r1.box.cell (i := 0) rfl
      have C2 := hide (CR.out _ r1)
      clear r1 NM CR
      go_wp2_with fail
      with_reducible refine C2.out.mono ?_
      rintro e v2 ⟨rfl, r2⟩
      have R2 := hide r2
      clear r2 C2
      go_wp2
      go_step3
      exact ⟨rfl, rfl, rfl, rfl, R2.out⟩

set_option maxHeartbeats 8000000 in
theorem wroom_any (g q : Nat) (S : Nat → Prop) (w u : World) (F : Fs) (L : Lg) (m : Nat) (h : Rn g q S w u F L) (hL : LimB m F) (hm : m + 10 ≤ 1073741824) :
    Calls Tryz.prog 25 #[.pointer (some ⟨q, 0, none⟩)] u fun e u' => e = .returned (.int .i64 (roomW F L.last).2.1) ∧ Rn g q S w u' (roomW F L.last).1 { L with last := (roomW F L.last).2.2 } := by
  have hw := h.wf
  have l0 := hw.l0
  have l1 := hw.l1
  have hd : Rn g q S w u.drew F L := h.below (Below.refl _ _).drew
  have d0 := hd.box.cell (i := 0) rfl
  have d1 : u.drew.cell? ⟨q, 1, none⟩ = some (.int .i64 L.last) := hd.box.cell (i := 1) rfl
  have NM := hide (rn_name hd L.last (i64_wf (by omega) (by omega)))
  have SZ := nmW_size L.last
  have ST : Hid (∀ v, Rn g q S w v F L → v.cell? ⟨q, 0, none⟩ = some (.pointer (some ⟨g, 0, none⟩)) ∧ v.cell? ⟨q, 1, none⟩ = some (.int .i64 L.last)) := fun v r => ⟨r.box.cell (i := 0) rfl, r.box.cell (i := 1) rfl⟩
  have TU := hide (fun v (r : Rn g q S w v F L) => wturn_any g q S w v F L m r hL hm)
  have RD := hide (fun v (r : Rn g q S w v F L) => rn_read r hL (by omega) (nmW L.last) (Nat.le_trans (nmW_size L.last) (by decide)))
  have LE : Hid ({ L with last := L.last } = L) := rfl
  have HT : Hid (roomW F L.last = if ((readF F (nmW L.last)).getD []).length < 4096 then (F, 0, L.last) else turnW F L.last) := rfl
  rw [HT.out]
  generalize turnW F L.last = tw at *
  obtain ⟨FT, cT, nT⟩ := tw
  dsimp only at TU
  obtain ⟨z, hz⟩ : ∃ z, Hid (L.last = z) := ⟨_, rfl⟩
  rw [hz.out] at d1 NM ST RD HT
  rw [hz.out]
  generalize nmW z = nm at *
  clear h hd hL hw
  cases hr : readF F nm with
  | none =>
    rw [hr] at RD
    simp only [ReadVp] at RD
    rw [if_pos (show ((none : Option (List Int)).getD []).length < 4096 by decide)]
    dsimp only
    rw [← hz.out, LE.out]
    clear HT TU hr
    go_enter Tryz.func25, Tryz.ntmps25
    go_upto_region 1 with fail
    refine wp_region_held_drew (S := fun v => v.cell? ⟨q, 0, none⟩ = some (.pointer (some ⟨g, 0, none⟩)) ∧ v.cell? ⟨q, 1, none⟩ = some (.int .i64 z)) (by kernel_rfl) ⟨d0, d1⟩ (fun hHeld => ?_)
    refine held_tk 0 (some 6) rfl rfl ?_
    refine held_tk 1 (some 7) rfl rfl ?_
    refine held_tk 2 (some 8) rfl rfl ?_
    refine held_tk 3 (some 9) rfl rfl ?_
    refine held_tk 4 (some 10) rfl rfl ?_
    refine held_tk 5 (some 11) rfl rfl ?_
    refine held_tk 6 (some 12) rfl rfl ?_
    refine held_tk 7 (some 13) rfl rfl ?_
    refine held_next (i := 8) (by kernel_rfl) rfl (by rfl) (fun K1 hK1 => ?_)
    go_simp
    with_reducible refine NM.out.mono ?_
    rintro e v1 ⟨rfl, r1⟩
    have S1 := hide (ST.out _ r1)
    have C1 := hide (RD.out _ r1)
    clear r1
    go_wp2_with fail
    refine hK1.out _ _ S1.out ?_
    clear hK1
    refine held_next (i := 9) (by kernel_rfl) rfl (by rfl) (fun K1 hK1 => ?_)
    go_simp
    with_reducible refine C1.out.mono ?_
    rintro e v2 ⟨⟨_, rfl⟩, r2⟩
    have S2 := hide (ST.out _ r2)
    have R2 := hide r2
    clear r2
    go_wp2_with fail
    refine hK1.out _ _ S2.out ?_
    clear hK1
    refine held_tk 10 (some 5) rfl rfl ?_
    refine held_tk 11 (some 16) rfl rfl ?_
    refine held_tk 12 (some 17) rfl rfl ?_
    refine held_tk 13 (some 3) rfl rfl ?_
    refine held_tk 14 (some 4) rfl rfl ?_
    clear hHeld
    refine wpAnyH_done (by kernel_rfl) ?_ _
    go_wp2
    go_ret
    exact ⟨rfl, R2.out⟩
  | some b =>
    rw [hr] at RD
    simp only [ReadVp] at RD
    rw [show ((some b : Option (List Int)).getD []).length = b.length from rfl]
    by_cases hb : b.length < 4096
    · rw [if_pos hb]
      dsimp only
      rw [← hz.out, LE.out]
      have b1 : (b.length : Int) < 4096 := by omega
      clear HT TU hr
      go_enter Tryz.func25, Tryz.ntmps25
      go_upto_region 1 with fail
      refine wp_region_held_drew (S := fun v => v.cell? ⟨q, 0, none⟩ = some (.pointer (some ⟨g, 0, none⟩)) ∧ v.cell? ⟨q, 1, none⟩ = some (.int .i64 z)) (by kernel_rfl) ⟨d0, d1⟩ (fun hHeld => ?_)
      refine held_tk 0 (some 6) rfl rfl ?_
      refine held_tk 1 (some 7) rfl rfl ?_
      refine held_tk 2 (some 8) rfl rfl ?_
      refine held_tk 3 (some 9) rfl rfl ?_
      refine held_tk 4 (some 10) rfl rfl ?_
      refine held_tk 5 (some 11) rfl rfl ?_
      refine held_tk 6 (some 12) rfl rfl ?_
      refine held_tk 7 (some 13) rfl rfl ?_
      refine held_next (i := 8) (by kernel_rfl) rfl (by rfl) (fun K1 hK1 => ?_)
      go_simp
      with_reducible refine NM.out.mono ?_
      rintro e v1 ⟨rfl, r1⟩
      have S1 := hide (ST.out _ r1)
      have C1 := hide (RD.out _ r1)
      clear r1
      go_wp2_with fail
      refine hK1.out _ _ S1.out ?_
      clear hK1
      refine held_next (i := 9) (by kernel_rfl) rfl (by rfl) (fun K1 hK1 => ?_)
      go_simp
      with_reducible refine C1.out.mono ?_
      rintro e v2 ⟨⟨_, a, c, rfl, _⟩, r2⟩
      have S2 := hide (ST.out _ r2)
      have R2 := hide r2
      clear r2
      go_wp2_with fail
      refine hK1.out _ _ S2.out ?_
      clear hK1
      refine held_tk 10 (some 5) rfl rfl ?_
      refine held_tk 11 (some 16) rfl rfl ?_
      refine held_tk 12 (some 17) rfl rfl ?_
      refine held_tk 13 (some 3) rfl rfl ?_
      refine held_tk 14 (some 4) rfl rfl ?_
      clear hHeld
      refine wpAnyH_done (by kernel_rfl) ?_ _
      go_wp2
      go_ret
      exact ⟨rfl, R2.out⟩
    · rw [if_neg hb]
      dsimp only
      have b1 : ¬ (b.length : Int) < 4096 := by omega
      clear HT hr
      go_enter Tryz.func25, Tryz.ntmps25
      go_upto_region 1 with fail
      refine wp_region_held_drew (S := fun v => v.cell? ⟨q, 0, none⟩ = some (.pointer (some ⟨g, 0, none⟩)) ∧ v.cell? ⟨q, 1, none⟩ = some (.int .i64 z)) (by kernel_rfl) ⟨d0, d1⟩ (fun hHeld => ?_)
      refine held_tk 0 (some 6) rfl rfl ?_
      refine held_tk 1 (some 7) rfl rfl ?_
      refine held_tk 2 (some 8) rfl rfl ?_
      refine held_tk 3 (some 9) rfl rfl ?_
      refine held_tk 4 (some 10) rfl rfl ?_
      refine held_tk 5 (some 11) rfl rfl ?_
      refine held_tk 6 (some 12) rfl rfl ?_
      refine held_tk 7 (some 13) rfl rfl ?_
      refine held_next (i := 8) (by kernel_rfl) rfl (by rfl) (fun K1 hK1 => ?_)
      go_simp
      with_reducible refine NM.out.mono ?_
      rintro e v1 ⟨rfl, r1⟩
      have S1 := hide (ST.out _ r1)
      have C1 := hide (RD.out _ r1)
      clear r1
      go_wp2_with fail
      refine hK1.out _ _ S1.out ?_
      clear hK1
      refine held_next (i := 9) (by kernel_rfl) rfl (by rfl) (fun K1 hK1 => ?_)
      go_simp
      with_reducible refine C1.out.mono ?_
      rintro e v2 ⟨⟨_, a, c, rfl, _⟩, r2⟩
      have S2 := hide (ST.out _ r2)
      have R2 := hide r2
      clear r2
      go_wp2_with fail
      refine hK1.out _ _ S2.out ?_
      clear hK1
      refine held_tk 10 (some 5) rfl rfl ?_
      refine held_tk 11 (some 16) rfl rfl ?_
      refine held_tk 12 (some 17) rfl rfl ?_
      refine held_tk 13 (some 3) rfl rfl ?_
      refine held_tk 14 (some 4) rfl rfl ?_
      clear hHeld
      refine wpAnyH_done (by kernel_rfl) ?_ _
      have C2 := hide (TU.out _ R2.out)
      go_wp2_with fail
      with_reducible refine C2.out.mono ?_
      rintro e v3 ⟨rfl, r3⟩
      have R3 := hide r3
      go_wp2
      go_ret
      exact ⟨rfl, R3.out⟩
end Go.Proofs.YtknghoecjobkiabGreatDoor

namespace Go.Proofs.YtknghoecjobkiabGreatDoor
open Go.RowKit Go.Maps
set_option maxRecDepth 20000
set_option linter.unusedVariables false

/-- The names that there are. -/
theorem contains_read {F : Fs} (h : GoodN F) (nm : ByteArray) : Lib.containsS (listF F) nm = (readF F nm).isSome := by
  rw [Bool.eq_iff_iff, Lib.containsS_iff]
  unfold listF readF fileF
  rw [(listD_names h.dir).1 nm, Option.isSome_map]
theorem wcontains_any {F : Fs} (h : GoodN F) (nm : ByteArray) (B : Nat) (a : Option Addr) (c : Nat) (v : World) (ho : OwnVs v B a (listF F).length c (listF F)) (hl : (listF F).length ≤ 9223372036854775807) :
    Calls Tryz.prog 48 #[.slice a (listF F).length c, .string nm] v fun e v' => e = .returned (.bool (readF F nm).isSome) ∧ v' = v := by
  rw [← contains_read h]
  by_cases h0 : (listF F).length = 0
  · have e := List.length_eq_zero_iff.1 h0
    rw [e]
    exact Tryz.slices_Contains_string_empty a c nm v
  · obtain ⟨b, rfl, _, _⟩ := ho.at' (i := 0) (by omega)
    have q := Tryz.slices_Contains_string b 0 (listF F).length c (listF F) nm v (Nat.le_refl _) hl (fun j hj => by
      obtain ⟨b', e, _, hc⟩ := ho.at' (i := j) hj
      obtain rfl : b = b' := by simpa using e
      rw [Nat.zero_add]
      exact hc)
    rw [List.take_length] at q
    exact q
theorem lim_mend {m : Nat} {F : Fs} (hL : LimB m F) (nm : ByteArray) (there : Bool) (torn : Int) : LimB (m + 2) (mendW F nm there torn).1 := by
  unfold mendW
  split
  · exact hL.create nm
  · split
    · exact hL.mono (by omega)
    · exact hL.cut nm torn
/-- To make ready, with the log's own cells. -/
def readyG (F : Fs) (L : Lg) : Fs × Int × Lg :=
  if L.rd = true then (F, 0, L)
  else if (mendW F (nmW L.found) (readF F (nmW L.found)).isSome L.torn).2 = 0 then
    (if (syncF (mendW F (nmW L.found) (readF F (nmW L.found)).isSome L.torn).1 (nmW L.found)).2 = 0 then
      (if (syncdirF (syncF (mendW F (nmW L.found) (readF F (nmW L.found)).isSome L.torn).1 (nmW L.found)).1).2 = 0 then ((syncdirF (syncF (mendW F (nmW L.found) (readF F (nmW L.found)).isSome L.torn).1 (nmW L.found)).1).1, 0, { L with torn := -1, rd := true })
       else ((syncdirF (syncF (mendW F (nmW L.found) (readF F (nmW L.found)).isSome L.torn).1 (nmW L.found)).1).1, (syncdirF (syncF (mendW F (nmW L.found) (readF F (nmW L.found)).isSome L.torn).1 (nmW L.found)).1).2, { L with torn := -1 }))
     else ((syncF (mendW F (nmW L.found) (readF F (nmW L.found)).isSome L.torn).1 (nmW L.found)).1, (syncF (mendW F (nmW L.found) (readF F (nmW L.found)).isSome L.torn).1 (nmW L.found)).2, { L with torn := -1 }))
  else ((mendW F (nmW L.found) (readF F (nmW L.found)).isSome L.torn).1, (mendW F (nmW L.found) (readF F (nmW L.found)).isSome L.torn).2, L)
set_option maxHeartbeats 8000000 in
theorem wmend_any (g q : Nat) (S : Nat → Prop) (w u : World) (F : Fs) (L : Lg) (m : Nat) (nm : ByteArray) (hs : nm.size ≤ 64) (h : Rn g q S w u F L) (hL : LimB m F) (hm : m + 10 ≤ 1073741824) :
    Calls Tryz.prog 21 #[.pointer (some ⟨q, 0, none⟩), .string nm] u fun e u' => e = .returned (.int .i64 (mendW F nm (readF F nm).isSome L.torn).2) ∧ Rn g q S w u' (mendW F nm (readF F nm).isSome L.torn).1 L := by
  have hw := h.wf
  have d0 := h.box.cell (i := 0) rfl
  have LS := hide (rn_list h hL (by omega))
  have LL : Hid ((listF F).length ≤ 9223372036854775807) := by
    have e := (listD_names h.good.2.dir).2.2
    have e2 := hL.names
    show (listD (dirF F)).length ≤ _
    rw [e]
    unfold dirF
    have e3 := turnsD_len F.turns F.sure
    omega
  have CN := hide (fun B a c v (ho : OwnVs v B a (listF F).length c (listF F)) => wcontains_any h.good.2 nm B a c v ho LL.out)
  have CR := hide (fun v (r : Rn g q S w v F L) => rn_create r hL (by omega) nm (by omega))
  have CT := hide (fun v (r : Rn g q S w v F L) => rn_cut r hL (by omega) nm (by omega) L.torn (i64_wf (by have := hw.t0; omega) hw.t1))
  have ST : Hid (∀ v, Rn g q S w v F L → v.cell? ⟨q, 0, none⟩ = some (.pointer (some ⟨g, 0, none⟩)) ∧ v.cell? ⟨q, 3, none⟩ = some (.int .i64 L.torn)) := fun v r => ⟨r.box.cell (i := 0) rfl, r.box.cell (i := 3) rfl⟩
  have HT : Hid (mendW F nm (readF F nm).isSome L.torn = if (readF F nm).isSome = false then createF F nm else if L.torn = -1 then (F, 0) else cutF F nm L.torn) := rfl
  rw [HT.out]
  generalize listF F = ls at *
  generalize (readF F nm).isSome = th at *
  obtain ⟨z, hz⟩ : ∃ z, Hid (L.torn = z) := ⟨_, rfl⟩
  rw [hz.out] at CT ST
  rw [hz.out]
  generalize createF F nm = cr at *
  obtain ⟨F1, c1⟩ := cr
  generalize cutF F nm z = ct at *
  obtain ⟨F2, c2⟩ := ct
  dsimp only at CR CT
  clear hL hw HT h
  cases th with
  | false =>
    rw [if_pos rfl]
    dsimp only
    go_enter Tryz.func21, Tryz.ntmps21
    go_wp2_with fail
    with_reducible refine LS.out.mono ?_
    rintro e v1 ⟨⟨a, c, rfl, ho⟩, r1⟩
    have K1 := hide (CN.out _ _ _ _ ho)
    have R1 := hide r1
    have S1 := hide (ST.out _ r1)
    clear ho r1 LS CN
    go_wp2_with fail
    with_reducible refine K1.out.mono ?_
    rintro e v2 ⟨rfl, hv⟩
    obtain rfl := hv.symm
    obtain ⟨e0, e3⟩ := S1.out
    clear K1
    have C1 := hide (CR.out _ R1.out)
    clear CR CT
    go_wp2_with fail
    with_reducible refine C1.out.mono ?_
    rintro e v3 ⟨rfl, r3⟩
    have R3 := hide r3
    clear r3 C1
    go_wp2
    go_ret
    exact ⟨rfl, R3.out⟩
  | true =>
    rw [if_neg (by decide)]
    by_cases ht : z = -1
    · rw [if_pos ht]
      dsimp only
      subst ht
      go_enter Tryz.func21, Tryz.ntmps21
      go_wp2_with fail
      with_reducible refine LS.out.mono ?_
      rintro e v1 ⟨⟨a, c, rfl, ho⟩, r1⟩
      have K1 := hide (CN.out _ _ _ _ ho)
      have R1 := hide r1
      have S1 := hide (ST.out _ r1)
      clear ho r1 LS CN
      go_wp2_with fail
      with_reducible refine K1.out.mono ?_
      rintro e v2 ⟨rfl, hv⟩
      obtain rfl := hv.symm
      obtain ⟨e0, e3⟩ := S1.out
      clear K1
      clear CR CT
      go_wp2
      go_ret
      exact ⟨rfl, R1.out⟩
    · rw [if_neg ht]
      dsimp only
      have n1 : (z != -1) = true := by simpa using ht
      go_enter Tryz.func21, Tryz.ntmps21
      go_wp2_with fail
      with_reducible refine LS.out.mono ?_
      rintro e v1 ⟨⟨a, c, rfl, ho⟩, r1⟩
      have K1 := hide (CN.out _ _ _ _ ho)
      have R1 := hide r1
      have S1 := hide (ST.out _ r1)
      clear ho r1 LS CN
      go_wp2_with fail
      with_reducible refine K1.out.mono ?_
      rintro e v2 ⟨rfl, hv⟩
      obtain rfl := hv.symm
      obtain ⟨e0, e3⟩ := S1.out
      clear K1
      have RD := hide (R1.out.below (Below.refl v1.heap.size v1).drew)
      obtain ⟨g0, g3⟩ := ST.out _ RD.out
      have C1 := hide (CT.out _ RD.out)
      clear CR CT
      go_upto_region 4 with fail
      refine wp_region_held_drew (S := fun v => v.cell? ⟨q, 0, none⟩ = some (.pointer (some ⟨g, 0, none⟩)) ∧ v.cell? ⟨q, 3, none⟩ = some (.int .i64 z)) (by kernel_rfl) ⟨g0, g3⟩ (fun hHeld => ?_)
      refine held_tk 0 (some 24) rfl rfl ?_
      refine held_tk 1 (some 25) rfl rfl ?_
      refine held_tk 2 (some 26) rfl rfl ?_
      refine held_tk 3 (some 27) rfl rfl ?_
      refine held_tk 4 (some 28) rfl rfl ?_
      refine held_tk 5 (some 29) rfl rfl ?_
      refine held_tk 6 (some 30) rfl rfl ?_
      refine held_tk 7 (some 31) rfl rfl ?_
      refine held_tk 8 (some 32) rfl rfl ?_
      refine held_next (i := 9) (by kernel_rfl) rfl (by rfl) (fun K1 hK1 => ?_)
      go_simp
      with_reducible refine C1.out.mono ?_
      rintro e v3 ⟨rfl, r3⟩
      have S3 : Hid (v3.cell? ⟨q, 0, none⟩ = some (.pointer (some ⟨g, 0, none⟩)) ∧ v3.cell? ⟨q, 3, none⟩ = some (.int .i64 z)) := ⟨r3.box.cell (i := 0) rfl, by rw [← hz.out]; exact r3.box.cell (i := 3) rfl⟩
      have R3 := hide r3
      clear r3
      go_wp2_with fail
      refine hK1.out _ _ S3.out ?_
      clear hK1
      refine held_tk 10 (some 4) rfl rfl ?_
      clear hHeld
      refine wpAnyH_done (by kernel_rfl) ?_ _
      go_wp2
      go_ret
      exact ⟨rfl, R3.out⟩

set_option maxHeartbeats 8000000 in
theorem wready_any (g q : Nat) (S : Nat → Prop) (w u : World) (F : Fs) (L : Lg) (m : Nat) (h : Rn g q S w u F L) (hL : LimB m F) (hm : m + 10 ≤ 1073741824) :
    Calls Tryz.prog 7 #[.pointer (some ⟨q, 0, none⟩)] u fun e u' => e = .returned (.int .i64 (readyG F L).2.1) ∧ Rn g q S w u' (readyG F L).1 (readyG F L).2.2 := by
  have hw := h.wf
  have l0 := hw.f0
  have l1 := hw.f1
  have d0 := h.box.cell (i := 0) rfl
  have d2 : u.cell? ⟨q, 2, none⟩ = some (.int .i64 L.found) := h.box.cell (i := 2) rfl
  have d4 : u.cell? ⟨q, 4, none⟩ = some (.bool L.rd) := h.box.cell (i := 4) rfl
  cases hr : L.rd with
  | true =>
    rw [hr] at d4
    rw [show readyG F L = (F, 0, L) from if_pos hr]
    dsimp only
    have R0 := hide h
    clear h hL
    go_enter Tryz.func7, Tryz.ntmps7
    go_wp2
    refine wp_scope_jumps 0 (fun a' w' => False) (fun _ _ => 0) rfl ?_ ?_
    rotate_left 1
    · rintro a' w' hf
      exact hf.elim
    go_wp2
    simp only [Exit.jump]
    go_ret
    exact ⟨rfl, R0.out⟩
  | false =>
    rw [hr] at d4
    have NM := hide (rn_name h L.found (i64_wf (by omega) (by omega)))
    have SZ := nmW_size L.found
    have ME := hide (fun v (r : Rn g q S w v F L) => wmend_any g q S w v F L m (nmW L.found) (by omega) r hL hm)
    have LM := hide (lim_mend hL (nmW L.found) (readF F (nmW L.found)).isSome L.torn)
    have HT : Hid (readyG F L = if (mendW F (nmW L.found) (readF F (nmW L.found)).isSome L.torn).2 = 0 then (if (syncF (mendW F (nmW L.found) (readF F (nmW L.found)).isSome L.torn).1 (nmW L.found)).2 = 0 then (if (syncdirF (syncF (mendW F (nmW L.found) (readF F (nmW L.found)).isSome L.torn).1 (nmW L.found)).1).2 = 0 then ((syncdirF (syncF (mendW F (nmW L.found) (readF F (nmW L.found)).isSome L.torn).1 (nmW L.found)).1).1, 0, { L with torn := -1, rd := true }) else ((syncdirF (syncF (mendW F (nmW L.found) (readF F (nmW L.found)).isSome L.torn).1 (nmW L.found)).1).1, (syncdirF (syncF (mendW F (nmW L.found) (readF F (nmW L.found)).isSome L.torn).1 (nmW L.found)).1).2, { L with torn := -1 })) else ((syncF (mendW F (nmW L.found) (readF F (nmW L.found)).isSome L.torn).1 (nmW L.found)).1, (syncF (mendW F (nmW L.found) (readF F (nmW L.found)).isSome L.torn).1 (nmW L.found)).2, { L with torn := -1 })) else ((mendW F (nmW L.found) (readF F (nmW L.found)).isSome L.torn).1, (mendW F (nmW L.found) (readF F (nmW L.found)).isSome L.torn).2, L)) := by show _ = _; unfold readyG; rw [if_neg (by rw [hr]; decide)]
    rw [HT.out]
    have W1 : Hid (LgW { L with torn := -1 }) := ⟨hw.l0, hw.l1, hw.f0, hw.f1, by show -1 ≤ (-1 : Int); omega, by show (-1 : Int) ≤ _; omega⟩
    have W2 : Hid (LgW { L with torn := -1, rd := true }) := ⟨hw.l0, hw.l1, hw.f0, hw.f1, by show -1 ≤ (-1 : Int); omega, by show (-1 : Int) ≤ _; omega⟩
    obtain ⟨z, hz⟩ : ∃ z, Hid (L.found = z) := ⟨_, rfl⟩
    rw [hz.out] at NM SZ ME LM d2
    rw [hz.out]
    generalize nmW z = nm at *
    generalize mendW F nm (readF F nm).isSome L.torn = me at *
    obtain ⟨F1, c1⟩ := me
    dsimp only at ME LM ⊢
    by_cases h1 : c1 = 0
    · subst h1
      rw [if_pos rfl]
      have SY := hide (fun v (r : Rn g q S w v F1 { L with torn := -1 }) => rn_sync r LM.out (by omega) nm (by omega))
      have LS := hide (LM.out.sync nm)
      generalize syncF F1 nm = sy at *
      obtain ⟨F2, c2⟩ := sy
      dsimp only at SY LS ⊢
      by_cases h2 : c2 = 0
      · subst h2
        rw [if_pos rfl]
        have SD := hide (fun v (r : Rn g q S w v F2 { L with torn := -1 }) => rn_syncdir r LS.out (by omega))
        generalize syncdirF F2 = sd at *
        obtain ⟨F3, c3⟩ := sd
        dsimp only at SD ⊢
        by_cases h3 : c3 = 0
        · subst h3
          rw [if_pos rfl]
          dsimp only
          rw [← hz.out]
          clear HT hL
          clear h
          go_enter Tryz.func7, Tryz.ntmps7
          go_wp2
          refine wp_scope_jumps 0 (fun a' w' => a'.defers = [] ∧ a'.tmps.size = 41 ∧ a'.tmps.getD 4 undef = .int .i64 0 ∧ Rn g q S w w' F3 { L with torn := -1, rd := true }) (fun _ _ => 0) rfl ?_ ?_
          rotate_left 1
          · rintro ⟨⟨l0⟩, dd⟩ w' ⟨hd, h0, h4, hR⟩
            dsimp only at hd
            subst hd
            have h0 : l0.length = 41 := h0
            obtain ⟨u0, l1, rfl⟩ := List.exists_cons_of_length_eq_add_one h0
            have h_1 : l1.length = 40 := by simpa using h0
            obtain ⟨u1, l2, rfl⟩ := List.exists_cons_of_length_eq_add_one h_1
            have h_2 : l2.length = 39 := by simpa using h_1
            obtain ⟨u2, l3, rfl⟩ := List.exists_cons_of_length_eq_add_one h_2
            have h_3 : l3.length = 38 := by simpa using h_2
            obtain ⟨u3, l4, rfl⟩ := List.exists_cons_of_length_eq_add_one h_3
            have h_4 : l4.length = 37 := by simpa using h_3
            obtain ⟨u4, l5, rfl⟩ := List.exists_cons_of_length_eq_add_one h_4
            have h_5 : l5.length = 36 := by simpa using h_4
            obtain ⟨u5, l6, rfl⟩ := List.exists_cons_of_length_eq_add_one h_5
            have h_6 : l6.length = 35 := by simpa using h_5
            obtain ⟨u6, l7, rfl⟩ := List.exists_cons_of_length_eq_add_one h_6
            have h_7 : l7.length = 34 := by simpa using h_6
            obtain ⟨u7, l8, rfl⟩ := List.exists_cons_of_length_eq_add_one h_7
            have h_8 : l8.length = 33 := by simpa using h_7
            obtain ⟨u8, l9, rfl⟩ := List.exists_cons_of_length_eq_add_one h_8
            have h_9 : l9.length = 32 := by simpa using h_8
            obtain ⟨u9, l10, rfl⟩ := List.exists_cons_of_length_eq_add_one h_9
            have h_10 : l10.length = 31 := by simpa using h_9
            obtain ⟨u10, l11, rfl⟩ := List.exists_cons_of_length_eq_add_one h_10
            have h_11 : l11.length = 30 := by simpa using h_10
            obtain ⟨u11, l12, rfl⟩ := List.exists_cons_of_length_eq_add_one h_11
            have h_12 : l12.length = 29 := by simpa using h_11
            obtain ⟨u12, l13, rfl⟩ := List.exists_cons_of_length_eq_add_one h_12
            have h_13 : l13.length = 28 := by simpa using h_12
            obtain ⟨u13, l14, rfl⟩ := List.exists_cons_of_length_eq_add_one h_13
            have h_14 : l14.length = 27 := by simpa using h_13
            obtain ⟨u14, l15, rfl⟩ := List.exists_cons_of_length_eq_add_one h_14
            have h_15 : l15.length = 26 := by simpa using h_14
            obtain ⟨u15, l16, rfl⟩ := List.exists_cons_of_length_eq_add_one h_15
            have h_16 : l16.length = 25 := by simpa using h_15
            obtain ⟨u16, l17, rfl⟩ := List.exists_cons_of_length_eq_add_one h_16
            have h_17 : l17.length = 24 := by simpa using h_16
            obtain ⟨u17, l18, rfl⟩ := List.exists_cons_of_length_eq_add_one h_17
            have h_18 : l18.length = 23 := by simpa using h_17
            obtain ⟨u18, l19, rfl⟩ := List.exists_cons_of_length_eq_add_one h_18
            have h_19 : l19.length = 22 := by simpa using h_18
            obtain ⟨u19, l20, rfl⟩ := List.exists_cons_of_length_eq_add_one h_19
            have h_20 : l20.length = 21 := by simpa using h_19
            obtain ⟨u20, l21, rfl⟩ := List.exists_cons_of_length_eq_add_one h_20
            have h_21 : l21.length = 20 := by simpa using h_20
            obtain ⟨u21, l22, rfl⟩ := List.exists_cons_of_length_eq_add_one h_21
            have h_22 : l22.length = 19 := by simpa using h_21
            obtain ⟨u22, l23, rfl⟩ := List.exists_cons_of_length_eq_add_one h_22
            have h_23 : l23.length = 18 := by simpa using h_22
            obtain ⟨u23, l24, rfl⟩ := List.exists_cons_of_length_eq_add_one h_23
            have h_24 : l24.length = 17 := by simpa using h_23
            obtain ⟨u24, l25, rfl⟩ := List.exists_cons_of_length_eq_add_one h_24
            have h_25 : l25.length = 16 := by simpa using h_24
            obtain ⟨u25, l26, rfl⟩ := List.exists_cons_of_length_eq_add_one h_25
            have h_26 : l26.length = 15 := by simpa using h_25
            obtain ⟨u26, l27, rfl⟩ := List.exists_cons_of_length_eq_add_one h_26
            have h_27 : l27.length = 14 := by simpa using h_26
            obtain ⟨u27, l28, rfl⟩ := List.exists_cons_of_length_eq_add_one h_27
            have h_28 : l28.length = 13 := by simpa using h_27
            obtain ⟨u28, l29, rfl⟩ := List.exists_cons_of_length_eq_add_one h_28
            have h_29 : l29.length = 12 := by simpa using h_28
            obtain ⟨u29, l30, rfl⟩ := List.exists_cons_of_length_eq_add_one h_29
            have h_30 : l30.length = 11 := by simpa using h_29
            obtain ⟨u30, l31, rfl⟩ := List.exists_cons_of_length_eq_add_one h_30
            have h_31 : l31.length = 10 := by simpa using h_30
            obtain ⟨u31, l32, rfl⟩ := List.exists_cons_of_length_eq_add_one h_31
            have h_32 : l32.length = 9 := by simpa using h_31
            obtain ⟨u32, l33, rfl⟩ := List.exists_cons_of_length_eq_add_one h_32
            have h_33 : l33.length = 8 := by simpa using h_32
            obtain ⟨u33, l34, rfl⟩ := List.exists_cons_of_length_eq_add_one h_33
            have h_34 : l34.length = 7 := by simpa using h_33
            obtain ⟨u34, l35, rfl⟩ := List.exists_cons_of_length_eq_add_one h_34
            have h_35 : l35.length = 6 := by simpa using h_34
            obtain ⟨u35, l36, rfl⟩ := List.exists_cons_of_length_eq_add_one h_35
            have h_36 : l36.length = 5 := by simpa using h_35
            obtain ⟨u36, l37, rfl⟩ := List.exists_cons_of_length_eq_add_one h_36
            have h_37 : l37.length = 4 := by simpa using h_36
            obtain ⟨u37, l38, rfl⟩ := List.exists_cons_of_length_eq_add_one h_37
            have h_38 : l38.length = 3 := by simpa using h_37
            obtain ⟨u38, l39, rfl⟩ := List.exists_cons_of_length_eq_add_one h_38
            have h_39 : l39.length = 2 := by simpa using h_38
            obtain ⟨u39, l40, rfl⟩ := List.exists_cons_of_length_eq_add_one h_39
            have h_40 : l40.length = 1 := by simpa using h_39
            obtain ⟨u40, l41, rfl⟩ := List.exists_cons_of_length_eq_add_one h_40
            have h_41 : l41.length = 0 := by simpa using h_40
            obtain rfl := List.length_eq_zero_iff.1 h_41
            have h5 : u4 = .int .i64 0 := h4
            subst h5
            have HR := hide hR
            clear h4 hR h0 h_1 h_2 h_3 h_4 h_5 h_6 h_7 h_8 h_9 h_10 h_11 h_12 h_13 h_14 h_15 h_16 h_17 h_18 h_19 h_20 h_21 h_22 h_23 h_24 h_25 h_26 h_27 h_28 h_29 h_30 h_31 h_32 h_33 h_34 h_35 h_36 h_37 h_38 h_39 h_40 h_41
            show Code.wp _ _ _ ⟨#[u0, u1, u2, u3, .int .i64 0, u5, u6, u7, u8, u9, u10, u11, u12, u13, u14, u15, u16, u17, u18, u19, u20, u21, u22, u23, u24, u25, u26, u27, u28, u29, u30, u31, u32, u33, u34, u35, u36, u37, u38, u39, u40], []⟩ w'
            go_wp2
            simp only [Exit.jump]
            go_ret
            exact ⟨rfl, HR.out⟩
          go_wp2_with fail
          with_reducible refine NM.out.mono ?_
          rintro e v1 ⟨rfl, r1⟩
          have C2 := hide (ME.out _ r1)
          clear r1 NM ME
          go_wp2_with fail
          with_reducible refine C2.out.mono ?_
          rintro e v2 ⟨rfl, r2⟩
          have b3 := r2.box.cell (i := 3) rfl
          have f3 := r2.box.free 3
          have r3 : Rn g q S w (v2.setCell ⟨q, 3, none⟩ (.int .i64 (-1))) F1 { L with torn := -1 } := r2.set 3 _ W1.out rfl
          have b0 := r3.box.cell (i := 0) rfl
          have C3 := hide (SY.out _ r3)
          clear r2 r3 C2 SY
          go_wp2_with fail
          with_reducible refine C3.out.mono ?_
          rintro e v3 ⟨rfl, r4⟩
          have c0 := r4.box.cell (i := 0) rfl
          have C4 := hide (SD.out _ r4)
          clear r4 C3 SD b0 b3 f3
          go_wp2_with fail
          with_reducible refine C4.out.mono ?_
          rintro e v4 ⟨rfl, r5⟩
          have b4 := r5.box.cell (i := 4) rfl
          have f4 := r5.box.free 4
          have R6 : Hid (Rn g q S w (v4.setCell ⟨q, 4, none⟩ (.bool true)) F3 { L with torn := -1, rd := true }) := r5.set 4 _ W2.out rfl
          clear r5 C4
          go_wp2
          go_step3
          go_wp2
          simp only [Exit.jump]
          go_ret
          exact ⟨rfl, R6.out⟩
        · rw [if_neg h3]
          dsimp only
          rw [← hz.out]
          have n3 : (c3 != 0) = true := by simpa using h3
          clear HT hL
          clear h
          go_enter Tryz.func7, Tryz.ntmps7
          go_wp2
          refine wp_scope_jumps 0 (fun a' w' => a'.defers = [] ∧ a'.tmps.size = 41 ∧ a'.tmps.getD 4 undef = .int .i64 c3 ∧ Rn g q S w w' F3 { L with torn := -1 }) (fun _ _ => 0) rfl ?_ ?_
          rotate_left 1
          · rintro ⟨⟨l0⟩, dd⟩ w' ⟨hd, h0, h4, hR⟩
            dsimp only at hd
            subst hd
            have h0 : l0.length = 41 := h0
            obtain ⟨u0, l1, rfl⟩ := List.exists_cons_of_length_eq_add_one h0
            have h_1 : l1.length = 40 := by simpa using h0
            obtain ⟨u1, l2, rfl⟩ := List.exists_cons_of_length_eq_add_one h_1
            have h_2 : l2.length = 39 := by simpa using h_1
            obtain ⟨u2, l3, rfl⟩ := List.exists_cons_of_length_eq_add_one h_2
            have h_3 : l3.length = 38 := by simpa using h_2
            obtain ⟨u3, l4, rfl⟩ := List.exists_cons_of_length_eq_add_one h_3
            have h_4 : l4.length = 37 := by simpa using h_3
            obtain ⟨u4, l5, rfl⟩ := List.exists_cons_of_length_eq_add_one h_4
            have h_5 : l5.length = 36 := by simpa using h_4
            obtain ⟨u5, l6, rfl⟩ := List.exists_cons_of_length_eq_add_one h_5
            have h_6 : l6.length = 35 := by simpa using h_5
            obtain ⟨u6, l7, rfl⟩ := List.exists_cons_of_length_eq_add_one h_6
            have h_7 : l7.length = 34 := by simpa using h_6
            obtain ⟨u7, l8, rfl⟩ := List.exists_cons_of_length_eq_add_one h_7
            have h_8 : l8.length = 33 := by simpa using h_7
            obtain ⟨u8, l9, rfl⟩ := List.exists_cons_of_length_eq_add_one h_8
            have h_9 : l9.length = 32 := by simpa using h_8
            obtain ⟨u9, l10, rfl⟩ := List.exists_cons_of_length_eq_add_one h_9
            have h_10 : l10.length = 31 := by simpa using h_9
            obtain ⟨u10, l11, rfl⟩ := List.exists_cons_of_length_eq_add_one h_10
            have h_11 : l11.length = 30 := by simpa using h_10
            obtain ⟨u11, l12, rfl⟩ := List.exists_cons_of_length_eq_add_one h_11
            have h_12 : l12.length = 29 := by simpa using h_11
            obtain ⟨u12, l13, rfl⟩ := List.exists_cons_of_length_eq_add_one h_12
            have h_13 : l13.length = 28 := by simpa using h_12
            obtain ⟨u13, l14, rfl⟩ := List.exists_cons_of_length_eq_add_one h_13
            have h_14 : l14.length = 27 := by simpa using h_13
            obtain ⟨u14, l15, rfl⟩ := List.exists_cons_of_length_eq_add_one h_14
            have h_15 : l15.length = 26 := by simpa using h_14
            obtain ⟨u15, l16, rfl⟩ := List.exists_cons_of_length_eq_add_one h_15
            have h_16 : l16.length = 25 := by simpa using h_15
            obtain ⟨u16, l17, rfl⟩ := List.exists_cons_of_length_eq_add_one h_16
            have h_17 : l17.length = 24 := by simpa using h_16
            obtain ⟨u17, l18, rfl⟩ := List.exists_cons_of_length_eq_add_one h_17
            have h_18 : l18.length = 23 := by simpa using h_17
            obtain ⟨u18, l19, rfl⟩ := List.exists_cons_of_length_eq_add_one h_18
            have h_19 : l19.length = 22 := by simpa using h_18
            obtain ⟨u19, l20, rfl⟩ := List.exists_cons_of_length_eq_add_one h_19
            have h_20 : l20.length = 21 := by simpa using h_19
            obtain ⟨u20, l21, rfl⟩ := List.exists_cons_of_length_eq_add_one h_20
            have h_21 : l21.length = 20 := by simpa using h_20
            obtain ⟨u21, l22, rfl⟩ := List.exists_cons_of_length_eq_add_one h_21
            have h_22 : l22.length = 19 := by simpa using h_21
            obtain ⟨u22, l23, rfl⟩ := List.exists_cons_of_length_eq_add_one h_22
            have h_23 : l23.length = 18 := by simpa using h_22
            obtain ⟨u23, l24, rfl⟩ := List.exists_cons_of_length_eq_add_one h_23
            have h_24 : l24.length = 17 := by simpa using h_23
            obtain ⟨u24, l25, rfl⟩ := List.exists_cons_of_length_eq_add_one h_24
            have h_25 : l25.length = 16 := by simpa using h_24
            obtain ⟨u25, l26, rfl⟩ := List.exists_cons_of_length_eq_add_one h_25
            have h_26 : l26.length = 15 := by simpa using h_25
            obtain ⟨u26, l27, rfl⟩ := List.exists_cons_of_length_eq_add_one h_26
            have h_27 : l27.length = 14 := by simpa using h_26
            obtain ⟨u27, l28, rfl⟩ := List.exists_cons_of_length_eq_add_one h_27
            have h_28 : l28.length = 13 := by simpa using h_27
            obtain ⟨u28, l29, rfl⟩ := List.exists_cons_of_length_eq_add_one h_28
            have h_29 : l29.length = 12 := by simpa using h_28
            obtain ⟨u29, l30, rfl⟩ := List.exists_cons_of_length_eq_add_one h_29
            have h_30 : l30.length = 11 := by simpa using h_29
            obtain ⟨u30, l31, rfl⟩ := List.exists_cons_of_length_eq_add_one h_30
            have h_31 : l31.length = 10 := by simpa using h_30
            obtain ⟨u31, l32, rfl⟩ := List.exists_cons_of_length_eq_add_one h_31
            have h_32 : l32.length = 9 := by simpa using h_31
            obtain ⟨u32, l33, rfl⟩ := List.exists_cons_of_length_eq_add_one h_32
            have h_33 : l33.length = 8 := by simpa using h_32
            obtain ⟨u33, l34, rfl⟩ := List.exists_cons_of_length_eq_add_one h_33
            have h_34 : l34.length = 7 := by simpa using h_33
            obtain ⟨u34, l35, rfl⟩ := List.exists_cons_of_length_eq_add_one h_34
            have h_35 : l35.length = 6 := by simpa using h_34
            obtain ⟨u35, l36, rfl⟩ := List.exists_cons_of_length_eq_add_one h_35
            have h_36 : l36.length = 5 := by simpa using h_35
            obtain ⟨u36, l37, rfl⟩ := List.exists_cons_of_length_eq_add_one h_36
            have h_37 : l37.length = 4 := by simpa using h_36
            obtain ⟨u37, l38, rfl⟩ := List.exists_cons_of_length_eq_add_one h_37
            have h_38 : l38.length = 3 := by simpa using h_37
            obtain ⟨u38, l39, rfl⟩ := List.exists_cons_of_length_eq_add_one h_38
            have h_39 : l39.length = 2 := by simpa using h_38
            obtain ⟨u39, l40, rfl⟩ := List.exists_cons_of_length_eq_add_one h_39
            have h_40 : l40.length = 1 := by simpa using h_39
            obtain ⟨u40, l41, rfl⟩ := List.exists_cons_of_length_eq_add_one h_40
            have h_41 : l41.length = 0 := by simpa using h_40
            obtain rfl := List.length_eq_zero_iff.1 h_41
            have h5 : u4 = .int .i64 c3 := h4
            subst h5
            have HR := hide hR
            clear h4 hR h0 h_1 h_2 h_3 h_4 h_5 h_6 h_7 h_8 h_9 h_10 h_11 h_12 h_13 h_14 h_15 h_16 h_17 h_18 h_19 h_20 h_21 h_22 h_23 h_24 h_25 h_26 h_27 h_28 h_29 h_30 h_31 h_32 h_33 h_34 h_35 h_36 h_37 h_38 h_39 h_40 h_41
            show Code.wp _ _ _ ⟨#[u0, u1, u2, u3, .int .i64 c3, u5, u6, u7, u8, u9, u10, u11, u12, u13, u14, u15, u16, u17, u18, u19, u20, u21, u22, u23, u24, u25, u26, u27, u28, u29, u30, u31, u32, u33, u34, u35, u36, u37, u38, u39, u40], []⟩ w'
            go_wp2
            simp only [Exit.jump]
            go_ret
            exact ⟨rfl, HR.out⟩
          go_wp2_with fail
          with_reducible refine NM.out.mono ?_
          rintro e v1 ⟨rfl, r1⟩
          have C2 := hide (ME.out _ r1)
          clear r1 NM ME
          go_wp2_with fail
          with_reducible refine C2.out.mono ?_
          rintro e v2 ⟨rfl, r2⟩
          have b3 := r2.box.cell (i := 3) rfl
          have f3 := r2.box.free 3
          have r3 : Rn g q S w (v2.setCell ⟨q, 3, none⟩ (.int .i64 (-1))) F1 { L with torn := -1 } := r2.set 3 _ W1.out rfl
          have b0 := r3.box.cell (i := 0) rfl
          have C3 := hide (SY.out _ r3)
          clear r2 r3 C2 SY
          go_wp2_with fail
          with_reducible refine C3.out.mono ?_
          rintro e v3 ⟨rfl, r4⟩
          have c0 := r4.box.cell (i := 0) rfl
          have C4 := hide (SD.out _ r4)
          clear r4 C3 SD b0 b3 f3
          go_wp2_with fail
          with_reducible refine C4.out.mono ?_
          rintro e v4 ⟨rfl, r5⟩
          have R2 := hide r5
          clear r5 C4
          go_wp2
          go_step3
          exact ⟨rfl, rfl, rfl, rfl, R2.out⟩
      · rw [if_neg h2]
        dsimp only
        rw [← hz.out]
        have n2 : (c2 != 0) = true := by simpa using h2
        clear HT hL
        clear h
        go_enter Tryz.func7, Tryz.ntmps7
        go_wp2
        refine wp_scope_jumps 0 (fun a' w' => a'.defers = [] ∧ a'.tmps.size = 41 ∧ a'.tmps.getD 4 undef = .int .i64 c2 ∧ Rn g q S w w' F2 { L with torn := -1 }) (fun _ _ => 0) rfl ?_ ?_
        rotate_left 1
        · rintro ⟨⟨l0⟩, dd⟩ w' ⟨hd, h0, h4, hR⟩
          dsimp only at hd
          subst hd
          have h0 : l0.length = 41 := h0
          obtain ⟨u0, l1, rfl⟩ := List.exists_cons_of_length_eq_add_one h0
          have h_1 : l1.length = 40 := by simpa using h0
          obtain ⟨u1, l2, rfl⟩ := List.exists_cons_of_length_eq_add_one h_1
          have h_2 : l2.length = 39 := by simpa using h_1
          obtain ⟨u2, l3, rfl⟩ := List.exists_cons_of_length_eq_add_one h_2
          have h_3 : l3.length = 38 := by simpa using h_2
          obtain ⟨u3, l4, rfl⟩ := List.exists_cons_of_length_eq_add_one h_3
          have h_4 : l4.length = 37 := by simpa using h_3
          obtain ⟨u4, l5, rfl⟩ := List.exists_cons_of_length_eq_add_one h_4
          have h_5 : l5.length = 36 := by simpa using h_4
          obtain ⟨u5, l6, rfl⟩ := List.exists_cons_of_length_eq_add_one h_5
          have h_6 : l6.length = 35 := by simpa using h_5
          obtain ⟨u6, l7, rfl⟩ := List.exists_cons_of_length_eq_add_one h_6
          have h_7 : l7.length = 34 := by simpa using h_6
          obtain ⟨u7, l8, rfl⟩ := List.exists_cons_of_length_eq_add_one h_7
          have h_8 : l8.length = 33 := by simpa using h_7
          obtain ⟨u8, l9, rfl⟩ := List.exists_cons_of_length_eq_add_one h_8
          have h_9 : l9.length = 32 := by simpa using h_8
          obtain ⟨u9, l10, rfl⟩ := List.exists_cons_of_length_eq_add_one h_9
          have h_10 : l10.length = 31 := by simpa using h_9
          obtain ⟨u10, l11, rfl⟩ := List.exists_cons_of_length_eq_add_one h_10
          have h_11 : l11.length = 30 := by simpa using h_10
          obtain ⟨u11, l12, rfl⟩ := List.exists_cons_of_length_eq_add_one h_11
          have h_12 : l12.length = 29 := by simpa using h_11
          obtain ⟨u12, l13, rfl⟩ := List.exists_cons_of_length_eq_add_one h_12
          have h_13 : l13.length = 28 := by simpa using h_12
          obtain ⟨u13, l14, rfl⟩ := List.exists_cons_of_length_eq_add_one h_13
          have h_14 : l14.length = 27 := by simpa using h_13
          obtain ⟨u14, l15, rfl⟩ := List.exists_cons_of_length_eq_add_one h_14
          have h_15 : l15.length = 26 := by simpa using h_14
          obtain ⟨u15, l16, rfl⟩ := List.exists_cons_of_length_eq_add_one h_15
          have h_16 : l16.length = 25 := by simpa using h_15
          obtain ⟨u16, l17, rfl⟩ := List.exists_cons_of_length_eq_add_one h_16
          have h_17 : l17.length = 24 := by simpa using h_16
          obtain ⟨u17, l18, rfl⟩ := List.exists_cons_of_length_eq_add_one h_17
          have h_18 : l18.length = 23 := by simpa using h_17
          obtain ⟨u18, l19, rfl⟩ := List.exists_cons_of_length_eq_add_one h_18
          have h_19 : l19.length = 22 := by simpa using h_18
          obtain ⟨u19, l20, rfl⟩ := List.exists_cons_of_length_eq_add_one h_19
          have h_20 : l20.length = 21 := by simpa using h_19
          obtain ⟨u20, l21, rfl⟩ := List.exists_cons_of_length_eq_add_one h_20
          have h_21 : l21.length = 20 := by simpa using h_20
          obtain ⟨u21, l22, rfl⟩ := List.exists_cons_of_length_eq_add_one h_21
          have h_22 : l22.length = 19 := by simpa using h_21
          obtain ⟨u22, l23, rfl⟩ := List.exists_cons_of_length_eq_add_one h_22
          have h_23 : l23.length = 18 := by simpa using h_22
          obtain ⟨u23, l24, rfl⟩ := List.exists_cons_of_length_eq_add_one h_23
          have h_24 : l24.length = 17 := by simpa using h_23
          obtain ⟨u24, l25, rfl⟩ := List.exists_cons_of_length_eq_add_one h_24
          have h_25 : l25.length = 16 := by simpa using h_24
          obtain ⟨u25, l26, rfl⟩ := List.exists_cons_of_length_eq_add_one h_25
          have h_26 : l26.length = 15 := by simpa using h_25
          obtain ⟨u26, l27, rfl⟩ := List.exists_cons_of_length_eq_add_one h_26
          have h_27 : l27.length = 14 := by simpa using h_26
          obtain ⟨u27, l28, rfl⟩ := List.exists_cons_of_length_eq_add_one h_27
          have h_28 : l28.length = 13 := by simpa using h_27
          obtain ⟨u28, l29, rfl⟩ := List.exists_cons_of_length_eq_add_one h_28
          have h_29 : l29.length = 12 := by simpa using h_28
          obtain ⟨u29, l30, rfl⟩ := List.exists_cons_of_length_eq_add_one h_29
          have h_30 : l30.length = 11 := by simpa using h_29
          obtain ⟨u30, l31, rfl⟩ := List.exists_cons_of_length_eq_add_one h_30
          have h_31 : l31.length = 10 := by simpa using h_30
          obtain ⟨u31, l32, rfl⟩ := List.exists_cons_of_length_eq_add_one h_31
          have h_32 : l32.length = 9 := by simpa using h_31
          obtain ⟨u32, l33, rfl⟩ := List.exists_cons_of_length_eq_add_one h_32
          have h_33 : l33.length = 8 := by simpa using h_32
          obtain ⟨u33, l34, rfl⟩ := List.exists_cons_of_length_eq_add_one h_33
          have h_34 : l34.length = 7 := by simpa using h_33
          obtain ⟨u34, l35, rfl⟩ := List.exists_cons_of_length_eq_add_one h_34
          have h_35 : l35.length = 6 := by simpa using h_34
          obtain ⟨u35, l36, rfl⟩ := List.exists_cons_of_length_eq_add_one h_35
          have h_36 : l36.length = 5 := by simpa using h_35
          obtain ⟨u36, l37, rfl⟩ := List.exists_cons_of_length_eq_add_one h_36
          have h_37 : l37.length = 4 := by simpa using h_36
          obtain ⟨u37, l38, rfl⟩ := List.exists_cons_of_length_eq_add_one h_37
          have h_38 : l38.length = 3 := by simpa using h_37
          obtain ⟨u38, l39, rfl⟩ := List.exists_cons_of_length_eq_add_one h_38
          have h_39 : l39.length = 2 := by simpa using h_38
          obtain ⟨u39, l40, rfl⟩ := List.exists_cons_of_length_eq_add_one h_39
          have h_40 : l40.length = 1 := by simpa using h_39
          obtain ⟨u40, l41, rfl⟩ := List.exists_cons_of_length_eq_add_one h_40
          have h_41 : l41.length = 0 := by simpa using h_40
          obtain rfl := List.length_eq_zero_iff.1 h_41
          have h5 : u4 = .int .i64 c2 := h4
          subst h5
          have HR := hide hR
          clear h4 hR h0 h_1 h_2 h_3 h_4 h_5 h_6 h_7 h_8 h_9 h_10 h_11 h_12 h_13 h_14 h_15 h_16 h_17 h_18 h_19 h_20 h_21 h_22 h_23 h_24 h_25 h_26 h_27 h_28 h_29 h_30 h_31 h_32 h_33 h_34 h_35 h_36 h_37 h_38 h_39 h_40 h_41
          show Code.wp _ _ _ ⟨#[u0, u1, u2, u3, .int .i64 c2, u5, u6, u7, u8, u9, u10, u11, u12, u13, u14, u15, u16, u17, u18, u19, u20, u21, u22, u23, u24, u25, u26, u27, u28, u29, u30, u31, u32, u33, u34, u35, u36, u37, u38, u39, u40], []⟩ w'
          go_wp2
          simp only [Exit.jump]
          go_ret
          exact ⟨rfl, HR.out⟩
        go_wp2_with fail
        with_reducible refine NM.out.mono ?_
        rintro e v1 ⟨rfl, r1⟩
        have C2 := hide (ME.out _ r1)
        clear r1 NM ME
        go_wp2_with fail
        with_reducible refine C2.out.mono ?_
        rintro e v2 ⟨rfl, r2⟩
        have b3 := r2.box.cell (i := 3) rfl
        have f3 := r2.box.free 3
        have r3 : Rn g q S w (v2.setCell ⟨q, 3, none⟩ (.int .i64 (-1))) F1 { L with torn := -1 } := r2.set 3 _ W1.out rfl
        have b0 := r3.box.cell (i := 0) rfl
        have C3 := hide (SY.out _ r3)
        clear r2 r3 C2 SY
        go_wp2_with fail
        with_reducible refine C3.out.mono ?_
        rintro e v3 ⟨rfl, r4⟩
        have R2 := hide r4
        clear r4 C3 b0 b3 f3
        go_wp2
        go_step3
        exact ⟨rfl, rfl, rfl, rfl, R2.out⟩
    · rw [if_neg h1]
      dsimp only
      have n1 : (c1 != 0) = true := by simpa using h1
      clear HT hL
      clear h
      go_enter Tryz.func7, Tryz.ntmps7
      go_wp2
      refine wp_scope_jumps 0 (fun a' w' => a'.defers = [] ∧ a'.tmps.size = 41 ∧ a'.tmps.getD 4 undef = .int .i64 c1 ∧ Rn g q S w w' F1 L) (fun _ _ => 0) rfl ?_ ?_
      rotate_left 1
      · rintro ⟨⟨l0⟩, dd⟩ w' ⟨hd, h0, h4, hR⟩
        dsimp only at hd
        subst hd
        have h0 : l0.length = 41 := h0
        obtain ⟨u0, l1, rfl⟩ := List.exists_cons_of_length_eq_add_one h0
        have h_1 : l1.length = 40 := by simpa using h0
        obtain ⟨u1, l2, rfl⟩ := List.exists_cons_of_length_eq_add_one h_1
        have h_2 : l2.length = 39 := by simpa using h_1
        obtain ⟨u2, l3, rfl⟩ := List.exists_cons_of_length_eq_add_one h_2
        have h_3 : l3.length = 38 := by simpa using h_2
        obtain ⟨u3, l4, rfl⟩ := List.exists_cons_of_length_eq_add_one h_3
        have h_4 : l4.length = 37 := by simpa using h_3
        obtain ⟨u4, l5, rfl⟩ := List.exists_cons_of_length_eq_add_one h_4
        have h_5 : l5.length = 36 := by simpa using h_4
        obtain ⟨u5, l6, rfl⟩ := List.exists_cons_of_length_eq_add_one h_5
        have h_6 : l6.length = 35 := by simpa using h_5
        obtain ⟨u6, l7, rfl⟩ := List.exists_cons_of_length_eq_add_one h_6
        have h_7 : l7.length = 34 := by simpa using h_6
        obtain ⟨u7, l8, rfl⟩ := List.exists_cons_of_length_eq_add_one h_7
        have h_8 : l8.length = 33 := by simpa using h_7
        obtain ⟨u8, l9, rfl⟩ := List.exists_cons_of_length_eq_add_one h_8
        have h_9 : l9.length = 32 := by simpa using h_8
        obtain ⟨u9, l10, rfl⟩ := List.exists_cons_of_length_eq_add_one h_9
        have h_10 : l10.length = 31 := by simpa using h_9
        obtain ⟨u10, l11, rfl⟩ := List.exists_cons_of_length_eq_add_one h_10
        have h_11 : l11.length = 30 := by simpa using h_10
        obtain ⟨u11, l12, rfl⟩ := List.exists_cons_of_length_eq_add_one h_11
        have h_12 : l12.length = 29 := by simpa using h_11
        obtain ⟨u12, l13, rfl⟩ := List.exists_cons_of_length_eq_add_one h_12
        have h_13 : l13.length = 28 := by simpa using h_12
        obtain ⟨u13, l14, rfl⟩ := List.exists_cons_of_length_eq_add_one h_13
        have h_14 : l14.length = 27 := by simpa using h_13
        obtain ⟨u14, l15, rfl⟩ := List.exists_cons_of_length_eq_add_one h_14
        have h_15 : l15.length = 26 := by simpa using h_14
        obtain ⟨u15, l16, rfl⟩ := List.exists_cons_of_length_eq_add_one h_15
        have h_16 : l16.length = 25 := by simpa using h_15
        obtain ⟨u16, l17, rfl⟩ := List.exists_cons_of_length_eq_add_one h_16
        have h_17 : l17.length = 24 := by simpa using h_16
        obtain ⟨u17, l18, rfl⟩ := List.exists_cons_of_length_eq_add_one h_17
        have h_18 : l18.length = 23 := by simpa using h_17
        obtain ⟨u18, l19, rfl⟩ := List.exists_cons_of_length_eq_add_one h_18
        have h_19 : l19.length = 22 := by simpa using h_18
        obtain ⟨u19, l20, rfl⟩ := List.exists_cons_of_length_eq_add_one h_19
        have h_20 : l20.length = 21 := by simpa using h_19
        obtain ⟨u20, l21, rfl⟩ := List.exists_cons_of_length_eq_add_one h_20
        have h_21 : l21.length = 20 := by simpa using h_20
        obtain ⟨u21, l22, rfl⟩ := List.exists_cons_of_length_eq_add_one h_21
        have h_22 : l22.length = 19 := by simpa using h_21
        obtain ⟨u22, l23, rfl⟩ := List.exists_cons_of_length_eq_add_one h_22
        have h_23 : l23.length = 18 := by simpa using h_22
        obtain ⟨u23, l24, rfl⟩ := List.exists_cons_of_length_eq_add_one h_23
        have h_24 : l24.length = 17 := by simpa using h_23
        obtain ⟨u24, l25, rfl⟩ := List.exists_cons_of_length_eq_add_one h_24
        have h_25 : l25.length = 16 := by simpa using h_24
        obtain ⟨u25, l26, rfl⟩ := List.exists_cons_of_length_eq_add_one h_25
        have h_26 : l26.length = 15 := by simpa using h_25
        obtain ⟨u26, l27, rfl⟩ := List.exists_cons_of_length_eq_add_one h_26
        have h_27 : l27.length = 14 := by simpa using h_26
        obtain ⟨u27, l28, rfl⟩ := List.exists_cons_of_length_eq_add_one h_27
        have h_28 : l28.length = 13 := by simpa using h_27
        obtain ⟨u28, l29, rfl⟩ := List.exists_cons_of_length_eq_add_one h_28
        have h_29 : l29.length = 12 := by simpa using h_28
        obtain ⟨u29, l30, rfl⟩ := List.exists_cons_of_length_eq_add_one h_29
        have h_30 : l30.length = 11 := by simpa using h_29
        obtain ⟨u30, l31, rfl⟩ := List.exists_cons_of_length_eq_add_one h_30
        have h_31 : l31.length = 10 := by simpa using h_30
        obtain ⟨u31, l32, rfl⟩ := List.exists_cons_of_length_eq_add_one h_31
        have h_32 : l32.length = 9 := by simpa using h_31
        obtain ⟨u32, l33, rfl⟩ := List.exists_cons_of_length_eq_add_one h_32
        have h_33 : l33.length = 8 := by simpa using h_32
        obtain ⟨u33, l34, rfl⟩ := List.exists_cons_of_length_eq_add_one h_33
        have h_34 : l34.length = 7 := by simpa using h_33
        obtain ⟨u34, l35, rfl⟩ := List.exists_cons_of_length_eq_add_one h_34
        have h_35 : l35.length = 6 := by simpa using h_34
        obtain ⟨u35, l36, rfl⟩ := List.exists_cons_of_length_eq_add_one h_35
        have h_36 : l36.length = 5 := by simpa using h_35
        obtain ⟨u36, l37, rfl⟩ := List.exists_cons_of_length_eq_add_one h_36
        have h_37 : l37.length = 4 := by simpa using h_36
        obtain ⟨u37, l38, rfl⟩ := List.exists_cons_of_length_eq_add_one h_37
        have h_38 : l38.length = 3 := by simpa using h_37
        obtain ⟨u38, l39, rfl⟩ := List.exists_cons_of_length_eq_add_one h_38
        have h_39 : l39.length = 2 := by simpa using h_38
        obtain ⟨u39, l40, rfl⟩ := List.exists_cons_of_length_eq_add_one h_39
        have h_40 : l40.length = 1 := by simpa using h_39
        obtain ⟨u40, l41, rfl⟩ := List.exists_cons_of_length_eq_add_one h_40
        have h_41 : l41.length = 0 := by simpa using h_40
        obtain rfl := List.length_eq_zero_iff.1 h_41
        have h5 : u4 = .int .i64 c1 := h4
        subst h5
        have HR := hide hR
        clear h4 hR h0 h_1 h_2 h_3 h_4 h_5 h_6 h_7 h_8 h_9 h_10 h_11 h_12 h_13 h_14 h_15 h_16 h_17 h_18 h_19 h_20 h_21 h_22 h_23 h_24 h_25 h_26 h_27 h_28 h_29 h_30 h_31 h_32 h_33 h_34 h_35 h_36 h_37 h_38 h_39 h_40 h_41
        show Code.wp _ _ _ ⟨#[u0, u1, u2, u3, .int .i64 c1, u5, u6, u7, u8, u9, u10, u11, u12, u13, u14, u15, u16, u17, u18, u19, u20, u21, u22, u23, u24, u25, u26, u27, u28, u29, u30, u31, u32, u33, u34, u35, u36, u37, u38, u39, u40], []⟩ w'
        go_wp2
        simp only [Exit.jump]
        go_ret
        exact ⟨rfl, HR.out⟩
      go_wp2_with fail
      with_reducible refine NM.out.mono ?_
      rintro e v1 ⟨rfl, r1⟩
      have C2 := hide (ME.out _ r1)
      clear r1 NM ME
      go_wp2_with fail
      with_reducible refine C2.out.mono ?_
      rintro e v2 ⟨rfl, r2⟩
      have R2 := hide r2
      clear r2 C2
      go_wp2
      go_step3
      exact ⟨rfl, rfl, rfl, rfl, R2.out⟩
end Go.Proofs.YtknghoecjobkiabGreatDoor

namespace Go.Proofs.YtknghoecjobkiabGreatDoor
open Go.RowKit
set_option maxRecDepth 20000

/-- Bodies in frames. -/
def laidS (gs : List (List Int)) : List Int := gs.flatMap frameS
/-- Bodies that may be. -/
def GoodFr (gs : List (List Int)) : Prop := ∀ s ∈ gs, 1 ≤ s.length ∧ s.length ≤ 1048576 ∧ Bytes8 s

theorem GoodFr.tail {s : List Int} {t : List (List Int)} (h : GoodFr (s :: t)) : GoodFr t := fun x hx => h x (List.mem_cons_of_mem _ hx)
theorem laidS_cons (s : List Int) (t : List (List Int)) : laidS (s :: t) = frameS s ++ laidS t := by simp [laidS]
theorem laidS_append (a b : List (List Int)) : laidS (a ++ b) = laidS a ++ laidS b := by simp [laidS]
theorem laidS_byte {gs : List (List Int)} (h : GoodFr gs) : Bytes8 (laidS gs) := by
  intro z hz
  obtain ⟨s, hs, hz'⟩ := List.mem_flatMap.1 hz
  exact frameS_byte (h s hs).2.2 (by have := (h s hs).2.1; omega) z hz'
theorem frameS_long (s : List Int) : 5 + s.length ≤ (frameS s).length ∧ (frameS s).length ≤ 14 + s.length := by
  have := putS_len (s.length : Int)
  rw [frameS_len]; omega
theorem laidS_long (gs : List (List Int)) : gs.length ≤ (laidS gs).length := by
  induction gs with
  | nil => simp
  | cons s t ih =>
    have := frameS_long s
    rw [laidS_cons, List.length_append, List.length_cons]; omega

/-- Frames that are cut are none. -/
theorem findS_cut {body : List Int} (h2 : body.length ≤ 1048576) (hb : Bytes8 body) {xs : List Int} (hx : Bytes8 xs) {j : Nat} (hj : j < (frameS body).length) : findS (xs ++ (frameS body).take j) xs.length = none := by
  cases hf : findS (xs ++ (frameS body).take j) xs.length with
  | none => rfl
  | some p =>
    exfalso
    obtain ⟨st, v⟩ := p
    have hfb := frameS_byte hb (by omega)
    have hbytes : Bytes8 (xs ++ (frameS body).take j) := Bytes8.append hx (fun z hz => hfb z (List.mem_of_mem_take hz))
    obtain ⟨k1, k2, k3, k, hk, hst, hl, hd⟩ := findS_some hbytes hf
    have hkk : k = xs.length := by omega
    subst hkk
    rw [List.drop_left] at hd
    generalize ((xs ++ (frameS body).take j).drop st).take v = b' at *
    have e : frameS body = frameS b' ++ ((xs ++ (frameS body).take j).drop (st + v) ++ (frameS body).drop j) := by
      rw [← List.append_assoc, ← hd, List.take_append_drop]
    have g1 : getA 0 0 (frameS body) = some ((body.length : Int), (putS (body.length : Int)).length) := by
      unfold frameS; exact getS_put (w64_len (by omega)) _
    have g2 : getA 0 0 (frameS body) = some ((b'.length : Int), (putS (b'.length : Int)).length) := by
      rw [e]; unfold frameS; rw [List.append_assoc]; exact getS_put (w64_len (by omega)) _
    rw [g1] at g2
    simp only [Option.some.injEq, Prod.mk.injEq] at g2
    have hlen : body.length = b'.length := by omega
    have l1 := congrArg List.length hd
    rw [List.length_append, List.length_take] at l1
    have l2 := frameS_len body
    have l3 := frameS_len b'
    rw [hlen] at l2
    omega

end Go.Proofs.YtknghoecjobkiabGreatDoor
