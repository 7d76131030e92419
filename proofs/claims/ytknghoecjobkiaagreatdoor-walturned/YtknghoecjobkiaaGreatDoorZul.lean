/-
  The landed log: mend, Ready: contracts, for every world. Frames one behind the other, as plain lists: which frames there are, cut anywhere, and with one byte turned. The landed log: Append: a contract, for every world. Opening a log, as landed: a contract, for every world.
  Conditions: as each theorem says.
-/
import Derived.Test.YtknghoecjobkiaaGreatDoorZuk
import Derived.Test.YtknghoecjobkiaaGreatDoorZua
import Derived.Test.YtknghoecjobkiaaGreatDoorZuj
import Derived.RangeFuncNested
import Derived.RangeFuncBound
import Derived.RangeFuncCalls
import Derived.RangeFuncLeaves
import Derived.RangeFuncBox
import Derived.Shelf.Abstract
import Derived.Shelf.RegionOpen
import Derived.WalkKit
import Derived.OwnWalkIn
import Derived.TacticsInMore
import Derived.LoopNIn
import Derived.LoopIn
import Derived.Scope
import Derived.Test.YtknghoecjobkiaaGreatDoorZui
namespace Go.Proofs.YtknghoecjobkiaaGreatDoor
open Go.RowKit Go.Maps
set_option maxRecDepth 20000
set_option linter.unusedVariables false
/-- The names that there are. -/
theorem contains_read {F : Fs} (h : GoodN F) (nm : ByteArray) : Lib.containsS (listF F) nm = (readF F nm).isSome := by
  rw [Bool.eq_iff_iff, Lib.containsS_iff]
  unfold listF readF fileF
  rw [(listD_names h.dir).1 nm, Option.isSome_map]
theorem wcontains_any {F : Fs} (h : GoodN F) (nm : ByteArray) (B : Nat) (a : Option Addr) (c : Nat) (v : World) (ho : OwnVs v B a (listF F).length c (listF F)) (hl : (listF F).length ≤ 9223372036854775807) :
    Calls Tryz.prog 151 #[.slice a (listF F).length c, .string nm] v fun e v' => e = .returned (.bool (readF F nm).isSome) ∧ v' = v := by
  rw [← contains_read h]
  by_cases h0 : (listF F).length = 0
  · have e := List.length_eq_zero_iff.1 h0
    rw [e]
    exact Tryz.slices_Contains_string_empty a c nm v
  · obtain ⟨b, rfl, _, _⟩ := ho.at' (i := 0) (by omega)
    have q := Tryz.slices_Contains_string b 0 (listF F).length c (listF F) nm v (Nat.le_refl _) hl (fun j hj => by
      obtain ⟨b', e, _, hc⟩ := ho.at' (i := j) hj
      obtain rfl : b = b' := by simpa using e
      rw [Nat.zero_add]
      exact hc)
    rw [List.take_length] at q
    exact q
theorem lim_mend {m : Nat} {F : Fs} (hL : LimB m F) (nm : ByteArray) (there : Bool) (torn : Int) : LimB (m + 2) (mendW F nm there torn).1 := by
  unfold mendW
  split
  · exact hL.create nm
  · split
    · exact hL.mono (by omega)
    · exact hL.cut nm torn
/-- To make ready, with the log's own cells. -/
def readyG (F : Fs) (L : Lg) : Fs × Int × Lg :=
  if L.rd = true then (F, 0, L)
  else if (mendW F (nmW L.found) (readF F (nmW L.found)).isSome L.torn).2 = 0 then
    (if (syncF (mendW F (nmW L.found) (readF F (nmW L.found)).isSome L.torn).1 (nmW L.found)).2 = 0 then
      (if (syncdirF (syncF (mendW F (nmW L.found) (readF F (nmW L.found)).isSome L.torn).1 (nmW L.found)).1).2 = 0 then ((syncdirF (syncF (mendW F (nmW L.found) (readF F (nmW L.found)).isSome L.torn).1 (nmW L.found)).1).1, 0, { L with torn := -1, rd := true })
       else ((syncdirF (syncF (mendW F (nmW L.found) (readF F (nmW L.found)).isSome L.torn).1 (nmW L.found)).1).1, (syncdirF (syncF (mendW F (nmW L.found) (readF F (nmW L.found)).isSome L.torn).1 (nmW L.found)).1).2, { L with torn := -1 }))
     else ((syncF (mendW F (nmW L.found) (readF F (nmW L.found)).isSome L.torn).1 (nmW L.found)).1, (syncF (mendW F (nmW L.found) (readF F (nmW L.found)).isSome L.torn).1 (nmW L.found)).2, { L with torn := -1 }))
  else ((mendW F (nmW L.found) (readF F (nmW L.found)).isSome L.torn).1, (mendW F (nmW L.found) (readF F (nmW L.found)).isSome L.torn).2, L)
set_option maxHeartbeats 8000000 in
theorem wmend_any (g q : Nat) (S : Nat → Prop) (w u : World) (F : Fs) (L : Lg) (m : Nat) (nm : ByteArray) (hs : nm.size ≤ 64) (h : Rn g q S w u F L) (hL : LimB m F) (hm : m + 10 ≤ 1073741824) :
    Calls Tryz.prog 73 #[.pointer (some ⟨q, 0, none⟩), .string nm] u fun e u' => e = .returned (.int .i64 (mendW F nm (readF F nm).isSome L.torn).2) ∧ Rn g q S w u' (mendW F nm (readF F nm).isSome L.torn).1 L := by
  have hw := h.wf
  have d0 := h.box.cell (i := 0) rfl
  have LS := hide (rn_list h hL (by omega))
  have LL : Hid ((listF F).length ≤ 9223372036854775807) := by
    have e := (listD_names h.good.2.dir).2.2
    have e2 := hL.names
    show (listD (dirF F)).length ≤ _
    rw [e]
    unfold dirF
    have e3 := turnsD_len F.turns F.sure
    omega
  have CN := hide (fun B a c v (ho : OwnVs v B a (listF F).length c (listF F)) => wcontains_any h.good.2 nm B a c v ho LL.out)
  have CR := hide (fun v (r : Rn g q S w v F L) => rn_create r hL (by omega) nm (by omega))
  have CT := hide (fun v (r : Rn g q S w v F L) => rn_cut r hL (by omega) nm (by omega) L.torn (i64_wf (by have := hw.t0; omega) hw.t1))
  have ST : Hid (∀ v, Rn g q S w v F L → v.cell? ⟨q, 0, none⟩ = some (.pointer (some ⟨g, 0, none⟩)) ∧ v.cell? ⟨q, 3, none⟩ = some (.int .i64 L.torn)) := fun v r => ⟨r.box.cell (i := 0) rfl, r.box.cell (i := 3) rfl⟩
  have HT : Hid (mendW F nm (readF F nm).isSome L.torn = if (readF F nm).isSome = false then createF F nm else if L.torn = -1 then (F, 0) else cutF F nm L.torn) := rfl
  rw [HT.out]
  generalize listF F = ls at *
  generalize (readF F nm).isSome = th at *
  obtain ⟨z, hz⟩ : ∃ z, Hid (L.torn = z) := ⟨_, rfl⟩
  rw [hz.out] at CT ST
  rw [hz.out]
  generalize createF F nm = cr at *
  obtain ⟨F1, c1⟩ := cr
  generalize cutF F nm z = ct at *
  obtain ⟨F2, c2⟩ := ct
  dsimp only at CR CT
  clear hL hw HT h
  cases th with
  | false =>
    rw [if_pos rfl]
    dsimp only
    go_enter Tryz.func73, Tryz.ntmps73
    go_wp2_with fail
    with_reducible refine LS.out.mono ?_
    rintro e v1 ⟨⟨a, c, rfl, ho⟩, r1⟩
    have K1 := hide (CN.out _ _ _ _ ho)
    have R1 := hide r1
    have S1 := hide (ST.out _ r1)
    clear ho r1 LS CN
    go_wp2_with fail
    with_reducible refine K1.out.mono ?_
    rintro e v2 ⟨rfl, hv⟩
    obtain rfl := hv.symm
    obtain ⟨e0, e3⟩ := S1.out
    clear K1
    have C1 := hide (CR.out _ R1.out)
    clear CR CT
    go_wp2_with fail
    with_reducible refine C1.out.mono ?_
    rintro e v3 ⟨rfl, r3⟩
    have R3 := hide r3
    clear r3 C1
    go_wp2
    go_ret
    exact ⟨rfl, R3.out⟩
  | true =>
    rw [if_neg (by decide)]
    by_cases ht : z = -1
    · rw [if_pos ht]
      dsimp only
      subst ht
      go_enter Tryz.func73, Tryz.ntmps73
      go_wp2_with fail
      with_reducible refine LS.out.mono ?_
      rintro e v1 ⟨⟨a, c, rfl, ho⟩, r1⟩
      have K1 := hide (CN.out _ _ _ _ ho)
      have R1 := hide r1
      have S1 := hide (ST.out _ r1)
      clear ho r1 LS CN
      go_wp2_with fail
      with_reducible refine K1.out.mono ?_
      rintro e v2 ⟨rfl, hv⟩
      obtain rfl := hv.symm
      obtain ⟨e0, e3⟩ := S1.out
      clear K1
      clear CR CT
      go_wp2
      go_ret
      exact ⟨rfl, R1.out⟩
    · rw [if_neg ht]
      dsimp only
      have n1 : (z != -1) = true := by simpa using ht
      go_enter Tryz.func73, Tryz.ntmps73
      go_wp2_with fail
      with_reducible refine LS.out.mono ?_
      rintro e v1 ⟨⟨a, c, rfl, ho⟩, r1⟩
      have K1 := hide (CN.out _ _ _ _ ho)
      have R1 := hide r1
      have S1 := hide (ST.out _ r1)
      clear ho r1 LS CN
      go_wp2_with fail
      with_reducible refine K1.out.mono ?_
      rintro e v2 ⟨rfl, hv⟩
      obtain rfl := hv.symm
      obtain ⟨e0, e3⟩ := S1.out
      clear K1
      have RD := hide (R1.out.below (Below.refl v1.heap.size v1).drew)
      obtain ⟨g0, g3⟩ := ST.out _ RD.out
      have C1 := hide (CT.out _ RD.out)
      clear CR CT
      go_upto_region 4 with fail
      refine wp_region_held_drew (S := fun v => v.cell? ⟨q, 0, none⟩ = some (.pointer (some ⟨g, 0, none⟩)) ∧ v.cell? ⟨q, 3, none⟩ = some (.int .i64 z)) (by kernel_rfl) ⟨g0, g3⟩ (fun hHeld => ?_)
      refine held_tk 0 (some 24) rfl rfl ?_
      refine held_tk 1 (some 25) rfl rfl ?_
      refine held_tk 2 (some 26) rfl rfl ?_
      refine held_tk 3 (some 27) rfl rfl ?_
      refine held_tk 4 (some 28) rfl rfl ?_
      refine held_tk 5 (some 29) rfl rfl ?_
      refine held_tk 6 (some 30) rfl rfl ?_
      refine held_tk 7 (some 31) rfl rfl ?_
      refine held_tk 8 (some 32) rfl rfl ?_
      refine held_next (i := 9) (by kernel_rfl) rfl (by rfl) (fun K1 hK1 => ?_)
      go_simp
      with_reducible refine C1.out.mono ?_
      rintro e v3 ⟨rfl, r3⟩
      have S3 : Hid (v3.cell? ⟨q, 0, none⟩ = some (.pointer (some ⟨g, 0, none⟩)) ∧ v3.cell? ⟨q, 3, none⟩ = some (.int .i64 z)) := ⟨r3.box.cell (i := 0) rfl, by rw [← hz.out]; exact r3.box.cell (i := 3) rfl⟩
      have R3 := hide r3
      clear r3
      go_wp2_with fail
      refine hK1.out _ _ S3.out ?_
      clear hK1
      refine held_tk 10 (some 4) rfl rfl ?_
      clear hHeld
      refine wpAnyH_done (by kernel_rfl) ?_ _
      go_wp2
      go_ret
      exact ⟨rfl, R3.out⟩

set_option maxHeartbeats 8000000 in
theorem wready_any (g q : Nat) (S : Nat → Prop) (w u : World) (F : Fs) (L : Lg) (m : Nat) (h : Rn g q S w u F L) (hL : LimB m F) (hm : m + 10 ≤ 1073741824) :
    Calls Tryz.prog 25 #[.pointer (some ⟨q, 0, none⟩)] u fun e u' => e = .returned (.int .i64 (readyG F L).2.1) ∧ Rn g q S w u' (readyG F L).1 (readyG F L).2.2 := by
  have hw := h.wf
  have l0 := hw.f0
  have l1 := hw.f1
  have d0 := h.box.cell (i := 0) rfl
  have d2 : u.cell? ⟨q, 2, none⟩ = some (.int .i64 L.found) := h.box.cell (i := 2) rfl
  have d4 : u.cell? ⟨q, 4, none⟩ = some (.bool L.rd) := h.box.cell (i := 4) rfl
  cases hr : L.rd with
  | true =>
    rw [hr] at d4
    rw [show readyG F L = (F, 0, L) from if_pos hr]
    dsimp only
    have R0 := hide h
    clear h hL
    go_enter Tryz.func25, Tryz.ntmps25
    go_wp2
    refine wp_scope_jumps 0 (fun a' w' => False) (fun _ _ => 0) rfl ?_ ?_
    rotate_left 1
    · rintro a' w' hf
      exact hf.elim
    go_wp2
    simp only [Exit.jump]
    go_ret
    exact ⟨rfl, R0.out⟩
  | false =>
    rw [hr] at d4
    have NM := hide (rn_name h L.found (i64_wf (by omega) (by omega)))
    have SZ := nmW_size L.found
    have ME := hide (fun v (r : Rn g q S w v F L) => wmend_any g q S w v F L m (nmW L.found) (by omega) r hL hm)
    have LM := hide (lim_mend hL (nmW L.found) (readF F (nmW L.found)).isSome L.torn)
    have HT : Hid (readyG F L = if (mendW F (nmW L.found) (readF F (nmW L.found)).isSome L.torn).2 = 0 then (if (syncF (mendW F (nmW L.found) (readF F (nmW L.found)).isSome L.torn).1 (nmW L.found)).2 = 0 then (if (syncdirF (syncF (mendW F (nmW L.found) (readF F (nmW L.found)).isSome L.torn).1 (nmW L.found)).1).2 = 0 then ((syncdirF (syncF (mendW F (nmW L.found) (readF F (nmW L.found)).isSome L.torn).1 (nmW L.found)).1).1, 0, { L with torn := -1, rd := true }) else ((syncdirF (syncF (mendW F (nmW L.found) (readF F (nmW L.found)).isSome L.torn).1 (nmW L.found)).1).1, (syncdirF (syncF (mendW F (nmW L.found) (readF F (nmW L.found)).isSome L.torn).1 (nmW L.found)).1).2, { L with torn := -1 })) else ((syncF (mendW F (nmW L.found) (readF F (nmW L.found)).isSome L.torn).1 (nmW L.found)).1, (syncF (mendW F (nmW L.found) (readF F (nmW L.found)).isSome L.torn).1 (nmW L.found)).2, { L with torn := -1 })) else ((mendW F (nmW L.found) (readF F (nmW L.found)).isSome L.torn).1, (mendW F (nmW L.found) (readF F (nmW L.found)).isSome L.torn).2, L)) := by show _ = _; unfold readyG; rw [if_neg (by rw [hr]; decide)]
    rw [HT.out]
    have W1 : Hid (LgW { L with torn := -1 }) := ⟨hw.l0, hw.l1, hw.f0, hw.f1, by show -1 ≤ (-1 : Int); omega, by show (-1 : Int) ≤ _; omega⟩
    have W2 : Hid (LgW { L with torn := -1, rd := true }) := ⟨hw.l0, hw.l1, hw.f0, hw.f1, by show -1 ≤ (-1 : Int); omega, by show (-1 : Int) ≤ _; omega⟩
    obtain ⟨z, hz⟩ : ∃ z, Hid (L.found = z) := ⟨_, rfl⟩
    rw [hz.out] at NM SZ ME LM d2
    rw [hz.out]
    generalize nmW z = nm at *
    generalize mendW F nm (readF F nm).isSome L.torn = me at *
    obtain ⟨F1, c1⟩ := me
    dsimp only at ME LM ⊢
    by_cases h1 : c1 = 0
    · subst h1
      rw [if_pos rfl]
      have SY := hide (fun v (r : Rn g q S w v F1 { L with torn := -1 }) => rn_sync r LM.out (by omega) nm (by omega))
      have LS := hide (LM.out.sync nm)
      generalize syncF F1 nm = sy at *
      obtain ⟨F2, c2⟩ := sy
      dsimp only at SY LS ⊢
      by_cases h2 : c2 = 0
      · subst h2
        rw [if_pos rfl]
        have SD := hide (fun v (r : Rn g q S w v F2 { L with torn := -1 }) => rn_syncdir r LS.out (by omega))
        generalize syncdirF F2 = sd at *
        obtain ⟨F3, c3⟩ := sd
        dsimp only at SD ⊢
        by_cases h3 : c3 = 0
        · subst h3
          rw [if_pos rfl]
          dsimp only
          rw [← hz.out]
          clear HT hL
          clear h
          go_enter Tryz.func25, Tryz.ntmps25
          go_wp2
          refine wp_scope_jumps 0 (fun a' w' => a'.defers = [] ∧ a'.tmps.size = 41 ∧ a'.tmps.getD 4 undef = .int .i64 0 ∧ Rn g q S w w' F3 { L with torn := -1, rd := true }) (fun _ _ => 0) rfl ?_ ?_
          rotate_left 1
          · rintro ⟨⟨l0⟩, dd⟩ w' ⟨hd, h0, h4, hR⟩
            dsimp only at hd
            subst hd
            have h0 : l0.length = 41 := h0
            obtain ⟨u0, l1, rfl⟩ := List.exists_cons_of_length_eq_add_one h0
            have h_1 : l1.length = 40 := by simpa using h0
            obtain ⟨u1, l2, rfl⟩ := List.exists_cons_of_length_eq_add_one h_1
            have h_2 : l2.length = 39 := by simpa using h_1
            obtain ⟨u2, l3, rfl⟩ := List.exists_cons_of_length_eq_add_one h_2
            have h_3 : l3.length = 38 := by simpa using h_2
            obtain ⟨u3, l4, rfl⟩ := List.exists_cons_of_length_eq_add_one h_3
            have h_4 : l4.length = 37 := by simpa using h_3
            obtain ⟨u4, l5, rfl⟩ := List.exists_cons_of_length_eq_add_one h_4
            have h_5 : l5.length = 36 := by simpa using h_4
            obtain ⟨u5, l6, rfl⟩ := List.exists_cons_of_length_eq_add_one h_5
            have h_6 : l6.length = 35 := by simpa using h_5
            obtain ⟨u6, l7, rfl⟩ := List.exists_cons_of_length_eq_add_one h_6
            have h_7 : l7.length = 34 := by simpa using h_6
            obtain ⟨u7, l8, rfl⟩ := List.exists_cons_of_length_eq_add_one h_7
            have h_8 : l8.length = 33 := by simpa using h_7
            obtain ⟨u8, l9, rfl⟩ := List.exists_cons_of_length_eq_add_one h_8
            have h_9 : l9.length = 32 := by simpa using h_8
            obtain ⟨u9, l10, rfl⟩ := List.exists_cons_of_length_eq_add_one h_9
            have h_10 : l10.length = 31 := by simpa using h_9
            obtain ⟨u10, l11, rfl⟩ := List.exists_cons_of_length_eq_add_one h_10
            have h_11 : l11.length = 30 := by simpa using h_10
            obtain ⟨u11, l12, rfl⟩ := List.exists_cons_of_length_eq_add_one h_11
            have h_12 : l12.length = 29 := by simpa using h_11
            obtain ⟨u12, l13, rfl⟩ := List.exists_cons_of_length_eq_add_one h_12
            have h_13 : l13.length = 28 := by simpa using h_12
            obtain ⟨u13, l14, rfl⟩ := List.exists_cons_of_length_eq_add_one h_13
            have h_14 : l14.length = 27 := by simpa using h_13
            obtain ⟨u14, l15, rfl⟩ := List.exists_cons_of_length_eq_add_one h_14
            have h_15 : l15.length = 26 := by simpa using h_14
            obtain ⟨u15, l16, rfl⟩ := List.exists_cons_of_length_eq_add_one h_15
            have h_16 : l16.length = 25 := by simpa using h_15
            obtain ⟨u16, l17, rfl⟩ := List.exists_cons_of_length_eq_add_one h_16
            have h_17 : l17.length = 24 := by simpa using h_16
            obtain ⟨u17, l18, rfl⟩ := List.exists_cons_of_length_eq_add_one h_17
            have h_18 : l18.length = 23 := by simpa using h_17
            obtain ⟨u18, l19, rfl⟩ := List.exists_cons_of_length_eq_add_one h_18
            have h_19 : l19.length = 22 := by simpa using h_18
            obtain ⟨u19, l20, rfl⟩ := List.exists_cons_of_length_eq_add_one h_19
            have h_20 : l20.length = 21 := by simpa using h_19
            obtain ⟨u20, l21, rfl⟩ := List.exists_cons_of_length_eq_add_one h_20
            have h_21 : l21.length = 20 := by simpa using h_20
            obtain ⟨u21, l22, rfl⟩ := List.exists_cons_of_length_eq_add_one h_21
            have h_22 : l22.length = 19 := by simpa using h_21
            obtain ⟨u22, l23, rfl⟩ := List.exists_cons_of_length_eq_add_one h_22
            have h_23 : l23.length = 18 := by simpa using h_22
            obtain ⟨u23, l24, rfl⟩ := List.exists_cons_of_length_eq_add_one h_23
            have h_24 : l24.length = 17 := by simpa using h_23
            obtain ⟨u24, l25, rfl⟩ := List.exists_cons_of_length_eq_add_one h_24
            have h_25 : l25.length = 16 := by simpa using h_24
            obtain ⟨u25, l26, rfl⟩ := List.exists_cons_of_length_eq_add_one h_25
            have h_26 : l26.length = 15 := by simpa using h_25
            obtain ⟨u26, l27, rfl⟩ := List.exists_cons_of_length_eq_add_one h_26
            have h_27 : l27.length = 14 := by simpa using h_26
            obtain ⟨u27, l28, rfl⟩ := List.exists_cons_of_length_eq_add_one h_27
            have h_28 : l28.length = 13 := by simpa using h_27
            obtain ⟨u28, l29, rfl⟩ := List.exists_cons_of_length_eq_add_one h_28
            have h_29 : l29.length = 12 := by simpa using h_28
            obtain ⟨u29, l30, rfl⟩ := List.exists_cons_of_length_eq_add_one h_29
            have h_30 : l30.length = 11 := by simpa using h_29
            obtain ⟨u30, l31, rfl⟩ := List.exists_cons_of_length_eq_add_one h_30
            have h_31 : l31.length = 10 := by simpa using h_30
            obtain ⟨u31, l32, rfl⟩ := List.exists_cons_of_length_eq_add_one h_31
            have h_32 : l32.length = 9 := by simpa using h_31
            obtain ⟨u32, l33, rfl⟩ := List.exists_cons_of_length_eq_add_one h_32
            have h_33 : l33.length = 8 := by simpa using h_32
            obtain ⟨u33, l34, rfl⟩ := List.exists_cons_of_length_eq_add_one h_33
            have h_34 : l34.length = 7 := by simpa using h_33
            obtain ⟨u34, l35, rfl⟩ := List.exists_cons_of_length_eq_add_one h_34
            have h_35 : l35.length = 6 := by simpa using h_34
            obtain ⟨u35, l36, rfl⟩ := List.exists_cons_of_length_eq_add_one h_35
            have h_36 : l36.length = 5 := by simpa using h_35
            obtain ⟨u36, l37, rfl⟩ := List.exists_cons_of_length_eq_add_one h_36
            have h_37 : l37.length = 4 := by simpa using h_36
            obtain ⟨u37, l38, rfl⟩ := List.exists_cons_of_length_eq_add_one h_37
            have h_38 : l38.length = 3 := by simpa using h_37
            obtain ⟨u38, l39, rfl⟩ := List.exists_cons_of_length_eq_add_one h_38
            have h_39 : l39.length = 2 := by simpa using h_38
            obtain ⟨u39, l40, rfl⟩ := List.exists_cons_of_length_eq_add_one h_39
            have h_40 : l40.length = 1 := by simpa using h_39
            obtain ⟨u40, l41, rfl⟩ := List.exists_cons_of_length_eq_add_one h_40
            have h_41 : l41.length = 0 := by simpa using h_40
            obtain rfl := List.length_eq_zero_iff.1 h_41
            have h5 : u4 = .int .i64 0 := h4
            subst h5
            have HR := hide hR
            clear h4 hR h0 h_1 h_2 h_3 h_4 h_5 h_6 h_7 h_8 h_9 h_10 h_11 h_12 h_13 h_14 h_15 h_16 h_17 h_18 h_19 h_20 h_21 h_22 h_23 h_24 h_25 h_26 h_27 h_28 h_29 h_30 h_31 h_32 h_33 h_34 h_35 h_36 h_37 h_38 h_39 h_40 h_41
            show Code.wp _ _ _ ⟨#[u0, u1, u2, u3, .int .i64 0, u5, u6, u7, u8, u9, u10, u11, u12, u13, u14, u15, u16, u17, u18, u19, u20, u21, u22, u23, u24, u25, u26, u27, u28, u29, u30, u31, u32, u33, u34, u35, u36, u37, u38, u39, u40], []⟩ w'
            go_wp2
            simp only [Exit.jump]
            go_ret
            exact ⟨rfl, HR.out⟩
          go_wp2_with fail
          with_reducible refine NM.out.mono ?_
          rintro e v1 ⟨rfl, r1⟩
          have C2 := hide (ME.out _ r1)
          clear r1 NM ME
          go_wp2_with fail
          with_reducible refine C2.out.mono ?_
          rintro e v2 ⟨rfl, r2⟩
          have b3 := r2.box.cell (i := 3) rfl
          have f3 := r2.box.free 3
          have r3 : Rn g q S w (v2.setCell ⟨q, 3, none⟩ (.int .i64 (-1))) F1 { L with torn := -1 } := r2.set 3 _ W1.out rfl
          have b0 := r3.box.cell (i := 0) rfl
          have C3 := hide (SY.out _ r3)
          clear r2 r3 C2 SY
          go_wp2_with fail
          with_reducible refine C3.out.mono ?_
          rintro e v3 ⟨rfl, r4⟩
          have c0 := r4.box.cell (i := 0) rfl
          have C4 := hide (SD.out _ r4)
          clear r4 C3 SD b0 b3 f3
          go_wp2_with fail
          with_reducible refine C4.out.mono ?_
          rintro e v4 ⟨rfl, r5⟩
          have b4 := r5.box.cell (i := 4) rfl
          have f4 := r5.box.free 4
          have R6 : Hid (Rn g q S w (v4.setCell ⟨q, 4, none⟩ (.bool true)) F3 { L with torn := -1, rd := true }) := r5.set 4 _ W2.out rfl
          clear r5 C4
          go_wp2
          go_step3
          go_wp2
          simp only [Exit.jump]
          go_ret
          exact ⟨rfl, R6.out⟩
        · rw [if_neg h3]
          dsimp only
          rw [← hz.out]
          have n3 : (c3 != 0) = true := by simpa using h3
          clear HT hL
          clear h
          go_enter Tryz.func25, Tryz.ntmps25
          go_wp2
          refine wp_scope_jumps 0 (fun a' w' => a'.defers = [] ∧ a'.tmps.size = 41 ∧ a'.tmps.getD 4 undef = .int .i64 c3 ∧ Rn g q S w w' F3 { L with torn := -1 }) (fun _ _ => 0) rfl ?_ ?_
          rotate_left 1
          · rintro ⟨⟨l0⟩, dd⟩ w' ⟨hd, h0, h4, hR⟩
            dsimp only at hd
            subst hd
            have h0 : l0.length = 41 := h0
            obtain ⟨u0, l1, rfl⟩ := List.exists_cons_of_length_eq_add_one h0
            have h_1 : l1.length = 40 := by simpa using h0
            obtain ⟨u1, l2, rfl⟩ := List.exists_cons_of_length_eq_add_one h_1
            have h_2 : l2.length = 39 := by simpa using h_1
            obtain ⟨u2, l3, rfl⟩ := List.exists_cons_of_length_eq_add_one h_2
            have h_3 : l3.length = 38 := by simpa using h_2
            obtain ⟨u3, l4, rfl⟩ := List.exists_cons_of_length_eq_add_one h_3
            have h_4 : l4.length = 37 := by simpa using h_3
            obtain ⟨u4, l5, rfl⟩ := List.exists_cons_of_length_eq_add_one h_4
            have h_5 : l5.length = 36 := by simpa using h_4
            obtain ⟨u5, l6, rfl⟩ := List.exists_cons_of_length_eq_add_one h_5
            have h_6 : l6.length = 35 := by simpa using h_5
            obtain ⟨u6, l7, rfl⟩ := List.exists_cons_of_length_eq_add_one h_6
            have h_7 : l7.length = 34 := by simpa using h_6
            obtain ⟨u7, l8, rfl⟩ := List.exists_cons_of_length_eq_add_one h_7
            have h_8 : l8.length = 33 := by simpa using h_7
            obtain ⟨u8, l9, rfl⟩ := List.exists_cons_of_length_eq_add_one h_8
            have h_9 : l9.length = 32 := by simpa using h_8
            obtain ⟨u9, l10, rfl⟩ := List.exists_cons_of_length_eq_add_one h_9
            have h_10 : l10.length = 31 := by simpa using h_9
            obtain ⟨u10, l11, rfl⟩ := List.exists_cons_of_length_eq_add_one h_10
            have h_11 : l11.length = 30 := by simpa using h_10
            obtain ⟨u11, l12, rfl⟩ := List.exists_cons_of_length_eq_add_one h_11
            have h_12 : l12.length = 29 := by simpa using h_11
            obtain ⟨u12, l13, rfl⟩ := List.exists_cons_of_length_eq_add_one h_12
            have h_13 : l13.length = 28 := by simpa using h_12
            obtain ⟨u13, l14, rfl⟩ := List.exists_cons_of_length_eq_add_one h_13
            have h_14 : l14.length = 27 := by simpa using h_13
            obtain ⟨u14, l15, rfl⟩ := List.exists_cons_of_length_eq_add_one h_14
            have h_15 : l15.length = 26 := by simpa using h_14
            obtain ⟨u15, l16, rfl⟩ := List.exists_cons_of_length_eq_add_one h_15
            have h_16 : l16.length = 25 := by simpa using h_15
            obtain ⟨u16, l17, rfl⟩ := List.exists_cons_of_length_eq_add_one h_16
            have h_17 : l17.length = 24 := by simpa using h_16
            obtain ⟨u17, l18, rfl⟩ := List.exists_cons_of_length_eq_add_one h_17
            have h_18 : l18.length = 23 := by simpa using h_17
            obtain ⟨u18, l19, rfl⟩ := List.exists_cons_of_length_eq_add_one h_18
            have h_19 : l19.length = 22 := by simpa using h_18
            obtain ⟨u19, l20, rfl⟩ := List.exists_cons_of_length_eq_add_one h_19
            have h_20 : l20.length = 21 := by simpa using h_19
            obtain ⟨u20, l21, rfl⟩ := List.exists_cons_of_length_eq_add_one h_20
            have h_21 : l21.length = 20 := by simpa using h_20
            obtain ⟨u21, l22, rfl⟩ := List.exists_cons_of_length_eq_add_one h_21
            have h_22 : l22.length = 19 := by simpa using h_21
            obtain ⟨u22, l23, rfl⟩ := List.exists_cons_of_length_eq_add_one h_22
            have h_23 : l23.length = 18 := by simpa using h_22
            obtain ⟨u23, l24, rfl⟩ := List.exists_cons_of_length_eq_add_one h_23
            have h_24 : l24.length = 17 := by simpa using h_23
            obtain ⟨u24, l25, rfl⟩ := List.exists_cons_of_length_eq_add_one h_24
            have h_25 : l25.length = 16 := by simpa using h_24
            obtain ⟨u25, l26, rfl⟩ := List.exists_cons_of_length_eq_add_one h_25
            have h_26 : l26.length = 15 := by simpa using h_25
            obtain ⟨u26, l27, rfl⟩ := List.exists_cons_of_length_eq_add_one h_26
            have h_27 : l27.length = 14 := by simpa using h_26
            obtain ⟨u27, l28, rfl⟩ := List.exists_cons_of_length_eq_add_one h_27
            have h_28 : l28.length = 13 := by simpa using h_27
            obtain ⟨u28, l29, rfl⟩ := List.exists_cons_of_length_eq_add_one h_28
            have h_29 : l29.length = 12 := by simpa using h_28
            obtain ⟨u29, l30, rfl⟩ := List.exists_cons_of_length_eq_add_one h_29
            have h_30 : l30.length = 11 := by simpa using h_29
            obtain ⟨u30, l31, rfl⟩ := List.exists_cons_of_length_eq_add_one h_30
            have h_31 : l31.length = 10 := by simpa using h_30
            obtain ⟨u31, l32, rfl⟩ := List.exists_cons_of_length_eq_add_one h_31
            have h_32 : l32.length = 9 := by simpa using h_31
            obtain ⟨u32, l33, rfl⟩ := List.exists_cons_of_length_eq_add_one h_32
            have h_33 : l33.length = 8 := by simpa using h_32
            obtain ⟨u33, l34, rfl⟩ := List.exists_cons_of_length_eq_add_one h_33
            have h_34 : l34.length = 7 := by simpa using h_33
            obtain ⟨u34, l35, rfl⟩ := List.exists_cons_of_length_eq_add_one h_34
            have h_35 : l35.length = 6 := by simpa using h_34
            obtain ⟨u35, l36, rfl⟩ := List.exists_cons_of_length_eq_add_one h_35
            have h_36 : l36.length = 5 := by simpa using h_35
            obtain ⟨u36, l37, rfl⟩ := List.exists_cons_of_length_eq_add_one h_36
            have h_37 : l37.length = 4 := by simpa using h_36
            obtain ⟨u37, l38, rfl⟩ := List.exists_cons_of_length_eq_add_one h_37
            have h_38 : l38.length = 3 := by simpa using h_37
            obtain ⟨u38, l39, rfl⟩ := List.exists_cons_of_length_eq_add_one h_38
            have h_39 : l39.length = 2 := by simpa using h_38
            obtain ⟨u39, l40, rfl⟩ := List.exists_cons_of_length_eq_add_one h_39
            have h_40 : l40.length = 1 := by simpa using h_39
            obtain ⟨u40, l41, rfl⟩ := List.exists_cons_of_length_eq_add_one h_40
            have h_41 : l41.length = 0 := by simpa using h_40
            obtain rfl := List.length_eq_zero_iff.1 h_41
            have h5 : u4 = .int .i64 c3 := h4
            subst h5
            have HR := hide hR
            clear h4 hR h0 h_1 h_2 h_3 h_4 h_5 h_6 h_7 h_8 h_9 h_10 h_11 h_12 h_13 h_14 h_15 h_16 h_17 h_18 h_19 h_20 h_21 h_22 h_23 h_24 h_25 h_26 h_27 h_28 h_29 h_30 h_31 h_32 h_33 h_34 h_35 h_36 h_37 h_38 h_39 h_40 h_41
            show Code.wp _ _ _ ⟨#[u0, u1, u2, u3, .int .i64 c3, u5, u6, u7, u8, u9, u10, u11, u12, u13, u14, u15, u16, u17, u18, u19, u20, u21, u22, u23, u24, u25, u26, u27, u28, u29, u30, u31, u32, u33, u34, u35, u36, u37, u38, u39, u40], []⟩ w'
            go_wp2
            simp only [Exit.jump]
            go_ret
            exact ⟨rfl, HR.out⟩
          go_wp2_with fail
          with_reducible refine NM.out.mono ?_
          rintro e v1 ⟨rfl, r1⟩
          have C2 := hide (ME.out _ r1)
          clear r1 NM ME
          go_wp2_with fail
          with_reducible refine C2.out.mono ?_
          rintro e v2 ⟨rfl, r2⟩
          have b3 := r2.box.cell (i := 3) rfl
          have f3 := r2.box.free 3
          have r3 : Rn g q S w (v2.setCell ⟨q, 3, none⟩ (.int .i64 (-1))) F1 { L with torn := -1 } := r2.set 3 _ W1.out rfl
          have b0 := r3.box.cell (i := 0) rfl
          have C3 := hide (SY.out _ r3)
          clear r2 r3 C2 SY
          go_wp2_with fail
          with_reducible refine C3.out.mono ?_
          rintro e v3 ⟨rfl, r4⟩
          have c0 := r4.box.cell (i := 0) rfl
          have C4 := hide (SD.out _ r4)
          clear r4 C3 SD b0 b3 f3
          go_wp2_with fail
          with_reducible refine C4.out.mono ?_
          rintro e v4 ⟨rfl, r5⟩
          have R2 := hide r5
          clear r5 C4
          go_wp2
          go_step3
          exact ⟨rfl, rfl, rfl, rfl, R2.out⟩
      · rw [if_neg h2]
        dsimp only
        rw [← hz.out]
        have n2 : (c2 != 0) = true := by simpa using h2
        clear HT hL
        clear h
        go_enter Tryz.func25, Tryz.ntmps25
        go_wp2
        refine wp_scope_jumps 0 (fun a' w' => a'.defers = [] ∧ a'.tmps.size = 41 ∧ a'.tmps.getD 4 undef = .int .i64 c2 ∧ Rn g q S w w' F2 { L with torn := -1 }) (fun _ _ => 0) rfl ?_ ?_
        rotate_left 1
        · rintro ⟨⟨l0⟩, dd⟩ w' ⟨hd, h0, h4, hR⟩
          dsimp only at hd
          subst hd
          have h0 : l0.length = 41 := h0
          obtain ⟨u0, l1, rfl⟩ := List.exists_cons_of_length_eq_add_one h0
          have h_1 : l1.length = 40 := by simpa using h0
          obtain ⟨u1, l2, rfl⟩ := List.exists_cons_of_length_eq_add_one h_1
          have h_2 : l2.length = 39 := by simpa using h_1
          obtain ⟨u2, l3, rfl⟩ := List.exists_cons_of_length_eq_add_one h_2
          have h_3 : l3.length = 38 := by simpa using h_2
          obtain ⟨u3, l4, rfl⟩ := List.exists_cons_of_length_eq_add_one h_3
          have h_4 : l4.length = 37 := by simpa using h_3
          obtain ⟨u4, l5, rfl⟩ := List.exists_cons_of_length_eq_add_one h_4
          have h_5 : l5.length = 36 := by simpa using h_4
          obtain ⟨u5, l6, rfl⟩ := List.exists_cons_of_length_eq_add_one h_5
          have h_6 : l6.length = 35 := by simpa using h_5
          obtain ⟨u6, l7, rfl⟩ := List.exists_cons_of_length_eq_add_one h_6
          have h_7 : l7.length = 34 := by simpa using h_6
          obtain ⟨u7, l8, rfl⟩ := List.exists_cons_of_length_eq_add_one h_7
          have h_8 : l8.length = 33 := by simpa using h_7
          obtain ⟨u8, l9, rfl⟩ := List.exists_cons_of_length_eq_add_one h_8
          have h_9 : l9.length = 32 := by simpa using h_8
          obtain ⟨u9, l10, rfl⟩ := List.exists_cons_of_length_eq_add_one h_9
          have h_10 : l10.length = 31 := by simpa using h_9
          obtain ⟨u10, l11, rfl⟩ := List.exists_cons_of_length_eq_add_one h_10
          have h_11 : l11.length = 30 := by simpa using h_10
          obtain ⟨u11, l12, rfl⟩ := List.exists_cons_of_length_eq_add_one h_11
          have h_12 : l12.length = 29 := by simpa using h_11
          obtain ⟨u12, l13, rfl⟩ := List.exists_cons_of_length_eq_add_one h_12
          have h_13 : l13.length = 28 := by simpa using h_12
          obtain ⟨u13, l14, rfl⟩ := List.exists_cons_of_length_eq_add_one h_13
          have h_14 : l14.length = 27 := by simpa using h_13
          obtain ⟨u14, l15, rfl⟩ := List.exists_cons_of_length_eq_add_one h_14
          have h_15 : l15.length = 26 := by simpa using h_14
          obtain ⟨u15, l16, rfl⟩ := List.exists_cons_of_length_eq_add_one h_15
          have h_16 : l16.length = 25 := by simpa using h_15
          obtain ⟨u16, l17, rfl⟩ := List.exists_cons_of_length_eq_add_one h_16
          have h_17 : l17.length = 24 := by simpa using h_16
          obtain ⟨u17, l18, rfl⟩ := List.exists_cons_of_length_eq_add_one h_17
          have h_18 : l18.length = 23 := by simpa using h_17
          obtain ⟨u18, l19, rfl⟩ := List.exists_cons_of_length_eq_add_one h_18
          have h_19 : l19.length = 22 := by simpa using h_18
          obtain ⟨u19, l20, rfl⟩ := List.exists_cons_of_length_eq_add_one h_19
          have h_20 : l20.length = 21 := by simpa using h_19
          obtain ⟨u20, l21, rfl⟩ := List.exists_cons_of_length_eq_add_one h_20
          have h_21 : l21.length = 20 := by simpa using h_20
          obtain ⟨u21, l22, rfl⟩ := List.exists_cons_of_length_eq_add_one h_21
          have h_22 : l22.length = 19 := by simpa using h_21
          obtain ⟨u22, l23, rfl⟩ := List.exists_cons_of_length_eq_add_one h_22
          have h_23 : l23.length = 18 := by simpa using h_22
          obtain ⟨u23, l24, rfl⟩ := List.exists_cons_of_length_eq_add_one h_23
          have h_24 : l24.length = 17 := by simpa using h_23
          obtain ⟨u24, l25, rfl⟩ := List.exists_cons_of_length_eq_add_one h_24
          have h_25 : l25.length = 16 := by simpa using h_24
          obtain ⟨u25, l26, rfl⟩ := List.exists_cons_of_length_eq_add_one h_25
          have h_26 : l26.length = 15 := by simpa using h_25
          obtain ⟨u26, l27, rfl⟩ := List.exists_cons_of_length_eq_add_one h_26
          have h_27 : l27.length = 14 := by simpa using h_26
          obtain ⟨u27, l28, rfl⟩ := List.exists_cons_of_length_eq_add_one h_27
          have h_28 : l28.length = 13 := by simpa using h_27
          obtain ⟨u28, l29, rfl⟩ := List.exists_cons_of_length_eq_add_one h_28
          have h_29 : l29.length = 12 := by simpa using h_28
          obtain ⟨u29, l30, rfl⟩ := List.exists_cons_of_length_eq_add_one h_29
          have h_30 : l30.length = 11 := by simpa using h_29
          obtain ⟨u30, l31, rfl⟩ := List.exists_cons_of_length_eq_add_one h_30
          have h_31 : l31.length = 10 := by simpa using h_30
          obtain ⟨u31, l32, rfl⟩ := List.exists_cons_of_length_eq_add_one h_31
          have h_32 : l32.length = 9 := by simpa using h_31
          obtain ⟨u32, l33, rfl⟩ := List.exists_cons_of_length_eq_add_one h_32
          have h_33 : l33.length = 8 := by simpa using h_32
          obtain ⟨u33, l34, rfl⟩ := List.exists_cons_of_length_eq_add_one h_33
          have h_34 : l34.length = 7 := by simpa using h_33
          obtain ⟨u34, l35, rfl⟩ := List.exists_cons_of_length_eq_add_one h_34
          have h_35 : l35.length = 6 := by simpa using h_34
          obtain ⟨u35, l36, rfl⟩ := List.exists_cons_of_length_eq_add_one h_35
          have h_36 : l36.length = 5 := by simpa using h_35
          obtain ⟨u36, l37, rfl⟩ := List.exists_cons_of_length_eq_add_one h_36
          have h_37 : l37.length = 4 := by simpa using h_36
          obtain ⟨u37, l38, rfl⟩ := List.exists_cons_of_length_eq_add_one h_37
          have h_38 : l38.length = 3 := by simpa using h_37
          obtain ⟨u38, l39, rfl⟩ := List.exists_cons_of_length_eq_add_one h_38
          have h_39 : l39.length = 2 := by simpa using h_38
          obtain ⟨u39, l40, rfl⟩ := List.exists_cons_of_length_eq_add_one h_39
          have h_40 : l40.length = 1 := by simpa using h_39
          obtain ⟨u40, l41, rfl⟩ := List.exists_cons_of_length_eq_add_one h_40
          have h_41 : l41.length = 0 := by simpa using h_40
          obtain rfl := List.length_eq_zero_iff.1 h_41
          have h5 : u4 = .int .i64 c2 := h4
          subst h5
          have HR := hide hR
          clear h4 hR h0 h_1 h_2 h_3 h_4 h_5 h_6 h_7 h_8 h_9 h_10 h_11 h_12 h_13 h_14 h_15 h_16 h_17 h_18 h_19 h_20 h_21 h_22 h_23 h_24 h_25 h_26 h_27 h_28 h_29 h_30 h_31 h_32 h_33 h_34 h_35 h_36 h_37 h_38 h_39 h_40 h_41
          show Code.wp _ _ _ ⟨#[u0, u1, u2, u3, .int .i64 c2, u5, u6, u7, u8, u9, u10, u11, u12, u13, u14, u15, u16, u17, u18, u19, u20, u21, u22, u23, u24, u25, u26, u27, u28, u29, u30, u31, u32, u33, u34, u35, u36, u37, u38, u39, u40], []⟩ w'
          go_wp2
          simp only [Exit.jump]
          go_ret
          exact ⟨rfl, HR.out⟩
        go_wp2_with fail
        with_reducible refine NM.out.mono ?_
        rintro e v1 ⟨rfl, r1⟩
        have C2 := hide (ME.out _ r1)
        clear r1 NM ME
        go_wp2_with fail
        with_reducible refine C2.out.mono ?_
        rintro e v2 ⟨rfl, r2⟩
        have b3 := r2.box.cell (i := 3) rfl
        have f3 := r2.box.free 3
        have r3 : Rn g q S w (v2.setCell ⟨q, 3, none⟩ (.int .i64 (-1))) F1 { L with torn := -1 } := r2.set 3 _ W1.out rfl
        have b0 := r3.box.cell (i := 0) rfl
        have C3 := hide (SY.out _ r3)
        clear r2 r3 C2 SY
        go_wp2_with fail
        with_reducible refine C3.out.mono ?_
        rintro e v3 ⟨rfl, r4⟩
        have R2 := hide r4
        clear r4 C3 b0 b3 f3
        go_wp2
        go_step3
        exact ⟨rfl, rfl, rfl, rfl, R2.out⟩
    · rw [if_neg h1]
      dsimp only
      have n1 : (c1 != 0) = true := by simpa using h1
      clear HT hL
      clear h
      go_enter Tryz.func25, Tryz.ntmps25
      go_wp2
      refine wp_scope_jumps 0 (fun a' w' => a'.defers = [] ∧ a'.tmps.size = 41 ∧ a'.tmps.getD 4 undef = .int .i64 c1 ∧ Rn g q S w w' F1 L) (fun _ _ => 0) rfl ?_ ?_
      rotate_left 1
      · rintro ⟨⟨l0⟩, dd⟩ w' ⟨hd, h0, h4, hR⟩
        dsimp only at hd
        subst hd
        have h0 : l0.length = 41 := h0
        obtain ⟨u0, l1, rfl⟩ := List.exists_cons_of_length_eq_add_one h0
        have h_1 : l1.length = 40 := by simpa using h0
        obtain ⟨u1, l2, rfl⟩ := List.exists_cons_of_length_eq_add_one h_1
        have h_2 : l2.length = 39 := by simpa using h_1
        obtain ⟨u2, l3, rfl⟩ := List.exists_cons_of_length_eq_add_one h_2
        have h_3 : l3.length = 38 := by simpa using h_2
        obtain ⟨u3, l4, rfl⟩ := List.exists_cons_of_length_eq_add_one h_3
        have h_4 : l4.length = 37 := by simpa using h_3
        obtain ⟨u4, l5, rfl⟩ := List.exists_cons_of_length_eq_add_one h_4
        have h_5 : l5.length = 36 := by simpa using h_4
        obtain ⟨u5, l6, rfl⟩ := List.exists_cons_of_length_eq_add_one h_5
        have h_6 : l6.length = 35 := by simpa using h_5
        obtain ⟨u6, l7, rfl⟩ := List.exists_cons_of_length_eq_add_one h_6
        have h_7 : l7.length = 34 := by simpa using h_6
        obtain ⟨u7, l8, rfl⟩ := List.exists_cons_of_length_eq_add_one h_7
        have h_8 : l8.length = 33 := by simpa using h_7
        obtain ⟨u8, l9, rfl⟩ := List.exists_cons_of_length_eq_add_one h_8
        have h_9 : l9.length = 32 := by simpa using h_8
        obtain ⟨u9, l10, rfl⟩ := List.exists_cons_of_length_eq_add_one h_9
        have h_10 : l10.length = 31 := by simpa using h_9
        obtain ⟨u10, l11, rfl⟩ := List.exists_cons_of_length_eq_add_one h_10
        have h_11 : l11.length = 30 := by simpa using h_10
        obtain ⟨u11, l12, rfl⟩ := List.exists_cons_of_length_eq_add_one h_11
        have h_12 : l12.length = 29 := by simpa using h_11
        obtain ⟨u12, l13, rfl⟩ := List.exists_cons_of_length_eq_add_one h_12
        have h_13 : l13.length = 28 := by simpa using h_12
        obtain ⟨u13, l14, rfl⟩ := List.exists_cons_of_length_eq_add_one h_13
        have h_14 : l14.length = 27 := by simpa using h_13
        obtain ⟨u14, l15, rfl⟩ := List.exists_cons_of_length_eq_add_one h_14
        have h_15 : l15.length = 26 := by simpa using h_14
        obtain ⟨u15, l16, rfl⟩ := List.exists_cons_of_length_eq_add_one h_15
        have h_16 : l16.length = 25 := by simpa using h_15
        obtain ⟨u16, l17, rfl⟩ := List.exists_cons_of_length_eq_add_one h_16
        have h_17 : l17.length = 24 := by simpa using h_16
        obtain ⟨u17, l18, rfl⟩ := List.exists_cons_of_length_eq_add_one h_17
        have h_18 : l18.length = 23 := by simpa using h_17
        obtain ⟨u18, l19, rfl⟩ := List.exists_cons_of_length_eq_add_one h_18
        have h_19 : l19.length = 22 := by simpa using h_18
        obtain ⟨u19, l20, rfl⟩ := List.exists_cons_of_length_eq_add_one h_19
        have h_20 : l20.length = 21 := by simpa using h_19
        obtain ⟨u20, l21, rfl⟩ := List.exists_cons_of_length_eq_add_one h_20
        have h_21 : l21.length = 20 := by simpa using h_20
        obtain ⟨u21, l22, rfl⟩ := List.exists_cons_of_length_eq_add_one h_21
        have h_22 : l22.length = 19 := by simpa using h_21
        obtain ⟨u22, l23, rfl⟩ := List.exists_cons_of_length_eq_add_one h_22
        have h_23 : l23.length = 18 := by simpa using h_22
        obtain ⟨u23, l24, rfl⟩ := List.exists_cons_of_length_eq_add_one h_23
        have h_24 : l24.length = 17 := by simpa using h_23
        obtain ⟨u24, l25, rfl⟩ := List.exists_cons_of_length_eq_add_one h_24
        have h_25 : l25.length = 16 := by simpa using h_24
        obtain ⟨u25, l26, rfl⟩ := List.exists_cons_of_length_eq_add_one h_25
        have h_26 : l26.length = 15 := by simpa using h_25
        obtain ⟨u26, l27, rfl⟩ := List.exists_cons_of_length_eq_add_one h_26
        have h_27 : l27.length = 14 := by simpa using h_26
        obtain ⟨u27, l28, rfl⟩ := List.exists_cons_of_length_eq_add_one h_27
        have h_28 : l28.length = 13 := by simpa using h_27
        obtain ⟨u28, l29, rfl⟩ := List.exists_cons_of_length_eq_add_one h_28
        have h_29 : l29.length = 12 := by simpa using h_28
        obtain ⟨u29, l30, rfl⟩ := List.exists_cons_of_length_eq_add_one h_29
        have h_30 : l30.length = 11 := by simpa using h_29
        obtain ⟨u30, l31, rfl⟩ := List.exists_cons_of_length_eq_add_one h_30
        have h_31 : l31.length = 10 := by simpa using h_30
        obtain ⟨u31, l32, rfl⟩ := List.exists_cons_of_length_eq_add_one h_31
        have h_32 : l32.length = 9 := by simpa using h_31
        obtain ⟨u32, l33, rfl⟩ := List.exists_cons_of_length_eq_add_one h_32
        have h_33 : l33.length = 8 := by simpa using h_32
        obtain ⟨u33, l34, rfl⟩ := List.exists_cons_of_length_eq_add_one h_33
        have h_34 : l34.length = 7 := by simpa using h_33
        obtain ⟨u34, l35, rfl⟩ := List.exists_cons_of_length_eq_add_one h_34
        have h_35 : l35.length = 6 := by simpa using h_34
        obtain ⟨u35, l36, rfl⟩ := List.exists_cons_of_length_eq_add_one h_35
        have h_36 : l36.length = 5 := by simpa using h_35
        obtain ⟨u36, l37, rfl⟩ := List.exists_cons_of_length_eq_add_one h_36
        have h_37 : l37.length = 4 := by simpa using h_36
        obtain ⟨u37, l38, rfl⟩ := List.exists_cons_of_length_eq_add_one h_37
        have h_38 : l38.length = 3 := by simpa using h_37
        obtain ⟨u38, l39, rfl⟩ := List.exists_cons_of_length_eq_add_one h_38
        have h_39 : l39.length = 2 := by simpa using h_38
        obtain ⟨u39, l40, rfl⟩ := List.exists_cons_of_length_eq_add_one h_39
        have h_40 : l40.length = 1 := by simpa using h_39
        obtain ⟨u40, l41, rfl⟩ := List.exists_cons_of_length_eq_add_one h_40
        have h_41 : l41.length = 0 := by simpa using h_40
        obtain rfl := List.length_eq_zero_iff.1 h_41
        have h5 : u4 = .int .i64 c1 := h4
        subst h5
        have HR := hide hR
        clear h4 hR h0 h_1 h_2 h_3 h_4 h_5 h_6 h_7 h_8 h_9 h_10 h_11 h_12 h_13 h_14 h_15 h_16 h_17 h_18 h_19 h_20 h_21 h_22 h_23 h_24 h_25 h_26 h_27 h_28 h_29 h_30 h_31 h_32 h_33 h_34 h_35 h_36 h_37 h_38 h_39 h_40 h_41
        show Code.wp _ _ _ ⟨#[u0, u1, u2, u3, .int .i64 c1, u5, u6, u7, u8, u9, u10, u11, u12, u13, u14, u15, u16, u17, u18, u19, u20, u21, u22, u23, u24, u25, u26, u27, u28, u29, u30, u31, u32, u33, u34, u35, u36, u37, u38, u39, u40], []⟩ w'
        go_wp2
        simp only [Exit.jump]
        go_ret
        exact ⟨rfl, HR.out⟩
      go_wp2_with fail
      with_reducible refine NM.out.mono ?_
      rintro e v1 ⟨rfl, r1⟩
      have C2 := hide (ME.out _ r1)
      clear r1 NM ME
      go_wp2_with fail
      with_reducible refine C2.out.mono ?_
      rintro e v2 ⟨rfl, r2⟩
      have R2 := hide r2
      clear r2 C2
      go_wp2
      go_step3
      exact ⟨rfl, rfl, rfl, rfl, R2.out⟩
end Go.Proofs.YtknghoecjobkiaaGreatDoor

namespace Go.Proofs.YtknghoecjobkiaaGreatDoor
open Go.RowKit
set_option maxRecDepth 20000
/-- Bodies in frames. -/
def laidS (gs : List (List Int)) : List Int := gs.flatMap frameS
/-- Bodies that may be. -/
def GoodFr (gs : List (List Int)) : Prop := ∀ s ∈ gs, 1 ≤ s.length ∧ s.length ≤ 1048576 ∧ Bytes8 s

theorem GoodFr.tail {s : List Int} {t : List (List Int)} (h : GoodFr (s :: t)) : GoodFr t := fun x hx => h x (List.mem_cons_of_mem _ hx)
theorem laidS_cons (s : List Int) (t : List (List Int)) : laidS (s :: t) = frameS s ++ laidS t := by simp [laidS]
theorem laidS_append (a b : List (List Int)) : laidS (a ++ b) = laidS a ++ laidS b := by simp [laidS]
theorem laidS_byte {gs : List (List Int)} (h : GoodFr gs) : Bytes8 (laidS gs) := by
  intro z hz
  obtain ⟨s, hs, hz'⟩ := List.mem_flatMap.1 hz
  exact frameS_byte (h s hs).2.2 (by have := (h s hs).2.1; omega) z hz'
theorem frameS_long (s : List Int) : 5 + s.length ≤ (frameS s).length ∧ (frameS s).length ≤ 14 + s.length := by
  have := putS_len (s.length : Int)
  rw [frameS_len]; omega
theorem laidS_long (gs : List (List Int)) : gs.length ≤ (laidS gs).length := by
  induction gs with
  | nil => simp
  | cons s t ih =>
    have := frameS_long s
    rw [laidS_cons, List.length_append, List.length_cons]; omega

theorem reg_back (l : List Nat) : ∀ {r r' : Nat}, r < 4294967296 → r' < 4294967296 → (∀ z ∈ l, z < 256) → Cr.reg r l = Cr.reg r' l → r = r' := by
  induction l with
  | nil => intro r r' _ _ _ h; exact h
  | cons z l ih =>
    intro r r' h h' hz e
    have hz0 := hz z (by simp)
    have e1 : Cr.byte r z = Cr.byte r' z := ih (Cr.byte_lt h hz0) (Cr.byte_lt h' hz0) (fun y hy => hz y (by simp [hy])) e
    unfold Cr.byte at e1
    have e2 : Cr.it 8 ((r ^^^ z) ^^^ (r' ^^^ z)) = 0 := by rw [Cr.it_xor, e1, Nat.xor_self]
    rw [Cr.xor_swap, Nat.xor_self, Nat.xor_zero] at e2
    exact Cr.xor_zero_eq (Cr.it_none 8 (Nat.xor_lt_two_pow (n := 32) (by omega) (by omega)) e2)
theorem byte_back {r u x : Nat} (hu : u < 256) (hx : x < 256) (h : Cr.byte r u = Cr.byte r x) : u = x := by
  unfold Cr.byte at h
  have e2 : Cr.it 8 ((r ^^^ u) ^^^ (r ^^^ x)) = 0 := by rw [Cr.it_xor, h, Nat.xor_self]
  rw [Cr.xor_swap, Nat.xor_self, Nat.zero_xor] at e2
  exact Cr.xor_zero_eq (Cr.it_none 8 (Nat.xor_lt_two_pow (n := 32) (by omega) (by omega)) e2)

/-- One byte turned: another sum. -/
theorem more_turned {p q : List Int} {u x : Int} (hp : Bytes8 p) (hq : Bytes8 q) (hu : 0 ≤ u ∧ u ≤ 255) (hx : 0 ≤ x ∧ x ≤ 255) (hne : x ≠ u) : moreS 0 (p ++ x :: q) ≠ moreS 0 (p ++ u :: q) := by
  intro h
  unfold moreS at h
  have h1 : Cr.reg (4294967295 ^^^ (0 : Int).toNat) ((p ++ x :: q).map Int.toNat) = Cr.reg (4294967295 ^^^ (0 : Int).toNat) ((p ++ u :: q).map Int.toNat) := by
    have h2 := Int.ofNat.inj h
    have h3 := congrArg (fun y => 4294967295 ^^^ y) h2
    simpa [Cr.xor_cancel] using h3
  rw [List.map_append, List.map_append, Cr.reg_append, Cr.reg_append, List.map_cons, List.map_cons] at h1
  have hr : Cr.reg (4294967295 ^^^ (0 : Int).toNat) (p.map Int.toNat) < 4294967296 := Cr.reg_lt _ (by decide) (bytes_nat hp)
  have h2 := reg_back (q.map Int.toNat) (Cr.byte_lt hr (by omega)) (Cr.byte_lt hr (by omega)) (bytes_nat hq) h1
  have h3 := byte_back (by omega) (by omega) h2
  omega
theorem quad_inj {s t : Int} (hs : 0 ≤ s ∧ s < 4294967296) (ht : 0 ≤ t ∧ t < 4294967296) (h : quad s = quad t) : s = t := by
  simp only [quad, List.cons.injEq, and_true] at h
  omega

/-- One byte turned behind a frame's length: there is no frame. -/
theorem findS_turned {body : List Int} (h1 : 1 ≤ body.length) (h2 : body.length ≤ 1048576) (hb : Bytes8 body) (xs ys : List Int) {j : Nat} {x : Int} (hx : 0 ≤ x ∧ x ≤ 255)
    (hj : (putS (body.length : Int)).length ≤ j) (hj2 : j < (frameS body).length) (hne : x ≠ (frameS body).getD j 0) : findS (xs ++ ((frameS body).set j x ++ ys)) xs.length = none := by
  obtain ⟨i, rfl⟩ : ∃ i, j = (putS (body.length : Int)).length + i := ⟨j - (putS (body.length : Int)).length, by omega⟩
  have e : (frameS body).set ((putS (body.length : Int)).length + i) x = putS (body.length : Int) ++ (sumB body ++ body).set i x := by
    unfold frameS
    rw [List.set_append, if_neg (by omega), Nat.add_sub_cancel_left]
  have en : (frameS body).getD ((putS (body.length : Int)).length + i) 0 = (sumB body ++ body).getD i 0 := by
    unfold frameS
    rw [List.getD_eq_getElem?_getD, List.getElem?_append_right (by omega), Nat.add_sub_cancel_left, ← List.getD_eq_getElem?_getD]
  rw [en] at hne
  have hi : i < 4 + body.length := by rw [frameS_len] at hj2; omega
  have hg := getS_at (w64_len (n := body.length) (by omega)) xs ((sumB body ++ body).set i x ++ ys)
  have e3 : xs ++ ((frameS body).set ((putS (body.length : Int)).length + i) x ++ ys) = xs ++ (putS (body.length : Int) ++ ((sumB body ++ body).set i x ++ ys)) := by rw [e, List.append_assoc]
  rw [e3]
  unfold findS
  rw [hg]
  simp only [Int.toNat_natCast]
  generalize hr : (sumB body ++ body).set i x = r at *
  have hrl : r.length = 4 + body.length := by rw [← hr, List.length_set, List.length_append, sumB_len]
  have d1 : (xs ++ (putS (body.length : Int) ++ (r ++ ys))).drop (xs.length + (putS (body.length : Int)).length) = r ++ ys := by
    rw [← List.append_assoc, ← List.length_append, List.drop_left]
  have d2 : (xs ++ (putS (body.length : Int) ++ (r ++ ys))).drop (xs.length + (putS (body.length : Int)).length + 4) = (r ++ ys).drop 4 := by rw [← List.drop_drop, d1]
  rw [d1, d2]
  split
  · rfl
  · rw [if_neg]
    have T1 : (r ++ ys).take 4 = r.take 4 := List.take_append_of_le_length (by omega)
    have T2 : ((r ++ ys).drop 4).take body.length = r.drop 4 := by
      rw [List.drop_append_of_le_length (by omega), List.take_append_of_le_length (by rw [List.length_drop]; omega), List.take_of_length_le (by rw [List.length_drop]; omega)]
    rw [T1, T2]
    by_cases hi4 : i < 4
    · have er : r = (sumB body).set i x ++ body := by rw [← hr, List.set_append, if_pos (by rw [sumB_len]; exact hi4)]
      have hsl : ((sumB body).set i x).length = 4 := by rw [List.length_set, sumB_len]
      have t4 : r.take 4 = (sumB body).set i x := by rw [er, List.take_append_of_le_length (by omega), List.take_of_length_le (by omega)]
      have d4 : r.drop 4 = body := by rw [er, ← hsl, List.drop_left]
      rw [t4, d4]
      intro h
      apply hne
      rw [List.getD_eq_getElem?_getD, List.getElem?_append_left (by rw [sumB_len]; exact hi4), ← List.getD_eq_getElem?_getD]
      rw [← h, List.getD_eq_getElem?_getD, List.getElem?_set_self (by rw [sumB_len]; exact hi4)]
      rfl
    · obtain ⟨m, rfl⟩ : ∃ m, i = 4 + m := ⟨i - 4, by omega⟩
      have hm : m < body.length := by omega
      have er : r = sumB body ++ body.set m x := by rw [← hr, List.set_append, if_neg (by rw [sumB_len]; omega), sumB_len, Nat.add_sub_cancel_left]
      have t4 : r.take 4 = sumB body := by rw [er, ← sumB_len body, List.take_left]
      have d4 : r.drop 4 = body.set m x := by rw [er, ← sumB_len body, List.drop_left]
      rw [t4, d4]
      intro h
      have hbm : body = body.take m ++ body[m] :: body.drop (m + 1) := by rw [← List.drop_eq_getElem_cons hm, List.take_append_drop]
      have hsm : body.set m x = body.take m ++ x :: body.drop (m + 1) := by rw [List.set_eq_take_append_cons_drop, if_pos hm]
      have hne2 : x ≠ body[m] := by
        intro h'
        apply hne
        rw [List.getD_eq_getElem?_getD, List.getElem?_append_right (by rw [sumB_len]; omega), sumB_len, Nat.add_sub_cancel_left, List.getElem?_eq_getElem hm]
        exact h'
      have hby := hb body[m] (List.getElem_mem hm)
      have hp : Bytes8 (body.take m) := fun z hz => hb z (List.mem_of_mem_take hz)
      have hq : Bytes8 (body.drop (m + 1)) := fun z hz => hb z (List.mem_of_mem_drop hz)
      have hset : Bytes8 (body.set m x) := by
        intro z hz
        rw [hsm] at hz
        rcases List.mem_append.1 hz with h' | h'
        · exact hp z h'
        · rcases List.mem_cons.1 h' with h'' | h''
          · rw [h'']; exact hx
          · exact hq z h''
      have key := more_turned hp hq hby hx hne2
      rw [← hsm, ← hbm] at key
      exact key (quad_inj (moreS_word (s := 0) (by decide) hset) (moreS_word (s := 0) (by decide) hb) h.symm)
end Go.Proofs.YtknghoecjobkiaaGreatDoor

namespace Go.Proofs.YtknghoecjobkiaaGreatDoor
open Go.RowKit Go.Maps
set_option maxRecDepth 20000
set_option linter.unusedVariables false
theorem rn_name2 {g q : Nat} {S : Nat → Prop} {w u : World} {F : Fs} {L : Lg} (h : Rn g q S w u F L) (n : Int) (hn : (Lit.int .i64 n).wf = true) : Calls Tryz.prog 19 #[.int .i64 n] u fun e u' => e = .returned (.string (nmW n)) ∧ Rn g q S w u' F L ∧ Below u.heap.size u u' :=
  (wname_any n u hn h.tab).mono (fun e u' ⟨he, hb⟩ => ⟨he, h.below hb, hb⟩)
/-- What has turned is of the log alone. -/
theorem Rn.ch {g q : Nat} {S : Nat → Prop} {w u : World} {F : Fs} {L : Lg} (h : Rn g q S w u F L) : Ch S w u := by
  obtain ⟨_, _, _, c⟩ := h
  exact c
theorem GAt.lt {g q : Nat} {S : Nat → Prop} {w : World} {X : Fs × Lg} (h : GAt g w q S X) : ∀ k, S k → k < w.heap.size := by
  obtain ⟨S0, h1, h2, _, _, _, h6, _⟩ := h
  intro k hk
  rcases (h6 k).1 hk with e | rfl
  · exact h1.lt k e
  · exact h2.lt
theorem GAt.below {g q : Nat} {S : Nat → Prop} {w v : World} {X : Fs × Lg} (h : GAt g w q S X) (b : Below w.heap.size w v) : GAt g v q S X := by
  obtain ⟨S0, h1, h2, h3, h4, h5, h6, h7⟩ := h
  exact ⟨S0, h1.below b, h2.below b h2.lt, h3, h4.bel b, h5, h6, h7⟩
theorem Rn.from {g q : Nat} {S : Nat → Prop} {u w v : World} {F : Fs} {L : Lg} (h : Rn g q S w v F L) (b : Below u.heap.size u w) : Rn g q S u v F L := by
  obtain ⟨S1, h1, h2, h3⟩ := h
  refine ⟨S1, h1, fun k hk => ?_, ((Ch.of_below b).more fun _ _ e => e.elim).trans h3⟩
  rcases h2 k hk with e | e
  · exact Or.inl e
  · exact Or.inr (Nat.le_trans b.size e)
theorem lim_turn {m : Nat} {F : Fs} (hL : LimB m F) (n : Int) : LimB (m + 3) (turnW F n).1 := by
  unfold turnW
  split
  · exact hL.mono (by omega)
  · split
    · split
      · exact (hL.create _).syncdir
      · exact (hL.create _).syncdir
    · exact (hL.create _).mono (by omega)
theorem lim_room {m : Nat} {F : Fs} (hL : LimB m F) (n : Int) : LimB (m + 3) (roomW F n).1 := by
  unfold roomW
  split
  · exact hL.mono (by omega)
  · exact lim_turn hL n
/-- A record's bytes are put as they should be, and there are not too many. -/
structure PutsX (S : Nat → Prop) (x : RecX) (h : RecH) : Prop where
  fit : 1 ≤ (putRc (rcX x)).length ∧ (putRc (rcX x)).length ≤ 101000 ∧ Bytes8 (putRc (rcX x))
  put : ∀ w : World, SeeR S w x h → Calls Tryz.prog 10 #[.slice none 0 0, (Value.agg #[.int .i64 (RecX.seq x), .int .i64 (RecX.kind x), .slice (RecH.la h) (RecH.ln h) (RecH.lc h), .int .i64 (RecX.at9 x), .slice (Hd.a (RecH.sk h)) (Hd.n (RecH.sk h)) (Hd.c (RecH.sk h)), .slice (Hd.k (RecH.sk h)) (Hd.m (RecH.sk h)) (Hd.d (RecH.sk h)), .int .u64 (Gz.n (Sp.g (RecX.sk x))), .int .u64 (Gz.nans (Sp.g (RecX.sk x))), .int .u64 (Gz.lo (Sp.g (RecX.sk x))), .int .u64 (Gz.hi (Sp.g (RecX.sk x))), .int .i64 (RecX.tseq x), .int .i64 (Hm.op (RecH.m h)), .string (Hm.nm (RecH.m h)), .string (Hm.vl (RecH.m h)), .slice (Hm.va (RecH.m h)) (Hm.vn (RecH.m h)) (Hm.vc (RecH.m h)), .slice (Hm.ka (RecH.m h)) (Hm.kn (RecH.m h)) (Hm.kc (RecH.m h)), .int .i64 (RecX.frm x), .int .i64 (RecX.till x)])] w fun e w' => PutP 0 [] (putRc (rcX x)) w e w'
theorem puts_one {S : Nat → Prop} {w : World} {x : RecX} {h : RecH} (q : SeeR S w x h) (h1 : x.kind = 1) (hl : chkL x.l = true) (hp : chkP x.sk = true) : PutsX S x h := by
  have e : putRc (rcX x) = putS (zig x.seq) ++ (putS 1 ++ (putL x.l ++ (putS (zig x.at9) ++ putP x.sk))) := by unfold rcX; rw [if_pos h1]; rfl
  exact ⟨putRc_fit1 q hl hp e, fun w' s => putRec_one S none 0 0 [] x h w' (nil_row _ _ _) (by omega) s h1 hl hp e⟩
theorem putRec0_of {S : Nat → Prop} {x : RecX} {h : RecH} {w : World} (p : PutsX S x h) (q : SeeR S w x h) :
    Calls Tryz.prog 10 #[.slice none 0 0, (Value.agg #[.int .i64 (RecX.seq x), .int .i64 (RecX.kind x), .slice (RecH.la h) (RecH.ln h) (RecH.lc h), .int .i64 (RecX.at9 x), .slice (Hd.a (RecH.sk h)) (Hd.n (RecH.sk h)) (Hd.c (RecH.sk h)), .slice (Hd.k (RecH.sk h)) (Hd.m (RecH.sk h)) (Hd.d (RecH.sk h)), .int .u64 (Gz.n (Sp.g (RecX.sk x))), .int .u64 (Gz.nans (Sp.g (RecX.sk x))), .int .u64 (Gz.lo (Sp.g (RecX.sk x))), .int .u64 (Gz.hi (Sp.g (RecX.sk x))), .int .i64 (RecX.tseq x), .int .i64 (Hm.op (RecH.m h)), .string (Hm.nm (RecH.m h)), .string (Hm.vl (RecH.m h)), .slice (Hm.va (RecH.m h)) (Hm.vn (RecH.m h)) (Hm.vc (RecH.m h)), .slice (Hm.ka (RecH.m h)) (Hm.kn (RecH.m h)) (Hm.kc (RecH.m h)), .int .i64 (RecX.frm x), .int .i64 (RecX.till x)])] w fun e w' => ∃ a' c', e = .returned (.slice a' (putRc (rcX x)).length c') ∧ Mine w' w.heap.size a' (putRc (rcX x)).length c' (putRc (rcX x)) ∧ Below w.heap.size w w' := by
  refine (p.put w q).mono ?_
  rintro e w' ⟨a', c', rfl, h1, h2⟩
  rw [Nat.zero_add, List.nil_append] at h1
  exact ⟨a', c', by rw [Nat.zero_add], h1, h2⟩
theorem frame0_any (a : Option Addr) (n c : Nat) (bs : List Int) (w : World) (hs : Row .u8 w a n bs) (h0 : 1 ≤ n) (h1 : n ≤ 1048576) :
    Calls Tryz.prog 101 #[.slice none 0 0, .slice a n c] w fun e w' => ∃ a' c', e = .returned (.tuple #[.slice a' (frameS bs).length c', .int .i64 0]) ∧ Mine w' w.heap.size a' (frameS bs).length c' (frameS bs) ∧ Below w.heap.size w w' := by
  refine (put_frame none 0 0 [] a n c bs w (nil_row _ _ _) hs (by omega) h0 h1).mono ?_
  rintro e w' ⟨a', c', rfl, q1, q2⟩
  rw [Nat.zero_add, List.nil_append] at q1
  exact ⟨a', c', by rw [Nat.zero_add], q1, q2⟩

set_option maxHeartbeats 16000000 in
theorem wappend_of (g q : Nat) (S Sx : Nat → Prop) (u : World) (F : Fs) (L : Lg) (m : Nat) (x : RecX) (h : RecH) (hG : GAt g u q S (F, L)) (hL : LimB m F) (hm : m + 200000 ≤ 1073741824) (sx : SeeR Sx u x h) (hd : ∀ k, Sx k → ¬ S k) (hx : PutsX Sx x h) :
    Calls Tryz.prog 37 #[.pointer (some ⟨q, 0, none⟩), (Value.agg #[.int .i64 (RecX.seq x), .int .i64 (RecX.kind x), .slice (RecH.la h) (RecH.ln h) (RecH.lc h), .int .i64 (RecX.at9 x), .slice (Hd.a (RecH.sk h)) (Hd.n (RecH.sk h)) (Hd.c (RecH.sk h)), .slice (Hd.k (RecH.sk h)) (Hd.m (RecH.sk h)) (Hd.d (RecH.sk h)), .int .u64 (Gz.n (Sp.g (RecX.sk x))), .int .u64 (Gz.nans (Sp.g (RecX.sk x))), .int .u64 (Gz.lo (Sp.g (RecX.sk x))), .int .u64 (Gz.hi (Sp.g (RecX.sk x))), .int .i64 (RecX.tseq x), .int .i64 (Hm.op (RecH.m h)), .string (Hm.nm (RecH.m h)), .string (Hm.vl (RecH.m h)), .slice (Hm.va (RecH.m h)) (Hm.vn (RecH.m h)) (Hm.vc (RecH.m h)), .slice (Hm.ka (RecH.m h)) (Hm.kn (RecH.m h)) (Hm.kc (RecH.m h)), .int .i64 (RecX.frm x), .int .i64 (RecX.till x)])] u fun e u' => e = .returned (.int .i64 (appendW F L.last (putRc (rcX x))).2.1) ∧ Rn g q S u u' (appendW F L.last (putRc (rcX x))).1 { L with last := (appendW F L.last (putRc (rcX x))).2.2 } := by
  have FT := hide hx.fit
  have FB : Hid ((frameS (putRc (rcX x))).length ≤ 101100 ∧ Bytes8 (frameS (putRc (rcX x)))) := ⟨by have := (frameS_long (putRc (rcX x))).2; have := FT.out.2.1; show _ ≤ _; omega, frameS_byte FT.out.2.2 (by have := FT.out.2.1; omega)⟩
  obtain ⟨b, hb⟩ : ∃ b, Hid (u.heap.size = b) := ⟨_, rfl⟩
  have nb : Hid (¬ S b) := fun e => by have := hG.lt b e; have := hb.out; omega
  obtain ⟨w0, hw0⟩ : ∃ w0, Hid (u.alloc (.cells ([.int .i64 (RecX.seq x), .int .i64 (RecX.kind x), .slice (RecH.la h) (RecH.ln h) (RecH.lc h), .int .i64 (RecX.at9 x), .slice (Hd.a (RecH.sk h)) (Hd.n (RecH.sk h)) (Hd.c (RecH.sk h)), .slice (Hd.k (RecH.sk h)) (Hd.m (RecH.sk h)) (Hd.d (RecH.sk h)), .int .u64 (Gz.n (Sp.g (RecX.sk x))), .int .u64 (Gz.nans (Sp.g (RecX.sk x))), .int .u64 (Gz.lo (Sp.g (RecX.sk x))), .int .u64 (Gz.hi (Sp.g (RecX.sk x))), .int .i64 (RecX.tseq x), .int .i64 (Hm.op (RecH.m h)), .string (Hm.nm (RecH.m h)), .string (Hm.vl (RecH.m h)), .slice (Hm.va (RecH.m h)) (Hm.vn (RecH.m h)) (Hm.vc (RecH.m h)), .slice (Hm.ka (RecH.m h)) (Hm.kn (RecH.m h)) (Hm.kc (RecH.m h)), .int .i64 (RecX.frm x), .int .i64 (RecX.till x)]).toArray 39) = w0) := ⟨_, rfl⟩
  have B0 : Hid (BoxV w0 b 39 [.int .i64 (RecX.seq x), .int .i64 (RecX.kind x), .slice (RecH.la h) (RecH.ln h) (RecH.lc h), .int .i64 (RecX.at9 x), .slice (Hd.a (RecH.sk h)) (Hd.n (RecH.sk h)) (Hd.c (RecH.sk h)), .slice (Hd.k (RecH.sk h)) (Hd.m (RecH.sk h)) (Hd.d (RecH.sk h)), .int .u64 (Gz.n (Sp.g (RecX.sk x))), .int .u64 (Gz.nans (Sp.g (RecX.sk x))), .int .u64 (Gz.lo (Sp.g (RecX.sk x))), .int .u64 (Gz.hi (Sp.g (RecX.sk x))), .int .i64 (RecX.tseq x), .int .i64 (Hm.op (RecH.m h)), .string (Hm.nm (RecH.m h)), .string (Hm.vl (RecH.m h)), .slice (Hm.va (RecH.m h)) (Hm.vn (RecH.m h)) (Hm.vc (RecH.m h)), .slice (Hm.ka (RecH.m h)) (Hm.kn (RecH.m h)) (Hm.kc (RecH.m h)), .int .i64 (RecX.frm x), .int .i64 (RecX.till x)]) := by rw [← hw0.out, ← hb.out]; exact BoxV.new u _ _
  have L0 : Hid (Below u.heap.size u w0) := by rw [← hw0.out]; exact (Below.refl _ _).alloc (Nat.le_refl _) _
  have Q0 := hide (sx.below L0.out (Nat.le_refl _))
  have R0 := hide (rn_refl (hG.below L0.out))
  have RM := hide (wroom_any g q S w0 w0 F L m R0.out hL (by omega))
  have LR := hide (lim_room hL L.last)
  have HT : Hid (appendW F L.last (putRc (rcX x)) = if (roomW F L.last).2.1 = 0 then (if (appendF (roomW F L.last).1 (nmW (roomW F L.last).2.2) (frameS (putRc (rcX x)))).2 = 0 then ((syncF (appendF (roomW F L.last).1 (nmW (roomW F L.last).2.2) (frameS (putRc (rcX x)))).1 (nmW (roomW F L.last).2.2)).1, (syncF (appendF (roomW F L.last).1 (nmW (roomW F L.last).2.2) (frameS (putRc (rcX x)))).1 (nmW (roomW F L.last).2.2)).2, (roomW F L.last).2.2) else ((appendF (roomW F L.last).1 (nmW (roomW F L.last).2.2) (frameS (putRc (rcX x)))).1, (appendF (roomW F L.last).1 (nmW (roomW F L.last).2.2) (frameS (putRc (rcX x)))).2, (roomW F L.last).2.2)) else roomW F L.last) := by
    show _ = _
    unfold appendW
    rw [if_neg (show ¬ 1048576 < (putRc (rcX x)).length by have := FT.out.2.1; omega)]
  rw [HT.out]
  have PR := hide (fun v (s : SeeR Sx v x h) => putRec0_of hx s)
  have PF := hide (fun v a n c (hn : (putRc (rcX x)).length = n) (hs : Row .u8 v a n (putRc (rcX x))) => frame0_any a n c (putRc (rcX x)) v hs (by have := FT.out.1; omega) (by have := FT.out.2.1; omega))
  generalize roomW F L.last = rm at *
  obtain ⟨F1, c1, n1⟩ := rm
  dsimp only at RM LR ⊢
  clear hL hG HT
  by_cases h1 : c1 = 0
  · subst h1
    rw [if_pos rfl]
    have SZ := nmW_size n1
    obtain ⟨L1, hL1⟩ : ∃ L1 : Lg, Hid (({ L with last := n1 } : Lg) = L1) := ⟨_, rfl⟩
    have LA : Hid (L1.last = n1) := by rw [← hL1.out]; rfl
    rw [hL1.out] at RM
    have AP := hide (fun v a c (hn : (frameS (putRc (rcX x))).length ≤ c) (r : Rn g q S w0 v F1 L1) (hs : Row .u8 v a (frameS (putRc (rcX x))).length (frameS (putRc (rcX x)))) => rn_append r LR.out (by omega) (nmW n1) (by omega) a (frameS (putRc (rcX x))).length c (frameS (putRc (rcX x))) hs (by have := FB.out.1; omega) hn)
    have LA2 := hide ((LR.out.append (nmW n1) (frameS (putRc (rcX x)))).mono (show m + 3 + 1 + (frameS (putRc (rcX x))).length ≤ m + 199999 by have := FB.out.1; omega))
    have NM := hide (fun v G (r : Rn g q S w0 v G L1) => rn_name2 r n1 (by rw [← LA.out]; exact i64_wf (by have := r.wf.l0; omega) (by have := r.wf.l1; omega)))
    have ST : Hid (∀ v G, Rn g q S w0 v G L1 → v.cell? ⟨q, 0, none⟩ = some (.pointer (some ⟨g, 0, none⟩)) ∧ v.cell? ⟨q, 1, none⟩ = some (.int .i64 n1)) := fun v G r => ⟨r.box.cell (i := 0) rfl, by rw [← LA.out]; exact r.box.cell (i := 1) rfl⟩
    generalize nmW n1 = nm at *
    generalize appendF F1 nm (frameS (putRc (rcX x))) = ap at *
    obtain ⟨F2, c2⟩ := ap
    dsimp only at AP LA2 ⊢
    by_cases h2 : c2 = 0
    · subst h2
      rw [if_pos rfl]
      dsimp only
      rw [hL1.out]
      have SY := hide (fun v (r : Rn g q S w0 v F2 L1) => rn_sync r LA2.out (by omega) nm (by omega))
      generalize syncF F2 nm = sy at *
      obtain ⟨F3, c3⟩ := sy
      dsimp only at SY ⊢
      go_enter Tryz.func37, Tryz.ntmps37
      go_wp2
      refine wp_scope_jumps 0 (fun a' w' => a'.defers = [] ∧ a'.tmps.size = 43 ∧ a'.tmps.getD 6 undef = .int .i64 c3 ∧ Rn g q S u w' F3 L1) (fun _ _ => 0) rfl ?_ ?_
      rotate_left 1
      · rintro ⟨⟨l0⟩, dd⟩ w' ⟨hd, h0, h4, hR⟩
        dsimp only at hd
        subst hd
        have h0 : l0.length = 43 := h0
        obtain ⟨u0, l1, rfl⟩ := List.exists_cons_of_length_eq_add_one h0
        have h_1 : l1.length = 42 := by simpa using h0
        obtain ⟨u1, l2, rfl⟩ := List.exists_cons_of_length_eq_add_one h_1
        have h_2 : l2.length = 41 := by simpa using h_1
        obtain ⟨u2, l3, rfl⟩ := List.exists_cons_of_length_eq_add_one h_2
        have h_3 : l3.length = 40 := by simpa using h_2
        obtain ⟨u3, l4, rfl⟩ := List.exists_cons_of_length_eq_add_one h_3
        have h_4 : l4.length = 39 := by simpa using h_3
        obtain ⟨u4, l5, rfl⟩ := List.exists_cons_of_length_eq_add_one h_4
        have h_5 : l5.length = 38 := by simpa using h_4
        obtain ⟨u5, l6, rfl⟩ := List.exists_cons_of_length_eq_add_one h_5
        have h_6 : l6.length = 37 := by simpa using h_5
        obtain ⟨u6, l7, rfl⟩ := List.exists_cons_of_length_eq_add_one h_6
        have h_7 : l7.length = 36 := by simpa using h_6
        obtain ⟨u7, l8, rfl⟩ := List.exists_cons_of_length_eq_add_one h_7
        have h_8 : l8.length = 35 := by simpa using h_7
        obtain ⟨u8, l9, rfl⟩ := List.exists_cons_of_length_eq_add_one h_8
        have h_9 : l9.length = 34 := by simpa using h_8
        obtain ⟨u9, l10, rfl⟩ := List.exists_cons_of_length_eq_add_one h_9
        have h_10 : l10.length = 33 := by simpa using h_9
        obtain ⟨u10, l11, rfl⟩ := List.exists_cons_of_length_eq_add_one h_10
        have h_11 : l11.length = 32 := by simpa using h_10
        obtain ⟨u11, l12, rfl⟩ := List.exists_cons_of_length_eq_add_one h_11
        have h_12 : l12.length = 31 := by simpa using h_11
        obtain ⟨u12, l13, rfl⟩ := List.exists_cons_of_length_eq_add_one h_12
        have h_13 : l13.length = 30 := by simpa using h_12
        obtain ⟨u13, l14, rfl⟩ := List.exists_cons_of_length_eq_add_one h_13
        have h_14 : l14.length = 29 := by simpa using h_13
        obtain ⟨u14, l15, rfl⟩ := List.exists_cons_of_length_eq_add_one h_14
        have h_15 : l15.length = 28 := by simpa using h_14
        obtain ⟨u15, l16, rfl⟩ := List.exists_cons_of_length_eq_add_one h_15
        have h_16 : l16.length = 27 := by simpa using h_15
        obtain ⟨u16, l17, rfl⟩ := List.exists_cons_of_length_eq_add_one h_16
        have h_17 : l17.length = 26 := by simpa using h_16
        obtain ⟨u17, l18, rfl⟩ := List.exists_cons_of_length_eq_add_one h_17
        have h_18 : l18.length = 25 := by simpa using h_17
        obtain ⟨u18, l19, rfl⟩ := List.exists_cons_of_length_eq_add_one h_18
        have h_19 : l19.length = 24 := by simpa using h_18
        obtain ⟨u19, l20, rfl⟩ := List.exists_cons_of_length_eq_add_one h_19
        have h_20 : l20.length = 23 := by simpa using h_19
        obtain ⟨u20, l21, rfl⟩ := List.exists_cons_of_length_eq_add_one h_20
        have h_21 : l21.length = 22 := by simpa using h_20
        obtain ⟨u21, l22, rfl⟩ := List.exists_cons_of_length_eq_add_one h_21
        have h_22 : l22.length = 21 := by simpa using h_21
        obtain ⟨u22, l23, rfl⟩ := List.exists_cons_of_length_eq_add_one h_22
        have h_23 : l23.length = 20 := by simpa using h_22
        obtain ⟨u23, l24, rfl⟩ := List.exists_cons_of_length_eq_add_one h_23
        have h_24 : l24.length = 19 := by simpa using h_23
        obtain ⟨u24, l25, rfl⟩ := List.exists_cons_of_length_eq_add_one h_24
        have h_25 : l25.length = 18 := by simpa using h_24
        obtain ⟨u25, l26, rfl⟩ := List.exists_cons_of_length_eq_add_one h_25
        have h_26 : l26.length = 17 := by simpa using h_25
        obtain ⟨u26, l27, rfl⟩ := List.exists_cons_of_length_eq_add_one h_26
        have h_27 : l27.length = 16 := by simpa using h_26
        obtain ⟨u27, l28, rfl⟩ := List.exists_cons_of_length_eq_add_one h_27
        have h_28 : l28.length = 15 := by simpa using h_27
        obtain ⟨u28, l29, rfl⟩ := List.exists_cons_of_length_eq_add_one h_28
        have h_29 : l29.length = 14 := by simpa using h_28
        obtain ⟨u29, l30, rfl⟩ := List.exists_cons_of_length_eq_add_one h_29
        have h_30 : l30.length = 13 := by simpa using h_29
        obtain ⟨u30, l31, rfl⟩ := List.exists_cons_of_length_eq_add_one h_30
        have h_31 : l31.length = 12 := by simpa using h_30
        obtain ⟨u31, l32, rfl⟩ := List.exists_cons_of_length_eq_add_one h_31
        have h_32 : l32.length = 11 := by simpa using h_31
        obtain ⟨u32, l33, rfl⟩ := List.exists_cons_of_length_eq_add_one h_32
        have h_33 : l33.length = 10 := by simpa using h_32
        obtain ⟨u33, l34, rfl⟩ := List.exists_cons_of_length_eq_add_one h_33
        have h_34 : l34.length = 9 := by simpa using h_33
        obtain ⟨u34, l35, rfl⟩ := List.exists_cons_of_length_eq_add_one h_34
        have h_35 : l35.length = 8 := by simpa using h_34
        obtain ⟨u35, l36, rfl⟩ := List.exists_cons_of_length_eq_add_one h_35
        have h_36 : l36.length = 7 := by simpa using h_35
        obtain ⟨u36, l37, rfl⟩ := List.exists_cons_of_length_eq_add_one h_36
        have h_37 : l37.length = 6 := by simpa using h_36
        obtain ⟨u37, l38, rfl⟩ := List.exists_cons_of_length_eq_add_one h_37
        have h_38 : l38.length = 5 := by simpa using h_37
        obtain ⟨u38, l39, rfl⟩ := List.exists_cons_of_length_eq_add_one h_38
        have h_39 : l39.length = 4 := by simpa using h_38
        obtain ⟨u39, l40, rfl⟩ := List.exists_cons_of_length_eq_add_one h_39
        have h_40 : l40.length = 3 := by simpa using h_39
        obtain ⟨u40, l41, rfl⟩ := List.exists_cons_of_length_eq_add_one h_40
        have h_41 : l41.length = 2 := by simpa using h_40
        obtain ⟨u41, l42, rfl⟩ := List.exists_cons_of_length_eq_add_one h_41
        have h_42 : l42.length = 1 := by simpa using h_41
        obtain ⟨u42, l43, rfl⟩ := List.exists_cons_of_length_eq_add_one h_42
        have h_43 : l43.length = 0 := by simpa using h_42
        obtain rfl := List.length_eq_zero_iff.1 h_43
        have h5 : u6 = .int .i64 c3 := h4
        subst h5
        have HR := hide hR
        clear h4 hR h0 h_1 h_2 h_3 h_4 h_5 h_6 h_7 h_8 h_9 h_10 h_11 h_12 h_13 h_14 h_15 h_16 h_17 h_18 h_19 h_20 h_21 h_22 h_23 h_24 h_25 h_26 h_27 h_28 h_29 h_30 h_31 h_32 h_33 h_34 h_35 h_36 h_37 h_38 h_39 h_40 h_41 h_42 h_43
        show Code.wp _ _ _ ⟨#[u0, u1, u2, u3, u4, u5, .int .i64 c3, u7, u8, u9, u10, u11, u12, u13, u14, u15, u16, u17, u18, u19, u20, u21, u22, u23, u24, u25, u26, u27, u28, u29, u30, u31, u32, u33, u34, u35, u36, u37, u38, u39, u40, u41, u42], []⟩ w'
        go_wp2
        simp only [Exit.jump]
        go_ret
        exact ⟨rfl, HR.out⟩
      rw [hw0.out, hb.out]
      clear hw0 hb
      go_wp2_with fail
      with_reducible refine RM.out.mono ?_
      rintro e v1 ⟨rfl, r1⟩
      have B1 := hide (B0.out.ch r1.ch nb.out)
      have Q1 := hide (Q0.out.ch r1.ch hd)
      have RG1 := hide B1.out.range
      have R1 := hide r1
      have C2 := hide (PR.out v1 Q1.out)
      clear r1 RM PR Q1 B0 Q0 R0
      go_wp2_with ((with_reducible show wpList _ _ _ (Oper.mk _ (Op.load 39 _) _ _ _ _ :: _) _ _); refine wpLoad rfl 39 _ rfl b 0 rfl [.int .i64 (RecX.seq x), .int .i64 (RecX.kind x), .slice (RecH.la h) (RecH.ln h) (RecH.lc h), .int .i64 (RecX.at9 x), .slice (Hd.a (RecH.sk h)) (Hd.n (RecH.sk h)) (Hd.c (RecH.sk h)), .slice (Hd.k (RecH.sk h)) (Hd.m (RecH.sk h)) (Hd.d (RecH.sk h)), .int .u64 (Gz.n (Sp.g (RecX.sk x))), .int .u64 (Gz.nans (Sp.g (RecX.sk x))), .int .u64 (Gz.lo (Sp.g (RecX.sk x))), .int .u64 (Gz.hi (Sp.g (RecX.sk x))), .int .i64 (RecX.tseq x), .int .i64 (Hm.op (RecH.m h)), .string (Hm.nm (RecH.m h)), .string (Hm.vl (RecH.m h)), .slice (Hm.va (RecH.m h)) (Hm.vn (RecH.m h)) (Hm.vc (RecH.m h)), .slice (Hm.ka (RecH.m h)) (Hm.kn (RecH.m h)) (Hm.kc (RecH.m h)), .int .i64 (RecX.frm x), .int .i64 (RecX.till x)] _ RG1.out Tryz.underlying39 rfl info_rec ?_)
      with_reducible refine C2.out.mono ?_
      rintro e v2 ⟨a2, k2, rfl, o2, b2⟩
      have C3 := hide (PF.out v2 a2 _ k2 rfl (o2.row (by have := FT.out.2.1; omega) (fits_wf FT.out.2.2)))
      have R2 := hide (R1.out.below b2)
      clear o2 b2 C2 PF R1 B1 RG1
      go_wp2_with fail
      with_reducible refine C3.out.mono ?_
      rintro e v3 ⟨a3, k3, rfl, o3, b3⟩
      have R3 := hide ((R2.out.below b3).below (Below.refl v3.heap.size v3).drew)
      have O3 := hide o3.capped.1
      have W3 := hide ((o3.row (by have := FB.out.1; omega) (fits_wf FB.out.2)).drew)
      have BF := hide FB.out.2
      clear o3 C3 R2 b3
      obtain ⟨s0, s1⟩ := ST.out _ _ R3.out
      have N3 := hide (NM.out _ _ R3.out)
      go_upto_region 6 with fail
      refine wp_region_held_drew (S := fun v => v.cell? ⟨q, 0, none⟩ = some (.pointer (some ⟨g, 0, none⟩)) ∧ v.cell? ⟨q, 1, none⟩ = some (.int .i64 n1)) (by kernel_rfl) ⟨s0, s1⟩ (fun hHeld => ?_)
      refine held_tk 0 (some 19) rfl rfl ?_
      refine held_tk 1 (some 20) rfl rfl ?_
      refine held_tk 2 (some 21) rfl rfl ?_
      refine held_tk 3 (some 22) rfl rfl ?_
      refine held_tk 4 (some 23) rfl rfl ?_
      refine held_tk 5 (some 24) rfl rfl ?_
      refine held_tk 6 (some 25) rfl rfl ?_
      refine held_tk 7 (some 26) rfl rfl ?_
      refine held_tk 9 (some 28) rfl rfl ?_
      refine held_next (i := 8) (by kernel_rfl) rfl (by rfl) (fun K1 hK1 => ?_)
      go_simp
      with_reducible refine N3.out.mono ?_
      rintro e v4 ⟨rfl, r4, b4⟩
      have S4 := hide (ST.out _ _ r4)
      have C4 := hide (AP.out _ _ _ O3.out r4 (W3.out.below b4 (Nat.le_refl _)))
      clear r4 b4 N3 AP O3 W3 R3
      go_wp2_with fail
      refine hK1.out _ _ S4.out ?_
      clear hK1
      refine held_next (i := 10) (by kernel_rfl) rfl (by rfl) (fun K1 hK1 => ?_)
      go_simp
      with_reducible refine C4.out.mono ?_
      rintro e v5 ⟨rfl, r5⟩
      have S5 := hide (ST.out _ _ r5)
      have R5 := hide r5
      clear r5 C4
      go_wp2_with fail
      refine hK1.out _ _ S5.out ?_
      clear hK1
      refine held_tk 11 (some 6) rfl rfl ?_
      clear hHeld
      refine wpAnyH_done (by kernel_rfl) ?_ _
      have R6 := hide (R5.out.below (Below.refl v5.heap.size v5).drew)
      obtain ⟨t0, t1⟩ := ST.out _ _ R6.out
      have N6 := hide (NM.out _ _ R6.out)
      go_upto_region 8 with fail
      refine wp_region_held_drew (S := fun v => v.cell? ⟨q, 0, none⟩ = some (.pointer (some ⟨g, 0, none⟩)) ∧ v.cell? ⟨q, 1, none⟩ = some (.int .i64 n1)) (by kernel_rfl) ⟨t0, t1⟩ (fun hHeld => ?_)
      refine held_tk 0 (some 32) rfl rfl ?_
      refine held_tk 1 (some 33) rfl rfl ?_
      refine held_tk 2 (some 34) rfl rfl ?_
      refine held_tk 3 (some 35) rfl rfl ?_
      refine held_tk 4 (some 36) rfl rfl ?_
      refine held_tk 5 (some 37) rfl rfl ?_
      refine held_tk 6 (some 38) rfl rfl ?_
      refine held_tk 7 (some 39) rfl rfl ?_
      refine held_next (i := 8) (by kernel_rfl) rfl (by rfl) (fun K1 hK1 => ?_)
      go_simp
      with_reducible refine N6.out.mono ?_
      rintro e v7 ⟨rfl, r7, _⟩
      have S7 := hide (ST.out _ _ r7)
      have C7 := hide (SY.out _ r7)
      clear r7 N6 SY
      go_wp2_with fail
      refine hK1.out _ _ S7.out ?_
      clear hK1
      refine held_next (i := 9) (by kernel_rfl) rfl (by rfl) (fun K1 hK1 => ?_)
      go_simp
      with_reducible refine C7.out.mono ?_
      rintro e v8 ⟨rfl, r8⟩
      have S8 := hide (ST.out _ _ r8)
      have RF := hide (r8.from L0.out)
      clear r8 C7
      go_wp2_with fail
      refine hK1.out _ _ S8.out ?_
      clear hK1
      refine held_tk 10 (some 6) rfl rfl ?_
      clear hHeld
      refine wpAnyH_done (by kernel_rfl) ?_ _
      go_wp2
      go_step3
      go_wp2
      simp only [Exit.jump]
      go_ret
      exact ⟨rfl, RF.out⟩
    · rw [if_neg h2]
      dsimp only
      rw [hL1.out]
      have n2 : (c2 != 0) = true := by simpa using h2
      go_enter Tryz.func37, Tryz.ntmps37
      go_wp2
      refine wp_scope_jumps 0 (fun a' w' => a'.defers = [] ∧ a'.tmps.size = 43 ∧ a'.tmps.getD 6 undef = .int .i64 c2 ∧ Rn g q S u w' F2 L1) (fun _ _ => 0) rfl ?_ ?_
      rotate_left 1
      · rintro ⟨⟨l0⟩, dd⟩ w' ⟨hd, h0, h4, hR⟩
        dsimp only at hd
        subst hd
        have h0 : l0.length = 43 := h0
        obtain ⟨u0, l1, rfl⟩ := List.exists_cons_of_length_eq_add_one h0
        have h_1 : l1.length = 42 := by simpa using h0
        obtain ⟨u1, l2, rfl⟩ := List.exists_cons_of_length_eq_add_one h_1
        have h_2 : l2.length = 41 := by simpa using h_1
        obtain ⟨u2, l3, rfl⟩ := List.exists_cons_of_length_eq_add_one h_2
        have h_3 : l3.length = 40 := by simpa using h_2
        obtain ⟨u3, l4, rfl⟩ := List.exists_cons_of_length_eq_add_one h_3
        have h_4 : l4.length = 39 := by simpa using h_3
        obtain ⟨u4, l5, rfl⟩ := List.exists_cons_of_length_eq_add_one h_4
        have h_5 : l5.length = 38 := by simpa using h_4
        obtain ⟨u5, l6, rfl⟩ := List.exists_cons_of_length_eq_add_one h_5
        have h_6 : l6.length = 37 := by simpa using h_5
        obtain ⟨u6, l7, rfl⟩ := List.exists_cons_of_length_eq_add_one h_6
        have h_7 : l7.length = 36 := by simpa using h_6
        obtain ⟨u7, l8, rfl⟩ := List.exists_cons_of_length_eq_add_one h_7
        have h_8 : l8.length = 35 := by simpa using h_7
        obtain ⟨u8, l9, rfl⟩ := List.exists_cons_of_length_eq_add_one h_8
        have h_9 : l9.length = 34 := by simpa using h_8
        obtain ⟨u9, l10, rfl⟩ := List.exists_cons_of_length_eq_add_one h_9
        have h_10 : l10.length = 33 := by simpa using h_9
        obtain ⟨u10, l11, rfl⟩ := List.exists_cons_of_length_eq_add_one h_10
        have h_11 : l11.length = 32 := by simpa using h_10
        obtain ⟨u11, l12, rfl⟩ := List.exists_cons_of_length_eq_add_one h_11
        have h_12 : l12.length = 31 := by simpa using h_11
        obtain ⟨u12, l13, rfl⟩ := List.exists_cons_of_length_eq_add_one h_12
        have h_13 : l13.length = 30 := by simpa using h_12
        obtain ⟨u13, l14, rfl⟩ := List.exists_cons_of_length_eq_add_one h_13
        have h_14 : l14.length = 29 := by simpa using h_13
        obtain ⟨u14, l15, rfl⟩ := List.exists_cons_of_length_eq_add_one h_14
        have h_15 : l15.length = 28 := by simpa using h_14
        obtain ⟨u15, l16, rfl⟩ := List.exists_cons_of_length_eq_add_one h_15
        have h_16 : l16.length = 27 := by simpa using h_15
        obtain ⟨u16, l17, rfl⟩ := List.exists_cons_of_length_eq_add_one h_16
        have h_17 : l17.length = 26 := by simpa using h_16
        obtain ⟨u17, l18, rfl⟩ := List.exists_cons_of_length_eq_add_one h_17
        have h_18 : l18.length = 25 := by simpa using h_17
        obtain ⟨u18, l19, rfl⟩ := List.exists_cons_of_length_eq_add_one h_18
        have h_19 : l19.length = 24 := by simpa using h_18
        obtain ⟨u19, l20, rfl⟩ := List.exists_cons_of_length_eq_add_one h_19
        have h_20 : l20.length = 23 := by simpa using h_19
        obtain ⟨u20, l21, rfl⟩ := List.exists_cons_of_length_eq_add_one h_20
        have h_21 : l21.length = 22 := by simpa using h_20
        obtain ⟨u21, l22, rfl⟩ := List.exists_cons_of_length_eq_add_one h_21
        have h_22 : l22.length = 21 := by simpa using h_21
        obtain ⟨u22, l23, rfl⟩ := List.exists_cons_of_length_eq_add_one h_22
        have h_23 : l23.length = 20 := by simpa using h_22
        obtain ⟨u23, l24, rfl⟩ := List.exists_cons_of_length_eq_add_one h_23
        have h_24 : l24.length = 19 := by simpa using h_23
        obtain ⟨u24, l25, rfl⟩ := List.exists_cons_of_length_eq_add_one h_24
        have h_25 : l25.length = 18 := by simpa using h_24
        obtain ⟨u25, l26, rfl⟩ := List.exists_cons_of_length_eq_add_one h_25
        have h_26 : l26.length = 17 := by simpa using h_25
        obtain ⟨u26, l27, rfl⟩ := List.exists_cons_of_length_eq_add_one h_26
        have h_27 : l27.length = 16 := by simpa using h_26
        obtain ⟨u27, l28, rfl⟩ := List.exists_cons_of_length_eq_add_one h_27
        have h_28 : l28.length = 15 := by simpa using h_27
        obtain ⟨u28, l29, rfl⟩ := List.exists_cons_of_length_eq_add_one h_28
        have h_29 : l29.length = 14 := by simpa using h_28
        obtain ⟨u29, l30, rfl⟩ := List.exists_cons_of_length_eq_add_one h_29
        have h_30 : l30.length = 13 := by simpa using h_29
        obtain ⟨u30, l31, rfl⟩ := List.exists_cons_of_length_eq_add_one h_30
        have h_31 : l31.length = 12 := by simpa using h_30
        obtain ⟨u31, l32, rfl⟩ := List.exists_cons_of_length_eq_add_one h_31
        have h_32 : l32.length = 11 := by simpa using h_31
        obtain ⟨u32, l33, rfl⟩ := List.exists_cons_of_length_eq_add_one h_32
        have h_33 : l33.length = 10 := by simpa using h_32
        obtain ⟨u33, l34, rfl⟩ := List.exists_cons_of_length_eq_add_one h_33
        have h_34 : l34.length = 9 := by simpa using h_33
        obtain ⟨u34, l35, rfl⟩ := List.exists_cons_of_length_eq_add_one h_34
        have h_35 : l35.length = 8 := by simpa using h_34
        obtain ⟨u35, l36, rfl⟩ := List.exists_cons_of_length_eq_add_one h_35
        have h_36 : l36.length = 7 := by simpa using h_35
        obtain ⟨u36, l37, rfl⟩ := List.exists_cons_of_length_eq_add_one h_36
        have h_37 : l37.length = 6 := by simpa using h_36
        obtain ⟨u37, l38, rfl⟩ := List.exists_cons_of_length_eq_add_one h_37
        have h_38 : l38.length = 5 := by simpa using h_37
        obtain ⟨u38, l39, rfl⟩ := List.exists_cons_of_length_eq_add_one h_38
        have h_39 : l39.length = 4 := by simpa using h_38
        obtain ⟨u39, l40, rfl⟩ := List.exists_cons_of_length_eq_add_one h_39
        have h_40 : l40.length = 3 := by simpa using h_39
        obtain ⟨u40, l41, rfl⟩ := List.exists_cons_of_length_eq_add_one h_40
        have h_41 : l41.length = 2 := by simpa using h_40
        obtain ⟨u41, l42, rfl⟩ := List.exists_cons_of_length_eq_add_one h_41
        have h_42 : l42.length = 1 := by simpa using h_41
        obtain ⟨u42, l43, rfl⟩ := List.exists_cons_of_length_eq_add_one h_42
        have h_43 : l43.length = 0 := by simpa using h_42
        obtain rfl := List.length_eq_zero_iff.1 h_43
        have h5 : u6 = .int .i64 c2 := h4
        subst h5
        have HR := hide hR
        clear h4 hR h0 h_1 h_2 h_3 h_4 h_5 h_6 h_7 h_8 h_9 h_10 h_11 h_12 h_13 h_14 h_15 h_16 h_17 h_18 h_19 h_20 h_21 h_22 h_23 h_24 h_25 h_26 h_27 h_28 h_29 h_30 h_31 h_32 h_33 h_34 h_35 h_36 h_37 h_38 h_39 h_40 h_41 h_42 h_43
        show Code.wp _ _ _ ⟨#[u0, u1, u2, u3, u4, u5, .int .i64 c2, u7, u8, u9, u10, u11, u12, u13, u14, u15, u16, u17, u18, u19, u20, u21, u22, u23, u24, u25, u26, u27, u28, u29, u30, u31, u32, u33, u34, u35, u36, u37, u38, u39, u40, u41, u42], []⟩ w'
        go_wp2
        simp only [Exit.jump]
        go_ret
        exact ⟨rfl, HR.out⟩
      rw [hw0.out, hb.out]
      clear hw0 hb
      go_wp2_with fail
      with_reducible refine RM.out.mono ?_
      rintro e v1 ⟨rfl, r1⟩
      have B1 := hide (B0.out.ch r1.ch nb.out)
      have Q1 := hide (Q0.out.ch r1.ch hd)
      have RG1 := hide B1.out.range
      have R1 := hide r1
      have C2 := hide (PR.out v1 Q1.out)
      clear r1 RM PR Q1 B0 Q0 R0
      go_wp2_with ((with_reducible show wpList _ _ _ (Oper.mk _ (Op.load 39 _) _ _ _ _ :: _) _ _); refine wpLoad rfl 39 _ rfl b 0 rfl [.int .i64 (RecX.seq x), .int .i64 (RecX.kind x), .slice (RecH.la h) (RecH.ln h) (RecH.lc h), .int .i64 (RecX.at9 x), .slice (Hd.a (RecH.sk h)) (Hd.n (RecH.sk h)) (Hd.c (RecH.sk h)), .slice (Hd.k (RecH.sk h)) (Hd.m (RecH.sk h)) (Hd.d (RecH.sk h)), .int .u64 (Gz.n (Sp.g (RecX.sk x))), .int .u64 (Gz.nans (Sp.g (RecX.sk x))), .int .u64 (Gz.lo (Sp.g (RecX.sk x))), .int .u64 (Gz.hi (Sp.g (RecX.sk x))), .int .i64 (RecX.tseq x), .int .i64 (Hm.op (RecH.m h)), .string (Hm.nm (RecH.m h)), .string (Hm.vl (RecH.m h)), .slice (Hm.va (RecH.m h)) (Hm.vn (RecH.m h)) (Hm.vc (RecH.m h)), .slice (Hm.ka (RecH.m h)) (Hm.kn (RecH.m h)) (Hm.kc (RecH.m h)), .int .i64 (RecX.frm x), .int .i64 (RecX.till x)] _ RG1.out Tryz.underlying39 rfl info_rec ?_)
      with_reducible refine C2.out.mono ?_
      rintro e v2 ⟨a2, k2, rfl, o2, b2⟩
      have C3 := hide (PF.out v2 a2 _ k2 rfl (o2.row (by have := FT.out.2.1; omega) (fits_wf FT.out.2.2)))
      have R2 := hide (R1.out.below b2)
      clear o2 b2 C2 PF R1 B1 RG1
      go_wp2_with fail
      with_reducible refine C3.out.mono ?_
      rintro e v3 ⟨a3, k3, rfl, o3, b3⟩
      have R3 := hide ((R2.out.below b3).below (Below.refl v3.heap.size v3).drew)
      have O3 := hide o3.capped.1
      have W3 := hide ((o3.row (by have := FB.out.1; omega) (fits_wf FB.out.2)).drew)
      have BF := hide FB.out.2
      clear o3 C3 R2 b3
      obtain ⟨s0, s1⟩ := ST.out _ _ R3.out
      have N3 := hide (NM.out _ _ R3.out)
      go_upto_region 6 with fail
      refine wp_region_held_drew (S := fun v => v.cell? ⟨q, 0, none⟩ = some (.pointer (some ⟨g, 0, none⟩)) ∧ v.cell? ⟨q, 1, none⟩ = some (.int .i64 n1)) (by kernel_rfl) ⟨s0, s1⟩ (fun hHeld => ?_)
      refine held_tk 0 (some 19) rfl rfl ?_
      refine held_tk 1 (some 20) rfl rfl ?_
      refine held_tk 2 (some 21) rfl rfl ?_
      refine held_tk 3 (some 22) rfl rfl ?_
      refine held_tk 4 (some 23) rfl rfl ?_
      refine held_tk 5 (some 24) rfl rfl ?_
      refine held_tk 6 (some 25) rfl rfl ?_
      refine held_tk 7 (some 26) rfl rfl ?_
      refine held_tk 9 (some 28) rfl rfl ?_
      refine held_next (i := 8) (by kernel_rfl) rfl (by rfl) (fun K1 hK1 => ?_)
      go_simp
      with_reducible refine N3.out.mono ?_
      rintro e v4 ⟨rfl, r4, b4⟩
      have S4 := hide (ST.out _ _ r4)
      have C4 := hide (AP.out _ _ _ O3.out r4 (W3.out.below b4 (Nat.le_refl _)))
      clear r4 b4 N3 AP O3 W3 R3
      go_wp2_with fail
      refine hK1.out _ _ S4.out ?_
      clear hK1
      refine held_next (i := 10) (by kernel_rfl) rfl (by rfl) (fun K1 hK1 => ?_)
      go_simp
      with_reducible refine C4.out.mono ?_
      rintro e v5 ⟨rfl, r5⟩
      have S5 := hide (ST.out _ _ r5)
      have R5 := hide r5
      clear r5 C4
      go_wp2_with fail
      refine hK1.out _ _ S5.out ?_
      clear hK1
      refine held_tk 11 (some 6) rfl rfl ?_
      clear hHeld
      refine wpAnyH_done (by kernel_rfl) ?_ _
      have RF := hide (R5.out.from L0.out)
      go_wp2
      go_step3
      exact ⟨rfl, rfl, rfl, rfl, RF.out⟩
  · rw [if_neg h1]
    dsimp only
    have nz1 : (c1 != 0) = true := by simpa using h1
    go_enter Tryz.func37, Tryz.ntmps37
    go_wp2
    refine wp_scope_jumps 0 (fun a' w' => a'.defers = [] ∧ a'.tmps.size = 43 ∧ a'.tmps.getD 6 undef = .int .i64 c1 ∧ Rn g q S u w' F1 { L with last := n1 }) (fun _ _ => 0) rfl ?_ ?_
    rotate_left 1
    · rintro ⟨⟨l0⟩, dd⟩ w' ⟨hd, h0, h4, hR⟩
      dsimp only at hd
      subst hd
      have h0 : l0.length = 43 := h0
      obtain ⟨u0, l1, rfl⟩ := List.exists_cons_of_length_eq_add_one h0
      have h_1 : l1.length = 42 := by simpa using h0
      obtain ⟨u1, l2, rfl⟩ := List.exists_cons_of_length_eq_add_one h_1
      have h_2 : l2.length = 41 := by simpa using h_1
      obtain ⟨u2, l3, rfl⟩ := List.exists_cons_of_length_eq_add_one h_2
      have h_3 : l3.length = 40 := by simpa using h_2
      obtain ⟨u3, l4, rfl⟩ := List.exists_cons_of_length_eq_add_one h_3
      have h_4 : l4.length = 39 := by simpa using h_3
      obtain ⟨u4, l5, rfl⟩ := List.exists_cons_of_length_eq_add_one h_4
      have h_5 : l5.length = 38 := by simpa using h_4
      obtain ⟨u5, l6, rfl⟩ := List.exists_cons_of_length_eq_add_one h_5
      have h_6 : l6.length = 37 := by simpa using h_5
      obtain ⟨u6, l7, rfl⟩ := List.exists_cons_of_length_eq_add_one h_6
      have h_7 : l7.length = 36 := by simpa using h_6
      obtain ⟨u7, l8, rfl⟩ := List.exists_cons_of_length_eq_add_one h_7
      have h_8 : l8.length = 35 := by simpa using h_7
      obtain ⟨u8, l9, rfl⟩ := List.exists_cons_of_length_eq_add_one h_8
      have h_9 : l9.length = 34 := by simpa using h_8
      obtain ⟨u9, l10, rfl⟩ := List.exists_cons_of_length_eq_add_one h_9
      have h_10 : l10.length = 33 := by simpa using h_9
      obtain ⟨u10, l11, rfl⟩ := List.exists_cons_of_length_eq_add_one h_10
      have h_11 : l11.length = 32 := by simpa using h_10
      obtain ⟨u11, l12, rfl⟩ := List.exists_cons_of_length_eq_add_one h_11
      have h_12 : l12.length = 31 := by simpa using h_11
      obtain ⟨u12, l13, rfl⟩ := List.exists_cons_of_length_eq_add_one h_12
      have h_13 : l13.length = 30 := by simpa using h_12
      obtain ⟨u13, l14, rfl⟩ := List.exists_cons_of_length_eq_add_one h_13
      have h_14 : l14.length = 29 := by simpa using h_13
      obtain ⟨u14, l15, rfl⟩ := List.exists_cons_of_length_eq_add_one h_14
      have h_15 : l15.length = 28 := by simpa using h_14
      obtain ⟨u15, l16, rfl⟩ := List.exists_cons_of_length_eq_add_one h_15
      have h_16 : l16.length = 27 := by simpa using h_15
      obtain ⟨u16, l17, rfl⟩ := List.exists_cons_of_length_eq_add_one h_16
      have h_17 : l17.length = 26 := by simpa using h_16
      obtain ⟨u17, l18, rfl⟩ := List.exists_cons_of_length_eq_add_one h_17
      have h_18 : l18.length = 25 := by simpa using h_17
      obtain ⟨u18, l19, rfl⟩ := List.exists_cons_of_length_eq_add_one h_18
      have h_19 : l19.length = 24 := by simpa using h_18
      obtain ⟨u19, l20, rfl⟩ := List.exists_cons_of_length_eq_add_one h_19
      have h_20 : l20.length = 23 := by simpa using h_19
      obtain ⟨u20, l21, rfl⟩ := List.exists_cons_of_length_eq_add_one h_20
      have h_21 : l21.length = 22 := by simpa using h_20
      obtain ⟨u21, l22, rfl⟩ := List.exists_cons_of_length_eq_add_one h_21
      have h_22 : l22.length = 21 := by simpa using h_21
      obtain ⟨u22, l23, rfl⟩ := List.exists_cons_of_length_eq_add_one h_22
      have h_23 : l23.length = 20 := by simpa using h_22
      obtain ⟨u23, l24, rfl⟩ := List.exists_cons_of_length_eq_add_one h_23
      have h_24 : l24.length = 19 := by simpa using h_23
      obtain ⟨u24, l25, rfl⟩ := List.exists_cons_of_length_eq_add_one h_24
      have h_25 : l25.length = 18 := by simpa using h_24
      obtain ⟨u25, l26, rfl⟩ := List.exists_cons_of_length_eq_add_one h_25
      have h_26 : l26.length = 17 := by simpa using h_25
      obtain ⟨u26, l27, rfl⟩ := List.exists_cons_of_length_eq_add_one h_26
      have h_27 : l27.length = 16 := by simpa using h_26
      obtain ⟨u27, l28, rfl⟩ := List.exists_cons_of_length_eq_add_one h_27
      have h_28 : l28.length = 15 := by simpa using h_27
      obtain ⟨u28, l29, rfl⟩ := List.exists_cons_of_length_eq_add_one h_28
      have h_29 : l29.length = 14 := by simpa using h_28
      obtain ⟨u29, l30, rfl⟩ := List.exists_cons_of_length_eq_add_one h_29
      have h_30 : l30.length = 13 := by simpa using h_29
      obtain ⟨u30, l31, rfl⟩ := List.exists_cons_of_length_eq_add_one h_30
      have h_31 : l31.length = 12 := by simpa using h_30
      obtain ⟨u31, l32, rfl⟩ := List.exists_cons_of_length_eq_add_one h_31
      have h_32 : l32.length = 11 := by simpa using h_31
      obtain ⟨u32, l33, rfl⟩ := List.exists_cons_of_length_eq_add_one h_32
      have h_33 : l33.length = 10 := by simpa using h_32
      obtain ⟨u33, l34, rfl⟩ := List.exists_cons_of_length_eq_add_one h_33
      have h_34 : l34.length = 9 := by simpa using h_33
      obtain ⟨u34, l35, rfl⟩ := List.exists_cons_of_length_eq_add_one h_34
      have h_35 : l35.length = 8 := by simpa using h_34
      obtain ⟨u35, l36, rfl⟩ := List.exists_cons_of_length_eq_add_one h_35
      have h_36 : l36.length = 7 := by simpa using h_35
      obtain ⟨u36, l37, rfl⟩ := List.exists_cons_of_length_eq_add_one h_36
      have h_37 : l37.length = 6 := by simpa using h_36
      obtain ⟨u37, l38, rfl⟩ := List.exists_cons_of_length_eq_add_one h_37
      have h_38 : l38.length = 5 := by simpa using h_37
      obtain ⟨u38, l39, rfl⟩ := List.exists_cons_of_length_eq_add_one h_38
      have h_39 : l39.length = 4 := by simpa using h_38
      obtain ⟨u39, l40, rfl⟩ := List.exists_cons_of_length_eq_add_one h_39
      have h_40 : l40.length = 3 := by simpa using h_39
      obtain ⟨u40, l41, rfl⟩ := List.exists_cons_of_length_eq_add_one h_40
      have h_41 : l41.length = 2 := by simpa using h_40
      obtain ⟨u41, l42, rfl⟩ := List.exists_cons_of_length_eq_add_one h_41
      have h_42 : l42.length = 1 := by simpa using h_41
      obtain ⟨u42, l43, rfl⟩ := List.exists_cons_of_length_eq_add_one h_42
      have h_43 : l43.length = 0 := by simpa using h_42
      obtain rfl := List.length_eq_zero_iff.1 h_43
      have h5 : u6 = .int .i64 c1 := h4
      subst h5
      have HR := hide hR
      clear h4 hR h0 h_1 h_2 h_3 h_4 h_5 h_6 h_7 h_8 h_9 h_10 h_11 h_12 h_13 h_14 h_15 h_16 h_17 h_18 h_19 h_20 h_21 h_22 h_23 h_24 h_25 h_26 h_27 h_28 h_29 h_30 h_31 h_32 h_33 h_34 h_35 h_36 h_37 h_38 h_39 h_40 h_41 h_42 h_43
      show Code.wp _ _ _ ⟨#[u0, u1, u2, u3, u4, u5, .int .i64 c1, u7, u8, u9, u10, u11, u12, u13, u14, u15, u16, u17, u18, u19, u20, u21, u22, u23, u24, u25, u26, u27, u28, u29, u30, u31, u32, u33, u34, u35, u36, u37, u38, u39, u40, u41, u42], []⟩ w'
      go_wp2
      simp only [Exit.jump]
      go_ret
      exact ⟨rfl, HR.out⟩
    rw [hw0.out, hb.out]
    clear hw0 hb
    go_wp2_with fail
    with_reducible refine RM.out.mono ?_
    rintro e v1 ⟨rfl, r1⟩
    have R1 := hide (r1.from L0.out)
    clear r1 RM
    go_wp2
    go_step3
    exact ⟨rfl, rfl, rfl, rfl, R1.out⟩
/-- A file's bytes are bytes, and no more than there may be. -/
theorem read_fit {F : Fs} {m : Nat} (hV : GoodV F) (hL : LimB m F) {s : ByteArray} {b : List Int} (h : readF F s = some b) : b.length ≤ m ∧ ∀ z ∈ b, 0 ≤ z ∧ z ≤ 255 := by
  unfold readF at h
  cases hk : fileF F s with
  | none => rw [hk] at h; cases h
  | some k =>
    rw [hk] at h
    obtain rfl : bytF (atF F k) = b := by simpa using h
    have e := limB_at hL k
    have e2 := unsB_len (atF F k).us (atF F k).sure
    exact ⟨by unfold bytF; omega, bytF_byte hV (hV.file hk)⟩
/-- So few files one behind the other. -/
def FewF (F : Fs) (frm : Int) : Prop := ∀ j : Nat, (∀ i : Nat, i < j → (readF F (nmW (frm + i))).isSome = true) → j ≤ 4096
/-- What an opening tells. -/
def OpenP (g : Nat) (F : Fs) (frm : Int) (w : World) (e : Ending) (w' : World) : Prop := Below w.heap.size w w' ∧
  if nmW frm = ByteArray.empty then e = .returned (.tuple #[.pointer none, .slice none 0 0, .int .i64 1])
  else match openW false F frm with
  | none => e = .returned (.tuple #[.pointer none, .slice none 0 0, .int .i64 13])
  | some s => ∃ q a c, e = .returned (.tuple #[.pointer (some ⟨q, 0, none⟩), .slice a s.recs.length c, .int .i64 0]) ∧ w.heap.size ≤ q ∧ BoxV w' q 145 (logC g ⟨s.last, s.last, s.cut, false⟩) ∧ RecsAt w' (q + 1) a s.recs.length c s.recs
theorem goW_none {D : Bool} {F : Fs} {n : Int} {s : Ow} (h : readF F (nmW n) = none) : ∀ f, goW D F f n s = some s
  | 0 => rfl
  | f + 1 => by
    unfold goW
    rw [h]
theorem fuel_step {n : Int} (h0 : 0 ≤ n) (h1 : n ≤ 99999999) : (100000000 - n).toNat = (100000000 - (n + 1)).toNat + 1 := by omega
theorem goW_more {D : Bool} {F : Fs} {n : Int} {s : Ow} {b : List Int} (h0 : 0 ≤ n) (h1 : n ≤ 99999999) (h : readF F (nmW n) = some b) : goW D F (100000000 - n).toNat n s = match stepW D s n b with
    | none => none
    | some s' => goW D F (100000000 - (n + 1)).toNat (n + 1) s' := by
  rw [fuel_step h0 h1, goW, h]
  rfl
theorem read_some {F : Fs} (hN : GoodN F) {n : Int} {b : List Int} (h : readF F (nmW n) = some b) : 0 ≤ n ∧ n ≤ 99999999 := by
  by_cases e : nmW n = ByteArray.empty
  · rw [e, read_no hN] at h
    cases h
  · have := mt nmW_empty.2 e
    omega

theorem RecsAt.ch {C : Nat → Prop} {w u : World} {base n c : Nat} {a : Option Addr} {rs : List Rc} (q : RecsAt w base a n c rs) (h : Ch C w u) (hn : ∀ k, base ≤ k → ¬ C k) : RecsAt u base a n c rs := by
  obtain ⟨l, h1, h2, h3, h4⟩ := q
  exact ⟨l, OwnG.ch h1 h (fun j e => hn j (OwnG.cellsT h1 j e).2), fun p hp => (h2 p hp).ch h (fun k hk => hn k hk.1), h3, h4⟩
section
variable {g : Nat} {F : Fs} {frm : Int} {w w' : World}
theorem openP_arg (h0 : nmW frm = ByteArray.empty) (b : Below w.heap.size w w') : OpenP g F frm w (.returned (.tuple #[.pointer none, .slice none 0 0, .int .i64 1])) w' := by
  unfold OpenP
  rw [if_pos h0]
  exact ⟨b, rfl⟩
theorem openP_bad (h0 : ¬ nmW frm = ByteArray.empty) (h : openW false F frm = none) (b : Below w.heap.size w w') : OpenP g F frm w (.returned (.tuple #[.pointer none, .slice none 0 0, .int .i64 13])) w' := by
  unfold OpenP
  rw [if_neg h0, h]
  exact ⟨b, rfl⟩
theorem openP_ok (h0 : ¬ nmW frm = ByteArray.empty) {s : Ow} (h : openW false F frm = some s) (b : Below w.heap.size w w') {q c : Nat} {a : Option Addr} (h1 : w.heap.size ≤ q) (h2 : BoxV w' q 145 (logC g ⟨s.last, s.last, s.cut, false⟩)) (h3 : RecsAt w' (q + 1) a s.recs.length c s.recs) :
    OpenP g F frm w (.returned (.tuple #[.pointer (some ⟨q, 0, none⟩), .slice a s.recs.length c, .int .i64 0])) w' := by
  unfold OpenP
  rw [if_neg h0, h]
  exact ⟨b, q, a, c, rfl, h1, h2, h3⟩
end
/-- As the loop of Open finds it. -/
structure OpI (g q : Nat) (F : Fs) (frm : Int) (w v2 wr : World) (j : Nat) (s : Ow) (b : Option Addr) (c : Nat) : Prop where
  cu : s.cut = -1 ∨ 0 ≤ s.cut
  cl : s.cut ≤ 67108864
  l0 : 0 ≤ s.last
  l1 : s.last ≤ 99999999
  few : ∀ i : Nat, i < j → (readF F (nmW (frm + i))).isSome = true
  eq : openW false F frm = goW false F (100000000 - (frm + j)).toNat (frm + j) s
  box : BoxV wr q 145 (logC g ⟨s.last, s.last, s.cut, false⟩)
  recs : RecsAt wr v2.heap.size b s.recs.length c s.recs
  bel : Below q v2 wr

set_option maxHeartbeats 16000000 in
theorem open_of (g : Nat) (S : Nat → Prop) (F : Fs) (m : Nat) (frm : Int) (w : World) (hR : ∀ (n : Int) (bs : List Int), readF F (nmW n) = some bs → GrF bs) (hF : LAt w g S F) (hT : TbP w) (hL : LimB m F) (hm : m ≤ 67108864) (hf : (Lit.int .i64 frm).wf = true) (hW : FewF F frm) :
    Calls Tryz.prog 33 #[.pointer (some ⟨g, 0, none⟩), .int .i64 frm] w fun e w' => OpenP g F frm w e w' := by
  have N0 := hide (wname_any frm w hf hT)
  by_cases h0 : nmW frm = ByteArray.empty
  · rw [h0] at N0
    clear hF hT hL hW hR
    go_enter Tryz.func33, Tryz.ntmps33
    go_wp2_with fail
    with_reducible refine N0.out.mono ?_
    rintro e v1 ⟨rfl, b1⟩
    have B1 := hide b1
    clear b1 N0
    go_wp2
    go_ret3
    exact openP_arg h0 B1.out
  · have hb : ((nmW frm).toList == []) = false := by rw [beq_eq_false_iff_ne]; intro e; exact h0 (ba_ext (by rw [e, ByteArray.toList_eq]; rfl))
    have h1 : 0 ≤ frm ∧ frm ≤ 99999999 := by have := mt nmW_empty.2 h0; omega
    have NE := hide h0
    have LW := hide hL
    have HF := hide hF
    have HRR := hide hR
    have HV := hide hF.1
    have HN := hide hF.2.1
    have HT := hide hT
    have HW := hide hW
    obtain ⟨i0, hi, hz0, hz1, hz2⟩ := info_parts Tryz.infoRc
    obtain ⟨f0, f1⟩ := h1
    have OW : Hid (openW false F frm = goW false F (100000000 - frm).toNat frm (ow0 frm)) := rfl
    clear hF hT hL hW h0 hR
    go_enter Tryz.func33, Tryz.ntmps33
    go_wp2_with fail
    with_reducible refine N0.out.mono ?_
    rintro e v1 ⟨rfl, b1⟩
    have B1 := hide b1
    clear b1 N0
    obtain ⟨q, hq⟩ : ∃ q, Hid (v1.heap.size = q) := ⟨_, rfl⟩
    obtain ⟨v2, hv2⟩ : ∃ v2, Hid (v1.alloc (.cells #[.pointer (some ⟨g, 0, none⟩), .int .i64 frm, .int .i64 frm, .int .i64 (-1), .bool false] 145) = v2) := ⟨_, rfl⟩
    have X2 : Hid (BoxV v2 q 145 (logC g ⟨frm, frm, -1, false⟩)) := by rw [← hv2.out, ← hq.out]; exact BoxV.new v1 _ (logC g ⟨frm, frm, -1, false⟩)
    have K2 : Hid (Below v1.heap.size v1 v2) := by rw [← hv2.out]; exact (Below.refl _ _).alloc (Nat.le_refl _) _
    have B2 := hide (bel_to B1.out (Nat.le_refl _) K2.out)
    have sz2 : v2.heap.size = q + 1 := by rw [← hv2.out, ← hq.out]; exact size_al _ _
    have QW : Hid (w.heap.size ≤ q) := by rw [← hq.out]; exact B1.out.size
    clear K2 B1
    go_upto_region 4 with fail
    rw [hv2.out, hq.out]
    clear hv2 hq hb
    go_wp2
    have SZ2 : Hid (v2.heap.size = q + 1) := sz2
    have QL : Hid (q ≤ v2.heap.size) := by rw [sz2]; exact Nat.le_succ q
    clear sz2
    go_loopw [8, 9] (fun al i wr => ∃ (j : Nat) (s : Ow) (b : Option Addr) (c : Nat), i = .int .i64 (frm + (j : Int)) ∧ al = .slice b s.recs.length c ∧ frm + (j : Int) ≤ 100000000 ∧ j ≤ 4096 ∧ s.recs.length ≤ j * 67108864 ∧ Hid (OpI g q F frm w v2 wr j s b c)) (fun _ i _ => (100000001 - intOf i).toNat)
    case atStart => exact ⟨0, ow0 frm, none, 0, by simp, rfl, by simp; omega, by omega, by simp [ow0], ⟨Or.inl rfl, by show (-1 : Int) ≤ _; omega, f0, f1, fun i hi => by omega, by rw [OW.out]; simp, X2.out, recs_nil _ _, Below.refl _ _⟩⟩
    case round =>
      obtain ⟨j, s, b, c, rfl, rfl, hj0, hj1, hsl, HI⟩ := hrel
      obtain ⟨v0, rfl⟩ : ∃ v, v = wr := ⟨wr, rfl⟩
      have B0 := hide (B2.out.trans (HI.out.bel.mono QW.out))
      obtain ⟨z, hz⟩ : ∃ z, Hid (frm + (j : Int) = z) := ⟨_, rfl⟩
      have z0 : 0 ≤ z := by have := hz.out; omega
      rw [hz.out] at hj0
      rw [hz.out]
      have NM := hide (wname_any z v0 (i64_wf (by omega) (by omega)) (HT.out.bel B0.out))
      have SZ := nmW_size z
      have RD := hide (fun v (bv : Below w.heap.size w v) => lread_any g S F (nmW z) m v (HF.out.below bv) LW.out.lim (by omega) (Nat.le_trans SZ (by decide)))
      cases hr : readF F (nmW z) with
      | none =>
        have HE : Hid (openW false F frm = some s) := by
          show _ = _
          rw [HI.out.eq, hz.out]
          exact goW_none hr _
        rw [hr] at RD
        simp only [ReadVp] at RD
        clear hr
        go_wp2_with fail
        with_reducible refine NM.out.mono ?_
        rintro e v3 ⟨rfl, b3⟩
        have B3 := hide (bel_to B0.out (Nat.le_refl _) b3)
        have R4 := hide (RD.out _ B3.out)
        clear NM RD
        go_wp2_with fail
        with_reducible refine R4.out.mono ?_
        rintro e v4 ⟨b4, rfl⟩
        have B4 := hide (bel_to B3.out (Nat.le_refl _) b4)
        have K4 := hide (bel_to b3 (Nat.le_refl _) b4)
        have X4 := hide (HI.out.box.below K4.out HI.out.box.lt)
        have A4 : Hid (RecsAt v4 (q + 1) b s.recs.length c s.recs) := by rw [← SZ2.out]; exact HI.out.recs.below K4.out
        clear b3 b4 R4
        go_wp2
        go_ret3
        exact openP_ok NE.out HE.out B4.out QW.out X4.out A4.out
      | some bs =>
        rw [hr] at RD
        simp only [ReadVp] at RD
        obtain ⟨ht0, ht1⟩ := read_some HN.out hr
        obtain ⟨hbl, hbb⟩ := read_fit HV.out LW.out hr
        have RC := hide (fun v a' c' (hc' : bs.length ≤ c') (hr' : Row .u8 v a' bs.length bs) => records_of a' bs.length c' bs v (HRR.out _ _ hr) hc' hr' (by omega))
        have GM := hide (goW_more (D := false) (s := s) ht0 ht1 hr)
        have HS : Hid ((readF F (nmW (frm + (j : Int)))).isSome = true) := by rw [hz.out, hr]; rfl
        clear hr
        cases hrec : recsW false bs with
        | none =>
          have HE : Hid (openW false F frm = none) := by
            show _ = _
            rw [HI.out.eq, hz.out, GM.out]
            unfold stepW
            rw [hrec]
          rw [hrec] at RC
          simp only [RecsP] at RC
          clear hrec GM HS
          go_wp2_with fail
          with_reducible refine NM.out.mono ?_
          rintro e v3 ⟨rfl, b3⟩
          have B3 := hide (bel_to B0.out (Nat.le_refl _) b3)
          have R4 := hide (RD.out _ B3.out)
          clear NM RD
          go_wp2_with fail
          with_reducible refine R4.out.mono ?_
          rintro e v4 ⟨b4, a4, c4, rfl, o4⟩
          have B4 := hide (bel_to B3.out (Nat.le_refl _) b4)
          have K4 := hide (bel_to b3 (Nat.le_refl _) b4)
          have X4 := hide (HI.out.box.below K4.out HI.out.box.lt)
          have A4 := hide (HI.out.recs.below K4.out)
          have C5 := hide (RC.out v4 a4 c4 (OwnG.capped o4).1 (ownB_row o4 (by omega) hbb))
          clear b3 b4 R4 RC o4
          go_wp2_with fail
          with_reducible refine C5.out.mono ?_
          rintro e v5 ⟨b5, rfl⟩
          have B5 := hide (bel_to B4.out (Nat.le_refl _) b5)
          clear b5 C5
          go_wp2
          go_ret3
          exact openP_bad NE.out HE.out B5.out
        | some y =>
          obtain ⟨rs, en⟩ := y
          have hfit : rs.length ≤ en ∧ en ≤ bs.length := by
            have := recsF_fit (D := false) (show Bytes8 bs from hbb) (bs.length + 1) 0 rs en (by omega) hrec
            omega
          obtain ⟨hf1, hf2⟩ := hfit
          have ST : Hid (stepW false s z bs = if s.cut = -1 then some ⟨s.recs ++ rs, if en < bs.length then (en : Int) else -1, z, true⟩ else none) := by
            show _ = _
            unfold stepW
            rw [hrec]
          rw [hrec] at RC
          simp only [RecsP] at RC
          clear hrec
          obtain ⟨ct, hct⟩ : ∃ ct, Hid (s.cut = ct) := ⟨_, rfl⟩
          rw [hct.out] at ST
          by_cases hcut : ct = -1
          · subst hcut
            rw [if_pos rfl] at ST
            have HE : Hid (openW false F frm = goW false F (100000000 - (z + 1)).toNat (z + 1) ⟨s.recs ++ rs, if en < bs.length then (en : Int) else -1, z, true⟩) := by
              show _ = _
              rw [HI.out.eq, hz.out, GM.out, ST.out]
            have FW := hide (HW.out (j + 1) (fun i hi => by
              by_cases e : i < j
              · exact HI.out.few i e
              · obtain rfl : i = j := by omega
                exact HS.out))
            have FE : Hid (∀ i : Nat, i < j + 1 → (readF F (nmW (frm + i))).isSome = true) := fun i hi => by
              by_cases e : i < j
              · exact HI.out.few i e
              · obtain rfl : i = j := by omega
                exact HS.out
            clear GM ST HS
            go_wp2_with fail
            with_reducible refine NM.out.mono ?_
            rintro e v3 ⟨rfl, b3⟩
            have B3 := hide (bel_to B0.out (Nat.le_refl _) b3)
            have R4 := hide (RD.out _ B3.out)
            clear NM RD
            go_wp2_with fail
            with_reducible refine R4.out.mono ?_
            rintro e v4 ⟨b4, a4, c4, rfl, o4⟩
            have B4 := hide (bel_to B3.out (Nat.le_refl _) b4)
            have K4 := hide (bel_to b3 (Nat.le_refl _) b4)
            have X4 := hide (HI.out.box.below K4.out HI.out.box.lt)
            have A4 := hide (HI.out.recs.below K4.out)
            have C5 := hide (RC.out v4 a4 c4 (OwnG.capped o4).1 (ownB_row o4 (by omega) hbb))
            clear b3 b4 R4 RC o4
            go_wp2_with fail
            with_reducible refine C5.out.mono ?_
            rintro e v5 ⟨b5, a5, c5, rfl, q5⟩
            have B5 := hide (bel_to B4.out (Nat.le_refl _) b5)
            have Z5 := hide b5.size
            have X5 := hide (X4.out.below b5 X4.out.lt)
            have A5 := hide (A4.out.below b5)
            have Q5 := hide q5
            have L4 := hide (bel_to HI.out.bel QL.out K4.out)
            have L5 := hide (bel_to L4.out QL.out b5)
            have NB : Hid (∀ k, v4.heap.size ≤ k → offB v2.heap.size b s.recs.length c k) := fun k hk => ⟨Nat.le_trans L4.out.size hk, fun e => by
              obtain ⟨l, o, _⟩ := A4.out
              have := (OwnG.cellsT o k e).1.lt
              omega⟩
            obtain ⟨l, ol, sl, ml, nl⟩ := A5.out
            obtain ⟨l2, ol2, sl2, ml2, nl2⟩ := Q5.out
            have OL := hide ol
            have OL2 := hide ol2
            have SL : Hid (∀ p ∈ l ++ l2, SeeR (offB v2.heap.size b s.recs.length c) v5 p.1 p.2) := by
              intro p hp
              rcases List.mem_append.1 hp with hp | hp
              · exact sl p hp
              · exact (sl2 p hp).mono (fun k hk => NB.out k hk.1)
            have ML : Hid ((l ++ l2).map (·.1) = (s.recs ++ rs).map ofRc) := by
              show _ = _
              rw [List.map_append, List.map_append, ml, ml2]
            have NL : Hid (s.recs.length = 0 → b = none) := nl
            have BO : Hid ((a5 = none → rs.length = 0 ∧ c5 = 0) ∧ (a5 = none ∨ 0 < rs.length)) := ⟨(OwnG.capped ol2).2, by
              by_cases e : rs.length = 0
              · exact Or.inl (nl2 e)
              · exact Or.inr (by omega)⟩
            have LN : Hid (l2.length = rs.length) := OwnG.len recV_len (by decide) ol2
            have d3 : v5.cell? ⟨q, 3, none⟩ = some (.int .i64 (-1)) := by rw [← hct.out]; exact X5.out.cell (i := 3) rfl
            clear b5 q5 C5 ol sl ml nl ol2 sl2 ml2 nl2 A4 A5 Q5 NB X4 B4 K4 L4
            go_wp2_with (at_builtin; refine wpList_appAt recV_len (by decide) recV_one _ rfl _ _ 87 rfl v2.heap.size i0 _ 240 Tryz.underlying87 hi hz0 hz1 hz2 rfl b s.recs.length c l rfl OL.out a5 rs.length c5 l2 rfl LN.out (OwnG.cellsAll OL2.out) BO.out.1 BO.out.2 (by omega) (by omega) L5.out.size ?_)
            intro a6 c6 w6 o6 g6 n6 m6
            have M6 : rs.length = 0 → a6 = b := by
              intro e
              first
                | exact m6 e
                | exact m6 (List.length_eq_zero_iff.1 e)
            have A6 : Hid (RecsAt w6 v2.heap.size a6 (s.recs ++ rs).length c6 (s.recs ++ rs)) := by
              have t := RecsAt.grow OL.out SL.out o6 g6 n6 (s.recs ++ rs) ML.out (fun e => by rw [M6 (by omega)]; exact NL.out (by omega))
              rw [show (s.recs ++ rs).length = s.recs.length + rs.length from List.length_append]
              exact t
            have L6 : Hid (Below q v2 w6) := L5.out.trans (((Ch.grown g6).below L5.out.size (fun j hj e => by have := (OwnG.cellsT OL.out j e).2; omega)).mono QL.out)
            have X6 : Hid (BoxV w6 q 145 (logC g ⟨s.last, s.last, -1, false⟩)) := by
              have t := X5.out.ch (Ch.grown g6) (fun e => by have := (OwnG.cellsT OL.out q e).2; have := SZ2.out; omega)
              rw [hct.out] at t
              exact t
            clear d3
            have d1 := X6.out.cell (i := 1) rfl
            have f1 := X6.out.free 1
            have d2 := X6.out.cell (i := 2) rfl
            have f2 := X6.out.free 2
            obtain ⟨w7, hw7⟩ : ∃ w7, Hid ((w6.setCell ⟨q, 1, none⟩ (.int .i64 z)).setCell ⟨q, 2, none⟩ (.int .i64 z) = w7) := ⟨_, rfl⟩
            have X7 : Hid (BoxV w7 q 145 (logC g ⟨z, z, -1, false⟩)) := by rw [← hw7.out]; exact (X6.out.set 1 _).set 2 _
            have K7 : Hid (Ch (fun k => k = q) w6 w7) := by rw [← hw7.out]; exact (ch_set _ _ _ _).trans (ch_set _ _ _ _)
            have L7 : Hid (Below q v2 w7) := L6.out.trans (K7.out.below (Nat.le_trans QL.out L6.out.size) (fun k hk e => by omega))
            have A7 := hide (A6.out.ch K7.out (fun k hk e => by have := SZ2.out; omega))
            clear o6 n6 m6 M6 OL OL2 SL ML BO LN NL L5 X5 B5
            by_cases hen : en < bs.length
            · have e1 : (en : Int) < (bs.length : Int) := by omega
              rw [if_pos hen] at HE
              go_upto_region 15 with fail
              rw [hw7.out]
              clear hw7 d1 f1 d2 f2
              have d3 := X7.out.cell (i := 3) rfl
              have f3 := X7.out.free 3
              have X8 : Hid (BoxV (w7.setCell ⟨q, 3, none⟩ (.int .i64 (en : Int))) q 145 (logC g ⟨z, z, (en : Int), false⟩)) := X7.out.set 3 _
              have A8 := hide (A7.out.ch (ch_set w7 q 3 (.int .i64 (en : Int))) (fun k hk e => by have := SZ2.out; omega))
              have L8 : Hid (Below q v2 (w7.setCell ⟨q, 3, none⟩ (.int .i64 (en : Int)))) := L7.out.setCell (p := ⟨q, 3, none⟩) (Nat.le_refl q) _
              have JZ : Hid (frm + ((j + 1 : Nat) : Int) = z + 1) := by have := hz.out; show _ = _; omega
              have LL : Hid ((s.recs ++ rs).length = s.recs.length + rs.length) := List.length_append
              go_wp2
              go_roundw
              case rel => exact ⟨j + 1, ⟨s.recs ++ rs, (en : Int), z, true⟩, a6, c6, by rw [JZ.out], by show _ = Value.slice a6 (s.recs ++ rs).length c6; rw [LL.out], by rw [JZ.out]; omega, FW.out, by show (s.recs ++ rs).length ≤ _; rw [LL.out]; omega, ⟨Or.inr (by show 0 ≤ (en : Int); omega), by show (en : Int) ≤ _; omega, ht0, ht1, FE.out, by rw [JZ.out]; exact HE.out, X8.out, A8.out, L8.out⟩⟩
              case measure => first | (simp [intOf]; done) | (simp [intOf]; omega)
            · have e1 : ¬ (en : Int) < (bs.length : Int) := by omega
              rw [if_neg hen] at HE
              go_upto_region 15 with fail
              rw [hw7.out]
              clear hw7 d1 f1 d2 f2
              have JZ : Hid (frm + ((j + 1 : Nat) : Int) = z + 1) := by have := hz.out; show _ = _; omega
              have LL : Hid ((s.recs ++ rs).length = s.recs.length + rs.length) := List.length_append
              go_wp2
              go_roundw
              case rel => exact ⟨j + 1, ⟨s.recs ++ rs, -1, z, true⟩, a6, c6, by rw [JZ.out], by show _ = Value.slice a6 (s.recs ++ rs).length c6; rw [LL.out], by rw [JZ.out]; omega, FW.out, by show (s.recs ++ rs).length ≤ _; rw [LL.out]; omega, ⟨Or.inl rfl, by show (-1 : Int) ≤ _; omega, ht0, ht1, FE.out, by rw [JZ.out]; exact HE.out, X7.out, A7.out, L7.out⟩⟩
              case measure => first | (simp [intOf]; done) | (simp [intOf]; omega)
          · rw [if_neg hcut] at ST
            have HE : Hid (openW false F frm = none) := by
              show _ = _
              rw [HI.out.eq, hz.out, GM.out, ST.out]
            have nc : (ct != -1) = true := by simpa using hcut
            clear GM ST HS
            go_wp2_with fail
            with_reducible refine NM.out.mono ?_
            rintro e v3 ⟨rfl, b3⟩
            have B3 := hide (bel_to B0.out (Nat.le_refl _) b3)
            have R4 := hide (RD.out _ B3.out)
            clear NM RD
            go_wp2_with fail
            with_reducible refine R4.out.mono ?_
            rintro e v4 ⟨b4, a4, c4, rfl, o4⟩
            have B4 := hide (bel_to B3.out (Nat.le_refl _) b4)
            have K4 := hide (bel_to b3 (Nat.le_refl _) b4)
            have X4 := hide (HI.out.box.below K4.out HI.out.box.lt)
            have A4 := hide (HI.out.recs.below K4.out)
            have C5 := hide (RC.out v4 a4 c4 (OwnG.capped o4).1 (ownB_row o4 (by omega) hbb))
            clear b3 b4 R4 RC o4
            go_wp2_with fail
            with_reducible refine C5.out.mono ?_
            rintro e v5 ⟨b5, a5, c5, rfl, q5⟩
            have B5 := hide (bel_to B4.out (Nat.le_refl _) b5)
            have d3 : v5.cell? ⟨q, 3, none⟩ = some (.int .i64 ct) := by rw [← hct.out]; exact (X4.out.below b5 X4.out.lt).cell (i := 3) rfl
            clear b5 q5 C5
            go_wp2
            go_ret3
            exact openP_bad NE.out HE.out B5.out
end Go.Proofs.YtknghoecjobkiaaGreatDoor
