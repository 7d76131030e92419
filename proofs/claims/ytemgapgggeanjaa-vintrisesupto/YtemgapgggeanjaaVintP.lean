/-
  The document's own answers on lists that rise: a list's bytes: a contract, for every world.
  Conditions: there is room for the bytes.
-/
import Derived.Test.YtemgapgggeanjaaVintR
import Derived.Test.YtemgapgggeanjaaVintW
import Derived.Test.YtemgapgggeanjaaVintQ
namespace Go.Proofs.Ytemgapgggeanjaa
open Go.RowKit

section
variable {P : Program} {ops : Array Oper} {Q : Exit → Act → World → Prop} {md : Region.Mode} {S : World → Prop}
/-- As held_call, the condition kept as it is. -/
theorem held_step {i : Nat} {o : Oper} {fuel : Nat} {listed : Array Bool} {a : Act} {w : World} (hr : Region.ready md ops listed = [i]) (ho : ops[i]? = some o) (hw : Region.wanted o (yielded ops a.tmps) = true)
    (h : ∀ K' : Act → World → Prop, Shut (∀ a w, S w → (S w → wpAnyH P md ops Q S fuel (listed.setIfInBounds i true) a w) → K' a w) → Oper.wp P o a w K' Q) : wpAnyH P md ops Q S (fuel + 1) listed a w := by
  refine wpAnyH_all hr (by simp) ?_
  intro j hj
  have : j = i := by simpa using hj
  subst this
  unfold wpOp
  simp only [ho]
  rw [if_pos hw]
  refine Or.inl (h _ ?_)
  intro a' w' hS h'
  exact ⟨hS, h' hS⟩
end

set_option maxRecDepth 100000 in
set_option maxHeartbeats 2000000 in
theorem refrise_any (b : Option Addr) (m capb : Nat) (ls : List Int) (w : World) (hm : m ≤ 1048576) (hl : Row .u64 w b m ls) :
    Calls Try.prog 25 #[.slice b m capb] w fun e w' => ∃ a' cap', e = .returned (.slice a' (putR ls).length cap') ∧ Mine w' w.heap.size a' (putR ls).length cap' (putR ls) ∧ Below w.heap.size w w' := by
  obtain ⟨i0, hi, hz0, hz1, hz2⟩ := info_parts Try.info5
  have B := hide (refput_any (m : Int) w (w64_len (by omega)))
  have HLen := hide hl.1
  have HR := hide hl
  have hp := (putS_len (m : Int)).2
  have hP : Hid (putR ls = putS (m : Int) ++ riseB 18446744073709551615 (ls.drop 0)) := by
    show _ = _
    unfold putR
    rw [hl.1, List.drop_zero]
  clear hl
  go_enter Try.func25, Try.ntmps25
  go_wp2_with fail
  refine B.out.mono ?_
  rintro e w2 ⟨a2, cap2, rfl, h1, h2⟩
  have H1 := hide h1
  have H2 := hide h2
  clear h1 h2 B
  generalize (putS (m : Int)).length = q at *
  go_wp2
  go_loopw [3, 4] (fun x i wr => ∃ (ar : Option Addr) (nr capr k : Nat) (acc : List Int) (P : Int), k ≤ m ∧ x = .slice ar nr capr ∧ i = .int .i64 k ∧ nr ≤ 10 + 10 * k ∧ Hid ((k = 0 → P = 18446744073709551615) ∧ (0 < k → P = ls.getD (k - 1) 0) ∧ putR ls = acc ++ riseB P (ls.drop k)) ∧ Hid (Mine wr w.heap.size ar nr capr acc) ∧ Hid (Below w.heap.size w wr)) (fun _ i _ => m - (intOf i).toNat)
  case atStart => exact ⟨a2, q, cap2, 0, _, 18446744073709551615, by omega, rfl, rfl, by omega, ⟨fun _ => rfl, fun h => absurd h (by omega), hP.out⟩, H1, H2⟩
  case round =>
    obtain ⟨ar, nr, capr, k, acc, P, hk, rfl, rfl, hnr, HP, HO, HW⟩ := hrel
    clear H1 H2 hP
    by_cases hlt : k < m
    · have hrow := HR.out.below HW.out (Nat.le_refl _)
      have HWd := hide hrow.words
      have hb := hrow.word k
      have HD := hide (drop_step (ls := ls) (k := k) (by rw [HLen.out]; exact hlt))
      obtain ⟨_, _, _, h0 | ⟨bb, off, rfl, hcell⟩⟩ := hrow
      · omega
      have hck := hcell k hlt
      have hsz : w.heap.size ≤ wr.heap.size := HW.out.size
      obtain ⟨z0, z1⟩ := hb
      have HE : Hid (putR ls = (acc ++ putS ((ls.getD k 0 - P - 1) % 18446744073709551616)) ++ riseB (ls.getD k 0) (ls.drop (k + 1))) := by
        show _ = _
        rw [HP.out.2.2, HD.out, riseB, List.append_assoc]
      obtain ⟨z, hz⟩ : ∃ z, ls.getD k 0 = z := ⟨_, rfl⟩
      rw [hz] at z0 z1 hck HE
      have HZ := hide hz
      clear hz HD
      cases k with
      | zero =>
        have hP0 : P = 18446744073709551615 := HP.out.1 rfl
        have hmod : (z - P - 1) % 18446744073709551616 = z := by omega
        rw [hmod] at HE
        have C := hide (refput_any z wr ⟨z0, z1⟩)
        clear HP hcell hP0 hmod
        have hq := putS_len z
        have BZ : Hid (Bytes8 (putS z)) := putS_byte ⟨z0, z1⟩
        have i1 : (0 : Int) < (m : Int) := by omega
        rw [Nat.add_zero] at hck
        go_wp2_with fail
        refine C.out.mono ?_
        rintro e x ⟨a', cap', rfl, h1, h2⟩
        have RX := hide (h1.row (by omega) (fun z hz => wf_of_u8 (BZ.out z hz).1 (BZ.out z hz).2))
        have hcx := h1.capped.2
        have OX := hide (HO.out.below h2 (Nat.le_refl _))
        have hbx : w.heap.size ≤ x.heap.size := Nat.le_trans hsz h2.size
        have KX : Hid (Below w.heap.size w x) := bel_to HW.out (Nat.le_refl _) h2
        clear h1 h2 C hck HO HW
        generalize (putS z).length = r at *
        go_wp2_with (at_builtin; refine wpList_append_row _ rfl _ _ 23 rfl w.heap.size 5 i0 Try.underlying23 hi hz0 hz1 hz2 ar nr capr _ rfl OX.out a' r cap' _ rfl RX.out hcx (by omega) hbx ?_)
        intro a3 c3 x3 o3 k3
        have H3 := hide o3
        have K3 : Hid (Below w.heap.size w x3) := KX.out.trans k3
        clear o3 k3 KX RX OX
        go_wp2
        go_roundw
        case rel => exact ⟨a3, nr + r, c3, 1, _, z, by omega, rfl, by go_num, by omega, ⟨fun h => absurd h (by omega), fun _ => HZ.out.symm, HE.out⟩, H3, K3⟩
        case measure => simp [intOf]; omega
      | succ j =>
        have hPj : P = ls.getD j 0 := HP.out.2.1 (by omega)
        have hpw : W64 P := by rw [hPj]; exact getD_all HWd.out ⟨by decide, by decide⟩ j
        have P0 := hpw.1
        have P1 := hpw.2
        have hcj := hcell j (by omega)
        rw [← hPj] at hcj
        have hmod : IntKind.u64.wrap (IntKind.u64.wrap (z - P) - 1) = (z - P - 1) % 18446744073709551616 := by
          rw [IntKind.wrap_u64, IntKind.wrap_u64]; omega
        have hDw := w64_mod (z - P - 1)
        generalize (z - P - 1) % 18446744073709551616 = D at *
        have C := hide (refput_any D wr.drew hDw)
        have hq := putS_len D
        have BZ : Hid (Bytes8 (putS D)) := putS_byte hDw
        have tk : ((j : Int) + 1 == 0) = false := by simp; omega
        have j1 : (0 : Int) ≤ (j : Int) := by omega
        have j5 : (j : Int) < (m : Int) := by omega
        have j6 : (j : Int) + 1 < (m : Int) := by omega
        have j7 : (0 : Int) ≤ (j : Int) + 1 := by omega
        have hlb : Hid (bb < wr.heap.size) := World.block_lt_of_cell? wr _ hck
        have hbw0 : Hid (bb < w.heap.size) := by
          obtain ⟨_, _, _, h0 | ⟨b2, o2, he, hc2⟩⟩ := HR.out
          · omega
          · simp only [Option.some.injEq, Addr.mk.injEq] at he
            have := World.block_lt_of_cell? w _ (hc2 j (by omega))
            rw [← he.1] at this
            exact this
        have hw1 : IntKind.i64.wrap ((j : Int) + 1 - 1) = (j : Int) := by rw [IntKind.wrap_i64]; omega
        have hw2 : IntKind.i64.wrap (j : Int) = (j : Int) := by rw [IntKind.wrap_i64]; omega
        have hn1 : ((j : Int) + 1).toNat = j + 1 := by omega
        clear HP hcell hPj hpw hDw
        go_upto_region 7 with fail
        refine wp_region_held_drew (S := fun w' => w'.cell? ⟨bb, off + j, none⟩ = some (.int .u64 P) ∧ w'.cell? ⟨bb, off + (j + 1), none⟩ = some (.int .u64 z)) (by kernel_rfl) ⟨hcj, hck⟩ (fun hHeld => ?_)
        refine held_take (i := 0) (d := (some 23)) (v := ?_) rfl rfl (by kernel_rfl) (by kernel_rfl) (by kernel_rfl) (fun _ _ _ h => h) (Or.inl ⟨by rfl, ?_⟩) (by first | assumption | rfl) ?_
        rotate_left 1
        · (intro w hSw; (try dsimp only at hSw); (try subst hSw); go_simp; try with_reducible rfl)
        simp only [Act.put, List.setIfInBounds_toArray, List.set_cons_zero, List.set_cons_succ]
        refine held_take (i := 1) (d := (some 24)) (v := ?_) rfl rfl (by kernel_rfl) (by kernel_rfl) (by kernel_rfl) (fun _ _ _ h => h) (Or.inl ⟨by rfl, ?_⟩) (by first | assumption | rfl) ?_
        rotate_left 1
        · (intro w hSw; (try dsimp only at hSw); (try subst hSw); go_simp; try with_reducible rfl)
        simp only [Act.put, List.setIfInBounds_toArray, List.set_cons_zero, List.set_cons_succ]
        refine held_take (i := 2) (d := (some 25)) (v := ?_) rfl rfl (by kernel_rfl) (by kernel_rfl) (by kernel_rfl) (fun _ _ _ h => h) (Or.inl ⟨by rfl, ?_⟩) (by first | assumption | rfl) ?_
        rotate_left 1
        · (intro w hSw; (try dsimp only at hSw); (try subst hSw); go_simp; try with_reducible rfl)
        simp only [Act.put, List.setIfInBounds_toArray, List.set_cons_zero, List.set_cons_succ]
        refine held_take (i := 3) (d := (some 26)) (v := ?_) rfl rfl (by kernel_rfl) (by kernel_rfl) (by kernel_rfl) (fun _ _ _ h => h) (Or.inl ⟨by rfl, ?_⟩) (by first | assumption | rfl) ?_
        rotate_left 1
        · (intro w hSw; (try dsimp only at hSw); (try subst hSw); go_simp; try with_reducible rfl)
        simp only [Act.put, List.setIfInBounds_toArray, List.set_cons_zero, List.set_cons_succ]
        refine held_take (i := 4) (d := (some 27)) (v := ?_) rfl rfl (by kernel_rfl) (by kernel_rfl) (by kernel_rfl) (fun _ _ _ h => h) (Or.inl ⟨by rfl, ?_⟩) (by first | assumption | rfl) ?_
        rotate_left 1
        · (intro w hSw; (try dsimp only at hSw); (try subst hSw); go_simp; try with_reducible rfl)
        simp only [Act.put, List.setIfInBounds_toArray, List.set_cons_zero, List.set_cons_succ]
        refine held_take (i := 5) (d := (some 28)) (v := ?_) rfl rfl (by kernel_rfl) (by kernel_rfl) (by kernel_rfl) (fun _ _ _ h => h) (Or.inl ⟨by rfl, ?_⟩) (by first | assumption | rfl) ?_
        rotate_left 1
        · (intro w hSw; (try dsimp only at hSw); (try subst hSw); go_simp; try with_reducible rfl)
        simp only [Act.put, List.setIfInBounds_toArray, List.set_cons_zero, List.set_cons_succ]
        refine held_take (i := 6) (d := (some 29)) (v := ?_) rfl rfl (by kernel_rfl) (by kernel_rfl) (by kernel_rfl) (fun _ _ _ h => h) (Or.inl ⟨by rfl, ?_⟩) (by first | assumption | rfl) ?_
        rotate_left 1
        · (intro w hSw; (try dsimp only at hSw); (try subst hSw); go_simp; try with_reducible rfl)
        simp only [Act.put, List.setIfInBounds_toArray, List.set_cons_zero, List.set_cons_succ]
        refine held_take (i := 7) (d := (some 30)) (v := ?_) rfl rfl (by kernel_rfl) (by kernel_rfl) (by kernel_rfl) (fun _ _ _ h => h) (Or.inl ⟨by rfl, ?_⟩) (by first | assumption | rfl) ?_
        rotate_left 1
        · (intro w hSw; (try dsimp only at hSw); (try subst hSw); go_simp; try with_reducible rfl)
        simp only [Act.put, List.setIfInBounds_toArray, List.set_cons_zero, List.set_cons_succ]
        refine held_take (i := 8) (d := (some 31)) (v := ?_) rfl rfl (by kernel_rfl) (by kernel_rfl) (by kernel_rfl) (fun _ _ _ h => h) (Or.inl ⟨by rfl, ?_⟩) (by first | assumption | rfl) ?_
        rotate_left 1
        · (intro w hSw; (try dsimp only at hSw); (try subst hSw); go_simp; try with_reducible rfl)
        simp only [Act.put, List.setIfInBounds_toArray, List.set_cons_zero, List.set_cons_succ]
        refine held_take (i := 9) (d := (some 32)) (v := ?_) rfl rfl (by kernel_rfl) (by kernel_rfl) (by kernel_rfl) (fun _ _ _ h => h) (Or.inl ⟨by rfl, ?_⟩) (by first | assumption | rfl) ?_
        rotate_left 1
        · (intro w hSw; (try dsimp only at hSw); (try subst hSw); go_simp; try with_reducible rfl)
        simp only [Act.put, List.setIfInBounds_toArray, List.set_cons_zero, List.set_cons_succ]
        refine held_take (i := 10) (d := (some 33)) (v := ?_) rfl rfl (by kernel_rfl) (by kernel_rfl) (by kernel_rfl) (fun _ _ _ h => h) (Or.inl ⟨by rfl, ?_⟩) (by first | assumption | rfl) ?_
        rotate_left 1
        · (intro w hSw; (try dsimp only at hSw); (try subst hSw); go_simp; try with_reducible rfl)
        simp only [Act.put, List.setIfInBounds_toArray, List.set_cons_zero, List.set_cons_succ]
        refine held_take (i := 11) (d := (some 34)) (v := ?_) rfl rfl (by kernel_rfl) (by kernel_rfl) (by kernel_rfl) (fun _ _ _ h => h) (Or.inl ⟨by rfl, ?_⟩) (by first | assumption | rfl) ?_
        rotate_left 1
        · (intro w hSw; (try dsimp only at hSw); (try subst hSw); go_simp; try with_reducible rfl)
        simp only [Act.put, List.setIfInBounds_toArray, List.set_cons_zero, List.set_cons_succ]
        refine held_step (i := 12) (by kernel_rfl) rfl (by rfl) (fun K hK => ?_)
        go_simp
        refine C.out.mono ?_
        rintro e x ⟨a', cap', rfl, h1, h2⟩
        have RX := hide (h1.row (by omega) (fun z hz => wf_of_u8 (BZ.out z hz).1 (BZ.out z hz).2))
        have HH1 := hide h1
        have hS1 : Hid (x.cell? ⟨bb, off + j, none⟩ = some (.int .u64 P) ∧ x.cell? ⟨bb, off + (j + 1), none⟩ = some (.int .u64 z)) := by
          constructor
          · rw [h2.cell (p := ⟨bb, off + j, none⟩) hlb.out]; exact hcj
          · rw [h2.cell (p := ⟨bb, off + (j + 1), none⟩) hlb.out]; exact hck
        have OX := hide (HO.out.drew.below h2 (Nat.le_refl _))
        have hbx : w.heap.size ≤ x.heap.size := Nat.le_trans hsz h2.size
        have hlx : Hid (bb < x.heap.size) := Nat.lt_of_lt_of_le hlb.out h2.size
        have KX : Hid (Below w.heap.size w x) := bel_to HW.out.drew (Nat.le_refl _) h2
        clear h1 h2 C HO HW hHeld
        go_wp2_with fail
        refine hK.out _ _ hS1.out (fun hHeld => ?_)
        clear hK K hcj hck
        refine held_step (i := 13) (by kernel_rfl) rfl (by rfl) (fun K hK => ?_)
        obtain ⟨ad, rfl⟩ : ∃ ad, a' = some ad := by
          cases a' with
          | none => have := RX.out.nz rfl; omega
          | some ad => exact ⟨ad, rfl⟩
        refine wp_append_own x (Operand.tmp 23) (Operand.tmp 35) 23 rfl w.heap.size 5 i0 (.int .u8 0) 1 1 Try.underlying23 hi hz0 hz1 hz2 rfl (by decide) _ nr (acc.map (Value.int .u8)) rfl OX.out ad (putS D).length cap' ((putS D).map (Value.int .u8)) rfl (by simp) RX.out.cells (one_cell .u8 (putS D)) (by unfold maxLen; omega) (by omega) hbx ?_
        intro v' x3 h1 h2 _
        rw [← List.map_append] at h1
        obtain ⟨a3, c3, rfl, o3⟩ := own_form h1
        have k3 : Below w.heap.size x x3 := (Below.refl _ _).grown h2 hbx (own_block OX.out)
        have hS3 : Hid (x3.cell? ⟨bb, off + j, none⟩ = some (.int .u64 P) ∧ x3.cell? ⟨bb, off + (j + 1), none⟩ = some (.int .u64 z)) := by
          have hbw : bb < w.heap.size := hbw0.out
          constructor
          · rw [k3.cell (p := ⟨bb, off + j, none⟩) hbw]; exact hS1.out.1
          · rw [k3.cell (p := ⟨bb, off + (j + 1), none⟩) hbw]; exact hS1.out.2
        have H3 := hide o3
        have K3 : Hid (Below w.heap.size w x3) := KX.out.trans k3
        clear h1 h2 o3 k3 KX RX OX HH1 hHeld
        refine hK.out _ _ hS3.out (fun hHeld => ?_)
        clear hK K
        generalize hr : (putS D).length = r at *
        simp only [Act.put, List.setIfInBounds_toArray]
        refine held_take (i := 14) (d := (some 3)) (v := ?_) rfl rfl (by kernel_rfl) (by kernel_rfl) (by kernel_rfl) (fun _ _ _ h => h) (Or.inl ⟨by rfl, ?_⟩) (by first | assumption | rfl) ?_
        rotate_left 1
        · (intro w hSw; (try dsimp only at hSw); (try subst hSw); go_simp; try with_reducible rfl)
        simp only [Act.put]
        refine wpAnyH_done (by kernel_rfl) ?_ _
        clear hHeld
        go_wp2
        go_roundw
        case rel => exact ⟨a3, nr + r, c3, j + 1 + 1, _, z, by omega, rfl, by go_num, by omega, ⟨fun h => absurd h (by omega), fun _ => HZ.out.symm, HE.out⟩, H3, K3⟩
        case measure => simp [intOf]; omega
    · have : k = m := by omega
      subst this
      have HF : Hid (acc = putR ls ∧ nr = (putR ls).length) := by
        have h1 := HP.out.2.2
        rw [List.drop_eq_nil_of_le (by rw [HLen.out]; omega), riseB, List.append_nil] at h1
        exact ⟨h1.symm, by rw [← HO.out.len, ← h1]⟩
      clear HP
      go_wp2
      go_ret
      obtain ⟨h1, h2⟩ := HF.out
      have HO' := HO.out
      rw [h1, h2] at HO'
      refine ⟨ar, capr, ?_, HO', HW⟩
      show Ending.returned (.slice ar nr capr) = _
      rw [h2]
end Go.Proofs.Ytemgapgggeanjaa
