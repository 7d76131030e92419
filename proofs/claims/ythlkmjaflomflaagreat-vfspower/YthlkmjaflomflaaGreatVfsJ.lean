/-
  The document's file system: Cut: a contract, for every world (written by gen/vfsj.gen.py).
  Conditions: the file system lies in memory; as the theorem says.
-/
import Derived.Test.YthlkmjaflomflaaGreatVfsI
namespace Go.Proofs.YthlkmjaflomflaaGreat
open Go.RowKit
set_option maxRecDepth 20000
set_option linter.unusedVariables false

set_option maxHeartbeats 8000000 in
theorem rcut_any (g : Nat) (S : Nat → Prop) (F : Fs) (s : ByteArray) (z : Int) (m : Nat) (w : World) (hF : RAt w g S F) (hL : Lim m F) (hm : m < 1073741824) (hs : s.size ≤ 9223372036854775807) (hz : (Lit.int .i64 z).wf = true) :
    Calls Tryz.prog 29 #[.pointer (some ⟨g, 0, none⟩), .string s, .int .i64 z] w fun e w' => e = .returned (.int .i64 (cutF F s z).2) ∧ StepV RAt w w' g S (cutF F s z).1 := by
  obtain ⟨i1, hi1, hz10, hz11, hz12⟩ := info_parts Tryz.infoU16
  have CA := hide (rcall_any g S F m w hF hL (by omega))
  have LC := hide hL.call
  have HG := hide hF.own
  rcases hq : callF F with ⟨G, o⟩
  rw [hq] at CA LC
  dsimp only at CA LC
  cases o with
  | some e1 =>
    rw [show callE F = e1 by unfold callE; rw [hq]; rfl, show callB F = true by unfold callB; rw [hq]; rfl] at CA
    have HP : Hid (∀ u, RAt u g S G → Ch (fun k => k = g) w u → (Ending.returned (.int .i64 e1) = .returned (.int .i64 (cutF F s z).2) ∧ StepV RAt w u g S (cutF F s z).1)) := fun u hu hc => by
      unfold cutF
      rw [hq]
      exact ⟨rfl, stepV_same hu hc HG.out⟩
    clear hq hF hL
    go_enter Tryz.func29, Tryz.ntmps29
    go_wp2_with fail
    with_reducible refine CA.out.mono ?_
    rintro e u1 ⟨rfl, h1, k1⟩
    have H1 := hide (HP.out _ h1 k1)
    clear h1 k1 CA HP
    go_wp2
    go_ret
    exact H1.out
  | none =>
    rw [show callE F = 0 by unfold callE; rw [hq]; rfl, show callB F = false by unfold callB; rw [hq]; rfl] at CA
    have HP : Hid (∀ (x : Fs × Int) (u : World), cutF F s z = x → StepV RAt w u g S x.1 → (Ending.returned (.int .i64 x.2) = .returned (.int .i64 (cutF F s z).2) ∧ StepV RAt w u g S (cutF F s z).1)) := fun x u e hu => by
      rw [e]
      exact ⟨rfl, hu⟩
    have HC : Hid (∀ (u1 u : World) (X : Fs), Ch (fun k => k = g) w u1 → StepV RAt u1 u g S X → StepV RAt w u g S X) := fun u1 u X k q => StepV.after (k.more (fun j _ e => e ▸ HG.out)) q
    have M1 := hide (fun u => rmay_any s u hs)
    have FIx := hide (fun u hu => rfile_any g S G s (m + 1) u hu LC.out (by omega))
    obtain ⟨z0, z1⟩ := i64_of_wf hz
    cases hm1 : mayN s with
    | false =>
      have HX := hide (HP.out (G, 1))
      have HE : Hid (cutF F s z = (G, 1)) := by show _ = _; unfold cutF; rw [hq]; dsimp only; rw [if_pos hm1]
      clear hq hF hL
      go_enter Tryz.func29, Tryz.ntmps29
      go_wp2_with fail
      with_reducible refine CA.out.mono ?_
      rintro e u1 ⟨rfl, h1, k1⟩
      have H1 := hide (HX.out _ HE.out (HC.out _ _ _ k1 (stepV_below h1 (Below.refl _ _))))
      clear h1 k1 CA HX HE HP HC FIx
      go_wp2_with fail
      with_reducible refine (M1.out _).mono ?_
      rintro e u ⟨rfl, hu⟩
      rw [hu, hm1]
      clear hu
      go_wp2
      go_ret
      exact H1.out
    | true =>
      cases hf : fileF G s with
      | none =>
        rw [show fileI G s = -1 by unfold fileI; rw [hf]] at FIx
        have HX := hide (HP.out (G, 3))
        have HE : Hid (cutF F s z = (G, 3)) := by show _ = _; unfold cutF; rw [hq]; dsimp only; rw [if_neg (by rw [hm1]; simp), hf]
        clear hq hF hL
        go_enter Tryz.func29, Tryz.ntmps29
        go_wp2_with fail
        with_reducible refine CA.out.mono ?_
        rintro e u1 ⟨rfl, h1, k1⟩
        have FI := hide (FIx.out u1 h1)
        have H1 := hide h1
        have K1 := hide k1
        clear h1 k1 CA FIx
        go_wp2_with fail
        with_reducible refine (M1.out _).mono ?_
        rintro e u ⟨rfl, hu⟩
        rw [hu, hm1]
        clear hu
        go_wp2_with fail
        with_reducible refine FI.out.mono ?_
        rintro e u2 ⟨rfl, b2⟩
        have H2 := hide (HX.out _ HE.out (HC.out _ _ _ K1.out (stepV_below (H1.out.below b2) b2)))
        clear b2 FI H1 K1 HX HE HP HC
        go_wp2
        go_ret
        exact H2.out
      | some k =>
        rw [show fileI G s = (k : Int) by unfold fileI; rw [hf]] at FIx
        have q0 : ¬ (k : Int) < 0 := by omega
        by_cases hz0 : z < 0
        · have HX := hide (HP.out (G, 1))
          have HE : Hid (cutF F s z = (G, 1)) := by show _ = _; unfold cutF; rw [hq]; dsimp only; rw [if_neg (by rw [hm1]; simp), hf]; dsimp only; rw [if_pos (Or.inl hz0)]
          clear hq hF hL
          go_enter Tryz.func29, Tryz.ntmps29
          go_wp2_with fail
          with_reducible refine CA.out.mono ?_
          rintro e u1 ⟨rfl, h1, k1⟩
          have FI := hide (FIx.out u1 h1)
          have H1 := hide h1
          have K1 := hide k1
          clear h1 k1 CA FIx
          go_wp2_with fail
          with_reducible refine (M1.out _).mono ?_
          rintro e u ⟨rfl, hu⟩
          rw [hu, hm1]
          clear hu
          go_wp2_with fail
          with_reducible refine FI.out.mono ?_
          rintro e u2 ⟨rfl, b2⟩
          have H2 := hide (HX.out _ HE.out (HC.out _ _ _ K1.out (stepV_below (H1.out.below b2) b2)))
          clear b2 FI H1 K1 HX HE HP HC
          go_wp2
          go_ret
          exact H2.out
        · have SZx : Hid (∀ u, RAt u g S G → k < G.files.length → Calls Tryz.prog 65 #[.pointer (some ⟨g, 0, none⟩), .int .i64 (k : Int)] u fun e w' => e = .returned (.int .i64 ((bytF (atF G k)).length : Int)) ∧ Below u.heap.size u w') := fun u hu hk => rsize_any g S G k (m + 1) u hu LC.out (by omega) hk
          have hbl : (bytF (atF G k)).length ≤ 2147483648 ∨ ¬ k < G.files.length := by
            by_cases hk : k < G.files.length
            · left
              have h1 := unsB_len (atF G k).us (atF G k).sure
              have h2 := LC.out.each _ (atF_mem hk)
              unfold bytF
              omega
            · exact Or.inr hk
          by_cases hzl : ((bytF (atF G k)).length : Int) < z
          · have HX := hide (HP.out (G, 1))
            have HE : Hid (cutF F s z = (G, 1)) := by show _ = _; unfold cutF; rw [hq]; dsimp only; rw [if_neg (by rw [hm1]; simp), hf]; dsimp only; rw [if_pos (Or.inr hzl)]
            clear hq hF hL
            go_enter Tryz.func29, Tryz.ntmps29
            go_wp2_with fail
            with_reducible refine CA.out.mono ?_
            rintro e u1 ⟨rfl, h1, k1⟩
            have FI := hide (FIx.out u1 h1)
            have H1 := hide h1
            have K1 := hide k1
            clear h1 k1 CA FIx
            go_wp2_with fail
            with_reducible refine (M1.out _).mono ?_
            rintro e u ⟨rfl, hu⟩
            rw [hu, hm1]
            clear hu
            go_wp2_with fail
            with_reducible refine FI.out.mono ?_
            rintro e u2 ⟨rfl, b2⟩
            have h2 := H1.out.below b2
            have hkG : k < G.files.length := by
              obtain ⟨GV0, -⟩ := H1.out
              exact GV0.file hf
            have SZ := hide (SZx.out u2 h2 hkG)
            have H2 := hide h2
            have K2 := hide (K1.out.trans ((Ch.of_below b2).more (fun _ _ h => h.elim)))
            clear b2 FI H1 K1 h2 SZx hf
            generalize (bytF (atF G k)).length = bl at *
            go_wp2_with fail
            with_reducible refine SZ.out.mono ?_
            rintro e u3 ⟨rfl, b3⟩
            have H3 := hide (HX.out _ HE.out (HC.out _ _ _ K2.out (stepV_below (H2.out.below b3) b3)))
            clear b3 SZ H2 K2 HX HE HP HC
            go_wp2
            go_ret
            exact H3.out
          · have HX := hide (HP.out (moreF G k [⟨0, true, z⟩], 0))
            have HE : Hid (cutF F s z = (moreF G k [⟨0, true, z⟩], 0)) := by show _ = _; unfold cutF; rw [hq]; dsimp only; rw [if_neg (by rw [hm1]; simp), hf]; dsimp only; rw [if_neg (by omega)]
            clear hq hF hL
            go_enter Tryz.func29, Tryz.ntmps29
            go_wp2_with fail
            with_reducible refine CA.out.mono ?_
            rintro e u1 ⟨rfl, h1, k1⟩
            have FI := hide (FIx.out u1 h1)
            have H1 := hide h1
            have K1 := hide k1
            clear h1 k1 CA FIx
            go_wp2_with fail
            with_reducible refine (M1.out _).mono ?_
            rintro e u ⟨rfl, hu⟩
            rw [hu, hm1]
            clear hu
            go_wp2_with fail
            with_reducible refine FI.out.mono ?_
            rintro e u2 ⟨rfl, b2⟩
            have h2 := H1.out.below b2
            have hkG : Hid (k < G.files.length) := by
              obtain ⟨GV0, -⟩ := H1.out
              exact GV0.file hf
            have SZ := hide (SZx.out u2 h2 hkG.out)
            have H2 := hide h2
            have K2 := hide (K1.out.trans ((Ch.of_below b2).more (fun _ _ h => h.elim)))
            have ZN : Hid (0 ≤ z ∧ z ≤ ((bytF (atF G k)).length : Int)) := ⟨by omega, by omega⟩
            obtain ⟨bl, hbl2⟩ : ∃ bl, Hid ((bytF (atF G k)).length = bl) := ⟨_, rfl⟩
            rw [hbl2.out] at SZ hzl hbl
            have hbl3 : bl ≤ 2147483648 := hbl.resolve_right (fun h => h hkG.out)
            clear b2 FI H1 K1 h2 SZx hf hbl
            go_wp2_with fail
            with_reducible refine SZ.out.mono ?_
            rintro e v ⟨rfl, b3⟩
            have K3 := hide (K2.out.trans ((Ch.of_below b3).more (fun _ _ h => h.elim)))
            obtain ⟨GV0, af, cf, as', cs, at', ct, hs', B0⟩ := H2.out.below b3
            obtain ⟨gf, h1, h2, rfl, hcf, hh, e0, e1, hx⟩ := B0.fileAt hkG.out
            obtain ⟨a2, n2, c2⟩ := h2
            dsimp only at e1
            have RV := hide B0
            have GV := hide GV0
            have HH := hide hh
            have hn2 : n2 ≤ m + 1 := by have := OwnG.len unV_len (by decide) hx.us; dsimp only at this; have := (LC.out.each _ (atF_mem hkG.out)).2; omega
            have US : Hid (∀ b, (Value.slice a2 n2 c2).ownBlock = some b → CellsT v b 115 ∧ S b) := fun b hb => ⟨(OwnG.cellsT hx.us b hb).1, hx.usS b hb⟩
            have OU := hide hx.us
            dsimp only at OU
            have CF : Hid (CellsT v gf 83) := (OwnG.cellsT B0.files gf rfl).1
            have FZ : Hid (v.frozen? ⟨gf, k * 2 + 1, none⟩ = false) := World.ownsRow.frozenAt B0.files (k * 2 + 1)
            have CG : Hid (CellsT v g 32) := B0.cellsT
            obtain ⟨c0, -⟩ := B0.cells
            obtain ⟨NF, hNF⟩ : ∃ NF, G.files.length = NF := ⟨_, rfl⟩
            rw [hNF] at c0 hcf
            have hkN : k < NF := by have := hkG.out; omega
            have k0 : (0 : Int) ≤ (k : Int) := by omega
            have k1' : (k : Int) < (NF : Int) := by omega
            clear b3 SZ H2 K2 HP HC GV0 B0 hh hx hNF e0
            go_upto_region 11 with fail
            refine wp_region_held_drew (S := fun u => u.cell? ⟨g, 0, none⟩ = some (.slice (some ⟨gf, 0, none⟩) NF cf)) (by kernel_rfl) c0 (fun hHeld => ?_)
            refine held_take (i := 0) (d := (some 34)) (v := ?_) rfl rfl (by kernel_rfl) (by kernel_rfl) (by kernel_rfl) (fun _ _ _ h => h) (Or.inl ⟨by rfl, ?_⟩) (by first | assumption | rfl | trivial) ?_
            rotate_left 1
            · (intro w hSw; (try dsimp only at hSw); (try subst hSw); go_simp; try with_reducible rfl)
            simp only [Act.put, List.setIfInBounds_toArray, List.set_cons_zero, List.set_cons_succ]
            refine held_take (i := 1) (d := (some 35)) (v := ?_) rfl rfl (by kernel_rfl) (by kernel_rfl) (by kernel_rfl) (fun _ _ _ h => h) (Or.inl ⟨by rfl, ?_⟩) (by first | assumption | rfl | trivial) ?_
            rotate_left 1
            · (intro w hSw; (try dsimp only at hSw); (try subst hSw); go_simp; try with_reducible rfl)
            simp only [Act.put, List.setIfInBounds_toArray, List.set_cons_zero, List.set_cons_succ]
            refine held_take (i := 2) (d := (some 36)) (v := ?_) rfl rfl (by kernel_rfl) (by kernel_rfl) (by kernel_rfl) (fun _ _ _ h => h) (Or.inl ⟨by rfl, ?_⟩) (by first | assumption | rfl | trivial) ?_
            rotate_left 1
            · (intro w hSw; (try dsimp only at hSw); (try subst hSw); go_simp; try with_reducible rfl)
            simp only [Act.put, List.setIfInBounds_toArray, List.set_cons_zero, List.set_cons_succ]
            refine held_take (i := 3) (d := (some 37)) (v := ?_) rfl rfl (by kernel_rfl) (by kernel_rfl) (by kernel_rfl) (fun _ _ _ h => h) (Or.inl ⟨by rfl, ?_⟩) (by first | assumption | rfl | trivial) ?_
            rotate_left 1
            · (intro w hSw; (try dsimp only at hSw); (try subst hSw); go_simp; try with_reducible rfl)
            simp only [Act.put, List.setIfInBounds_toArray, List.set_cons_zero, List.set_cons_succ]
            refine held_take (i := 4) (d := (some 38)) (v := ?_) rfl rfl (by kernel_rfl) (by kernel_rfl) (by kernel_rfl) (fun _ _ _ h => h) (Or.inl ⟨by rfl, ?_⟩) (by first | assumption | rfl | trivial) ?_
            rotate_left 1
            · (intro w hSw; (try dsimp only at hSw); (try subst hSw); go_simp; try with_reducible rfl)
            simp only [Act.put, List.setIfInBounds_toArray, List.set_cons_zero, List.set_cons_succ]
            refine held_take (i := 5) (d := (some 39)) (v := ?_) rfl rfl (by kernel_rfl) (by kernel_rfl) (by kernel_rfl) (fun _ _ _ h => h) (Or.inl ⟨by rfl, ?_⟩) (by first | assumption | rfl | trivial) ?_
            rotate_left 1
            · (intro w hSw; (try dsimp only at hSw); (try subst hSw); go_simp; try with_reducible rfl)
            simp only [Act.put, List.setIfInBounds_toArray, List.set_cons_zero, List.set_cons_succ]
            refine held_take (i := 6) (d := (some 40)) (v := ?_) rfl rfl (by kernel_rfl) (by kernel_rfl) (by kernel_rfl) (fun _ _ _ h => h) (Or.inl ⟨by rfl, ?_⟩) (by first | assumption | rfl | trivial) ?_
            rotate_left 1
            · (intro w hSw; (try dsimp only at hSw); (try subst hSw); go_simp; try with_reducible rfl)
            simp only [Act.put, List.setIfInBounds_toArray, List.set_cons_zero, List.set_cons_succ]
            refine held_take (i := 7) (d := (some 41)) (v := ?_) rfl rfl (by kernel_rfl) (by kernel_rfl) (by kernel_rfl) (fun _ _ _ h => h) (Or.inl ⟨by rfl, ?_⟩) (by first | assumption | rfl | trivial) ?_
            rotate_left 1
            · (intro w hSw; (try dsimp only at hSw); (try subst hSw); go_simp; try with_reducible rfl)
            simp only [Act.put, List.setIfInBounds_toArray, List.set_cons_zero, List.set_cons_succ]
            refine held_take (i := 8) (d := (some 42)) (v := ?_) rfl rfl (by kernel_rfl) (by kernel_rfl) (by kernel_rfl) (fun _ _ _ h => h) (Or.inl ⟨by rfl, ?_⟩) (by first | assumption | rfl | trivial) ?_
            rotate_left 1
            · (intro w hSw; (try dsimp only at hSw); (try subst hSw); go_simp; try with_reducible rfl)
            simp only [Act.put, List.setIfInBounds_toArray, List.set_cons_zero, List.set_cons_succ]
            refine held_take (i := 9) (d := (some 43)) (v := ?_) rfl rfl (by kernel_rfl) (by kernel_rfl) (by kernel_rfl) (fun _ _ _ h => h) (Or.inl ⟨by rfl, ?_⟩) (by first | assumption | rfl | trivial) ?_
            rotate_left 1
            · (intro w hSw; (try dsimp only at hSw); (try subst hSw); go_simp; try with_reducible rfl)
            simp only [Act.put, List.setIfInBounds_toArray, List.set_cons_zero, List.set_cons_succ]
            refine held_take (i := 10) (d := (some 44)) (v := ?_) rfl rfl (by kernel_rfl) (by kernel_rfl) (by kernel_rfl) (fun _ _ _ h => h) (Or.inl ⟨by rfl, ?_⟩) (by first | assumption | rfl | trivial) ?_
            rotate_left 1
            · (intro w hSw; (try dsimp only at hSw); (try subst hSw); go_simp; try with_reducible rfl)
            simp only [Act.put, List.setIfInBounds_toArray, List.set_cons_zero, List.set_cons_succ]
            refine held_take (i := 11) (d := (some 45)) (v := ?_) rfl rfl (by kernel_rfl) (by kernel_rfl) (by kernel_rfl) (fun _ _ _ h => h) (Or.inl ⟨by rfl, ?_⟩) (by first | assumption | rfl | trivial) ?_
            rotate_left 1
            · (intro w hSw; (try dsimp only at hSw); (try subst hSw); go_simp; try with_reducible rfl)
            simp only [Act.put, List.setIfInBounds_toArray, List.set_cons_zero, List.set_cons_succ]
            refine held_take (i := 13) (d := (some 47)) (v := ?_) rfl rfl (by kernel_rfl) (by kernel_rfl) (by kernel_rfl) (fun _ _ _ h => h) (Or.inl ⟨by rfl, ?_⟩) (by first | assumption | rfl | trivial) ?_
            rotate_left 1
            · (intro w hSw; (try dsimp only at hSw); (try subst hSw); go_simp; try with_reducible rfl)
            simp only [Act.put, List.setIfInBounds_toArray, List.set_cons_zero, List.set_cons_succ]
            refine held_take (i := 14) (d := (some 48)) (v := ?_) rfl rfl (by kernel_rfl) (by kernel_rfl) (by kernel_rfl) (fun _ _ _ h => h) (Or.inl ⟨by rfl, ?_⟩) (by first | assumption | rfl | trivial) ?_
            rotate_left 1
            · (intro w hSw; (try dsimp only at hSw); (try subst hSw); go_simp; try with_reducible rfl)
            simp only [Act.put, List.setIfInBounds_toArray, List.set_cons_zero, List.set_cons_succ]
            obtain ⟨u6, hu6⟩ : ∃ u6, Hid ((v.alloc (.cells #[.int .u8 0, .bool true, .int .i64 z] 115)).drew = u6) := ⟨_, rfl⟩
            have B4 : Hid (Below v.heap.size v u6) := by rw [← hu6.out]; exact (bel_al (Below.refl _ _) (Nat.le_refl _) _).drew
            have OU4 : Hid (OwnU u6 0 a2 n2 c2 (atF G k).us) := OwnG.below OU.out B4.out (Nat.le_refl _)
            have NC4 : Hid (∀ j u, (unV ⟨0, true, z⟩)[j]? = some u → u6.cell? ((⟨v.heap.size, 0, none⟩ : Addr).add j) = some u) := by rw [← hu6.out]; exact un_cells v 0 true z _
            have v0 : u6.cell? ⟨g, 0, none⟩ = some (.slice (some ⟨gf, 0, none⟩) NF cf) := (B4.out.cell (p := ⟨g, 0, none⟩) (World.block_lt_of_cell? v _ c0)).trans c0
            have v2 : u6.cell? ⟨gf, k * 2 + 1, none⟩ = some (.slice a2 n2 c2) := (B4.out.cell (p := ⟨gf, k * 2 + 1, none⟩) (World.block_lt_of_cell? v _ e1)).trans e1
            refine held_pair (i := 12) (j := 15) (by kernel_rfl) rfl (by rfl) rfl (by rfl) (fun K1 hK1 => ?_) (fun K1 hK1 => ?_)
            · go_simp
              refine hK1.out _ _ c0 ?_
              clear hK1
              refine held_next (i := 15) (by kernel_rfl) rfl (by rfl) (fun K1 hK1 => ?_)
              go_simp
              rw [hu6.out]
              refine hK1.out _ _ v0 ?_
              clear hK1 hu6
              refine held_next (i := 16) (by kernel_rfl) rfl (by rfl) (fun K1 hK1 => ?_)
              refine wp_append_lies _ (.tmp 46) (.tmp 49) 81 rfl 0 115 i1 (.agg #[.int .u8 0, .bool false, .int .i64 0]) 3 16 Tryz.underlying81 hi1 hz10 hz11 hz12 rfl (by decide) (.slice a2 n2 c2) n2 ((atF G k).us.flatMap unV) rfl OU4.out ⟨v.heap.size, 0, none⟩ 1 1 (unV ⟨0, true, z⟩) rfl rfl NC4.out (unV_one1 _) (by omega) (by unfold maxLen; omega) (by omega) (Nat.zero_le _) _ rfl ?_
              intro gC cC wC oC grC atC ltC
              have GR : Hid (Ch (fun j => (Value.slice a2 n2 c2).ownBlock = some j) v wC) := ((Ch.of_below B4.out).more (fun _ _ h => h.elim)).trans (Ch.grown grC)
              have GRX : Hid (StepV RAt v (wC.setCell ⟨gf, k * 2 + 1, none⟩ (.slice (some ⟨gC, 0, none⟩) (n2 + 1) cC)) g S (moreF G k [⟨0, true, z⟩])) := by
                refine us_pushed RV.out GV.out hkG.out HH.out ⟨by simp, by simp⟩ (fun _ => ZN.out) ?_ GR.out ?_
                · show OwnG _ _ _ _ _ _ _ _ _
                  unfold OwnG
                  rw [List.flatMap_append, flat_one]
                  exact oC
                · rcases atC with e | e
                  · exact Or.inl e
                  · exact Or.inr (by rw [e]; exact B4.out.size)
              have VC : Hid (∀ (p : Addr) (x : Value), v.cell? p = some x → (¬ (Value.slice a2 n2 c2).ownBlock = some p.block) → wC.cell? p = some x) := fun p x hp hn => by
                have kk := GR.out.block p.block (World.block_lt_of_cell? v p hp) hn
                simp only [World.cell?] at hp ⊢
                rw [kk]
                exact hp
              have y1 : wC.cell? ⟨gf, k * 2 + 1, none⟩ = some (.slice a2 n2 c2) := VC.out ⟨gf, k * 2 + 1, none⟩ _ e1 (fun e => (US.out gf e).1.ne CF.out (by decide) rfl)
              have y2 : wC.frozen? ⟨gf, k * 2 + 1, none⟩ = false := by
                have kk := GR.out.block gf CF.out.lt (fun e => (US.out gf e).1.ne CF.out (by decide) rfl)
                have h2 := FZ.out
                simp only [World.frozen?] at h2 ⊢
                rw [kk]
                exact h2
              have v1 : wC.cell? ⟨g, 0, none⟩ = some (.slice (some ⟨gf, 0, none⟩) NF cf) := VC.out ⟨g, 0, none⟩ _ c0 (fun e => (US.out g e).1.ne CG.out (by decide) rfl)
              have V2 : Hid ((wC.setCell ⟨gf, k * 2 + 1, none⟩ (.slice (some ⟨gC, 0, none⟩) (n2 + 1) cC)).cell? ⟨g, 0, none⟩ = some (.slice (some ⟨gf, 0, none⟩) NF cf)) :=
                (World.cell?_setCell_other wC ⟨gf, k * 2 + 1, none⟩ ⟨g, 0, none⟩ _ (fun e => CF.out.ne CG.out (by decide) (by simpa using congrArg Addr.block e))).trans v1
              have H2 := hide (HX.out _ HE.out (StepV.after (K3.out.more (fun j _ e => e ▸ HG.out)) GRX.out))
              clear oC grC atC ltC GR GRX OU4 NC4 B4 VC
              go_simp
              refine hK1.out _ _ v1 ?_
              clear hK1
              refine held_take (i := 17) (d := (some 51)) (v := ?_) rfl rfl (by kernel_rfl) (by kernel_rfl) (by kernel_rfl) (fun _ _ _ h => h) (Or.inl ⟨by rfl, ?_⟩) (by first | assumption | rfl | trivial) ?_
              rotate_left 1
              · (intro w hSw; (try dsimp only at hSw); (try subst hSw); go_simp; try with_reducible rfl)
              simp only [Act.put, List.setIfInBounds_toArray, List.set_cons_zero, List.set_cons_succ]
              refine held_take (i := 18) (d := (some 52)) (v := ?_) rfl rfl (by kernel_rfl) (by kernel_rfl) (by kernel_rfl) (fun _ _ _ h => h) (Or.inl ⟨by rfl, ?_⟩) (by first | assumption | rfl | trivial) ?_
              rotate_left 1
              · (intro w hSw; (try dsimp only at hSw); (try subst hSw); go_simp; try with_reducible rfl)
              simp only [Act.put, List.setIfInBounds_toArray, List.set_cons_zero, List.set_cons_succ]
              refine held_next (i := 19) (by kernel_rfl) rfl (by rfl) (fun K1 hK1 => ?_)
              go_simp
              refine hK1.out _ _ V2.out ?_
              clear hK1 hHeld y1 y2 v1 V2
              refine wpAnyH_done (by kernel_rfl) ?_ _
              go_wp2
              go_ret
              exact H2.out
            · go_simp
              rw [hu6.out]
              refine hK1.out _ _ v0 ?_
              clear hK1 hu6
              refine held_next (i := 12) (by kernel_rfl) rfl (by rfl) (fun K1 hK1 => ?_)
              go_simp
              refine hK1.out _ _ v0 ?_
              clear hK1
              refine held_next (i := 16) (by kernel_rfl) rfl (by rfl) (fun K1 hK1 => ?_)
              refine wp_append_lies _ (.tmp 46) (.tmp 49) 81 rfl 0 115 i1 (.agg #[.int .u8 0, .bool false, .int .i64 0]) 3 16 Tryz.underlying81 hi1 hz10 hz11 hz12 rfl (by decide) (.slice a2 n2 c2) n2 ((atF G k).us.flatMap unV) rfl OU4.out ⟨v.heap.size, 0, none⟩ 1 1 (unV ⟨0, true, z⟩) rfl rfl NC4.out (unV_one1 _) (by omega) (by unfold maxLen; omega) (by omega) (Nat.zero_le _) _ rfl ?_
              intro gC cC wC oC grC atC ltC
              have GR : Hid (Ch (fun j => (Value.slice a2 n2 c2).ownBlock = some j) v wC) := ((Ch.of_below B4.out).more (fun _ _ h => h.elim)).trans (Ch.grown grC)
              have GRX : Hid (StepV RAt v (wC.setCell ⟨gf, k * 2 + 1, none⟩ (.slice (some ⟨gC, 0, none⟩) (n2 + 1) cC)) g S (moreF G k [⟨0, true, z⟩])) := by
                refine us_pushed RV.out GV.out hkG.out HH.out ⟨by simp, by simp⟩ (fun _ => ZN.out) ?_ GR.out ?_
                · show OwnG _ _ _ _ _ _ _ _ _
                  unfold OwnG
                  rw [List.flatMap_append, flat_one]
                  exact oC
                · rcases atC with e | e
                  · exact Or.inl e
                  · exact Or.inr (by rw [e]; exact B4.out.size)
              have VC : Hid (∀ (p : Addr) (x : Value), v.cell? p = some x → (¬ (Value.slice a2 n2 c2).ownBlock = some p.block) → wC.cell? p = some x) := fun p x hp hn => by
                have kk := GR.out.block p.block (World.block_lt_of_cell? v p hp) hn
                simp only [World.cell?] at hp ⊢
                rw [kk]
                exact hp
              have y1 : wC.cell? ⟨gf, k * 2 + 1, none⟩ = some (.slice a2 n2 c2) := VC.out ⟨gf, k * 2 + 1, none⟩ _ e1 (fun e => (US.out gf e).1.ne CF.out (by decide) rfl)
              have y2 : wC.frozen? ⟨gf, k * 2 + 1, none⟩ = false := by
                have kk := GR.out.block gf CF.out.lt (fun e => (US.out gf e).1.ne CF.out (by decide) rfl)
                have h2 := FZ.out
                simp only [World.frozen?] at h2 ⊢
                rw [kk]
                exact h2
              have v1 : wC.cell? ⟨g, 0, none⟩ = some (.slice (some ⟨gf, 0, none⟩) NF cf) := VC.out ⟨g, 0, none⟩ _ c0 (fun e => (US.out g e).1.ne CG.out (by decide) rfl)
              have V2 : Hid ((wC.setCell ⟨gf, k * 2 + 1, none⟩ (.slice (some ⟨gC, 0, none⟩) (n2 + 1) cC)).cell? ⟨g, 0, none⟩ = some (.slice (some ⟨gf, 0, none⟩) NF cf)) :=
                (World.cell?_setCell_other wC ⟨gf, k * 2 + 1, none⟩ ⟨g, 0, none⟩ _ (fun e => CF.out.ne CG.out (by decide) (by simpa using congrArg Addr.block e))).trans v1
              have H2 := hide (HX.out _ HE.out (StepV.after (K3.out.more (fun j _ e => e ▸ HG.out)) GRX.out))
              clear oC grC atC ltC GR GRX OU4 NC4 B4 VC
              go_simp
              refine hK1.out _ _ v1 ?_
              clear hK1
              refine held_take (i := 17) (d := (some 51)) (v := ?_) rfl rfl (by kernel_rfl) (by kernel_rfl) (by kernel_rfl) (fun _ _ _ h => h) (Or.inl ⟨by rfl, ?_⟩) (by first | assumption | rfl | trivial) ?_
              rotate_left 1
              · (intro w hSw; (try dsimp only at hSw); (try subst hSw); go_simp; try with_reducible rfl)
              simp only [Act.put, List.setIfInBounds_toArray, List.set_cons_zero, List.set_cons_succ]
              refine held_take (i := 18) (d := (some 52)) (v := ?_) rfl rfl (by kernel_rfl) (by kernel_rfl) (by kernel_rfl) (fun _ _ _ h => h) (Or.inl ⟨by rfl, ?_⟩) (by first | assumption | rfl | trivial) ?_
              rotate_left 1
              · (intro w hSw; (try dsimp only at hSw); (try subst hSw); go_simp; try with_reducible rfl)
              simp only [Act.put, List.setIfInBounds_toArray, List.set_cons_zero, List.set_cons_succ]
              refine held_next (i := 19) (by kernel_rfl) rfl (by rfl) (fun K1 hK1 => ?_)
              go_simp
              refine hK1.out _ _ V2.out ?_
              clear hK1 hHeld y1 y2 v1 V2
              refine wpAnyH_done (by kernel_rfl) ?_ _
              go_wp2
              go_ret
              exact H2.out
end Go.Proofs.YthlkmjaflomflaaGreat
