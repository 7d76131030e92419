/-
  The document's file system: bytes put behind a file's (more): a contract, for every world (written by gen/vfsi.gen.py).
  Conditions: the file system lies in memory; the bytes do not lie in it.
-/
import Derived.Test.YthlkmjaflomflaaGreatVfsH
namespace Go.Proofs.YthlkmjaflomflaaGreat
open Go.RowKit
set_option maxRecDepth 20000
set_option linter.unusedVariables false

/-- Steps put together. -/
theorem StepV.join {w v u : World} {g : Nat} {S S1 : Nat → Prop} {X : Fs} (q : StepV RAt v u g S1 X) (h1 : ∀ j, S1 j → S j ∨ w.heap.size ≤ j) (h2 : Ch S w v) : StepV RAt w u g S X := by
  obtain ⟨S2, r1, r2, r3⟩ := q
  refine ⟨S2, r1, fun j hj => ?_, ⟨r3.os.trans h2.os, r3.tape.trans h2.tape, r3.output.trans h2.output, Nat.le_trans h2.size r3.size, fun j hj hn => ?_⟩⟩
  · rcases r2 j hj with e | e
    · exact h1 j e
    · exact Or.inr (Nat.le_trans h2.size e)
  · rw [r3.block j (Nat.lt_of_lt_of_le hj h2.size) (fun e => by
      rcases h1 j e with e | e
      · exact hn e
      · omega)]
    exact h2.block j hj hn
theorem moreF_nil {F : Fs} {k : Nat} (hk : k < F.files.length) : moreF F k [] = F := by
  have hx : F.files[k] = atF F k := by unfold atF; rw [List.getD_eq_getElem?_getD, List.getElem?_eq_getElem hk]; rfl
  unfold moreF
  rw [List.append_nil, show (⟨(atF F k).sure, (atF F k).us⟩ : Fi) = F.files[k] by rw [hx], List.set_getElem_self]
theorem moreU_take {zs : List Int} {j : Nat} (hj : j < zs.length) : moreU (zs.take (j + 1)) = moreU (zs.take j) ++ [⟨zs.getD j 0, false, 0⟩] := by
  unfold moreU
  rw [List.take_succ_eq_append_getElem hj, List.map_append, List.getD_eq_getElem?_getD, List.getElem?_eq_getElem hj]
  rfl

set_option maxHeartbeats 8000000 in
theorem rmore_any (g : Nat) (S : Nat → Prop) (F : Fs) (k m : Nat) (a : Option Addr) (n c : Nat) (zs : List Int) (w : World) (hF : RAt w g S F) (hL : Lim m F) (hm : m ≤ 1073741824) (hk : k < F.files.length) (hr : Row .u8 w a n zs) (hn : n ≤ 1073741824) (hnc : n ≤ c) (hap : ∀ b off, a = some ⟨b, off, none⟩ → n ≠ 0 → ¬ S b) :
    Calls Tryz.prog 66 #[.pointer (some ⟨g, 0, none⟩), .int .i64 (k : Int), .slice a n c] w fun e w' => e = .returned (.tuple #[]) ∧ StepV RAt w w' g S (moreF F k (moreU zs)) := by
  obtain ⟨i1, hi1, hz10, hz11, hz12⟩ := info_parts Tryz.infoU16
  have HL := hide hr.1
  have HR := hide hr
  have HA := hide hap
  have HF := hide hF
  have HLm := hide hL
  have HK := hide hk
  have hkm : k < 1073741824 := by have := hL.files; omega
  clear hF hL hr hap hk
  go_enter Tryz.func66, Tryz.ntmps66
  go_wp2
  go_loopw [6] (fun i wr => ∃ j : Nat, j ≤ n ∧ i = .int .i64 j ∧ Hid (StepV RAt w wr g S (moreF F k (moreU (zs.take j))))) (fun i _ => n - (intOf i).toNat)
  case atStart => exact ⟨0, by omega, rfl, by rw [show moreU (zs.take 0) = [] from rfl, moreF_nil HK.out]; exact stepV_below HF.out (Below.refl _ _)⟩
  case round =>
    obtain ⟨j, hj, rfl, HST⟩ := hrel
    obtain ⟨v, rfl⟩ : ∃ v, v = wr := ⟨wr, rfl⟩
    by_cases hlt : j < n
    · obtain ⟨bb, off, rfl, hcb⟩ : ∃ bb off, a = some ⟨bb, off, none⟩ ∧ ∀ i, i < n → w.cell? ⟨bb, off + i, none⟩ = some (.int .u8 (zs.getD i 0)) := by
        obtain ⟨_, _, _, h0 | ⟨bb, off, h1, h2⟩⟩ := HR.out
        · omega
        · exact ⟨bb, off, h1, h2⟩
      have hSb := HA.out bb off rfl (by omega)
      have cbw := hcb j hlt
      have hbl := World.block_lt_of_cell? w _ cbw
      have ZB0 := HR.out.byte j
      have HMU := hide (moreU_take (zs := zs) (j := j) (by rw [HL.out]; exact hlt))
      obtain ⟨z, hz⟩ : ∃ z, zs.getD j 0 = z := ⟨_, rfl⟩
      rw [hz] at cbw ZB0 HMU
      have ZB := hide ZB0
      obtain ⟨G, hG⟩ : ∃ G, Hid (moreF F k (moreU (zs.take j)) = G) := ⟨_, rfl⟩
      have hkG : Hid (k < G.files.length) := by rw [← hG.out, moreF_len]; exact HK.out
      have HGL : Hid (G.files.length = F.files.length) := by rw [← hG.out]; exact moreF_len _ _ _
      have HGU : Hid ((atF G k).us.length ≤ m + j) := by
        rw [← hG.out, moreF_at HK.out]
        show ((atF F k).us ++ moreU (zs.take j)).length ≤ m + j
        have h1 := (HLm.out.each _ (atF_mem HK.out)).2
        rw [List.length_append]
        unfold moreU
        rw [List.length_map, List.length_take]
        omega
      rw [hG.out] at HST
      obtain ⟨S1, hR1, hS1, hC1⟩ := HST.out
      obtain ⟨GV0, af, cf, as', cs, at', ct, hs, B0⟩ := id hR1
      obtain ⟨gf, h1, h2, rfl, hcf, hh, e0, e1, hx⟩ := B0.fileAt hkG.out
      obtain ⟨a2, n2, c2⟩ := h2
      dsimp only at e1
      have RV := hide B0
      have GV := hide GV0
      have HH := hide hh
      have hn2 : n2 ≤ m + j := by have := OwnG.len unV_len (by decide) hx.us; dsimp only at this; have := HGU.out; omega
      have US : Hid (∀ b, (Value.slice a2 n2 c2).ownBlock = some b → CellsT v b 115 ∧ S1 b) := fun b hb => ⟨(OwnG.cellsT hx.us b hb).1, hx.usS b hb⟩
      have OU := hide hx.us
      dsimp only at OU
      have CF : Hid (CellsT v gf 83) := (OwnG.cellsT B0.files gf rfl).1
      have FZ : Hid (v.frozen? ⟨gf, k * 2 + 1, none⟩ = false) := World.ownsRow.frozenAt B0.files (k * 2 + 1)
      have CG : Hid (CellsT v g 32) := B0.cellsT
      have SF : Hid (S1 gf) := B0.filesS gf rfl
      have NB : Hid (¬ S1 bb) := fun e => by
        rcases hS1 bb e with e | e
        · exact hSb e
        · dsimp only at hbl; omega
      have cb : v.cell? ⟨bb, off + j, none⟩ = some (.int .u8 z) := by
        have kk := hC1.block bb hbl hSb
        simp only [World.cell?] at cbw ⊢
        rw [kk]
        exact cbw
      obtain ⟨c0, -⟩ := B0.cells
      obtain ⟨NF, hNF⟩ : ∃ NF, G.files.length = NF := ⟨_, rfl⟩
      rw [hNF] at c0 hcf
      have hkN : k < NF := by have := hkG.out; omega
      have HFIN : Hid (∀ u, StepV RAt v u g S1 (moreF G k [⟨z, false, 0⟩]) → StepV RAt w u g S (moreF F k (moreU (zs.take (j + 1))))) := fun u q => by
        rw [HMU.out, ← moreF_more HK.out, hG.out]
        exact q.join hS1 hC1
      have k0 : (0 : Int) ≤ (k : Int) := by omega
      have k1 : (k : Int) < (NF : Int) := by omega
      have j0 : (0 : Int) ≤ (j : Int) := by omega
      have j1 : (j : Int) < (n : Int) := by omega
      clear hcb hSb cbw hbl ZB0 hz hG HGU HST hR1 hS1 hC1 GV0 B0 hh hx HMU hNF e0
      go_upto_region 3 with fail
      refine wp_region_held_drew (S := fun u => u.cell? ⟨g, 0, none⟩ = some (.slice (some ⟨gf, 0, none⟩) NF cf) ∧ u.cell? ⟨bb, off + j, none⟩ = some (.int .u8 z)) (by kernel_rfl) ⟨c0, cb⟩ (fun hHeld => ?_)
      refine held_take (i := 0) (d := (some 13)) (v := ?_) rfl rfl (by kernel_rfl) (by kernel_rfl) (by kernel_rfl) (fun _ _ _ h => h) (Or.inl ⟨by rfl, ?_⟩) (by first | assumption | rfl | trivial) ?_
      rotate_left 1
      · (intro w hSw; (try dsimp only at hSw); (try subst hSw); go_simp; try with_reducible rfl)
      simp only [Act.put, List.setIfInBounds_toArray, List.set_cons_zero, List.set_cons_succ]
      refine held_take (i := 1) (d := (some 14)) (v := ?_) rfl rfl (by kernel_rfl) (by kernel_rfl) (by kernel_rfl) (fun _ _ _ h => h) (Or.inl ⟨by rfl, ?_⟩) (by first | assumption | rfl | trivial) ?_
      rotate_left 1
      · (intro w hSw; (try dsimp only at hSw); (try subst hSw); go_simp; try with_reducible rfl)
      simp only [Act.put, List.setIfInBounds_toArray, List.set_cons_zero, List.set_cons_succ]
      refine held_take (i := 2) (d := (some 15)) (v := ?_) rfl rfl (by kernel_rfl) (by kernel_rfl) (by kernel_rfl) (fun _ _ _ h => h) (Or.inl ⟨by rfl, ?_⟩) (by first | assumption | rfl | trivial) ?_
      rotate_left 1
      · (intro w hSw; (try dsimp only at hSw); (try subst hSw); go_simp; try with_reducible rfl)
      simp only [Act.put, List.setIfInBounds_toArray, List.set_cons_zero, List.set_cons_succ]
      refine held_take (i := 3) (d := (some 16)) (v := ?_) rfl rfl (by kernel_rfl) (by kernel_rfl) (by kernel_rfl) (fun _ _ _ h => h) (Or.inl ⟨by rfl, ?_⟩) (by first | assumption | rfl | trivial) ?_
      rotate_left 1
      · (intro w hSw; (try dsimp only at hSw); (try subst hSw); go_simp; try with_reducible rfl)
      simp only [Act.put, List.setIfInBounds_toArray, List.set_cons_zero, List.set_cons_succ]
      refine held_take (i := 4) (d := (some 17)) (v := ?_) rfl rfl (by kernel_rfl) (by kernel_rfl) (by kernel_rfl) (fun _ _ _ h => h) (Or.inl ⟨by rfl, ?_⟩) (by first | assumption | rfl | trivial) ?_
      rotate_left 1
      · (intro w hSw; (try dsimp only at hSw); (try subst hSw); go_simp; try with_reducible rfl)
      simp only [Act.put, List.setIfInBounds_toArray, List.set_cons_zero, List.set_cons_succ]
      refine held_take (i := 5) (d := (some 18)) (v := ?_) rfl rfl (by kernel_rfl) (by kernel_rfl) (by kernel_rfl) (fun _ _ _ h => h) (Or.inl ⟨by rfl, ?_⟩) (by first | assumption | rfl | trivial) ?_
      rotate_left 1
      · (intro w hSw; (try dsimp only at hSw); (try subst hSw); go_simp; try with_reducible rfl)
      simp only [Act.put, List.setIfInBounds_toArray, List.set_cons_zero, List.set_cons_succ]
      refine held_take (i := 6) (d := (some 19)) (v := ?_) rfl rfl (by kernel_rfl) (by kernel_rfl) (by kernel_rfl) (fun _ _ _ h => h) (Or.inl ⟨by rfl, ?_⟩) (by first | assumption | rfl | trivial) ?_
      rotate_left 1
      · (intro w hSw; (try dsimp only at hSw); (try subst hSw); go_simp; try with_reducible rfl)
      simp only [Act.put, List.setIfInBounds_toArray, List.set_cons_zero, List.set_cons_succ]
      refine held_take (i := 7) (d := (some 20)) (v := ?_) rfl rfl (by kernel_rfl) (by kernel_rfl) (by kernel_rfl) (fun _ _ _ h => h) (Or.inl ⟨by rfl, ?_⟩) (by first | assumption | rfl | trivial) ?_
      rotate_left 1
      · (intro w hSw; (try dsimp only at hSw); (try subst hSw); go_simp; try with_reducible rfl)
      simp only [Act.put, List.setIfInBounds_toArray, List.set_cons_zero, List.set_cons_succ]
      refine held_take (i := 8) (d := (some 21)) (v := ?_) rfl rfl (by kernel_rfl) (by kernel_rfl) (by kernel_rfl) (fun _ _ _ h => h) (Or.inl ⟨by rfl, ?_⟩) (by first | assumption | rfl | trivial) ?_
      rotate_left 1
      · (intro w hSw; (try dsimp only at hSw); (try subst hSw); go_simp; try with_reducible rfl)
      simp only [Act.put, List.setIfInBounds_toArray, List.set_cons_zero, List.set_cons_succ]
      refine held_take (i := 9) (d := (some 22)) (v := ?_) rfl rfl (by kernel_rfl) (by kernel_rfl) (by kernel_rfl) (fun _ _ _ h => h) (Or.inl ⟨by rfl, ?_⟩) (by first | assumption | rfl | trivial) ?_
      rotate_left 1
      · (intro w hSw; (try dsimp only at hSw); (try subst hSw); go_simp; try with_reducible rfl)
      simp only [Act.put, List.setIfInBounds_toArray, List.set_cons_zero, List.set_cons_succ]
      refine held_take (i := 10) (d := (some 23)) (v := ?_) rfl rfl (by kernel_rfl) (by kernel_rfl) (by kernel_rfl) (fun _ _ _ h => h) (Or.inl ⟨by rfl, ?_⟩) (by first | assumption | rfl | trivial) ?_
      rotate_left 1
      · (intro w hSw; (try dsimp only at hSw); (try subst hSw); go_simp; try with_reducible rfl)
      simp only [Act.put, List.setIfInBounds_toArray, List.set_cons_zero, List.set_cons_succ]
      refine held_take (i := 11) (d := (some 24)) (v := ?_) rfl rfl (by kernel_rfl) (by kernel_rfl) (by kernel_rfl) (fun _ _ _ h => h) (Or.inl ⟨by rfl, ?_⟩) (by first | assumption | rfl | trivial) ?_
      rotate_left 1
      · (intro w hSw; (try dsimp only at hSw); (try subst hSw); go_simp; try with_reducible rfl)
      simp only [Act.put, List.setIfInBounds_toArray, List.set_cons_zero, List.set_cons_succ]
      refine held_take (i := 13) (d := (some 26)) (v := ?_) rfl rfl (by kernel_rfl) (by kernel_rfl) (by kernel_rfl) (fun _ _ _ h => h) (Or.inl ⟨by rfl, ?_⟩) (by first | assumption | rfl | trivial) ?_
      rotate_left 1
      · (intro w hSw; (try dsimp only at hSw); (try subst hSw); go_simp; try with_reducible rfl)
      simp only [Act.put, List.setIfInBounds_toArray, List.set_cons_zero, List.set_cons_succ]
      refine held_take (i := 14) (d := (some 27)) (v := ?_) rfl rfl (by kernel_rfl) (by kernel_rfl) (by kernel_rfl) (fun _ _ _ h => h) (Or.inl ⟨by rfl, ?_⟩) (by first | assumption | rfl | trivial) ?_
      rotate_left 1
      · (intro w hSw; (try dsimp only at hSw); (try subst hSw); go_simp; try with_reducible rfl)
      simp only [Act.put, List.setIfInBounds_toArray, List.set_cons_zero, List.set_cons_succ]
      refine held_take (i := 15) (d := (some 28)) (v := ?_) rfl rfl (by kernel_rfl) (by kernel_rfl) (by kernel_rfl) (fun _ _ _ h => h) (Or.inl ⟨by rfl, ?_⟩) (by first | assumption | rfl | trivial) ?_
      rotate_left 1
      · (intro w hSw; (try dsimp only at hSw); (try subst hSw); go_simp; try with_reducible rfl)
      simp only [Act.put, List.setIfInBounds_toArray, List.set_cons_zero, List.set_cons_succ]
      refine held_take (i := 16) (d := (some 29)) (v := ?_) rfl rfl (by kernel_rfl) (by kernel_rfl) (by kernel_rfl) (fun _ _ _ h => h) (Or.inl ⟨by rfl, ?_⟩) (by first | assumption | rfl | trivial) ?_
      rotate_left 1
      · (intro w hSw; (try dsimp only at hSw); (try subst hSw); go_simp; try with_reducible rfl)
      simp only [Act.put, List.setIfInBounds_toArray, List.set_cons_zero, List.set_cons_succ]
      refine held_take (i := 17) (d := (some 30)) (v := ?_) rfl rfl (by kernel_rfl) (by kernel_rfl) (by kernel_rfl) (fun _ _ _ h => h) (Or.inl ⟨by rfl, ?_⟩) (by first | assumption | rfl | trivial) ?_
      rotate_left 1
      · (intro w hSw; (try dsimp only at hSw); (try subst hSw); go_simp; try with_reducible rfl)
      simp only [Act.put, List.setIfInBounds_toArray, List.set_cons_zero, List.set_cons_succ]
      obtain ⟨u6, hu6⟩ : ∃ u6, Hid ((v.alloc (.cells #[.int .u8 z, .bool false, .int .i64 0] 115)).drew = u6) := ⟨_, rfl⟩
      have B4 : Hid (Below v.heap.size v u6) := by rw [← hu6.out]; exact (bel_al (Below.refl _ _) (Nat.le_refl _) _).drew
      have OU4 : Hid (OwnU u6 0 a2 n2 c2 (atF G k).us) := OwnG.below OU.out B4.out (Nat.le_refl _)
      have NC4 : Hid (∀ j u, (unV ⟨z, false, 0⟩)[j]? = some u → u6.cell? ((⟨v.heap.size, 0, none⟩ : Addr).add j) = some u) := by rw [← hu6.out]; exact un_cells v z false 0 _
      have v0 : u6.cell? ⟨g, 0, none⟩ = some (.slice (some ⟨gf, 0, none⟩) NF cf) ∧ u6.cell? ⟨bb, off + j, none⟩ = some (.int .u8 z) := ⟨(B4.out.cell (p := ⟨g, 0, none⟩) (World.block_lt_of_cell? v _ c0)).trans c0, (B4.out.cell (p := ⟨bb, off + j, none⟩) (World.block_lt_of_cell? v _ cb)).trans cb⟩
      have v2 : u6.cell? ⟨gf, k * 2 + 1, none⟩ = some (.slice a2 n2 c2) := (B4.out.cell (p := ⟨gf, k * 2 + 1, none⟩) (World.block_lt_of_cell? v _ e1)).trans e1
      refine held_pair (i := 12) (j := 18) (by kernel_rfl) rfl (by rfl) rfl (by rfl) (fun K1 hK1 => ?_) (fun K1 hK1 => ?_)
      · go_simp
        refine hK1.out _ _ ⟨c0, cb⟩ ?_
        clear hK1
        refine held_next (i := 18) (by kernel_rfl) rfl (by rfl) (fun K1 hK1 => ?_)
        go_simp
        rw [hu6.out]
        refine hK1.out _ _ v0 ?_
        clear hK1 hu6
        refine held_next (i := 19) (by kernel_rfl) rfl (by rfl) (fun K1 hK1 => ?_)
        refine wp_append_lies _ (.tmp 25) (.tmp 31) 81 rfl 0 115 i1 (.agg #[.int .u8 0, .bool false, .int .i64 0]) 3 16 Tryz.underlying81 hi1 hz10 hz11 hz12 rfl (by decide) (.slice a2 n2 c2) n2 ((atF G k).us.flatMap unV) rfl OU4.out ⟨v.heap.size, 0, none⟩ 1 1 (unV ⟨z, false, 0⟩) rfl rfl NC4.out (unV_one1 _) (by omega) (by unfold maxLen; omega) (by omega) (Nat.zero_le _) _ rfl ?_
        intro gC cC wC oC grC atC ltC
        have GR : Hid (Ch (fun j => (Value.slice a2 n2 c2).ownBlock = some j) v wC) := ((Ch.of_below B4.out).more (fun _ _ h => h.elim)).trans (Ch.grown grC)
        have GRX : Hid (StepV RAt v (wC.setCell ⟨gf, k * 2 + 1, none⟩ (.slice (some ⟨gC, 0, none⟩) (n2 + 1) cC)) g S1 (moreF G k [⟨z, false, 0⟩])) := by
          refine us_pushed RV.out GV.out hkG.out HH.out ZB.out (fun h => by cases h) ?_ GR.out ?_
          · show OwnG _ _ _ _ _ _ _ _ _
            unfold OwnG
            rw [List.flatMap_append, flat_one]
            exact oC
          · rcases atC with e | e
            · exact Or.inl e
            · exact Or.inr (by rw [e]; exact B4.out.size)
        have VC : Hid (∀ (p : Addr) (x : Value), v.cell? p = some x → (¬ (Value.slice a2 n2 c2).ownBlock = some p.block) → wC.cell? p = some x) := fun p x hp hn => by
          have kk := GR.out.block p.block (World.block_lt_of_cell? v p hp) hn
          simp only [World.cell?] at hp ⊢
          rw [kk]
          exact hp
        have y1 : wC.cell? ⟨gf, k * 2 + 1, none⟩ = some (.slice a2 n2 c2) := VC.out ⟨gf, k * 2 + 1, none⟩ _ e1 (fun e => (US.out gf e).1.ne CF.out (by decide) rfl)
        have y2 : wC.frozen? ⟨gf, k * 2 + 1, none⟩ = false := by
          have kk := GR.out.block gf CF.out.lt (fun e => (US.out gf e).1.ne CF.out (by decide) rfl)
          have h2 := FZ.out
          simp only [World.frozen?] at h2 ⊢
          rw [kk]
          exact h2
        have v1 : wC.cell? ⟨g, 0, none⟩ = some (.slice (some ⟨gf, 0, none⟩) NF cf) ∧ wC.cell? ⟨bb, off + j, none⟩ = some (.int .u8 z) := ⟨VC.out ⟨g, 0, none⟩ _ c0 (fun e => (US.out g e).1.ne CG.out (by decide) rfl), VC.out ⟨bb, off + j, none⟩ _ cb (fun e => NB.out ((US.out bb e).2))⟩
        have V2 : Hid ((wC.setCell ⟨gf, k * 2 + 1, none⟩ (.slice (some ⟨gC, 0, none⟩) (n2 + 1) cC)).cell? ⟨g, 0, none⟩ = some (.slice (some ⟨gf, 0, none⟩) NF cf) ∧ (wC.setCell ⟨gf, k * 2 + 1, none⟩ (.slice (some ⟨gC, 0, none⟩) (n2 + 1) cC)).cell? ⟨bb, off + j, none⟩ = some (.int .u8 z)) :=
          ⟨(World.cell?_setCell_other wC ⟨gf, k * 2 + 1, none⟩ ⟨g, 0, none⟩ _ (fun e => CF.out.ne CG.out (by decide) (by simpa using congrArg Addr.block e))).trans v1.1, (World.cell?_setCell_other wC ⟨gf, k * 2 + 1, none⟩ ⟨bb, off + j, none⟩ _ (fun e => NB.out (by have := congrArg Addr.block e; simp at this; rw [← this]; exact SF.out))).trans v1.2⟩
        have H2 := hide (HFIN.out _ GRX.out)
        clear oC grC atC ltC GR GRX OU4 NC4 B4 VC
        go_simp
        refine hK1.out _ _ v1 ?_
        clear hK1
        refine held_take (i := 20) (d := (some 33)) (v := ?_) rfl rfl (by kernel_rfl) (by kernel_rfl) (by kernel_rfl) (fun _ _ _ h => h) (Or.inl ⟨by rfl, ?_⟩) (by first | assumption | rfl | trivial) ?_
        rotate_left 1
        · (intro w hSw; (try dsimp only at hSw); (try subst hSw); go_simp; try with_reducible rfl)
        simp only [Act.put, List.setIfInBounds_toArray, List.set_cons_zero, List.set_cons_succ]
        refine held_take (i := 21) (d := (some 34)) (v := ?_) rfl rfl (by kernel_rfl) (by kernel_rfl) (by kernel_rfl) (fun _ _ _ h => h) (Or.inl ⟨by rfl, ?_⟩) (by first | assumption | rfl | trivial) ?_
        rotate_left 1
        · (intro w hSw; (try dsimp only at hSw); (try subst hSw); go_simp; try with_reducible rfl)
        simp only [Act.put, List.setIfInBounds_toArray, List.set_cons_zero, List.set_cons_succ]
        refine held_next (i := 22) (by kernel_rfl) rfl (by rfl) (fun K1 hK1 => ?_)
        go_simp
        refine hK1.out _ _ V2.out ?_
        clear hK1 hHeld y1 y2 v1 V2
        refine wpAnyH_done (by kernel_rfl) ?_ _
        go_wp2
        go_roundw
        case rel => exact ⟨j + 1, by omega, by go_num, H2⟩
        case measure => simp [intOf]; omega
      · go_simp
        rw [hu6.out]
        refine hK1.out _ _ v0 ?_
        clear hK1 hu6
        refine held_next (i := 12) (by kernel_rfl) rfl (by rfl) (fun K1 hK1 => ?_)
        go_simp
        refine hK1.out _ _ v0 ?_
        clear hK1
        refine held_next (i := 19) (by kernel_rfl) rfl (by rfl) (fun K1 hK1 => ?_)
        refine wp_append_lies _ (.tmp 25) (.tmp 31) 81 rfl 0 115 i1 (.agg #[.int .u8 0, .bool false, .int .i64 0]) 3 16 Tryz.underlying81 hi1 hz10 hz11 hz12 rfl (by decide) (.slice a2 n2 c2) n2 ((atF G k).us.flatMap unV) rfl OU4.out ⟨v.heap.size, 0, none⟩ 1 1 (unV ⟨z, false, 0⟩) rfl rfl NC4.out (unV_one1 _) (by omega) (by unfold maxLen; omega) (by omega) (Nat.zero_le _) _ rfl ?_
        intro gC cC wC oC grC atC ltC
        have GR : Hid (Ch (fun j => (Value.slice a2 n2 c2).ownBlock = some j) v wC) := ((Ch.of_below B4.out).more (fun _ _ h => h.elim)).trans (Ch.grown grC)
        have GRX : Hid (StepV RAt v (wC.setCell ⟨gf, k * 2 + 1, none⟩ (.slice (some ⟨gC, 0, none⟩) (n2 + 1) cC)) g S1 (moreF G k [⟨z, false, 0⟩])) := by
          refine us_pushed RV.out GV.out hkG.out HH.out ZB.out (fun h => by cases h) ?_ GR.out ?_
          · show OwnG _ _ _ _ _ _ _ _ _
            unfold OwnG
            rw [List.flatMap_append, flat_one]
            exact oC
          · rcases atC with e | e
            · exact Or.inl e
            · exact Or.inr (by rw [e]; exact B4.out.size)
        have VC : Hid (∀ (p : Addr) (x : Value), v.cell? p = some x → (¬ (Value.slice a2 n2 c2).ownBlock = some p.block) → wC.cell? p = some x) := fun p x hp hn => by
          have kk := GR.out.block p.block (World.block_lt_of_cell? v p hp) hn
          simp only [World.cell?] at hp ⊢
          rw [kk]
          exact hp
        have y1 : wC.cell? ⟨gf, k * 2 + 1, none⟩ = some (.slice a2 n2 c2) := VC.out ⟨gf, k * 2 + 1, none⟩ _ e1 (fun e => (US.out gf e).1.ne CF.out (by decide) rfl)
        have y2 : wC.frozen? ⟨gf, k * 2 + 1, none⟩ = false := by
          have kk := GR.out.block gf CF.out.lt (fun e => (US.out gf e).1.ne CF.out (by decide) rfl)
          have h2 := FZ.out
          simp only [World.frozen?] at h2 ⊢
          rw [kk]
          exact h2
        have v1 : wC.cell? ⟨g, 0, none⟩ = some (.slice (some ⟨gf, 0, none⟩) NF cf) ∧ wC.cell? ⟨bb, off + j, none⟩ = some (.int .u8 z) := ⟨VC.out ⟨g, 0, none⟩ _ c0 (fun e => (US.out g e).1.ne CG.out (by decide) rfl), VC.out ⟨bb, off + j, none⟩ _ cb (fun e => NB.out ((US.out bb e).2))⟩
        have V2 : Hid ((wC.setCell ⟨gf, k * 2 + 1, none⟩ (.slice (some ⟨gC, 0, none⟩) (n2 + 1) cC)).cell? ⟨g, 0, none⟩ = some (.slice (some ⟨gf, 0, none⟩) NF cf) ∧ (wC.setCell ⟨gf, k * 2 + 1, none⟩ (.slice (some ⟨gC, 0, none⟩) (n2 + 1) cC)).cell? ⟨bb, off + j, none⟩ = some (.int .u8 z)) :=
          ⟨(World.cell?_setCell_other wC ⟨gf, k * 2 + 1, none⟩ ⟨g, 0, none⟩ _ (fun e => CF.out.ne CG.out (by decide) (by simpa using congrArg Addr.block e))).trans v1.1, (World.cell?_setCell_other wC ⟨gf, k * 2 + 1, none⟩ ⟨bb, off + j, none⟩ _ (fun e => NB.out (by have := congrArg Addr.block e; simp at this; rw [← this]; exact SF.out))).trans v1.2⟩
        have H2 := hide (HFIN.out _ GRX.out)
        clear oC grC atC ltC GR GRX OU4 NC4 B4 VC
        go_simp
        refine hK1.out _ _ v1 ?_
        clear hK1
        refine held_take (i := 20) (d := (some 33)) (v := ?_) rfl rfl (by kernel_rfl) (by kernel_rfl) (by kernel_rfl) (fun _ _ _ h => h) (Or.inl ⟨by rfl, ?_⟩) (by first | assumption | rfl | trivial) ?_
        rotate_left 1
        · (intro w hSw; (try dsimp only at hSw); (try subst hSw); go_simp; try with_reducible rfl)
        simp only [Act.put, List.setIfInBounds_toArray, List.set_cons_zero, List.set_cons_succ]
        refine held_take (i := 21) (d := (some 34)) (v := ?_) rfl rfl (by kernel_rfl) (by kernel_rfl) (by kernel_rfl) (fun _ _ _ h => h) (Or.inl ⟨by rfl, ?_⟩) (by first | assumption | rfl | trivial) ?_
        rotate_left 1
        · (intro w hSw; (try dsimp only at hSw); (try subst hSw); go_simp; try with_reducible rfl)
        simp only [Act.put, List.setIfInBounds_toArray, List.set_cons_zero, List.set_cons_succ]
        refine held_next (i := 22) (by kernel_rfl) rfl (by rfl) (fun K1 hK1 => ?_)
        go_simp
        refine hK1.out _ _ V2.out ?_
        clear hK1 hHeld y1 y2 v1 V2
        refine wpAnyH_done (by kernel_rfl) ?_ _
        go_wp2
        go_roundw
        case rel => exact ⟨j + 1, by omega, by go_num, H2⟩
        case measure => simp [intOf]; omega
    · have e4 : j = n := by omega
      subst e4
      have HE : Hid (StepV RAt w v g S (moreF F k (moreU zs))) := by
        have := HST.out
        rw [List.take_of_length_le (by rw [HL.out]; exact Nat.le_refl _)] at this
        exact this
      go_wp2
      go_end0
      exact ⟨rfl, HE.out⟩
end Go.Proofs.YthlkmjaflomflaaGreat
