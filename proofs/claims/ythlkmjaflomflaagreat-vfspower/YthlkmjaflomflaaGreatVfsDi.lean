/-
  The landed file system: a file is cut: a contract, for every world (written by gen/vfsdi.gen.py).
  Conditions: the file lies in memory; the cut is within it.
-/
import Derived.Test.YthlkmjaflomflaaGreatVfsDh
namespace Go.Proofs.YthlkmjaflomflaaGreat
open Go.RowKit Go.Maps
set_option maxRecDepth 20000
set_option linter.unusedVariables false

theorem slice_from8 (a : Option Addr) (n cap k : Nat) (hk : k ≤ n) (hc : n ≤ cap) (w : World) :
    (Instr.slice 33 (.slice a n cap) (some (.int .i64 (k : Int))) none none).run Tryz.prog w = .ok (.slice (if cap = k then a else a.map (·.add k)) (n - k) (cap - k)) w := by
  rw [run_slice_l (P := Tryz.prog) w 33 a n cap Tryz.underlying33 .i64 (k : Int) (by omega) (by omega)]
  have hs : (sizeOf (Tryz.prog.elem 33)).run Tryz.prog w = .ok 1 w := by kernel_rfl
  rw [hs]
  simp only [Result.andThen, sliced, Int.toNat_natCast, Nat.mul_one]
/-- A group more: a cut. -/
theorem FlP.pushCut {w u : World} {h : Fh} {k : Nat} {b su : List Int} {us : List Un} (m : FlP w h k b su us) (hb : b = unsB su us) {n : Nat} (hn : n ≤ b.length) {x : H3} {P g' c' : Nat} (gr : Ch (fun j => (h3V h.p).ownBlock = some j) w u) (ox : OwnB u 0 x.1 x.2.1 x.2.2 (b.drop n)) (hx : ∀ j, (h3V x).ownBlock = some j → w.heap.size ≤ j) (o : OwnP u 0 (some ⟨g', 0, none⟩) (P + 1) c' (h.hp ++ [(0, x)])) (lies : (h3V h.p).ownBlock = some g' ∨ w.heap.size ≤ g') :
    FlP (u.setCell ⟨h.b, 2, none⟩ (.slice (some ⟨g', 0, none⟩) (P + 1) c')) { h with p := (some ⟨g', 0, none⟩, P + 1, c'), ps := h.ps ++ [(0, b.drop n)], hp := h.hp ++ [(0, x)] } k b su (us ++ [⟨0, true, (n : Int)⟩]) ∧ (∀ j, SFh { h with p := (some ⟨g', 0, none⟩, P + 1, c'), ps := h.ps ++ [(0, b.drop n)], hp := h.hp ++ [(0, x)] } j → SFh h j ∨ w.heap.size ≤ j) ∧ Ch (SFh h) w (u.setCell ⟨h.b, 2, none⟩ (.slice (some ⟨g', 0, none⟩) (P + 1) c')) := by
  have q := m.putPend gr (p' := (some ⟨g', 0, none⟩, P + 1, c')) (ps' := h.ps ++ [(0, b.drop n)]) (hp' := h.hp ++ [(0, x)]) (su' := su) (us' := us ++ [⟨0, true, (n : Int)⟩]) o (by rw [hb]; exact Pd.cut us h.ps n m.pd (by rw [← hb]; exact hn)) (by rw [List.length_append, List.length_append, m.len]; rfl) (fun i q r h1 h2 => by
    by_cases e : i < h.hp.length
    · rw [List.getElem?_append_left e] at h1
      rw [List.getElem?_append_left (by rw [← m.len]; exact e)] at h2
      obtain ⟨e1, e2, e3⟩ := m.each i q r h1 h2
      exact ⟨e1, OwnG.ch e2 gr (fun j hj e => (OwnG.cellsT m.pend j e).1.ne (OwnG.cellsT e2 j hj).1 (by decide) rfl), e3⟩
    · rw [List.getElem?_append_right (by omega), List.getElem?_singleton] at h1
      rw [List.getElem?_append_right (by rw [← m.len]; omega), List.getElem?_singleton] at h2
      split at h1
      · rename_i e4
        rw [if_pos (by rw [← m.len]; exact e4)] at h2
        obtain rfl := Option.some.inj h1
        obtain rfl := Option.some.inj h2
        exact ⟨rfl, ox, fun j hj e => by
          have := hx j hj
          have := (OwnG.cellsT m.data j e).1.lt
          omega⟩
      · cases h1)
  refine ⟨q, fun j hj => ?_, (gr.more (fun j _ e => Or.inr (Or.inr (Or.inl e)))).trans ((ch_set u h.b 2 _).more (fun j _ e => Or.inl e))⟩
  rcases hj with e | e | e | ⟨q', e, e2⟩
  · exact Or.inl (Or.inl e)
  · exact Or.inl (Or.inr (Or.inl e))
  · have : g' = j := by simpa [h3V, Value.ownBlock] using e
    subst this
    rcases lies with e | e
    · exact Or.inl (Or.inr (Or.inr (Or.inl e)))
    · exact Or.inr e
  · rcases List.mem_append.1 e with e | e
    · exact Or.inl (Or.inr (Or.inr (Or.inr ⟨q', e, e2⟩)))
    · obtain rfl := List.mem_singleton.1 e
      exact Or.inr (hx j e2)

set_option maxHeartbeats 8000000 in
theorem fcut_any (w : World) (h : Fh) (k : Nat) (b su : List Int) (us : List Un) (m : FlP w h k b su us) (hbu : b = unsB su us) (n : Nat) (hn : n ≤ b.length) (hb : b.length ≤ 4294967296) (hus : us.length ≤ 4294967296) (hby : ∀ z ∈ b, 0 ≤ z ∧ z ≤ 255) :
    Calls Tryz.prog 67 #[.pointer (some ⟨h.b, 0, none⟩), .int .i64 (n : Int)] w fun e w' => e = .returned (.tuple #[]) ∧ StepP w w' h k (b.take n) su (us ++ [⟨0, true, (n : Int)⟩]) := by
  obtain ⟨i1, hi1, hz10, hz11, hz12⟩ := info_parts Tryz.infoPu
  have c1 := m.c1
  have c2 := m.c2
  have M := hide m
  have hdl := OwnG.len byV_len (by decide) m.data
  have hpl := OwnG.len puV_len (by decide) m.pend
  have hP : h.p.2.1 ≤ 4294967296 := by rw [← hpl, m.len]; exact Nat.le_trans m.pd.len hus
  obtain ⟨da, dn, dc, hd⟩ : ∃ da dn dc, h.d = (da, dn, dc) := ⟨_, _, _, rfl⟩
  obtain ⟨pa, pn, pc, hp⟩ : ∃ pa pn pc, h.p = (pa, pn, pc) := ⟨_, _, _, rfl⟩
  have OD := hide m.data
  have OP := hide m.pend
  rw [hd] at c1 hdl OD
  rw [hp] at c2 hP OP
  dsimp only at c1 c2 hdl hP OD OP
  have hdc := (OwnG.capped OD.out).1
  have hnd : n ≤ dn := by omega
  have ROW : Hid (Row .u8 w da dn b) := ownB_row OD.out (by omega) hby
  obtain ⟨fa, hfa⟩ : ∃ fa : Option Addr, Hid ((if dc = n then da else da.map (·.add n)) = fa) := ⟨_, rfl⟩
  have RF : Hid (Row .u8 w fa (dn - n) (b.drop n)) := by rw [← hfa.out]; exact ROW.out.from n hnd hdc
  have hfc : Hid (fa = none → dc - n = 0) := fun e => by
    rw [← hfa.out] at e
    split at e
    · omega
    · cases da with
      | none => have := (OwnG.capped OD.out).2 rfl; omega
      | some x => simp at e
  have sl : ∀ u, (Instr.slice 33 (.slice da dn dc) (some (.int .i64 (n : Int))) none none).run Tryz.prog u = .ok (.slice fa (dn - n) (dc - n)) u := fun u => by
    rw [← hfa.out]
    exact slice_from8 da dn dc n hnd hdc u
  have sl2 := fun u => slice_to16 da dn dc n (by omega) u
  have CL := hide (fun u (hu : Below w.heap.size w u) => clone8_any fa (dn - n) (dc - n) (b.drop n) u (RF.out.below hu (Nat.le_refl _)) (by omega) hfc.out)
  have OTK : Hid (∀ u, OwnB u 0 da dn dc b → OwnB u 0 da n dc (b.take n)) := fun u hu => OwnG.cut byV_len (by decide) hu hnd
  have HB := hide hbu
  have HN := hide hn
  clear m hbu hn hb hus hby hdl hpl ROW RF hfc hfa
  go_enter Tryz.func67, Tryz.ntmps67
  go_upto_region 0 with fail
  refine wp_region_held_drew (S := fun u => u.cell? ⟨h.b, 1, none⟩ = some (.slice da dn dc)) (by kernel_rfl) c1 (fun hHeld => ?_)
  refine held_take (i := 0) (d := (some 4)) (v := ?_) rfl rfl (by kernel_rfl) (by kernel_rfl) (by kernel_rfl) (fun _ _ _ h => h) (Or.inl ⟨by rfl, ?_⟩) (by first | assumption | rfl | trivial) ?_
  rotate_left 1
  · (intro w hSw; (try dsimp only at hSw); (try subst hSw); go_simp; try with_reducible rfl)
  simp only [Act.put, List.setIfInBounds_toArray, List.set_cons_zero, List.set_cons_succ]
  refine held_take (i := 1) (d := (some 5)) (v := ?_) rfl rfl (by kernel_rfl) (by kernel_rfl) (by kernel_rfl) (fun _ _ _ h => h) (Or.inl ⟨by rfl, ?_⟩) (by first | assumption | rfl | trivial) ?_
  rotate_left 1
  · (intro w hSw; (try dsimp only at hSw); (try subst hSw); go_simp; try with_reducible rfl)
  simp only [Act.put, List.setIfInBounds_toArray, List.set_cons_zero, List.set_cons_succ]
  refine held_take (i := 2) (d := (some 6)) (v := ?_) rfl rfl (by kernel_rfl) (by kernel_rfl) (by kernel_rfl) (fun _ _ _ h => h) (Or.inl ⟨by rfl, ?_⟩) (by first | assumption | rfl | trivial) ?_
  rotate_left 1
  · (intro w hSw; (try dsimp only at hSw); (try subst hSw); go_simp; try with_reducible rfl)
  simp only [Act.put, List.setIfInBounds_toArray, List.set_cons_zero, List.set_cons_succ]
  refine held_take (i := 3) (d := (some 7)) (v := ?_) rfl rfl (by kernel_rfl) (by kernel_rfl) (by kernel_rfl) (fun _ _ _ h => h) (Or.inl ⟨by rfl, ?_⟩) (by first | assumption | rfl | trivial) ?_
  rotate_left 1
  · (intro w hSw; (try dsimp only at hSw); (try subst hSw); go_simp; try with_reducible rfl)
  simp only [Act.put, List.setIfInBounds_toArray, List.set_cons_zero, List.set_cons_succ]
  refine held_take (i := 5) (d := (some 9)) (v := ?_) rfl rfl (by kernel_rfl) (by kernel_rfl) (by kernel_rfl) (fun _ _ _ h => h) (Or.inl ⟨by rfl, ?_⟩) (by first | assumption | rfl | trivial) ?_
  rotate_left 1
  · (intro w hSw; (try dsimp only at hSw); (try subst hSw); go_simp; try with_reducible rfl)
  simp only [Act.put, List.setIfInBounds_toArray, List.set_cons_zero, List.set_cons_succ]
  refine held_take (i := 6) (d := (some 10)) (v := ?_) rfl rfl (by kernel_rfl) (by kernel_rfl) (by kernel_rfl) (fun _ _ _ h => h) (Or.inl ⟨by rfl, ?_⟩) (by first | assumption | rfl | trivial) ?_
  rotate_left 1
  · (intro w hSw; (try dsimp only at hSw); (try subst hSw); go_simp; try with_reducible rfl)
  simp only [Act.put, List.setIfInBounds_toArray, List.set_cons_zero, List.set_cons_succ]
  refine held_take (i := 7) (d := (some 11)) (v := ?_) rfl rfl (by kernel_rfl) (by kernel_rfl) (by kernel_rfl) (fun _ _ _ h => h) (Or.inl ⟨by rfl, ?_⟩) (by first | assumption | rfl | trivial) ?_
  rotate_left 1
  · (intro w hSw; (try dsimp only at hSw); (try subst hSw); go_simp; try with_reducible rfl)
  simp only [Act.put, List.setIfInBounds_toArray, List.set_cons_zero, List.set_cons_succ]
  refine held_take (i := 8) (d := (some 12)) (v := ?_) rfl rfl (by kernel_rfl) (by kernel_rfl) (by kernel_rfl) (fun _ _ _ h => h) (Or.inl ⟨by rfl, ?_⟩) (by first | assumption | rfl | trivial) ?_
  rotate_left 1
  · (intro w hSw; (try dsimp only at hSw); (try subst hSw); go_simp; try with_reducible rfl)
  simp only [Act.put, List.setIfInBounds_toArray, List.set_cons_zero, List.set_cons_succ]
  refine held_take (i := 9) (d := (some 13)) (v := ?_) rfl rfl (by kernel_rfl) (by kernel_rfl) (by kernel_rfl) (fun _ _ _ h => h) (Or.inl ⟨by rfl, ?_⟩) (by first | assumption | rfl | trivial) ?_
  rotate_left 1
  · (intro w hSw; (try dsimp only at hSw); (try subst hSw); go_simp; try with_reducible rfl)
  simp only [Act.put, List.setIfInBounds_toArray, List.set_cons_zero, List.set_cons_succ]
  refine held_take (i := 10) (d := (some 14)) (v := ?_) rfl rfl (by kernel_rfl) (by kernel_rfl) (by kernel_rfl) (fun _ _ _ h => h) (Or.inl ⟨by rfl, ?_⟩) (by first | assumption | rfl | trivial) ?_
  rotate_left 1
  · (intro w hSw; (try dsimp only at hSw); (try subst hSw); go_simp; try with_reducible rfl)
  simp only [Act.put, List.setIfInBounds_toArray, List.set_cons_zero, List.set_cons_succ]
  refine held_pair (i := 4) (j := 11) (by kernel_rfl) rfl (by rfl) rfl (by rfl) (fun K1 hK1 => ?_) (fun K1 hK1 => ?_)
  · go_simp
    refine hK1.out _ _ c1 ?_
    clear hK1
    refine held_next (i := 11) (by kernel_rfl) rfl (by rfl) (fun K1 hK1 => ?_)
    go_simp
    with_reducible refine (CL.out _ (Below.refl _ _).drew).mono ?_
    rintro e w2 ⟨xa, xc, rfl, ox, bx⟩
    have B2 : Hid (Below w.heap.size w w2) := bel_to (Below.refl _ _).drew (Nat.le_refl _) bx
    have OX : Hid (OwnB w2 w.heap.size xa (dn - n) xc (b.drop n)) := ox
    have q1 : w2.cell? ⟨h.b, 1, none⟩ = some (.slice da dn dc) := (B2.out.cell (p := ⟨h.b, 1, none⟩) (World.block_lt_of_cell? w _ c1)).trans c1
    have q2 : w2.cell? ⟨h.b, 2, none⟩ = some (.slice pa pn pc) := (B2.out.cell (p := ⟨h.b, 2, none⟩) (World.block_lt_of_cell? w _ c2)).trans c2
    clear ox bx CL
    go_wp2_with fail
    refine hK1.out _ _ q1 ?_
    clear hK1
    refine held_take (i := 12) (d := (some 16)) (v := ?_) rfl rfl (by kernel_rfl) (by kernel_rfl) (by kernel_rfl) (fun _ _ _ h => h) (Or.inl ⟨by rfl, ?_⟩) (by first | assumption | rfl | trivial) ?_
    rotate_left 1
    · (intro w hSw; (try dsimp only at hSw); (try subst hSw); go_simp; try with_reducible rfl)
    simp only [Act.put, List.setIfInBounds_toArray, List.set_cons_zero, List.set_cons_succ]
    refine held_next (i := 13) (by kernel_rfl) rfl (by rfl) (fun K1 hK1 => ?_)
    go_simp
    obtain ⟨u6, hu6⟩ : ∃ u6, Hid ((w2.alloc (.cells #[.int .i64 0, .slice xa (dn - n) xc] 128)) = u6) := ⟨_, rfl⟩
    have NC : Hid (∀ j u, (puV (0, (xa, dn - n, xc)))[j]? = some u → u6.cell? ((⟨w2.heap.size, 0, none⟩ : Addr).add j) = some u) := by rw [← hu6.out]; exact pu_cells w2 0 (0, (xa, dn - n, xc)) _ rfl
    have B6 : Hid (Below w2.heap.size w2 u6) := by rw [← hu6.out]; exact bel_al (Below.refl _ _) (Nat.le_refl _) _
    rw [hu6.out]
    have B7 : Hid (Below w.heap.size w u6) := bel_to B2.out (Nat.le_refl _) B6.out
    have r1 : u6.cell? ⟨h.b, 1, none⟩ = some (.slice da dn dc) := (B7.out.cell (p := ⟨h.b, 1, none⟩) (World.block_lt_of_cell? w _ c1)).trans c1
    have r2 : u6.cell? ⟨h.b, 2, none⟩ = some (.slice pa pn pc) := (B7.out.cell (p := ⟨h.b, 2, none⟩) (World.block_lt_of_cell? w _ c2)).trans c2
    refine hK1.out _ _ r1 ?_
    clear hK1
    refine held_next (i := 14) (by kernel_rfl) rfl (by rfl) (fun K1 hK1 => ?_)
    refine wp_append_lies _ (.tmp 8) (.tmp 17) 100 rfl 0 128 i1 (.agg #[.int .i64 0, .slice none 0 0]) 2 32 Tryz.underlying100 hi1 hz10 hz11 hz12 rfl (by decide) (.slice pa pn pc) pn (h.hp.flatMap puV) rfl (OwnG.below OP.out B7.out (Nat.le_refl _)) ⟨w2.heap.size, 0, none⟩ 1 1 (puV (0, (xa, dn - n, xc))) rfl rfl NC.out (puV_one1 _) (by omega) (by unfold maxLen; omega) (by omega) (Nat.zero_le _) _ rfl ?_
    intro gC cC wC oC grC atC ltC
    have GR : Hid (Ch (fun j => (h3V h.p).ownBlock = some j) w wC) := by rw [hp]; exact ((Ch.of_below B7.out).more (fun _ _ h => h.elim)).trans (Ch.grown grC)
    have OXC : Hid (OwnB wC w.heap.size xa (dn - n) xc (b.drop n)) := OwnG.ch (OwnG.below OX.out B6.out (Nat.le_refl _)) (Ch.grown grC) (fun j hj e => by
      have h1 := (OwnG.cellsT OX.out j hj).2
      have h2 := (OwnG.cellsT OP.out j e).1.lt
      omega)
    have PC := hide (M.out.pushCut HB.out HN.out (x := (xa, dn - n, xc)) (P := pn) (g' := gC) (c' := cC) GR.out (OwnG.mono OXC.out (Nat.zero_le _)) (fun j hj => (OwnG.cellsT OXC.out j hj).2) (by
      show OwnG _ _ _ _ _ _ _ _ _
      unfold OwnG
      rw [List.flatMap_append, flat_pu]
      exact oC) (by
      rw [hp]
      rcases atC with e | e
      · exact Or.inl e
      · exact Or.inr (by rw [e]; exact B7.out.size)))
    have FB : wC.heap[h.b]? = some (.cells #[.int .i64 (k : Int), .slice da dn dc, .slice pa pn pc] 102 (0, 0)) := by
      have e := (GR.out.block h.b (M.out.lt (Or.inl rfl)) (fun e => (OwnG.cellsT M.out.pend h.b e).1.ne M.out.cells (by decide) rfl)).trans M.out.str
      rw [hd, hp] at e
      exact e
    have z1 : wC.cell? ⟨h.b, 1, none⟩ = some (.slice da dn dc) := by rw [cell_of_row wC h.b 1 _ _ (0, 0) FB]; rfl
    have z2 : wC.cell? ⟨h.b, 2, none⟩ = some (.slice pa pn pc) := by rw [cell_of_row wC h.b 2 _ _ (0, 0) FB]; rfl
    have z3 := frozen_of_row wC h.b 2 _ _ FB
    clear oC grC atC ltC OXC NC B6 B7 OX B2 GR OP FB hu6 M HB HN r1 r2 q1 q2 c1 c2
    go_simp
    refine hK1.out _ _ z1 ?_
    clear hK1
    refine held_take (i := 15) (d := (some 19)) (v := ?_) rfl rfl (by kernel_rfl) (by kernel_rfl) (by kernel_rfl) (fun _ _ _ h => h) (Or.inl ⟨by rfl, ?_⟩) (by first | assumption | rfl | trivial) ?_
    rotate_left 1
    · (intro w hSw; (try dsimp only at hSw); (try subst hSw); go_simp; try with_reducible rfl)
    simp only [Act.put, List.setIfInBounds_toArray, List.set_cons_zero, List.set_cons_succ]
    refine held_take (i := 16) (d := (some 20)) (v := ?_) rfl rfl (by kernel_rfl) (by kernel_rfl) (by kernel_rfl) (fun _ _ _ h => h) (Or.inl ⟨by rfl, ?_⟩) (by first | assumption | rfl | trivial) ?_
    rotate_left 1
    · (intro w hSw; (try dsimp only at hSw); (try subst hSw); go_simp; try with_reducible rfl)
    simp only [Act.put, List.setIfInBounds_toArray, List.set_cons_zero, List.set_cons_succ]
    refine held_next (i := 17) (by kernel_rfl) rfl (by rfl) (fun K1 hK1 => ?_)
    obtain ⟨W3, hW3⟩ : ∃ W3, Hid (wC.setCell ⟨h.b, 2, none⟩ (.slice (some ⟨gC, 0, none⟩) (pn + 1) cC) = W3) := ⟨_, rfl⟩
    rw [hW3.out] at PC
    have v1 : W3.cell? ⟨h.b, 1, none⟩ = some (.slice da dn dc) := by
      have := PC.out.1.c1
      dsimp only at this
      rw [hd] at this
      exact this
    have v2 : W3.frozen? ⟨h.b, 1, none⟩ = false := PC.out.1.fz 1
    have FIN : Hid (StepP w (W3.setCell ⟨h.b, 1, none⟩ (.slice da n dc)) h k (b.take n) su (us ++ [⟨0, true, (n : Int)⟩])) := by
      obtain ⟨m1, s1, k1⟩ := PC.out
      have od := m1.data
      dsimp only at od
      rw [hd] at od
      have hob : (h3V (da, n, dc)).ownBlock = (h3V h.d).ownBlock := by rw [hd]; cases da <;> rfl
      have m2 := m1.putData (u := W3) (Ch.refl _ _) (d' := (da, n, dc)) (OTK.out _ od) (fun j hj => Or.inl (by dsimp only; rw [← hob]; exact hj))
      refine stepP_join (h1 := { h with p := (some ⟨gC, 0, none⟩, pn + 1, cC), ps := h.ps ++ [(0, b.drop n)], hp := h.hp ++ [(0, (xa, dn - n, xc))] }) rfl s1 k1 ⟨{ h with d := (da, n, dc), p := (some ⟨gC, 0, none⟩, pn + 1, cC), ps := h.ps ++ [(0, b.drop n)], hp := h.hp ++ [(0, (xa, dn - n, xc))] }, rfl, m2, fun j hj => ?_, (ch_set W3 h.b 1 _).more (fun j _ e => Or.inl e)⟩
      rcases hj with e | e | e | e
      · exact Or.inl (Or.inl e)
      · exact Or.inl (Or.inr (Or.inl (by dsimp only at e ⊢; rw [← hob]; exact e)))
      · exact Or.inl (Or.inr (Or.inr (Or.inl e)))
      · exact Or.inl (Or.inr (Or.inr (Or.inr e)))
    clear PC OTK OD
    go_simp
    rw [hW3.out]
    refine hK1.out _ _ v1 ?_
    clear hK1 hHeld hW3 z1 z2 z3
    refine wpAnyH_done (by kernel_rfl) ?_ _
    go_wp2
    go_end0
    exact ⟨rfl, FIN.out⟩
  · go_simp
    with_reducible refine (CL.out _ (Below.refl _ _).drew).mono ?_
    rintro e w2 ⟨xa, xc, rfl, ox, bx⟩
    have B2 : Hid (Below w.heap.size w w2) := bel_to (Below.refl _ _).drew (Nat.le_refl _) bx
    have OX : Hid (OwnB w2 w.heap.size xa (dn - n) xc (b.drop n)) := ox
    have q1 : w2.cell? ⟨h.b, 1, none⟩ = some (.slice da dn dc) := (B2.out.cell (p := ⟨h.b, 1, none⟩) (World.block_lt_of_cell? w _ c1)).trans c1
    have q2 : w2.cell? ⟨h.b, 2, none⟩ = some (.slice pa pn pc) := (B2.out.cell (p := ⟨h.b, 2, none⟩) (World.block_lt_of_cell? w _ c2)).trans c2
    clear ox bx CL
    go_wp2_with fail
    refine hK1.out _ _ q1 ?_
    clear hK1
    refine held_take (i := 12) (d := (some 16)) (v := ?_) rfl rfl (by kernel_rfl) (by kernel_rfl) (by kernel_rfl) (fun _ _ _ h => h) (Or.inl ⟨by rfl, ?_⟩) (by first | assumption | rfl | trivial) ?_
    rotate_left 1
    · (intro w hSw; (try dsimp only at hSw); (try subst hSw); go_simp; try with_reducible rfl)
    simp only [Act.put, List.setIfInBounds_toArray, List.set_cons_zero, List.set_cons_succ]
    refine held_pair (i := 4) (j := 13) (by kernel_rfl) rfl (by rfl) rfl (by rfl) (fun K1 hK1 => ?_) (fun K1 hK1 => ?_)
    · go_simp
      refine hK1.out _ _ q1 ?_
      clear hK1
      refine held_next (i := 13) (by kernel_rfl) rfl (by rfl) (fun K1 hK1 => ?_)
      go_simp
      obtain ⟨u6, hu6⟩ : ∃ u6, Hid ((w2.alloc (.cells #[.int .i64 0, .slice xa (dn - n) xc] 128)) = u6) := ⟨_, rfl⟩
      have NC : Hid (∀ j u, (puV (0, (xa, dn - n, xc)))[j]? = some u → u6.cell? ((⟨w2.heap.size, 0, none⟩ : Addr).add j) = some u) := by rw [← hu6.out]; exact pu_cells w2 0 (0, (xa, dn - n, xc)) _ rfl
      have B6 : Hid (Below w2.heap.size w2 u6) := by rw [← hu6.out]; exact bel_al (Below.refl _ _) (Nat.le_refl _) _
      rw [hu6.out]
      have B7 : Hid (Below w.heap.size w u6) := bel_to B2.out (Nat.le_refl _) B6.out
      have r1 : u6.cell? ⟨h.b, 1, none⟩ = some (.slice da dn dc) := (B7.out.cell (p := ⟨h.b, 1, none⟩) (World.block_lt_of_cell? w _ c1)).trans c1
      have r2 : u6.cell? ⟨h.b, 2, none⟩ = some (.slice pa pn pc) := (B7.out.cell (p := ⟨h.b, 2, none⟩) (World.block_lt_of_cell? w _ c2)).trans c2
      refine hK1.out _ _ r1 ?_
      clear hK1
      refine held_next (i := 14) (by kernel_rfl) rfl (by rfl) (fun K1 hK1 => ?_)
      refine wp_append_lies _ (.tmp 8) (.tmp 17) 100 rfl 0 128 i1 (.agg #[.int .i64 0, .slice none 0 0]) 2 32 Tryz.underlying100 hi1 hz10 hz11 hz12 rfl (by decide) (.slice pa pn pc) pn (h.hp.flatMap puV) rfl (OwnG.below OP.out B7.out (Nat.le_refl _)) ⟨w2.heap.size, 0, none⟩ 1 1 (puV (0, (xa, dn - n, xc))) rfl rfl NC.out (puV_one1 _) (by omega) (by unfold maxLen; omega) (by omega) (Nat.zero_le _) _ rfl ?_
      intro gC cC wC oC grC atC ltC
      have GR : Hid (Ch (fun j => (h3V h.p).ownBlock = some j) w wC) := by rw [hp]; exact ((Ch.of_below B7.out).more (fun _ _ h => h.elim)).trans (Ch.grown grC)
      have OXC : Hid (OwnB wC w.heap.size xa (dn - n) xc (b.drop n)) := OwnG.ch (OwnG.below OX.out B6.out (Nat.le_refl _)) (Ch.grown grC) (fun j hj e => by
        have h1 := (OwnG.cellsT OX.out j hj).2
        have h2 := (OwnG.cellsT OP.out j e).1.lt
        omega)
      have PC := hide (M.out.pushCut HB.out HN.out (x := (xa, dn - n, xc)) (P := pn) (g' := gC) (c' := cC) GR.out (OwnG.mono OXC.out (Nat.zero_le _)) (fun j hj => (OwnG.cellsT OXC.out j hj).2) (by
        show OwnG _ _ _ _ _ _ _ _ _
        unfold OwnG
        rw [List.flatMap_append, flat_pu]
        exact oC) (by
        rw [hp]
        rcases atC with e | e
        · exact Or.inl e
        · exact Or.inr (by rw [e]; exact B7.out.size)))
      have FB : wC.heap[h.b]? = some (.cells #[.int .i64 (k : Int), .slice da dn dc, .slice pa pn pc] 102 (0, 0)) := by
        have e := (GR.out.block h.b (M.out.lt (Or.inl rfl)) (fun e => (OwnG.cellsT M.out.pend h.b e).1.ne M.out.cells (by decide) rfl)).trans M.out.str
        rw [hd, hp] at e
        exact e
      have z1 : wC.cell? ⟨h.b, 1, none⟩ = some (.slice da dn dc) := by rw [cell_of_row wC h.b 1 _ _ (0, 0) FB]; rfl
      have z2 : wC.cell? ⟨h.b, 2, none⟩ = some (.slice pa pn pc) := by rw [cell_of_row wC h.b 2 _ _ (0, 0) FB]; rfl
      have z3 := frozen_of_row wC h.b 2 _ _ FB
      clear oC grC atC ltC OXC NC B6 B7 OX B2 GR OP FB hu6 M HB HN r1 r2 q1 q2 c1 c2
      go_simp
      refine hK1.out _ _ z1 ?_
      clear hK1
      refine held_take (i := 15) (d := (some 19)) (v := ?_) rfl rfl (by kernel_rfl) (by kernel_rfl) (by kernel_rfl) (fun _ _ _ h => h) (Or.inl ⟨by rfl, ?_⟩) (by first | assumption | rfl | trivial) ?_
      rotate_left 1
      · (intro w hSw; (try dsimp only at hSw); (try subst hSw); go_simp; try with_reducible rfl)
      simp only [Act.put, List.setIfInBounds_toArray, List.set_cons_zero, List.set_cons_succ]
      refine held_take (i := 16) (d := (some 20)) (v := ?_) rfl rfl (by kernel_rfl) (by kernel_rfl) (by kernel_rfl) (fun _ _ _ h => h) (Or.inl ⟨by rfl, ?_⟩) (by first | assumption | rfl | trivial) ?_
      rotate_left 1
      · (intro w hSw; (try dsimp only at hSw); (try subst hSw); go_simp; try with_reducible rfl)
      simp only [Act.put, List.setIfInBounds_toArray, List.set_cons_zero, List.set_cons_succ]
      refine held_next (i := 17) (by kernel_rfl) rfl (by rfl) (fun K1 hK1 => ?_)
      obtain ⟨W3, hW3⟩ : ∃ W3, Hid (wC.setCell ⟨h.b, 2, none⟩ (.slice (some ⟨gC, 0, none⟩) (pn + 1) cC) = W3) := ⟨_, rfl⟩
      rw [hW3.out] at PC
      have v1 : W3.cell? ⟨h.b, 1, none⟩ = some (.slice da dn dc) := by
        have := PC.out.1.c1
        dsimp only at this
        rw [hd] at this
        exact this
      have v2 : W3.frozen? ⟨h.b, 1, none⟩ = false := PC.out.1.fz 1
      have FIN : Hid (StepP w (W3.setCell ⟨h.b, 1, none⟩ (.slice da n dc)) h k (b.take n) su (us ++ [⟨0, true, (n : Int)⟩])) := by
        obtain ⟨m1, s1, k1⟩ := PC.out
        have od := m1.data
        dsimp only at od
        rw [hd] at od
        have hob : (h3V (da, n, dc)).ownBlock = (h3V h.d).ownBlock := by rw [hd]; cases da <;> rfl
        have m2 := m1.putData (u := W3) (Ch.refl _ _) (d' := (da, n, dc)) (OTK.out _ od) (fun j hj => Or.inl (by dsimp only; rw [← hob]; exact hj))
        refine stepP_join (h1 := { h with p := (some ⟨gC, 0, none⟩, pn + 1, cC), ps := h.ps ++ [(0, b.drop n)], hp := h.hp ++ [(0, (xa, dn - n, xc))] }) rfl s1 k1 ⟨{ h with d := (da, n, dc), p := (some ⟨gC, 0, none⟩, pn + 1, cC), ps := h.ps ++ [(0, b.drop n)], hp := h.hp ++ [(0, (xa, dn - n, xc))] }, rfl, m2, fun j hj => ?_, (ch_set W3 h.b 1 _).more (fun j _ e => Or.inl e)⟩
        rcases hj with e | e | e | e
        · exact Or.inl (Or.inl e)
        · exact Or.inl (Or.inr (Or.inl (by dsimp only at e ⊢; rw [← hob]; exact e)))
        · exact Or.inl (Or.inr (Or.inr (Or.inl e)))
        · exact Or.inl (Or.inr (Or.inr (Or.inr e)))
      clear PC OTK OD
      go_simp
      rw [hW3.out]
      refine hK1.out _ _ v1 ?_
      clear hK1 hHeld hW3 z1 z2 z3
      refine wpAnyH_done (by kernel_rfl) ?_ _
      go_wp2
      go_end0
      exact ⟨rfl, FIN.out⟩
    · go_simp
      obtain ⟨u6, hu6⟩ : ∃ u6, Hid ((w2.alloc (.cells #[.int .i64 0, .slice xa (dn - n) xc] 128)) = u6) := ⟨_, rfl⟩
      have NC : Hid (∀ j u, (puV (0, (xa, dn - n, xc)))[j]? = some u → u6.cell? ((⟨w2.heap.size, 0, none⟩ : Addr).add j) = some u) := by rw [← hu6.out]; exact pu_cells w2 0 (0, (xa, dn - n, xc)) _ rfl
      have B6 : Hid (Below w2.heap.size w2 u6) := by rw [← hu6.out]; exact bel_al (Below.refl _ _) (Nat.le_refl _) _
      rw [hu6.out]
      have B7 : Hid (Below w.heap.size w u6) := bel_to B2.out (Nat.le_refl _) B6.out
      have r1 : u6.cell? ⟨h.b, 1, none⟩ = some (.slice da dn dc) := (B7.out.cell (p := ⟨h.b, 1, none⟩) (World.block_lt_of_cell? w _ c1)).trans c1
      have r2 : u6.cell? ⟨h.b, 2, none⟩ = some (.slice pa pn pc) := (B7.out.cell (p := ⟨h.b, 2, none⟩) (World.block_lt_of_cell? w _ c2)).trans c2
      refine hK1.out _ _ r1 ?_
      clear hK1
      refine held_next (i := 4) (by kernel_rfl) rfl (by rfl) (fun K1 hK1 => ?_)
      go_simp
      refine hK1.out _ _ r1 ?_
      clear hK1
      refine held_next (i := 14) (by kernel_rfl) rfl (by rfl) (fun K1 hK1 => ?_)
      refine wp_append_lies _ (.tmp 8) (.tmp 17) 100 rfl 0 128 i1 (.agg #[.int .i64 0, .slice none 0 0]) 2 32 Tryz.underlying100 hi1 hz10 hz11 hz12 rfl (by decide) (.slice pa pn pc) pn (h.hp.flatMap puV) rfl (OwnG.below OP.out B7.out (Nat.le_refl _)) ⟨w2.heap.size, 0, none⟩ 1 1 (puV (0, (xa, dn - n, xc))) rfl rfl NC.out (puV_one1 _) (by omega) (by unfold maxLen; omega) (by omega) (Nat.zero_le _) _ rfl ?_
      intro gC cC wC oC grC atC ltC
      have GR : Hid (Ch (fun j => (h3V h.p).ownBlock = some j) w wC) := by rw [hp]; exact ((Ch.of_below B7.out).more (fun _ _ h => h.elim)).trans (Ch.grown grC)
      have OXC : Hid (OwnB wC w.heap.size xa (dn - n) xc (b.drop n)) := OwnG.ch (OwnG.below OX.out B6.out (Nat.le_refl _)) (Ch.grown grC) (fun j hj e => by
        have h1 := (OwnG.cellsT OX.out j hj).2
        have h2 := (OwnG.cellsT OP.out j e).1.lt
        omega)
      have PC := hide (M.out.pushCut HB.out HN.out (x := (xa, dn - n, xc)) (P := pn) (g' := gC) (c' := cC) GR.out (OwnG.mono OXC.out (Nat.zero_le _)) (fun j hj => (OwnG.cellsT OXC.out j hj).2) (by
        show OwnG _ _ _ _ _ _ _ _ _
        unfold OwnG
        rw [List.flatMap_append, flat_pu]
        exact oC) (by
        rw [hp]
        rcases atC with e | e
        · exact Or.inl e
        · exact Or.inr (by rw [e]; exact B7.out.size)))
      have FB : wC.heap[h.b]? = some (.cells #[.int .i64 (k : Int), .slice da dn dc, .slice pa pn pc] 102 (0, 0)) := by
        have e := (GR.out.block h.b (M.out.lt (Or.inl rfl)) (fun e => (OwnG.cellsT M.out.pend h.b e).1.ne M.out.cells (by decide) rfl)).trans M.out.str
        rw [hd, hp] at e
        exact e
      have z1 : wC.cell? ⟨h.b, 1, none⟩ = some (.slice da dn dc) := by rw [cell_of_row wC h.b 1 _ _ (0, 0) FB]; rfl
      have z2 : wC.cell? ⟨h.b, 2, none⟩ = some (.slice pa pn pc) := by rw [cell_of_row wC h.b 2 _ _ (0, 0) FB]; rfl
      have z3 := frozen_of_row wC h.b 2 _ _ FB
      clear oC grC atC ltC OXC NC B6 B7 OX B2 GR OP FB hu6 M HB HN r1 r2 q1 q2 c1 c2
      go_simp
      refine hK1.out _ _ z1 ?_
      clear hK1
      refine held_take (i := 15) (d := (some 19)) (v := ?_) rfl rfl (by kernel_rfl) (by kernel_rfl) (by kernel_rfl) (fun _ _ _ h => h) (Or.inl ⟨by rfl, ?_⟩) (by first | assumption | rfl | trivial) ?_
      rotate_left 1
      · (intro w hSw; (try dsimp only at hSw); (try subst hSw); go_simp; try with_reducible rfl)
      simp only [Act.put, List.setIfInBounds_toArray, List.set_cons_zero, List.set_cons_succ]
      refine held_take (i := 16) (d := (some 20)) (v := ?_) rfl rfl (by kernel_rfl) (by kernel_rfl) (by kernel_rfl) (fun _ _ _ h => h) (Or.inl ⟨by rfl, ?_⟩) (by first | assumption | rfl | trivial) ?_
      rotate_left 1
      · (intro w hSw; (try dsimp only at hSw); (try subst hSw); go_simp; try with_reducible rfl)
      simp only [Act.put, List.setIfInBounds_toArray, List.set_cons_zero, List.set_cons_succ]
      refine held_next (i := 17) (by kernel_rfl) rfl (by rfl) (fun K1 hK1 => ?_)
      obtain ⟨W3, hW3⟩ : ∃ W3, Hid (wC.setCell ⟨h.b, 2, none⟩ (.slice (some ⟨gC, 0, none⟩) (pn + 1) cC) = W3) := ⟨_, rfl⟩
      rw [hW3.out] at PC
      have v1 : W3.cell? ⟨h.b, 1, none⟩ = some (.slice da dn dc) := by
        have := PC.out.1.c1
        dsimp only at this
        rw [hd] at this
        exact this
      have v2 : W3.frozen? ⟨h.b, 1, none⟩ = false := PC.out.1.fz 1
      have FIN : Hid (StepP w (W3.setCell ⟨h.b, 1, none⟩ (.slice da n dc)) h k (b.take n) su (us ++ [⟨0, true, (n : Int)⟩])) := by
        obtain ⟨m1, s1, k1⟩ := PC.out
        have od := m1.data
        dsimp only at od
        rw [hd] at od
        have hob : (h3V (da, n, dc)).ownBlock = (h3V h.d).ownBlock := by rw [hd]; cases da <;> rfl
        have m2 := m1.putData (u := W3) (Ch.refl _ _) (d' := (da, n, dc)) (OTK.out _ od) (fun j hj => Or.inl (by dsimp only; rw [← hob]; exact hj))
        refine stepP_join (h1 := { h with p := (some ⟨gC, 0, none⟩, pn + 1, cC), ps := h.ps ++ [(0, b.drop n)], hp := h.hp ++ [(0, (xa, dn - n, xc))] }) rfl s1 k1 ⟨{ h with d := (da, n, dc), p := (some ⟨gC, 0, none⟩, pn + 1, cC), ps := h.ps ++ [(0, b.drop n)], hp := h.hp ++ [(0, (xa, dn - n, xc))] }, rfl, m2, fun j hj => ?_, (ch_set W3 h.b 1 _).more (fun j _ e => Or.inl e)⟩
        rcases hj with e | e | e | e
        · exact Or.inl (Or.inl e)
        · exact Or.inl (Or.inr (Or.inl (by dsimp only at e ⊢; rw [← hob]; exact e)))
        · exact Or.inl (Or.inr (Or.inr (Or.inl e)))
        · exact Or.inl (Or.inr (Or.inr (Or.inr e)))
      clear PC OTK OD
      go_simp
      rw [hW3.out]
      refine hK1.out _ _ v1 ?_
      clear hK1 hHeld hW3 z1 z2 z3
      refine wpAnyH_done (by kernel_rfl) ?_ _
      go_wp2
      go_end0
      exact ⟨rfl, FIN.out⟩
end Go.Proofs.YthlkmjaflomflaaGreat
