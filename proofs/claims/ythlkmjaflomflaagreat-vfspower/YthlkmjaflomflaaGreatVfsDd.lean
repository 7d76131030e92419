/-
  The landed file system: a turn more (change); a file more (bear); SyncDir: contracts, for every world.
  Conditions: the file system lies in memory; as each theorem says.
-/
import Derived.Test.YthlkmjaflomflaaGreatVfsDc
import Derived.Test.YthlkmjaflomflaaGreatVfsXa
import Derived.Deep.AppendLies
namespace Go.Proofs.YthlkmjaflomflaaGreat
open Go.RowKit Go.Maps
set_option maxRecDepth 20000
set_option linter.unusedVariables false

theorem Tryz.infoTu : (Tryz.prog.info? 86).map (fun i => (i.zero, i.size, i.bytes)) = some (some (.agg #[.int .i64 0, .string .empty, .string .empty, .pointer none]), 4, 48) := by kernel_rfl
theorem GoodV.turn {F : Fs} (h : GoodV F) {t : Tn} (ht : t.k ≤ 2 ∧ (t.k = 0 → t.f < F.files.length)) : GoodV { F with turns := F.turns ++ [t] } := by
  refine ⟨h.sure, fun x hx => ?_, h.cuts, h.byte, h.aft, h.knd⟩
  rcases List.mem_append.1 hx with e | e
  · exact h.turns x e
  · obtain rfl := List.mem_singleton.1 e
    exact ht
theorem dirF_snoc (F : Fs) (t : Tn) : dirF { F with turns := F.turns ++ [t] } = turnD (dirF F) t := by
  unfold dirF turnsD
  rw [List.foldl_append]
  rfl
/-- A turn more. -/
theorem LB.change {w wA u4 : World} {g : Nat} {S : Nat → Prop} {F : Fs} {fb : List Nat} {fh : List Fh} {bn bc : Nat} {at' : Option Addr} {ct : Nat} (B : LB w g S F fb fh bn bc at' ct) (hN : GoodN F) {t : Tn} (ht : OkT1 (dirF F) t) (kA : Ch (fun j => j = bn) w wA) {n : Nat} (mA : MapS wA bn n (nmV fb (turnD (dirF F) t)))
    {N g' c' : Nat} (hNT : F.turns.length = N) (o : OwnTu fb u4 0 (some ⟨g', 0, none⟩) (N + 1) c' (F.turns ++ [t])) (gr : Ch (fun j => (Value.slice at' N ct).ownBlock = some j) wA u4) (lies : (Value.slice at' N ct).ownBlock = some g' ∨ w.heap.size ≤ g') :
    LB (u4.setCell ⟨g, 2, none⟩ (.slice (some ⟨g', 0, none⟩) (N + 1) c')) g (fun j => S j ∨ (w.heap.size ≤ j ∧ j < u4.heap.size)) { F with turns := F.turns ++ [t] } fb fh bn bc (some ⟨g', 0, none⟩) c' ∧ Ch S w (u4.setCell ⟨g, 2, none⟩ (.slice (some ⟨g', 0, none⟩) (N + 1) c')) := by
  subst hNT
  have hl : (F.turns ++ [t]).length = F.turns.length + 1 := by simp
  rw [← hl] at o ⊢
  have hb : g' < u4.heap.size := (OwnG.cellsT o g' rfl).1.lt
  have hbn := B.names.isMap
  have k4 : Ch (fun j => j = bn ∨ (Value.slice at' F.turns.length ct).ownBlock = some j) w u4 := (kA.more (fun _ _ e => Or.inl e)).trans (gr.more (fun _ _ e => Or.inr e))
  have ks : Ch (fun j => j = g) u4 (u4.setCell ⟨g, 2, none⟩ (.slice (some ⟨g', 0, none⟩) (F.turns ++ [t]).length c')) := ch_set u4 g 2 _
  have hg4 : u4.heap[g]? = some (.cells (lfC F bn bc at' ct) 67 (0, 0)) := (k4.block g (B.lt g B.own) (fun e => by
    rcases e with e | e
    · exact hbn.ne B.cellsT e.symm
    · exact (OwnG.cellsT B.turns g e).1.ne B.cellsT (by decide) rfl)).trans B.str
  have cg4 : CellsT u4 g 67 := ⟨_, _, hg4⟩
  have kall : Ch (fun j => j = bn ∨ (Value.slice at' F.turns.length ct).ownBlock = some j ∨ j = g) w (u4.setCell ⟨g, 2, none⟩ (.slice (some ⟨g', 0, none⟩) (F.turns ++ [t]).length c')) := (k4.more (fun _ _ e => e.elim Or.inl (fun e => Or.inr (Or.inl e)))).trans (ks.more (fun _ _ e => Or.inr (Or.inr e)))
  refine ⟨⟨Or.inl B.own, ?_, ?_, ?_, ?_, B.ne, Or.inl B.bnS, Or.inl B.bcS, ?_, ?_, B.fbs, B.len, ?_, fun i h j hi hj => Or.inl (B.filesS i h j hi hj), B.apart⟩, kall.more (fun j _ e => ?_)⟩
  · rintro j (e | e)
    · exact Nat.lt_of_lt_of_le (B.lt j e) kall.size
    · exact Nat.lt_of_lt_of_le e.2 ks.size
  · rw [heap_setCell_same u4 g 2 _ _ _ hg4]
    rfl
  · rw [dirF_snoc]
    have m4 := (mA.ch gr (fun e => by
      have c1 := (OwnG.cellsT B.turns bn e).1
      exact hbn.ne c1 rfl)).ch ks (fun e => hbn.ne B.cellsT e)
    exact m4.tightD (hN.dir.turn ht)
  · exact B.certain.ch kall (fun e => by
      rcases e with e | e | e
      · exact B.ne e.symm
      · exact B.certain.isMap.ne (OwnG.cellsT B.turns bc e).1 rfl
      · exact B.certain.isMap.ne B.cellsT e)
  · exact OwnG.ch o ks (fun b hb => (OwnG.cellsT o b hb).1.ne cg4 (by decide))
  · intro b hb2
    simp [Value.ownBlock] at hb2
    subst hb2
    rcases lies with e | e
    · exact Or.inl (B.turnsS _ e)
    · exact Or.inr ⟨e, hb⟩
  · intro i h x hi hx
    have m := B.files i h x hi hx
    exact m.ch kall (fun j hj e => by
      rcases e with e | e | e
      · exact hbn.ne3 (m.kind hj) e.symm
      · exact ne_ty3 (OwnG.cellsT B.turns j e).1 (m.kind hj) (by decide) (by decide) (by decide) rfl
      · exact ne_ty3 B.cellsT (m.kind hj) (by decide) (by decide) (by decide) e.symm)
  · rcases e with e | e | e
    · exact e ▸ B.bnS
    · exact B.turnsS j e
    · exact e ▸ B.own
theorem tu_cells (w : World) (fb : List Nat) (t : Tn) (e : TypeId) : ∀ j u, (tuV fb t)[j]? = some u → (w.alloc (.cells (tuV fb t).toArray e)).cell? ((⟨w.heap.size, 0, none⟩ : Addr).add j) = some u := by
  intro j u h
  unfold tuV at h ⊢
  split at h
  · rename_i hk
    rw [if_pos hk]
    match j, h with
    | 0, h => simp at h; subst h; rw [Addr.add_lit, World.cell?_alloc_mark]; rfl
    | 1, h => simp at h; subst h; rw [Addr.add_lit, World.cell?_alloc_mark]; rfl
    | 2, h => simp at h; subst h; rw [Addr.add_lit, World.cell?_alloc_mark]; rfl
    | 3, h => simp at h; subst h; rw [Addr.add_lit, World.cell?_alloc_mark]; rfl
  · rename_i hk
    rw [if_neg hk]
    match j, h with
    | 0, h => simp at h; subst h; rw [Addr.add_lit, World.cell?_alloc_mark]; rfl
    | 1, h => simp at h; subst h; rw [Addr.add_lit, World.cell?_alloc_mark]; rfl
    | 2, h => simp at h; subst h; rw [Addr.add_lit, World.cell?_alloc_mark]; rfl
    | 3, h => simp at h; subst h; rw [Addr.add_lit, World.cell?_alloc_mark]; rfl
/-- A turn by its four words. -/
theorem tuV_four (fb : List Nat) (t : Tn) : ∃ (k : Int) (a b : ByteArray) (p : Option Addr), tuV fb t = [.int .i64 k, .string a, .string b, .pointer p] := by
  unfold tuV ptrV
  split
  · exact ⟨_, _, _, _, rfl⟩
  · exact ⟨_, _, _, _, rfl⟩

set_option maxHeartbeats 4000000 in
theorem lchange_any (w : World) (g : Nat) (S : Nat → Prop) (F : Fs) (fb : List Nat) (fh : List Fh) (bn bc : Nat) (at' : Option Addr) (ct m : Nat) (t : Tn) (B : LB w g S F fb fh bn bc at' ct) (hN : GoodN F) (hL : Lim m F) (hm : m ≤ 1073741825) (ht : OkT1 (dirF F) t) (hk : t.k ≤ 2) :
    Calls Tryz.prog 52 #[.pointer (some ⟨g, 0, none⟩), .agg (tuV fb t).toArray] w fun e w' => e = .returned (.tuple #[]) ∧ ∃ S' a' c', LB w' g S' { F with turns := F.turns ++ [t] } fb fh bn bc a' c' ∧ (∀ k, S' k → S k ∨ w.heap.size ≤ k) ∧ Ch S w w' := by
  obtain ⟨i1, hi1, hz10, hz11, hz12⟩ := info_parts Tryz.infoTu
  have hdl : (dirF F).length < 1099511627776 := by
    have := turnsD_len F.turns F.sure
    have h1 := hL.sure
    have h2 := hL.turns
    unfold dirF
    omega
  obtain ⟨NT, hNT⟩ : ∃ NT, Hid (F.turns.length = NT) := ⟨_, rfl⟩
  have hNTb : NT ≤ 1073741825 := by have := hL.turns; have := hNT.out; omega
  have OK := hide ht
  have HN := hide hN
  have RV := hide B
  have DO := hide (fun u (hu : MapS u bn (dirF F).length (nmV fb (dirF F))) => ldo_any u bn (dirF F).length fb (dirF F) t hu ht hk hdl)
  have OT := hide B.turns
  rw [hNT.out] at OT
  have x0 := B.c0
  have x2 := B.c2
  rw [hNT.out] at x2
  obtain ⟨W, hW⟩ : ∃ W, Hid (w.alloc (.cells (tuV fb t).toArray 86) = W) := ⟨_, rfl⟩
  have NC0 := hide (tu_cells w fb t 86)
  rw [hW.out] at NC0
  have LW : Hid (Below w.heap.size w W) := by rw [← hW.out]; exact (Below.refl _ _).alloc (Nat.le_refl _) _
  have hWb : Hid (W.heap[w.heap.size]? = some (.cells (tuV fb t).toArray 86 (0, 0))) := by rw [← hW.out]; exact heap_alloc_new w _
  have TL := hide (tuV_one1 fb t)
  have TLn := hide (tuV_len fb t)
  obtain ⟨tk, tf, tt, tp, e0⟩ := tuV_four fb t
  have E0 := hide e0
  rw [e0] at hWb hW NC0 DO
  have X0 : Hid (∀ u, Below w.heap.size w u → u.cell? ⟨g, 0, none⟩ = some (.map (some bn))) := fun u hu => (hu.cell (p := ⟨g, 0, none⟩) (World.block_lt_of_cell? w _ x0)).trans x0
  have hwW : Hid (w.heap.size < W.heap.size) := (Array.getElem?_eq_some_iff.1 hWb.out).1
  have KB : Hid (∀ u : World, u.heap[w.heap.size]? = W.heap[w.heap.size]? → u.cell? ⟨w.heap.size, 0, none⟩ = some (.int .i64 tk) ∧ u.cell? ⟨w.heap.size, 1, none⟩ = some (.string tf) ∧ u.cell? ⟨w.heap.size, 2, none⟩ = some (.string tt) ∧ u.cell? ⟨w.heap.size, 3, none⟩ = some (.pointer tp)) := fun u hu => by
    have e := hu.trans hWb.out
    exact ⟨by rw [cell_of_row u w.heap.size 0 _ _ (0, 0) e]; rfl, by rw [cell_of_row u w.heap.size 1 _ _ (0, 0) e]; rfl, by rw [cell_of_row u w.heap.size 2 _ _ (0, 0) e]; rfl, by rw [cell_of_row u w.heap.size 3 _ _ (0, 0) e]; rfl⟩
  have nb : Hid (w.heap.size ≠ bn) := fun e => by have := B.names.lt; omega
  have SB := hide (KB.out W rfl)
  have ng := hide (B.lt g B.own)
  have MW := hide (B.names.below LW.out)
  rw [e0]
  clear B hN hL ht hdl x0 e0
  go_enter Tryz.func52, Tryz.ntmps52
  go_upto_region 1 with fail
  rw [hW.out]
  clear hW
  have SW : W.cell? ⟨g, 0, none⟩ = some (.map (some bn)) ∧ (W.cell? ⟨w.heap.size, 0, none⟩ = some (.int .i64 tk) ∧ W.cell? ⟨w.heap.size, 1, none⟩ = some (.string tf) ∧ W.cell? ⟨w.heap.size, 2, none⟩ = some (.string tt) ∧ W.cell? ⟨w.heap.size, 3, none⟩ = some (.pointer tp)) := ⟨X0.out W LW.out, SB.out⟩
  refine wp_region_held_drew (S := fun u => u.cell? ⟨g, 0, none⟩ = some (.map (some bn)) ∧ (u.cell? ⟨w.heap.size, 0, none⟩ = some (.int .i64 tk) ∧ u.cell? ⟨w.heap.size, 1, none⟩ = some (.string tf) ∧ u.cell? ⟨w.heap.size, 2, none⟩ = some (.string tt) ∧ u.cell? ⟨w.heap.size, 3, none⟩ = some (.pointer tp))) (by kernel_rfl) SW (fun hHeld => ?_)
  refine held_take (i := 0) (d := (some 4)) (v := ?_) rfl rfl (by kernel_rfl) (by kernel_rfl) (by kernel_rfl) (fun _ _ _ h => h) (Or.inl ⟨by rfl, ?_⟩) (by first | assumption | rfl | trivial) ?_
  rotate_left 1
  · (intro w hSw; (try dsimp only at hSw); (try subst hSw); go_simp; try with_reducible rfl)
  simp only [Act.put, List.setIfInBounds_toArray, List.set_cons_zero, List.set_cons_succ]
  refine held_take (i := 1) (d := (some 5)) (v := ?_) rfl rfl (by kernel_rfl) (by kernel_rfl) (by kernel_rfl) (fun _ _ _ h => h) (Or.inl ⟨by rfl, ?_⟩) (by first | assumption | rfl | trivial) ?_
  rotate_left 1
  · (intro w hSw; (try dsimp only at hSw); (try subst hSw); go_simp; try with_reducible rfl)
  simp only [Act.put, List.setIfInBounds_toArray, List.set_cons_zero, List.set_cons_succ]
  refine held_take (i := 2) (d := (some 6)) (v := ?_) rfl rfl (by kernel_rfl) (by kernel_rfl) (by kernel_rfl) (fun _ _ _ h => h) (Or.inl ⟨by rfl, ?_⟩) (by first | assumption | rfl | trivial) ?_
  rotate_left 1
  · (intro w hSw; (try dsimp only at hSw); (try subst hSw); go_simp; try with_reducible rfl)
  simp only [Act.put, List.setIfInBounds_toArray, List.set_cons_zero, List.set_cons_succ]
  refine held_take (i := 3) (d := (some 7)) (v := ?_) rfl rfl (by kernel_rfl) (by kernel_rfl) (by kernel_rfl) (fun _ _ _ h => h) (Or.inl ⟨by rfl, ?_⟩) (by first | assumption | rfl | trivial) ?_
  rotate_left 1
  · (intro w hSw; (try dsimp only at hSw); (try subst hSw); go_simp; try with_reducible rfl)
  simp only [Act.put, List.setIfInBounds_toArray, List.set_cons_zero, List.set_cons_succ]
  refine held_take (i := 4) (d := (some 8)) (v := ?_) rfl rfl (by kernel_rfl) (by kernel_rfl) (by kernel_rfl) (fun _ _ _ h => h) (Or.inl ⟨by rfl, ?_⟩) (by first | assumption | rfl | trivial) ?_
  rotate_left 1
  · (intro w hSw; (try dsimp only at hSw); (try subst hSw); go_simp; try with_reducible rfl)
  simp only [Act.put, List.setIfInBounds_toArray, List.set_cons_zero, List.set_cons_succ]
  refine held_next (i := 5) (by kernel_rfl) rfl (by rfl) (fun K1 hK1 => ?_)
  go_simp
  with_reducible refine (DO.out _ MW.out.drew).mono ?_
  rintro e wA ⟨rfl, mA, kA⟩
  have KA : Hid (Ch (fun j => j = bn) w wA) := ((Ch.of_below LW.out.drew).more (fun _ _ h => h.elim)).trans kA
  have MA := hide mA
  have SzA : Hid (W.heap.size ≤ wA.heap.size) := kA.size
  have BA : Hid (wA.heap[w.heap.size]? = W.heap[w.heap.size]?) := kA.block _ hwW.out nb.out
  have CA := KB.out wA BA.out
  have XA : wA.cell? ⟨g, 0, none⟩ = some (.map (some bn)) := by
    have h := KA.out.block g ng.out (fun e => RV.out.names.isMap.ne RV.out.cellsT e.symm)
    rw [cell_of_row wA g 0 _ _ (0, 0) (h.trans RV.out.str)]; rfl
  clear mA kA DO MW
  go_wp2_with fail
  refine hK1.out _ _ ⟨XA, CA⟩ ?_
  clear hK1 hHeld XA SW
  refine wpAnyH_done (by kernel_rfl) ?_ _
  go_upto_region 2 with fail
  have OTA : Hid (OwnTu fb wA 0 at' NT ct F.turns) := OwnG.ch OT.out KA.out (fun b hb e => RV.out.names.isMap.ne (OwnG.cellsT OT.out b hb).1 e.symm)
  have y2 : wA.cell? ⟨g, 2, none⟩ = some (.slice at' NT ct) := by
    have h := KA.out.block g ng.out (fun e => RV.out.names.isMap.ne RV.out.cellsT e.symm)
    rw [cell_of_row wA g 2 _ _ (0, 0) (h.trans RV.out.str), ← hNT.out]; rfl
  have FG : Hid (wA.heap[g]? = some (.cells (lfC F bn bc at' ct) 67 (0, 0))) := (KA.out.block g ng.out (fun e => RV.out.names.isMap.ne RV.out.cellsT e.symm)).trans RV.out.str
  refine wp_region_held_drew (S := fun u => u.cell? ⟨w.heap.size, 0, none⟩ = some (.int .i64 tk) ∧ u.cell? ⟨w.heap.size, 1, none⟩ = some (.string tf) ∧ u.cell? ⟨w.heap.size, 2, none⟩ = some (.string tt) ∧ u.cell? ⟨w.heap.size, 3, none⟩ = some (.pointer tp)) (by kernel_rfl) CA (fun hHeld => ?_)
  refine held_take (i := 0) (d := (some 10)) (v := ?_) rfl rfl (by kernel_rfl) (by kernel_rfl) (by kernel_rfl) (fun _ _ _ h => h) (Or.inl ⟨by rfl, ?_⟩) (by first | assumption | rfl | trivial) ?_
  rotate_left 1
  · (intro w hSw; (try dsimp only at hSw); (try subst hSw); go_simp; try with_reducible rfl)
  simp only [Act.put, List.setIfInBounds_toArray, List.set_cons_zero, List.set_cons_succ]
  refine held_take (i := 1) (d := (some 11)) (v := ?_) rfl rfl (by kernel_rfl) (by kernel_rfl) (by kernel_rfl) (fun _ _ _ h => h) (Or.inl ⟨by rfl, ?_⟩) (by first | assumption | rfl | trivial) ?_
  rotate_left 1
  · (intro w hSw; (try dsimp only at hSw); (try subst hSw); go_simp; try with_reducible rfl)
  simp only [Act.put, List.setIfInBounds_toArray, List.set_cons_zero, List.set_cons_succ]
  refine held_take (i := 2) (d := (some 12)) (v := ?_) rfl rfl (by kernel_rfl) (by kernel_rfl) (by kernel_rfl) (fun _ _ _ h => h) (Or.inl ⟨by rfl, ?_⟩) (by first | assumption | rfl | trivial) ?_
  rotate_left 1
  · (intro w hSw; (try dsimp only at hSw); (try subst hSw); go_simp; try with_reducible rfl)
  simp only [Act.put, List.setIfInBounds_toArray, List.set_cons_zero, List.set_cons_succ]
  refine held_take (i := 3) (d := (some 13)) (v := ?_) rfl rfl (by kernel_rfl) (by kernel_rfl) (by kernel_rfl) (fun _ _ _ h => h) (Or.inl ⟨by rfl, ?_⟩) (by first | assumption | rfl | trivial) ?_
  rotate_left 1
  · (intro w hSw; (try dsimp only at hSw); (try subst hSw); go_simp; try with_reducible rfl)
  simp only [Act.put, List.setIfInBounds_toArray, List.set_cons_zero, List.set_cons_succ]
  refine held_take (i := 5) (d := (some 15)) (v := ?_) rfl rfl (by kernel_rfl) (by kernel_rfl) (by kernel_rfl) (fun _ _ _ h => h) (Or.inl ⟨by rfl, ?_⟩) (by first | assumption | rfl | trivial) ?_
  rotate_left 1
  · (intro w hSw; (try dsimp only at hSw); (try subst hSw); go_simp; try with_reducible rfl)
  simp only [Act.put, List.setIfInBounds_toArray, List.set_cons_zero, List.set_cons_succ]
  obtain ⟨u6, hu6⟩ : ∃ u6, Hid ((wA.alloc (.cells #[.int .i64 tk, .string tf, .string tt, .pointer tp] 86)).drew = u6) := ⟨_, rfl⟩
  have B4 : Hid (Below wA.heap.size wA u6) := by rw [← hu6.out]; exact (bel_al (Below.refl _ _) (Nat.le_refl _) _).drew
  have OT4 : Hid (OwnTu fb u6 0 at' NT ct F.turns) := OwnG.below OTA.out B4.out (Nat.le_refl _)
  have NC4 : Hid (∀ j u, (tuV fb t)[j]? = some u → u6.cell? ((⟨wA.heap.size, 0, none⟩ : Addr).add j) = some u) := by
    rw [← hu6.out]
    have := tu_cells wA fb t 86
    rw [E0.out] at this ⊢
    exact this
  have v2 : u6.cell? ⟨g, 2, none⟩ = some (.slice at' NT ct) := (B4.out.cell (p := ⟨g, 2, none⟩) (World.block_lt_of_cell? wA _ y2)).trans y2
  have KU : Hid (∀ u, Ch (fun j => (Value.slice at' NT ct).ownBlock = some j) wA u → (u.cell? ⟨w.heap.size, 0, none⟩ = some (.int .i64 tk) ∧ u.cell? ⟨w.heap.size, 1, none⟩ = some (.string tf) ∧ u.cell? ⟨w.heap.size, 2, none⟩ = some (.string tt) ∧ u.cell? ⟨w.heap.size, 3, none⟩ = some (.pointer tp)) ∧ u.cell? ⟨g, 2, none⟩ = some (.slice at' NT ct) ∧ u.frozen? ⟨g, 2, none⟩ = false) := fun u hu => by
    have h1 := hu.block w.heap.size (Nat.lt_of_lt_of_le hwW.out SzA.out) (fun e => by have := (OwnG.cellsT OT.out _ e).1.lt; omega)
    have h2 := hu.block g (Array.getElem?_eq_some_iff.1 FG.out).1 (fun e => (OwnG.cellsT OTA.out g e).1.ne ⟨_, _, FG.out⟩ (by decide) rfl)
    refine ⟨KB.out u (h1.trans BA.out), ?_, frozen_of_row u g 2 _ _ (h2.trans FG.out)⟩
    rw [cell_of_row u g 2 _ _ (0, 0) (h2.trans FG.out), ← hNT.out]; rfl
  have BU := (KU.out u6 ((Ch.of_below B4.out).more (fun _ _ h => h.elim))).1
  have FIN : Hid (∀ (gC cC : Nat) (wC : World), wC.ownsRow 0 86 4 (.slice (some ⟨gC, 0, none⟩) (NT + 1) cC) (NT + 1) (F.turns.flatMap (tuV fb) ++ tuV fb t) → Ch (fun j => (Value.slice at' NT ct).ownBlock = some j) wA wC → ((Value.slice at' NT ct).ownBlock = some gC ∨ w.heap.size ≤ gC) →
      ∃ S' a' c', LB (wC.setCell ⟨g, 2, none⟩ (.slice (some ⟨gC, 0, none⟩) (NT + 1) cC)) g S' { F with turns := F.turns ++ [t] } fb fh bn bc a' c' ∧ (∀ k, S' k → S k ∨ w.heap.size ≤ k) ∧ Ch S w (wC.setCell ⟨g, 2, none⟩ (.slice (some ⟨gC, 0, none⟩) (NT + 1) cC))) := fun gC cC wC oC kC lC => by
    obtain ⟨q1, q2⟩ := RV.out.change HN.out OK.out KA.out MA.out hNT.out (u4 := wC) (g' := gC) (c' := cC) (by
      show OwnG _ _ _ _ _ _ _ _ _
      unfold OwnG
      rw [List.flatMap_append, List.flatMap_cons, List.flatMap_nil, List.append_nil]
      exact oC) kC lC
    exact ⟨_, _, _, q1, fun k hk => hk.elim Or.inl (fun h => Or.inr h.1), q2⟩
  have SZA : Hid (w.heap.size ≤ wA.heap.size) := KA.out.size
  clear HN OK KA MA
  have CX := CA
  refine held_pair (i := 4) (j := 6) (by kernel_rfl) rfl (by rfl) rfl (by rfl) (fun K1 hK1 => ?_) (fun K1 hK1 => ?_)
  · go_simp
    refine hK1.out _ _ CX ?_
    clear hK1
    refine held_next (i := 6) (by kernel_rfl) rfl (by rfl) (fun K1 hK1 => ?_)
    go_simp
    rw [hu6.out]
    refine hK1.out _ _ BU ?_
    clear hK1
    refine held_next (i := 7) (by kernel_rfl) rfl (by rfl) (fun K1 hK1 => ?_)
    refine wp_append_lies _ (.tmp 14) (.tmp 16) 63 rfl 0 86 i1 (.agg #[.int .i64 0, .string .empty, .string .empty, .pointer none]) 4 48 Tryz.underlying63 hi1 hz10 hz11 hz12 rfl (by decide) (.slice at' NT ct) NT (F.turns.flatMap (tuV fb)) rfl OT4.out ⟨wA.heap.size, 0, none⟩ 1 1 (tuV fb t) rfl TLn.out NC4.out TL.out (by omega) (by unfold maxLen; omega) (by omega) (Nat.zero_le _) _ rfl ?_
    intro gC cC wC oC grC atC ltC
    have GR : Hid (Ch (fun j => (Value.slice at' NT ct).ownBlock = some j) wA wC) := ((Ch.of_below B4.out).more (fun _ _ h => h.elim)).trans (Ch.grown grC)
    have GRX := hide (FIN.out gC cC wC oC GR.out (by
      rcases atC with e | e
      · exact Or.inl e
      · exact Or.inr (by rw [e]; exact Nat.le_trans SZA.out B4.out.size)))
    obtain ⟨kc1, kc2, kc3⟩ := KU.out wC GR.out
    have KC3 := hide (KU.out wC GR.out).1
    have KS : Hid ((wC.setCell ⟨g, 2, none⟩ (.slice (some ⟨gC, 0, none⟩) (NT + 1) cC)).cell? ⟨w.heap.size, 0, none⟩ = some (.int .i64 tk) ∧ (wC.setCell ⟨g, 2, none⟩ (.slice (some ⟨gC, 0, none⟩) (NT + 1) cC)).cell? ⟨w.heap.size, 1, none⟩ = some (.string tf) ∧ (wC.setCell ⟨g, 2, none⟩ (.slice (some ⟨gC, 0, none⟩) (NT + 1) cC)).cell? ⟨w.heap.size, 2, none⟩ = some (.string tt) ∧ (wC.setCell ⟨g, 2, none⟩ (.slice (some ⟨gC, 0, none⟩) (NT + 1) cC)).cell? ⟨w.heap.size, 3, none⟩ = some (.pointer tp)) := by
      have hne : ∀ i j : Nat, (⟨g, i, none⟩ : Addr) ≠ ⟨w.heap.size, j, none⟩ := fun i j e => by have h1 : g = w.heap.size := congrArg Addr.block e; have := ng.out; omega
      refine ⟨?_, ?_, ?_, ?_⟩
      · rw [World.cell?_setCell_other _ _ _ _ (hne _ _)]; exact kc1.1
      · rw [World.cell?_setCell_other _ _ _ _ (hne _ _)]; exact kc1.2.1
      · rw [World.cell?_setCell_other _ _ _ _ (hne _ _)]; exact kc1.2.2.1
      · rw [World.cell?_setCell_other _ _ _ _ (hne _ _)]; exact kc1.2.2.2
    clear oC grC atC ltC GR FIN OT4 NC4 hu6
    go_simp
    refine hK1.out _ _ KC3.out ?_
    clear hK1
    refine held_take (i := 8) (d := (some 18)) (v := ?_) rfl rfl (by kernel_rfl) (by kernel_rfl) (by kernel_rfl) (fun _ _ _ h => h) (Or.inl ⟨by rfl, ?_⟩) (by first | assumption | rfl | trivial) ?_
    rotate_left 1
    · (intro w hSw; (try dsimp only at hSw); (try subst hSw); go_simp; try with_reducible rfl)
    simp only [Act.put, List.setIfInBounds_toArray, List.set_cons_zero, List.set_cons_succ]
    refine held_take (i := 9) (d := (some 19)) (v := ?_) rfl rfl (by kernel_rfl) (by kernel_rfl) (by kernel_rfl) (fun _ _ _ h => h) (Or.inl ⟨by rfl, ?_⟩) (by first | assumption | rfl | trivial) ?_
    rotate_left 1
    · (intro w hSw; (try dsimp only at hSw); (try subst hSw); go_simp; try with_reducible rfl)
    simp only [Act.put, List.setIfInBounds_toArray, List.set_cons_zero, List.set_cons_succ]
    refine held_next (i := 10) (by kernel_rfl) rfl (by rfl) (fun K1 hK1 => ?_)
    go_simp
    refine hK1.out _ _ KS.out ?_
    clear hK1 hHeld
    refine wpAnyH_done (by kernel_rfl) ?_ _
    go_wp2
    go_end0
    exact ⟨rfl, GRX.out⟩
  · go_simp
    rw [hu6.out]
    refine hK1.out _ _ BU ?_
    clear hK1
    refine held_next (i := 4) (by kernel_rfl) rfl (by rfl) (fun K1 hK1 => ?_)
    go_simp
    refine hK1.out _ _ BU ?_
    clear hK1
    refine held_next (i := 7) (by kernel_rfl) rfl (by rfl) (fun K1 hK1 => ?_)
    refine wp_append_lies _ (.tmp 14) (.tmp 16) 63 rfl 0 86 i1 (.agg #[.int .i64 0, .string .empty, .string .empty, .pointer none]) 4 48 Tryz.underlying63 hi1 hz10 hz11 hz12 rfl (by decide) (.slice at' NT ct) NT (F.turns.flatMap (tuV fb)) rfl OT4.out ⟨wA.heap.size, 0, none⟩ 1 1 (tuV fb t) rfl TLn.out NC4.out TL.out (by omega) (by unfold maxLen; omega) (by omega) (Nat.zero_le _) _ rfl ?_
    intro gC cC wC oC grC atC ltC
    have GR : Hid (Ch (fun j => (Value.slice at' NT ct).ownBlock = some j) wA wC) := ((Ch.of_below B4.out).more (fun _ _ h => h.elim)).trans (Ch.grown grC)
    have GRX := hide (FIN.out gC cC wC oC GR.out (by
      rcases atC with e | e
      · exact Or.inl e
      · exact Or.inr (by rw [e]; exact Nat.le_trans SZA.out B4.out.size)))
    obtain ⟨kc1, kc2, kc3⟩ := KU.out wC GR.out
    have KC3 := hide (KU.out wC GR.out).1
    have KS : Hid ((wC.setCell ⟨g, 2, none⟩ (.slice (some ⟨gC, 0, none⟩) (NT + 1) cC)).cell? ⟨w.heap.size, 0, none⟩ = some (.int .i64 tk) ∧ (wC.setCell ⟨g, 2, none⟩ (.slice (some ⟨gC, 0, none⟩) (NT + 1) cC)).cell? ⟨w.heap.size, 1, none⟩ = some (.string tf) ∧ (wC.setCell ⟨g, 2, none⟩ (.slice (some ⟨gC, 0, none⟩) (NT + 1) cC)).cell? ⟨w.heap.size, 2, none⟩ = some (.string tt) ∧ (wC.setCell ⟨g, 2, none⟩ (.slice (some ⟨gC, 0, none⟩) (NT + 1) cC)).cell? ⟨w.heap.size, 3, none⟩ = some (.pointer tp)) := by
      have hne : ∀ i j : Nat, (⟨g, i, none⟩ : Addr) ≠ ⟨w.heap.size, j, none⟩ := fun i j e => by have h1 : g = w.heap.size := congrArg Addr.block e; have := ng.out; omega
      refine ⟨?_, ?_, ?_, ?_⟩
      · rw [World.cell?_setCell_other _ _ _ _ (hne _ _)]; exact kc1.1
      · rw [World.cell?_setCell_other _ _ _ _ (hne _ _)]; exact kc1.2.1
      · rw [World.cell?_setCell_other _ _ _ _ (hne _ _)]; exact kc1.2.2.1
      · rw [World.cell?_setCell_other _ _ _ _ (hne _ _)]; exact kc1.2.2.2
    clear oC grC atC ltC GR FIN OT4 NC4 hu6
    go_simp
    refine hK1.out _ _ KC3.out ?_
    clear hK1
    refine held_take (i := 8) (d := (some 18)) (v := ?_) rfl rfl (by kernel_rfl) (by kernel_rfl) (by kernel_rfl) (fun _ _ _ h => h) (Or.inl ⟨by rfl, ?_⟩) (by first | assumption | rfl | trivial) ?_
    rotate_left 1
    · (intro w hSw; (try dsimp only at hSw); (try subst hSw); go_simp; try with_reducible rfl)
    simp only [Act.put, List.setIfInBounds_toArray, List.set_cons_zero, List.set_cons_succ]
    refine held_take (i := 9) (d := (some 19)) (v := ?_) rfl rfl (by kernel_rfl) (by kernel_rfl) (by kernel_rfl) (fun _ _ _ h => h) (Or.inl ⟨by rfl, ?_⟩) (by first | assumption | rfl | trivial) ?_
    rotate_left 1
    · (intro w hSw; (try dsimp only at hSw); (try subst hSw); go_simp; try with_reducible rfl)
    simp only [Act.put, List.setIfInBounds_toArray, List.set_cons_zero, List.set_cons_succ]
    refine held_next (i := 10) (by kernel_rfl) rfl (by rfl) (fun K1 hK1 => ?_)
    go_simp
    refine hK1.out _ _ KS.out ?_
    clear hK1 hHeld
    refine wpAnyH_done (by kernel_rfl) ?_ _
    go_wp2
    go_end0
    exact ⟨rfl, GRX.out⟩
end Go.Proofs.YthlkmjaflomflaaGreat
