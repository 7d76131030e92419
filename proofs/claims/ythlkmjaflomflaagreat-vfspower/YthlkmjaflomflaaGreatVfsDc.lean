/-
  The landed file system: a turn done to a map of names; a turn more (change); a file more (bear): contracts, for every world.
  Conditions: the file system lies in memory; as each theorem says.
-/
import Derived.Test.YthlkmjaflomflaaGreatVfsDb
namespace Go.Proofs.YthlkmjaflomflaaGreat
open Go.RowKit Go.Maps
set_option maxRecDepth 20000
set_option linter.unusedVariables false

theorem nmV_give {fb : List Nat} {l : List Dn} {t : Tn} (ht : OkT1 l t) (hk : t.k = 0) (s : ByteArray) : updF (nmV fb l) t.nm (ptrV fb t.f) s = nmV fb (turnD l t) s := by
  unfold updF nmV
  rw [fileD_turn ht, if_pos hk]
  by_cases e : s = t.nm
  · rw [if_pos e, if_pos e]; rfl
  · rw [if_neg e, if_neg e]
theorem nmV_move {fb : List Nat} {l : List Dn} {t : Tn} (ht : OkT1 l t) (hk : t.k = 1) {f : Nat} (hf : fileD l t.nm = some f) (s : ByteArray) : updF (delF (nmV fb l) t.nm) t.to (ptrV fb f) s = nmV fb (turnD l t) s := by
  unfold updF delF nmV
  rw [fileD_turn ht, if_neg (show ¬ t.k = 0 by omega), if_pos hk, hf]
  by_cases e : s = t.to
  · rw [if_pos e, if_pos e]; rfl
  · rw [if_neg e, if_neg e]
    by_cases q : s = t.nm
    · rw [if_pos q, if_pos q]; rfl
    · rw [if_neg q, if_neg q]
theorem nmV_take {fb : List Nat} {l : List Dn} {t : Tn} (ht : OkT1 l t) (hk : t.k = 2) (s : ByteArray) : delF (nmV fb l) t.nm s = nmV fb (turnD l t) s := by
  unfold delF nmV
  rw [fileD_turn ht, if_neg (show ¬ t.k = 0 by omega), if_neg (show ¬ t.k = 1 by omega)]
  by_cases q : s = t.nm
  · rw [if_pos q, if_pos q]; rfl
  · rw [if_neg q, if_neg q]

set_option maxHeartbeats 4000000 in
theorem ldo_any (w : World) (b n : Nat) (fb : List Nat) (l : List Dn) (t : Tn) (h : MapS w b n (nmV fb l)) (ok : OkT1 l t) (hk : t.k ≤ 2) (hn : n < 1099511627776) :
    Calls Tryz.prog 48 #[.agg (tuV fb t).toArray, .map (some b)] w fun e w' => e = .returned (.tuple #[]) ∧ MapS w' b (n + 1) (nmV fb (turnD l t)) ∧ Ch (fun j => j = b) w w' := by
  obtain ⟨⟨hs1, hs2⟩, -⟩ := id ok
  have hm1 : t.nm.size ≤ maxLen := by unfold maxLen; omega
  have hm2 : t.to.size ≤ maxLen := by unfold maxLen; omega
  have hnm : n < maxLen := by unfold maxLen; omega
  obtain ⟨k, nm, to, f⟩ := t
  dsimp only at hk hs1 hs2 hm1 hm2
  have hk3 : k = 0 ∨ k = 1 ∨ k = 2 := by omega
  rcases hk3 with rfl | rfl | rfl
  · have e0 : tuV fb ⟨0, nm, to, f⟩ = [.int .i64 0, .string .empty, .string nm, .pointer (some ⟨fb.getD f 0, 0, none⟩)] := rfl
    rw [e0]
    obtain ⟨W, hW⟩ : ∃ W, Hid (w.alloc (.cells #[.int .i64 0, .string .empty, .string nm, .pointer (some ⟨fb.getD f 0, 0, none⟩)] 86) = W) := ⟨_, rfl⟩
    have LW : Hid (Below w.heap.size w W) := by rw [← hW.out]; exact (Below.refl _ _).alloc (Nat.le_refl _) _
    have MW := h.below LW.out
    obtain ⟨w1, st, m1, g1⟩ := MW.store Tryz.underlying62 hnm hm1 (ptrV fb f)
    have GO : Hid (MapS w1 b (n + 1) (nmV fb (turnD l ⟨0, nm, to, f⟩)) ∧ Ch (fun j => j = b) w w1) := ⟨m1.congr (nmV_give ok rfl), ((Ch.of_below LW.out).more (fun _ _ h => h.elim)).trans ((Ch.grown g1).more (fun j _ e => (Option.some.inj e).symm))⟩
    unfold ptrV at st
    generalize fb.getD f 0 = pk at *
    clear h ok MW m1 g1 e0
    go_enter Tryz.func48, Tryz.ntmps48
    go_upto_region 3 with fail
    rw [hW.out]
    have x2 : W.cell? ⟨w.heap.size, 2, none⟩ = some (.string nm) := by rw [← hW.out, World.cell?_alloc_mark]; rfl
    have x3 : W.cell? ⟨w.heap.size, 3, none⟩ = some (.pointer (some ⟨pk, 0, none⟩)) := by rw [← hW.out, World.cell?_alloc_mark]; rfl
    clear hW
    go_wp2
    go_end0
    exact ⟨rfl, GO.out⟩
  · have e0 : tuV fb ⟨1, nm, to, f⟩ = [.int .i64 1, .string nm, .string to, .pointer none] := rfl
    rw [e0]
    obtain ⟨W, hW⟩ : ∃ W, Hid (w.alloc (.cells #[.int .i64 1, .string nm, .string to, .pointer none] 86) = W) := ⟨_, rfl⟩
    have LW : Hid (Below w.heap.size w W) := by rw [← hW.out]; exact (Below.refl _ _).alloc (Nat.le_refl _) _
    have MW := h.below LW.out
    obtain ⟨z, hz⟩ := Option.isSome_iff_exists.1 (ok.2.2 rfl).2
    dsimp only at hz
    have lk := look_name1 MW hm1
    rw [hz] at lk
    dsimp only [Option.map_some, Option.getD_some] at lk
    have bs := MW.isMap
    obtain ⟨w1, dr, m1, g1⟩ := MW.drop Tryz.underlying62 hm1 0
    obtain ⟨w2, st, m2, g2⟩ := m1.store Tryz.underlying62 hnm hm2 (ptrV fb z)
    have GO : Hid (MapS w2 b (n + 1) (nmV fb (turnD l ⟨1, nm, to, f⟩)) ∧ Ch (fun j => j = b) w w2) := ⟨m2.congr (nmV_move ok rfl hz), (((Ch.of_below LW.out).more (fun _ _ h => h.elim)).trans ((Ch.grown g1).more (fun j _ e => (Option.some.inj e).symm))).trans ((Ch.grown g2).more (fun j _ e => (Option.some.inj e).symm))⟩
    have hWb : W.heap[w.heap.size]? = some (.cells #[.int .i64 1, .string nm, .string to, .pointer none] 86 (0, 0)) := by rw [← hW.out]; exact heap_alloc_new w _
    have x1 : W.cell? ⟨w.heap.size, 1, none⟩ = some (.string nm) := by rw [cell_of_row W w.heap.size 1 _ _ (0, 0) hWb]; rfl
    have y2 : w1.cell? ⟨w.heap.size, 2, none⟩ = some (.string to) := by
      have hb : w1.heap[w.heap.size]? = W.heap[w.heap.size]? := (Ch.grown g1).block _ (Array.getElem?_eq_some_iff.1 hWb).1 (fun e => by
        obtain rfl := Option.some.inj e
        exact bs.ne ⟨_, _, hWb⟩ rfl)
      rw [cell_of_row w1 w.heap.size 2 _ _ (0, 0) (hb.trans hWb)]; rfl
    unfold ptrV at lk st
    generalize fb.getD z 0 = pk at lk st
    clear h ok MW m1 g1 m2 g2 e0 hz bs hWb
    go_enter Tryz.func48, Tryz.ntmps48
    go_upto_region 5 with fail
    rw [hW.out]
    clear hW
    go_wp2
    go_end0
    exact ⟨rfl, GO.out⟩
  · have e0 : tuV fb ⟨2, nm, to, f⟩ = [.int .i64 2, .string nm, .string to, .pointer none] := rfl
    rw [e0]
    obtain ⟨W, hW⟩ : ∃ W, Hid (w.alloc (.cells #[.int .i64 2, .string nm, .string to, .pointer none] 86) = W) := ⟨_, rfl⟩
    have LW : Hid (Below w.heap.size w W) := by rw [← hW.out]; exact (Below.refl _ _).alloc (Nat.le_refl _) _
    have MW := h.below LW.out
    obtain ⟨w1, dr, m1, g1⟩ := MW.drop Tryz.underlying62 hm1 0
    have GO : Hid (MapS w1 b (n + 1) (nmV fb (turnD l ⟨2, nm, to, f⟩)) ∧ Ch (fun j => j = b) w w1) := ⟨(m1.congr (nmV_take ok rfl)).mono (by omega), ((Ch.of_below LW.out).more (fun _ _ h => h.elim)).trans ((Ch.grown g1).more (fun j _ e => (Option.some.inj e).symm))⟩
    have x1 : W.cell? ⟨w.heap.size, 1, none⟩ = some (.string nm) := by rw [← hW.out, World.cell?_alloc_mark]; rfl
    clear h ok MW m1 g1 e0
    go_enter Tryz.func48, Tryz.ntmps48
    go_upto_region 9 with fail
    rw [hW.out]
    clear hW
    go_wp2
    go_end0
    exact ⟨rfl, GO.out⟩
end Go.Proofs.YthlkmjaflomflaaGreat
