/-
  The landed file system: a file more (bear): a contract, for every world.
  Conditions: the file system lies in memory; the bytes handed over are no one else's.
-/
import Derived.Test.YthlkmjaflomflaaGreatVfsDd
namespace Go.Proofs.YthlkmjaflomflaaGreat
open Go.RowKit Go.Maps
set_option maxRecDepth 20000
set_option linter.unusedVariables false

theorem nmV_more {fb : List Nat} {l : List Dn} {m : Nat} (h : FilesIn m l) (hl : fb.length = m) (b : Nat) (s : ByteArray) : nmV fb l s = nmV (fb ++ [b]) l s := by
  unfold nmV
  cases hf : fileD l s with
  | none => rfl
  | some k =>
    have := fileD_in h hf
    simp only [Option.map_some]
    unfold ptrV
    rw [List.getD_eq_getElem?_getD, List.getD_eq_getElem?_getD, List.getElem?_append_left (by omega)]
theorem tuV_more {fb : List Nat} {t : Tn} {m : Nat} (h : t.k = 0 → t.f < m) (hl : fb.length = m) (b : Nat) : tuV fb t = tuV (fb ++ [b]) t := by
  unfold tuV
  split
  · rename_i hk
    have := h hk
    unfold ptrV
    rw [List.getD_eq_getElem?_getD, List.getD_eq_getElem?_getD, List.getElem?_append_left (by omega)]
  · rfl
/-- A file more. -/
theorem LB.born {w u : World} {g : Nat} {S : Nat → Prop} {F : Fs} {fb : List Nat} {fh : List Fh} {bn bc : Nat} {at' : Option Addr} {ct : Nat} (B : LB w g S F fb fh bn bc at' ct) (hV : GoodV F) {h : Fh} {x : Fi} (k : Ch (fun j => j = g) w u)
    (hstr : u.heap[g]? = some (.cells #[.map (some bn), .map (some bc), .slice at' F.turns.length ct, .int .i64 ((F.files.length : Int) + 1), .int .i64 F.n, .bool F.armed, .int .i64 F.kind, .int .i64 F.after, .bool F.dark] 67 (0, 0)))
    (mx : FlM u h F.files.length x) (hnew : ∀ j, SFh h j → ¬ S j) :
    LB u g (fun j => S j ∨ SFh h j) { F with files := F.files ++ [x] } (fb ++ [h.b]) (fh ++ [h]) bn bc at' ct := by
  have hfb : fb.length = F.files.length := by rw [← B.fbs, List.length_map, B.len]
  have hD : FilesIn F.files.length (dirF F) := hV.dir
  refine ⟨Or.inl B.own, ?_, ?_, ?_, ?_, B.ne, Or.inl B.bnS, Or.inl B.bcS, ?_, fun b hb => Or.inl (B.turnsS b hb), ?_, ?_, ?_, ?_, ?_⟩
  · rintro j (e | e)
    · exact Nat.lt_of_lt_of_le (B.lt j e) k.size
    · exact mx.lt e
  · rw [hstr]
    unfold lfC
    dsimp only
    rw [List.length_append]
    rfl
  · exact (B.names.ch k (B.names.isMap.ne B.cellsT)).congr (nmV_more hD hfb h.b)
  · exact (B.certain.ch k (B.certain.isMap.ne B.cellsT)).congr (nmV_more hV.sure hfb h.b)
  · have o := OwnG.ch B.turns k (fun b hb => (OwnG.cellsT B.turns b hb).1.ne B.cellsT (by decide))
    show OwnG _ _ _ _ _ _ _ _ _
    unfold OwnG at o ⊢
    rwa [show F.turns.flatMap (tuV fb) = F.turns.flatMap (tuV (fb ++ [h.b])) from by
      unfold List.flatMap
      rw [List.map_congr_left (fun t ht => tuV_more (hV.turns t ht).2 hfb h.b)]] at o
  · rw [List.map_append, B.fbs]; rfl
  · dsimp only
    rw [List.length_append, List.length_append, B.len]; rfl
  · intro i y z hi hz
    dsimp only at hz
    by_cases e : i < F.files.length
    · rw [List.getElem?_append_left (by rw [B.len]; exact e)] at hi
      rw [List.getElem?_append_left e] at hz
      have m := B.files i y z hi hz
      exact m.ch k (fun j hj => (ne_ty3 B.cellsT (m.kind hj) (by decide) (by decide) (by decide)).symm)
    · rw [List.getElem?_append_right (by rw [B.len]; omega), List.getElem?_singleton] at hi
      rw [List.getElem?_append_right (by omega), List.getElem?_singleton] at hz
      split at hz
      · rename_i q
        obtain rfl : i = F.files.length := by omega
        rw [if_pos (by rw [B.len]; omega)] at hi
        obtain rfl := Option.some.inj hi
        obtain rfl := Option.some.inj hz
        exact mx
      · cases hz
  · intro i y j hi hj
    by_cases e : i < fh.length
    · rw [List.getElem?_append_left e] at hi
      exact Or.inl (B.filesS i y j hi hj)
    · rw [List.getElem?_append_right (by omega), List.getElem?_singleton] at hi
      split at hi
      · obtain rfl := Option.some.inj hi
        exact Or.inr hj
      · cases hi
  · intro i i' y y' j hii hi hi' hj hj'
    by_cases e : i < fh.length
    · rw [List.getElem?_append_left e] at hi
      by_cases e2 : i' < fh.length
      · rw [List.getElem?_append_left e2] at hi'
        exact B.apart i i' y y' j hii hi hi' hj hj'
      · rw [List.getElem?_append_right (by omega), List.getElem?_singleton] at hi'
        split at hi'
        · obtain rfl := Option.some.inj hi'
          exact hnew j hj' (B.filesS i y j hi hj)
        · cases hi'
    · rw [List.getElem?_append_right (by omega), List.getElem?_singleton] at hi
      split at hi
      · obtain rfl := Option.some.inj hi
        by_cases e2 : i' < fh.length
        · rw [List.getElem?_append_left e2] at hi'
          exact hnew j hj (B.filesS i' y' j hi' hj')
        · rw [List.getElem?_append_right (by omega), List.getElem?_singleton] at hi'
          split at hi'
          · omega
          · cases hi'
      · cases hi

set_option maxHeartbeats 4000000 in
theorem lbear_any (w : World) (g : Nat) (S : Nat → Prop) (F : Fs) (fb : List Nat) (fh : List Fh) (bn bc : Nat) (at' : Option Addr) (ct m : Nat) (d : H3) (bs : List Int) (B : LB w g S F fb fh bn bc at' ct) (hV : GoodV F) (hL : Lim m F) (hm : m ≤ 1073741825) (hd : OwnB w 0 d.1 d.2.1 d.2.2 bs) (hdS : ∀ j, (h3V d).ownBlock = some j → ¬ S j) :
    Calls Tryz.prog 53 #[.pointer (some ⟨g, 0, none⟩), .slice d.1 d.2.1 d.2.2] w fun e w' => ∃ h : Fh, e = .returned (.pointer (some ⟨h.b, 0, none⟩)) ∧ w.heap.size ≤ h.b ∧ LB w' g (fun j => S j ∨ SFh h j) { F with files := F.files ++ [⟨bs, []⟩] } (fb ++ [h.b]) (fh ++ [h]) bn bc at' ct ∧ (∀ j, SFh h j → w.heap.size ≤ j ∨ (h3V d).ownBlock = some j) ∧ Ch (fun j => j = g) w w' := by
  obtain ⟨da, dn, dc⟩ := d
  dsimp only at hd
  have c3 := B.c3
  have f3 := B.fz 3
  have hfl := hL.files
  obtain ⟨W1, hW1⟩ : ∃ W1, Hid (w.setCell ⟨g, 3, none⟩ (.int .i64 ((F.files.length : Int) + 1)) = W1) := ⟨_, rfl⟩
  have K1 : Hid (Ch (fun k => k = g) w W1) := by rw [← hW1.out]; exact ch_set w g 3 _
  have S1 : Hid (W1.heap[g]? = some (.cells #[.map (some bn), .map (some bc), .slice at' F.turns.length ct, .int .i64 ((F.files.length : Int) + 1), .int .i64 F.n, .bool F.armed, .int .i64 F.kind, .int .i64 F.after, .bool F.dark] 67 (0, 0))) := by
    rw [← hW1.out, heap_setCell_same w g 3 _ _ _ B.str]; rfl
  obtain ⟨k, hk⟩ : ∃ k, F.files.length = k := ⟨_, rfl⟩
  rw [hk] at c3 hW1 hfl
  have FIN : Hid (∀ u, u = W1.alloc (.cells #[.int .i64 (k : Int), .slice da dn dc, .slice none 0 0] 102) → ∃ h : Fh, (Ending.returned (.pointer (some ⟨W1.heap.size, 0, none⟩)) : Ending) = .returned (.pointer (some ⟨h.b, 0, none⟩)) ∧ w.heap.size ≤ h.b ∧ LB u g (fun j => S j ∨ SFh h j) { F with files := F.files ++ [⟨bs, []⟩] } (fb ++ [h.b]) (fh ++ [h]) bn bc at' ct ∧ (∀ j, SFh h j → w.heap.size ≤ j ∨ (h3V (da, dn, dc)).ownBlock = some j) ∧ Ch (fun j => j = g) w u) := fun u hu => by
    subst hk
    have kb : Below W1.heap.size W1 u := by rw [hu]; exact (Below.refl _ _).alloc (Nat.le_refl _) _
    have ku : Ch (fun j => j = g) w u := ch_bel K1.out (kb.mono K1.out.size)
    have hg1 := (Array.getElem?_eq_some_iff.1 S1.out).1
    have hd1 : OwnB u 0 da dn dc bs := OwnG.ch hd ku (fun b hb => (OwnG.cellsT hd b hb).1.ne B.cellsT (by decide))
    have hb1 : u.heap[W1.heap.size]? = some (.cells #[.int .i64 (F.files.length : Int), .slice da dn dc, .slice none 0 0] 102 (0, 0)) := by rw [hu]; exact heap_alloc_new W1 _
    have mx : FlM u ⟨W1.heap.size, (da, dn, dc), (none, 0, 0), [], []⟩ F.files.length ⟨bs, []⟩ := ⟨hb1, hd1, Pd.nil, ownG_nil _ _, rfl, fun i q r hi => by simp at hi⟩
    have hsf : ∀ j, SFh ⟨W1.heap.size, (da, dn, dc), (none, 0, 0), [], []⟩ j → j = W1.heap.size ∨ (h3V (da, dn, dc)).ownBlock = some j := by
      rintro j (e | e | e | ⟨q, e, _⟩)
      · exact Or.inl e
      · exact Or.inr e
      · simp [h3V, Value.ownBlock] at e
      · simp at e
    refine ⟨⟨W1.heap.size, (da, dn, dc), (none, 0, 0), [], []⟩, rfl, K1.out.size, B.born hV ku ((kb.block g hg1).trans S1.out) mx (fun j hj => ?_), fun j hj => ?_, ku⟩
    · rcases hsf j hj with e | e
      · intro hS
        have := B.lt j hS
        have := K1.out.size
        omega
      · exact hdS j e
    · rcases hsf j hj with e | e
      · exact Or.inl (by have := K1.out.size; omega)
      · exact Or.inr e
  have hw : IntKind.i64.wrap ((k : Int) + 1) = (k : Int) + 1 := by rw [IntKind.wrap_i64]; omega
  clear B hV hL hd hdS K1 S1 hk
  go_enter Tryz.func53, Tryz.ntmps53
  go_upto_region 3 with fail
  rw [hW1.out]
  clear hW1 c3 f3
  go_wp2
  go_ret
  exact FIN.out _ rfl
end Go.Proofs.YthlkmjaflomflaaGreat
