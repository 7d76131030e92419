/-
  How often each series was seen, plainly: the values of a name, and those without, part all series. No function is named.
  Conditions: as each theorem says.
-/
import Derived.Test.YtpffhpnmbpjifaaGreatIdxK
import Derived.Test.YtpffhpnmbpjifaaGreatLabZa
namespace Go.Proofs.YtpffhpnmbpjifaaGreat

/-- One more at a place. -/
def bumpZ (z : List Int) (j : Int) : List Int := z.set j.toNat (z.getD j.toNat 0 + 1)
theorem bump_len (z : List Int) (j : Int) : (bumpZ z j).length = z.length := List.length_set
theorem bumps_len (xs z : List Int) : (xs.foldl bumpZ z).length = z.length := by
  induction xs generalizing z with
  | nil => rfl
  | cons x t ih => rw [List.foldl_cons, ih, bump_len]
theorem bumps_fit (xs : List Int) : ∀ (z : List Int) (B : Int), 0 ≤ B → (∀ y ∈ z, 0 ≤ y ∧ y ≤ B) → ∀ y ∈ xs.foldl bumpZ z, 0 ≤ y ∧ y ≤ B + xs.length := by
  induction xs with
  | nil =>
    intro z B _ h y hy
    have := h y hy
    simp only [List.length_nil]
    omega
  | cons x t ih =>
    intro z B h0 h y hy
    rw [List.foldl_cons] at hy
    have hb : ∀ y ∈ bumpZ z x, 0 ≤ y ∧ y ≤ B + 1 := by
      intro y hy
      unfold bumpZ at hy
      rcases List.mem_or_eq_of_mem_set hy with e | e
      · have := h y e
        omega
      · have : 0 ≤ z.getD x.toNat 0 ∧ z.getD x.toNat 0 ≤ B := by
          rw [List.getD_eq_getElem?_getD]
          cases q : z[x.toNat]? with
          | none => exact ⟨by simp, by simpa using h0⟩
          | some v => exact h v (List.mem_of_getElem? q)
        omega
    have := ih (bumpZ z x) (B + 1) (by omega) hb y hy
    rw [List.length_cons]
    omega
theorem bump_idxs (p : List Lb → Bool) (f : List Lb → Int) (L : Lx) : ∀ pre : List Int, (idxs p pre.length L).foldl bumpZ (pre ++ L.map f) = pre ++ L.map (fun l => f l + if p l = true then 1 else 0) := by
  induction L with
  | nil => intro pre; rfl
  | cons x t ih =>
    intro pre
    rw [idxs]
    by_cases h : p x = true
    · rw [if_pos h, List.foldl_cons]
      have e : bumpZ (pre ++ (x :: t).map f) (pre.length : Int) = (pre ++ [f x + 1]) ++ t.map f := by
        unfold bumpZ
        rw [Int.toNat_natCast, List.map_cons, List.getD_eq_getElem?_getD, List.getElem?_append_right (Nat.le_refl _), Nat.sub_self, List.getElem?_cons_zero, List.set_append_right _ _ (Nat.le_refl _), Nat.sub_self, List.set_cons_zero, List.append_assoc]
        rfl
      have q := ih (pre ++ [f x + 1])
      rw [List.length_append, List.length_singleton] at q
      rw [e, q, List.map_cons, if_pos h, List.append_assoc]
      rfl
    · have q := ih (pre ++ [f x])
      rw [List.length_append, List.length_singleton, List.append_assoc] at q
      rw [if_neg h, List.map_cons, List.map_cons, if_neg h, Int.add_zero]
      rw [List.append_assoc] at q
      exact q
/-- How often a value stands among these. -/
def cnS (ks : List ByteArray) (v : ByteArray) : Nat := (ks.filter (fun k => decide (v = k))).length
theorem cnS_more (ks : List ByteArray) (v k : ByteArray) : cnS (ks ++ [k]) v = cnS ks v + if v = k then 1 else 0 := by
  unfold cnS
  rw [List.filter_append, List.length_append]
  by_cases h : v = k
  · rw [if_pos h, List.filter_cons_of_pos (by simp [h])]
    rfl
  · rw [if_neg h, List.filter_cons_of_neg (by simp [h])]
    rfl
theorem cnS_le (ks : List ByteArray) (v : ByteArray) : cnS ks v ≤ ks.length := List.length_filter_le _ _
def cntQ (L : Lx) (nm : ByteArray) (ks : List ByteArray) : List Int := L.map (fun l => ((cnS ks (valL l nm) : Nat) : Int))
theorem cntQ_start (L : Lx) (nm : ByteArray) : cntQ L nm [] = List.replicate L.length 0 := by
  rw [List.eq_replicate_iff]
  refine ⟨List.length_map _, fun z hz => ?_⟩
  obtain ⟨_, _, rfl⟩ := List.mem_map.1 hz
  rfl
theorem cntQ_len (L : Lx) (nm : ByteArray) (ks : List ByteArray) : (cntQ L nm ks).length = L.length := by
  unfold cntQ
  rw [List.length_map]
theorem cntQ_fit (L : Lx) (nm : ByteArray) (ks : List ByteArray) : ∀ y ∈ cntQ L nm ks, 0 ≤ y ∧ y ≤ (ks.length : Int) := by
  intro y hy
  obtain ⟨l, _, rfl⟩ := List.mem_map.1 hy
  have := cnS_le ks (valL l nm)
  omega
theorem cntQ_round (L : Lx) (nm : ByteArray) (ks : List ByteArray) (v : ByteArray) : (postX L nm v).foldl bumpZ (cntQ L nm ks) = cntQ L nm (ks ++ [v]) := by
  have h := bump_idxs (valP nm v) (fun l => ((cnS ks (valL l nm) : Nat) : Int)) L []
  rw [List.nil_append, List.nil_append, List.length_nil] at h
  unfold postX
  show List.foldl bumpZ (L.map _) _ = _
  rw [h]
  unfold cntQ
  refine List.map_congr_left (fun l _ => ?_)
  rw [cnS_more]
  unfold valP
  by_cases e : valL l nm = v
  · rw [if_pos e, if_pos (by simpa using e)]
    omega
  · rw [if_neg e, if_neg (by simpa using e)]
    omega
/-- What holds of the values of all. -/
theorem vals_all (nm : ByteArray) (P : ByteArray → Prop) : ∀ (L : Lx) (acc : List Vn), (∀ y ∈ acc, P y.1) → (∀ l ∈ L, valL l nm ≠ .empty → P (valL l nm)) → ∀ y ∈ L.foldl (fun acc l => addV acc (valL l nm)) acc, P y.1 := by
  intro L
  induction L with
  | nil => intro acc h _ y hy; exact h y hy
  | cons x t ih =>
    intro acc h1 h2 y hy
    rw [List.foldl_cons] at hy
    refine ih _ ?_ (fun l hl => h2 l (List.mem_cons_of_mem _ hl)) y hy
    intro y hy
    unfold addV at hy
    split at hy
    · exact h1 y hy
    · rename_i hne
      rcases mem_insV hy with e | e
      · rw [e]; exact h2 x List.mem_cons_self hne
      · exact h1 y e
theorem vals_ne (L : Lx) (nm : ByteArray) : ∀ y ∈ valsX L nm, y.1 ≠ .empty := vals_all nm (fun v => v ≠ .empty) L [] (fun y h => by cases h) (fun _ _ h => h)
theorem valL_mem (l : List Lb) (nm : ByteArray) : valL l nm = .empty ∨ ∃ x ∈ l, valL l nm = x.2 := by
  by_cases h : ∀ x ∈ l, x.1 ≠ nm
  · exact Or.inl (valL_none h)
  · refine Or.inr ?_
    unfold valL
    cases q : l.find? (fun x => decide (x.1 = nm)) with
    | none => exact absurd (fun x hx => by simpa using List.find?_eq_none.1 q x hx) h
    | some y => exact ⟨y, List.mem_of_find?_eq_some q, by simp⟩
theorem vals_size {L : Lx} (nm : ByteArray) (h : GoodX L) : ∀ y ∈ valsX L nm, y.1.size ≤ 64 := vals_all nm (fun v => v.size ≤ 64) L [] (fun y h => by cases h) (fun l hl _ => by
  rcases valL_mem l nm with e | ⟨x, hx, e⟩
  · rw [e]; decide
  · rw [e]; exact ((chkL_parts (h l hl)).2.2 x hx).2.2)
theorem up_ne {x : Vn} {t : List Vn} (h : upV (x :: t)) : ∀ y ∈ t, y.1 ≠ x.1 := fun y hy e => by
  have := (List.pairwise_cons.1 h).1 y hy
  rw [e, less_irrefl] at this
  cases this
theorem cnS_none {l : List Vn} {v : ByteArray} (h : ∀ y ∈ l, y.1 ≠ v) : cnS (l.map (·.1)) v = 0 := by
  unfold cnS
  rw [List.length_eq_zero_iff, List.filter_eq_nil_iff]
  intro k hk
  obtain ⟨y, hy, rfl⟩ := List.mem_map.1 hk
  simpa using fun e => h y hy e.symm
theorem cnS_one {l : List Vn} (h : upV l) : ∀ y ∈ l, cnS (l.map (·.1)) y.1 = 1 ∧ cntV l y.1 = y.2 := by
  induction l with
  | nil => intro y hy; cases hy
  | cons x t ih =>
    intro y hy
    have hn := up_ne h
    rcases List.mem_cons.1 hy with e | e
    · subst e
      constructor
      · have := cnS_none hn
        unfold cnS at *
        rw [List.map_cons, List.filter_cons_of_pos (by simp), List.length_cons, this]
      · unfold cntV
        rw [List.find?_cons_of_pos (by simp)]
        rfl
    · obtain ⟨h1, h2⟩ := ih (List.pairwise_cons.1 h).2 y e
      have hxy := hn y e
      constructor
      · unfold cnS at *
        rw [List.map_cons, List.filter_cons_of_neg (by simpa using hxy)]
        exact h1
      · unfold cntV at *
        rw [List.find?_cons_of_neg (by simpa using fun q => hxy q.symm)]
        exact h2
theorem vals_count {L : Lx} {nm : ByteArray} {y : Vn} (h : y ∈ valsX L nm) : (postX L nm y.1).length = y.2 := by
  obtain ⟨h1, h2⟩ := valsX_laws L nm
  rw [← h2 y.1 (vals_ne L nm y h)]
  exact (cnS_one h1 y h).2
/-- All values, and none at last. -/
def keysV (l : List Vn) : List ByteArray := l.map (·.1) ++ [.empty]
theorem cntQ_end (L : Lx) (nm : ByteArray) : cntQ L nm (keysV (valsX L nm)) = List.replicate L.length 1 := by
  obtain ⟨h1, h2⟩ := valsX_laws L nm
  rw [List.eq_replicate_iff]
  refine ⟨cntQ_len _ _ _, fun z hz => ?_⟩
  obtain ⟨l, hl, rfl⟩ := List.mem_map.1 hz
  unfold keysV
  rw [cnS_more]
  by_cases e : valL l nm = .empty
  · rw [if_pos e, e, cnS_none (vals_ne L nm)]
    rfl
  · rw [if_neg e]
    have hp : 1 ≤ (postX L nm (valL l nm)).length := by
      obtain ⟨i, hi⟩ := List.getElem?_of_mem hl
      have : ((0 + i : Nat) : Int) ∈ postX L nm (valL l nm) := mem_idxs.2 ⟨i, l, hi, by simp [valP], rfl⟩
      exact List.length_pos_of_mem this
    rw [← h2 _ e] at hp
    unfold cntV at hp
    cases q : (valsX L nm).find? (fun x => decide (x.1 = valL l nm)) with
    | none => rw [q] at hp; simp at hp
    | some y =>
      have hy : y.1 = valL l nm := by simpa using List.find?_some q
      rw [← hy, (cnS_one h1 y (List.mem_of_find?_eq_some q)).1]
      rfl
theorem keys_take {l : List Vn} {k : Nat} {y : Vn} (h : l[k]? = some y) : (keysV l).take (k + 1) = (keysV l).take k ++ [y.1] := by
  have hk : k < l.length := (List.getElem?_eq_some_iff.1 h).1
  have e : (keysV l)[k]? = some y.1 := by
    unfold keysV
    rw [List.getElem?_append_left (by rw [List.length_map]; exact hk), List.getElem?_map, h]
    rfl
  obtain ⟨h1, h2⟩ := List.getElem?_eq_some_iff.1 e
  rw [List.take_succ_eq_append_getElem h1, h2]
theorem keys_last (l : List Vn) : (keysV l).take (l.length + 1) = (keysV l).take l.length ++ [.empty] ∧ (keysV l).take (l.length + 1) = keysV l := by
  have hl : (keysV l).length = l.length + 1 := by unfold keysV; simp
  have e : (keysV l)[l.length]? = some .empty := by
    unfold keysV
    rw [List.getElem?_append_right (by simp)]
    simp
  obtain ⟨h1, h2⟩ := List.getElem?_eq_some_iff.1 e
  exact ⟨by rw [List.take_succ_eq_append_getElem h1, h2], by rw [← hl, List.take_length]⟩
theorem keys_len (l : List Vn) : (keysV l).length = l.length + 1 := by unfold keysV; simp
end Go.Proofs.YtpffhpnmbpjifaaGreat
