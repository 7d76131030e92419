/-
  What beginning of the index comes to: a contract, for every world.
  Conditions: the index lies in memory.
-/
import Derived.Test.YtpffhpnmbpjifaaGreatIdxDl
import Derived.Deep.AppendLies
namespace Go.Proofs.YtpffhpnmbpjifaaGreat
open Go.RowKit Go.Maps Go.Shelf
attribute [local go_sem] Oper.semAt_some
set_option maxRecDepth 20000

/-- Those whose value begins so. -/
def bgS (L : Lx) (nm st : ByteArray) : List Int := idxs (fun l => st.toList.isPrefixOf (valL l nm).toList) 0 L
/-- Does a value begin so? -/
def pfB (st : ByteArray) (y : Vn) : Bool := st.toList.isPrefixOf y.1.toList
theorem ba_empty_list : (ByteArray.empty).toList = [] := by decide +kernel
theorem bgS_all (L : Lx) (nm : ByteArray) : uptoI L.length = bgS L nm .empty := by
  rw [upto_idxs]
  unfold bgS
  congr 1
  funext l
  rw [ba_empty_list]
  rfl
theorem bgS_most (L : Lx) (nm st : ByteArray) (hst : st.toList ≠ []) : mostS (((valsX L nm).filter (pfB st)).map (fun y => postX L nm y.1)) 1 = bgS L nm st := by
  have := most_idxs (L := L) (ps := ((valsX L nm).filter (pfB st)).map (fun y => valP nm y.1)) (p := fun l => st.toList.isPrefixOf (valL l nm).toList) (fun l hl => by
    rw [Bool.eq_iff_iff, List.any_map, List.any_eq_true]
    constructor
    · intro h
      have hne : valL l nm ≠ .empty := fun e => by
        rw [e, ba_empty_list, List.isPrefixOf_iff_prefix, List.prefix_nil] at h
        exact hst h
      have hm := mem_vals.2 ⟨hne, post_ne.2 ⟨l, hl, rfl⟩⟩
      rw [List.mem_map] at hm
      obtain ⟨y, hy, e⟩ := hm
      refine ⟨y, List.mem_filter.2 ⟨hy, ?_⟩, ?_⟩
      · unfold pfB
        rw [e]
        exact h
      · simp [valP, e]
    · rintro ⟨y, hy, e⟩
      have h1 := (List.mem_filter.1 hy).2
      unfold pfB at h1
      simp [valP] at e
      rw [e]
      exact h1)
  rw [List.map_map] at this
  exact this
/-- What is gathered of the first values. -/
def bgZ (q : ByteArray → ByteArray → Option Hl) (nm st : ByteArray) (pre : List Vn) : List Value := (pre.filter (pfB st)).map (fun y => hlV (atQ q nm y.1))
theorem bgZ_yes {q : ByteArray → ByteArray → Option Hl} {nm st : ByteArray} {pre : List Vn} {y : Vn} (h : st.toList.isPrefixOf y.1.toList = true) : bgZ q nm st (pre ++ [y]) = bgZ q nm st pre ++ [hlV (atQ q nm y.1)] := by
  unfold bgZ
  rw [List.filter_append, List.map_append]
  have : [y].filter (pfB st) = [y] := by simp [pfB, h]
  rw [this]
  rfl
theorem bgZ_no {q : ByteArray → ByteArray → Option Hl} {nm st : ByteArray} {pre : List Vn} {y : Vn} (h : st.toList.isPrefixOf y.1.toList = false) : bgZ q nm st (pre ++ [y]) = bgZ q nm st pre := by
  unfold bgZ
  rw [List.filter_append]
  have : [y].filter (pfB st) = [] := by simp [pfB, h]
  rw [this, List.append_nil]
/-- beginning's four boxes, and what it has gathered. -/
structure BgI (W : World) (n0 hi g : Nat) (nm st : ByteArray) (zs : List Value) (v : Value) : Prop where
  bx : Boxed W n0 27 (.pointer (some ⟨g, 0, none⟩))
  bn : Boxed W (n0 + 1) 9 (.string nm)
  bs : Boxed W (n0 + 1 + 1) 9 (.string st)
  bl : Boxed W (n0 + 1 + 1 + 1) 71 v
  rl : W.ownsRow hi 33 1 v zs.length zs
def BgE (W : World) (n0 hi g : Nat) (nm st : ByteArray) (zs : List Value) : Prop := ∃ v, BgI W n0 hi g nm st zs v
section
variable {W W' : World} {n0 hi g : Nat} {nm st : ByteArray} {zs : List Value} {v : Value}
theorem BgI.keep {S : Nat → Prop} (h : BgI W n0 hi g nm st zs v) (c : Ch S W W') (h1 : ¬ S n0) (h2 : ¬ S (n0 + 1)) (h3 : ¬ S (n0 + 1 + 1)) (h4 : ¬ S (n0 + 1 + 1 + 1)) (h5 : ∀ k, v.ownBlock = some k → ¬ S k) : BgI W' n0 hi g nm st zs v :=
  ⟨boxed_ch h.bx c h1, boxed_ch h.bn c h2, boxed_ch h.bs c h3, boxed_ch h.bl c h4, row_ch h.rl c h5⟩
theorem BgI.below (h : BgI W n0 hi g nm st zs v) (b : Below W.heap.size W W') : BgI W' n0 hi g nm st zs v := h.keep (Ch.of_below b) id id id id (fun _ _ => id)
/-- One more, put into the box. -/
theorem BgI.push {u w1 : World} {x v' : Value} (h : BgI W n0 hi g nm st zs v) (hh : n0 + 1 + 1 + 1 < hi) (b : Below W.heap.size W u) (hg : u.grownBy w1 v.ownBlock) (ho : w1.ownsRow hi 33 1 v' (zs.length + 1) (zs ++ [x])) :
    (w1.cell? ⟨n0 + 1 + 1 + 1, 0, none⟩ = some v ∧ w1.frozen? ⟨n0 + 1 + 1 + 1, 0, none⟩ = false) ∧ KeepsOthers W (w1.setCell ⟨n0 + 1 + 1 + 1, 0, none⟩ v') ∧ BgI (w1.setCell ⟨n0 + 1 + 1 + 1, 0, none⟩ v') n0 hi g nm st (zs ++ [x]) v' ∧ Below (n0 + 1 + 1 + 1) W w1 ∧ Ch (fun k => k = n0 + 1 + 1 + 1 ∨ hi ≤ k) W (w1.setCell ⟨n0 + 1 + 1 + 1, 0, none⟩ v') := by
  have hu := h.below b
  have kk : Ch (fun k => v.ownBlock = some k) u w1 := Ch.grown hg
  have ne : ∀ {k : Nat} {t : TypeId}, t ≠ 33 → CellsT u k t → ¬ v.ownBlock = some k := fun ht hk e => (row_cells hu.rl e).1.ne hk (fun z => ht z.symm) rfl
  have x1 := boxed_ch hu.bx kk (ne (by decide) (boxed_cells hu.bx))
  have x2 := boxed_ch hu.bn kk (ne (by decide) (boxed_cells hu.bn))
  have x3 := boxed_ch hu.bs kk (ne (by decide) (boxed_cells hu.bs))
  have x4 := boxed_ch hu.bl kk (ne (by decide) (boxed_cells hu.bl))
  have ks : Ch (fun k => k = n0 + 1 + 1 + 1) w1 (w1.setCell ⟨n0 + 1 + 1 + 1, 0, none⟩ v') := Ch.set w1 _ v'
  refine ⟨⟨x4.cell, x4.frozen⟩, ⟨?_, fun k o hk ho' => ?_⟩, ⟨boxed_ch x1 ks (by omega), boxed_ch x2 ks (by omega), boxed_ch x3 ks (by omega), x4.set v', ?_⟩, ?_, ?_⟩
  · have := b.size
    have := kk.size
    have := ks.size
    omega
  · have hlt : k < W.heap.size := (Array.getElem?_eq_some_iff.1 hk).1
    have e1 : u.heap[k]? = some o := (b.block k hlt).trans hk
    have n1 : ¬ v.ownBlock = some k := fun e => by
      obtain ⟨cur, mk, q⟩ := (row_cells hu.rl e).1
      rw [q] at e1
      cases e1
      cases ho'
    have e2 : w1.heap[k]? = some o := (kk.block k (Nat.lt_of_lt_of_le hlt b.size) n1).trans e1
    have n2 : ¬ k = n0 + 1 + 1 + 1 := fun e => by
      obtain ⟨cur, mk, q⟩ := boxed_cells x4
      rw [← e, e2] at q
      cases q
      cases ho'
    exact (ks.block k (by have := b.size; have := kk.size; omega) n2).trans e2
  · rw [List.length_append]
    exact row_ch ho ks (fun k hk => (row_cells ho hk).1.ne (boxed_cells x4) (by decide))
  · have h4 := h.bl.lt
    have := b.size
    exact (b.mono (by omega)).trans (kk.below (by omega) (fun k hk e => by have := (row_cells hu.rl e).2; omega))
  · exact ((Ch.of_below b).more (fun _ _ e => e.elim)).trans ((kk.more (fun k _ e => Or.inr (row_cells hu.rl e).2)).trans (ks.more (fun k _ e => Or.inl e)))
end
theorem bge_own {β : Type} (n0 hi g : Nat) (nm st : ByteArray) (zs : β → List Value) : Go.Own (fun s W => BgE W n0 hi g nm st (zs s)) := by
  rintro s X Y row ⟨v, h⟩ hg hrow
  have hc : ∀ {k : Nat} {t : TypeId}, CellsT X k t → ¬ row = some k := by
    rintro k t ⟨cur, mk, h1⟩ h2
    obtain ⟨o, ho, hcells⟩ := hrow k h2
    rw [h1] at ho
    cases ho
    cases hcells
  exact ⟨v, h.keep (Ch.grown hg) (hc (boxed_cells h.bx)) (hc (boxed_cells h.bn)) (hc (boxed_cells h.bs)) (hc (boxed_cells h.bl)) (fun k hk => hc (row_cells h.rl hk).1)⟩

set_option maxHeartbeats 2000000 in
theorem begin0_any (g : Nat) (S : Nat → Prop) (L : Lx) (nm : ByteArray) (w : World) (h : IAt w g S L) :
    Calls Tryz.prog 43 #[.pointer (some ⟨g, 0, none⟩), .string nm, .string .empty] w fun e w' => PosP (bgS L nm .empty) w e w' := by
  have HA := hide h
  obtain ⟨hG, hL, ax, cx, hs, bn, bp, nb, p, q, hnb, hB⟩ := h
  have AL : Hid (∀ u, Below w.heap.size w u → Calls Tryz.prog 42 #[.pointer (some ⟨g, 0, none⟩)] u fun e w' => PosP (bgS L nm .empty) u e w') := fun u hu => (all_any g S L L L ax cx hs bn bp nb p q u (hB.below hu) hL).mono fun e w' h => by
    obtain ⟨x, d, h1, h2, h3⟩ := h
    rw [bgS_all L nm] at h2
    exact ⟨x, _, d, h1, h2, h3⟩
  generalize bgS L nm .empty = X at *
  obtain ⟨W1, hW1⟩ : ∃ W, Hid (w.alloc (.cells #[.pointer (some ⟨g, 0, none⟩)] 27) = W) := ⟨_, rfl⟩
  obtain ⟨W2, hW2⟩ : ∃ W, Hid (W1.alloc (.cells #[.string nm] 9) = W) := ⟨_, rfl⟩
  obtain ⟨W3, hW3⟩ : ∃ W, Hid (W2.alloc (.cells #[.string .empty] 9) = W) := ⟨_, rfl⟩
  have S1 : Hid (W1.heap.size = w.heap.size + 1) := by rw [← hW1.out]; show _ = _; simp
  have S2 : Hid (W2.heap.size = w.heap.size + 1 + 1) := by rw [← hW2.out]; show _ = _; rw [World.size_alloc, S1.out]
  have B1 : Hid (Below w.heap.size w W1) := by rw [← hW1.out]; exact (Below.refl _ _).alloc (Nat.le_refl _) _
  have B2 : Hid (Below w.heap.size w W2) := by rw [← hW2.out]; exact bel_al B1.out (Nat.le_refl _) _
  have B3 : Hid (Below w.heap.size w W3) := by rw [← hW3.out]; exact bel_al B2.out (Nat.le_refl _) _
  have c5 : W3.cell? ⟨w.heap.size + 1 + 1, 0, none⟩ = some (.string .empty) := by
    rw [← hW3.out, ← S2.out]
    exact (Boxed.new W2 9 (.string .empty)).cell
  have c3 : W3.cell? ⟨w.heap.size, 0, none⟩ = some (.pointer (some ⟨g, 0, none⟩)) := by
    rw [← hW3.out, ← hW2.out, ← hW1.out]
    exact (((Boxed.new w 27 (.pointer (some ⟨g, 0, none⟩))).alloc _).alloc _).cell
  have A3 := hide (AL.out W3 B3.out)
  have t1 : (ByteArray.empty).toList = [] := ba_empty_list
  have t3 : ((ByteArray.empty).toList == (⟨#[]⟩ : ByteArray).toList) = true := by decide +kernel
  clear hB hG hnb AL
  go_enter Tryz.func43, Tryz.ntmps43
  go_upto_region 1 with fail
  rw [hW1.out, hW2.out, hW3.out]
  clear hW1 hW2 hW3
  go_wp2_with fail
  with_reducible refine A3.out.mono ?_
  intro e u1 h1
  have H1 : Hid (PosP X w e u1) := by
    obtain ⟨a, n, c, q1, q2, q3⟩ := h1
    exact ⟨a, n, c, q1, Own.mono q2 B3.out.size, bel_to B3.out (Nat.le_refl _) q3⟩
  obtain ⟨a1, n1, d1, rfl, -⟩ := h1
  clear A3
  go_wp2
  go_ret
  exact H1.out
end Go.Proofs.YtpffhpnmbpjifaaGreat
