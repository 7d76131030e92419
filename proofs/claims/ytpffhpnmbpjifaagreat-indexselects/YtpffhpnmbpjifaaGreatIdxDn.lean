/-
  What beginning of the index comes to where the text is not empty: a contract, for every world.
  Conditions: the index lies in memory.
-/
import Derived.Test.YtpffhpnmbpjifaaGreatIdxDm
namespace Go.Proofs.YtpffhpnmbpjifaaGreat
open Go.RowKit Go.Maps Go.Shelf
attribute [local go_sem] Oper.semAt_some
set_option maxRecDepth 20000

/-- What the loop reads. -/
def BgS (g n0 bp : Nat) (nm ys : ByteArray) (mb : Option Nat) (y : Hl) (W u : World) : Prop :=
  (u.cell? ⟨n0, 0, none⟩ = some (.pointer (some ⟨g, 0, none⟩)) ∧ u.cell? ⟨n0 + 1, 0, none⟩ = some (.string nm) ∧ u.cell? ⟨g, 2, none⟩ = some (.map (some bp))) ∧
  ((Instr.lookup 64 (.map (some bp)) (.string nm) false).run Tryz.prog u = .ok (.map mb) u ∧ (Instr.lookup 76 (.map mb) (.string ys) false).run Tryz.prog u = .ok (hlV y) u) ∧ Hid (Below (n0 + 1 + 1 + 1) W u)
theorem bg_gat {W : World} {g : Nat} {S : Nat → Prop} {L : Lx} {ax : Option Addr} {cx : Nat} {hs : List Hl} {bn bp nb : Nat} {p : ByteArray → Option Nat} {q : ByteArray → ByteArray → Option Hl} {nm : ByteArray} {base n cap : Nat} {a : Option Addr} {vs : List Vn} (hB : IB W g S L L L ax cx hs bn bp nb p q) (hL : L.length ≤ 4096) (hne : ∀ y ∈ vs, y.1 ≠ .empty) (hn : vs.length = n)
    (hr : W.ownsRow base 33 1 (.slice a n cap) n (vs.map (fun y => hlV (atQ q nm y.1)))) : Gat W base a n cap (vs.map (fun y => postX L nm y.1)) := by
  refine ⟨vs.map (fun y => atQ q nm y.1), by simp [hn], ?_, fun i h l hi hl => ?_⟩
  · rw [OwnH, List.map_map]
    exact hr
  · rw [List.getElem?_map] at hi hl
    cases hv : vs[i]? with
    | none => rw [hv] at hi; cases hi
    | some y =>
      rw [hv] at hi hl
      cases hi
      cases hl
      exact ⟨(hB.posts.at' nm y.1 (hne y (List.mem_of_getElem? hv))).1, Nat.le_trans (postX_len L nm y.1) hL, postX_wf L nm y.1 (by omega)⟩

set_option maxHeartbeats 8000000 in
theorem begin1_any (g : Nat) (S : Nat → Prop) (L : Lx) (nm st : ByteArray) (w : World) (h : IAt w g S L) (hnm : nm.size ≤ 9223372036854775807) (hst : st.toList ≠ []) :
    Calls Tryz.prog 43 #[.pointer (some ⟨g, 0, none⟩), .string nm, .string st] w fun e w' => PosP (bgS L nm st) w e w' := by
  have HA := hide h
  obtain ⟨hG, hL, ax, cx, hs, bn, bp, nb, p, q, hnb, hB⟩ := h
  have HB := hide hB
  have HSEE : Hid (∀ (W u : World) (hi : Nat) (zs : List Value) (v : Value) (y : Vn), y ∈ valsX L nm → BgI W w.heap.size hi g nm st zs v → Below w.heap.size w W → Below (w.heap.size + 1 + 1 + 1) W u → BgS g w.heap.size bp nm y.1 (p nm) (atQ q nm y.1) W u) := fun W u _ zs v y hmem hI hW hu => by
    have hBu := hB.below (hW.trans (hu.mono (by omega)))
    have hsz := vals_size nm hG y hmem
    refine ⟨⟨?_, ?_, hBu.c2⟩, ⟨?_, ?_⟩, hu⟩
    · rw [hu.cell (p := ⟨w.heap.size, 0, none⟩) (show w.heap.size < w.heap.size + 1 + 1 + 1 by omega)]; exact hI.bx.cell
    · rw [hu.cell (p := ⟨w.heap.size + 1, 0, none⟩) (show w.heap.size + 1 < w.heap.size + 1 + 1 + 1 by omega)]; exact hI.bn.cell
    · rw [hBu.posts.map.look Tryz.underlying64 (zeroMp u) (s := nm) (by unfold maxLen; omega)]
      cases p nm <;> rfl
    · cases hp : p nm with
      | none =>
        rw [look_none Tryz.underlying76 (zeroSi u) (s := y.1) (by unfold maxLen; omega)]
        unfold atQ
        rw [hB.posts.no nm hp y.1]
        rfl
      | some b => rw [(hBu.posts.ins nm b hp).2.2.look Tryz.underlying76 (zeroSi u) (s := y.1) (by unfold maxLen; omega), atQ_val]
  have HNE : Hid (∀ y ∈ (valsX L nm).filter (pfB st), y.1 ≠ .empty) := fun y hy => vals_ne L nm y (List.mem_filter.1 hy).1
  have HMO := hide (bgS_most L nm st hst)
  have HXL : Hid ((bgS L nm st).length ≤ 4096) := Nat.le_trans (idxs_len _ _ _) hL
  have HGT := hide (fun (W : World) (base n cap : Nat) (a : Option Addr) (vs : List Vn) (b : Below w.heap.size w W) hne hn hr => bg_gat (W := W) (base := base) (n := n) (cap := cap) (a := a) (vs := vs) (nm := nm) (hB.below b) hL hne hn hr)
  have hM : (valsX L nm).length ≤ 4096 := Nat.le_trans (len_valsX L nm) hL
  have VC := hide (fun (u : World) (b : Below w.heap.size w u) => valuesX_any g S L nm u (HA.out.below b) hnm)
  obtain ⟨X, hX⟩ : ∃ X, Hid (bgS L nm st = X) := ⟨_, rfl⟩
  rw [hX.out] at HMO HXL
  rw [hX.out]
  generalize hvs : valsX L nm = vs at *
  obtain ⟨i0, hi, hz0, hz1, hz2⟩ := info_parts Tryz.infoSl
  have HI := hide (And.intro hi (And.intro hz0 (And.intro hz1 hz2)))
  obtain ⟨W1, hW1⟩ : ∃ W, Hid (w.alloc (.cells #[.pointer (some ⟨g, 0, none⟩)] 27) = W) := ⟨_, rfl⟩
  obtain ⟨W2, hW2⟩ : ∃ W, Hid (W1.alloc (.cells #[.string nm] 9) = W) := ⟨_, rfl⟩
  obtain ⟨W3, hW3⟩ : ∃ W, Hid (W2.alloc (.cells #[.string st] 9) = W) := ⟨_, rfl⟩
  obtain ⟨W4, hW4⟩ : ∃ W, Hid (W3.alloc (.cells #[.slice none 0 0] 71) = W) := ⟨_, rfl⟩
  have S1 : Hid (W1.heap.size = w.heap.size + 1) := by rw [← hW1.out]; show _ = _; simp
  have S2 : Hid (W2.heap.size = w.heap.size + 1 + 1) := by rw [← hW2.out]; show _ = _; rw [World.size_alloc, S1.out]
  have S3 : Hid (W3.heap.size = w.heap.size + 1 + 1 + 1) := by rw [← hW3.out]; show _ = _; rw [World.size_alloc, S2.out]
  have S4 : Hid (W4.heap.size = w.heap.size + 1 + 1 + 1 + 1) := by rw [← hW4.out]; show _ = _; rw [World.size_alloc, S3.out]
  have B1 : Hid (Below w.heap.size w W1) := by rw [← hW1.out]; exact (Below.refl _ _).alloc (Nat.le_refl _) _
  have B2 : Hid (Below w.heap.size w W2) := by rw [← hW2.out]; exact bel_al B1.out (Nat.le_refl _) _
  have B3 : Hid (Below w.heap.size w W3) := by rw [← hW3.out]; exact bel_al B2.out (Nat.le_refl _) _
  have B4 : Hid (Below w.heap.size w W4) := by rw [← hW4.out]; exact bel_al B3.out (Nat.le_refl _) _
  have G4 : Hid (∀ hi, BgI W4 w.heap.size hi g nm st [] (.slice none 0 0)) := fun hi => by
    refine ⟨?_, ?_, ?_, ?_, World.ownsRow_nil _ _ _ _⟩
    · rw [← hW4.out, ← hW3.out, ← hW2.out, ← hW1.out]
      exact (((Boxed.new w 27 (.pointer (some ⟨g, 0, none⟩))).alloc _).alloc _).alloc _
    · rw [← hW4.out, ← hW3.out, ← hW2.out, ← S1.out]
      exact ((Boxed.new W1 9 (.string nm)).alloc _).alloc _
    · rw [← hW4.out, ← hW3.out, ← S2.out]
      exact (Boxed.new W2 9 (.string st)).alloc _
    · rw [← hW4.out, ← S3.out]
      exact Boxed.new W3 71 (.slice none 0 0)
  have c5 : W3.cell? ⟨w.heap.size + 1 + 1, 0, none⟩ = some (.string st) := by
    rw [← hW3.out, ← S2.out]
    exact (Boxed.new W2 9 (.string st)).cell
  have V4 := hide (VC.out W4 B4.out)
  have t1 : ¬ st.toList = [] := hst
  have t2 : st.toList.isEmpty = false := by
    cases hq : st.toList with
    | nil => exact absurd hq t1
    | cons _ _ => rfl
  have t3 : (st.toList == (⟨#[]⟩ : ByteArray).toList) = false := by
    rw [show (⟨#[]⟩ : ByteArray).toList = [] by decide +kernel]
    cases hq : st.toList with
    | nil => exact absurd hq t1
    | cons _ _ => rfl
  clear hB hG hnb VC hi hz0 hz1 hz2 hst
  refine (callsIn_wide (n := 9)).1 ?_
  refine callsIn_of_wp_marks Tryz.func43 rfl trivial ?_ rfl
  simp only [Tryz.ntmps43, List.size_toArray, List.length_cons, List.length_nil, Nat.reduceAdd, Nat.reduceSub, Array.replicate_succ, Array.replicate_zero, List.push_toArray, List.append_toArray, List.nil_append, List.cons_append]
  have c5' := c5
  rw [← hW3.out, ← hW2.out, ← hW1.out] at c5'
  have c13 := (G4.out 0).bx.cell
  have c14 := (G4.out 0).bn.cell
  rw [← hW4.out, ← hW3.out, ← hW2.out, ← hW1.out] at c13 c14
  gi_wp2_with fail
  rw [hW1.out, hW2.out, hW3.out, hW4.out]
  clear hW1 hW2 hW3 hW4 c5 c5' c13 c14
  refine ⟨trivial, (callsIn_wide.2 V4.out).mono ?_⟩
  rintro e u5 ⟨Bv, Bc, M, va, vc, va', vc', rfl, hV, hVO, b5⟩
  have B5 := hide (bel_to B4.out (Nat.le_refl _) b5)
  have G5 := hide ((G4.out u5.heap.size).below b5)
  have hs4 : W4.heap.size = w.heap.size + 1 + 1 + 1 + 1 := S4.out
  rw [hs4] at hVO
  have ST := hide (vals_stops 8 (by omega) u5 u5 Bv Bc M vs va vc va' vc' _ hV hVO (Below.refl _ _))
  have hMM := hV.few
  have HML := hide hV.len
  have s5 : w.heap.size + 1 + 1 + 1 < u5.heap.size := G5.out.bl.lt
  clear hV hVO b5 V4 B1 B2 B3 B4 G4 S1 S2 S3 S4 hs4 t1 t2 t3
  gi_wp2_with fail
  refine wpIn_rangeFunc_ownF rfl (by omega) (gf := 84) (lb := #[.pointer (some ⟨Bv, 0, none⟩), .pointer (some ⟨Bc, 0, none⟩)]) rfl trivial (enters_of Tryz.func84 (by kernel_rfl) rfl)
    ST.out Ch.trans (fun W l o o' hl _ _ _ => (Ch.grown (grownBy_putObj' W l o')).more (fun k _ e => by cases e; omega)) (Below.refl _ _) (fun _ => rfl)
    (fun pre W => (BgE W w.heap.size u5.heap.size g nm st (bgZ q nm st (pre.map (·.1))) ∧ Below w.heap.size w W) ∧ Below w.heap.size u5 W)
    (fun _ _ _ => False)
    (OwnFrom.and (OwnFrom.and (Go.Own.from (bge_own _ _ _ _ _ _) _) (ownFrom_below (Nat.le_refl _) (by omega))) (ownFrom_below (by omega) (by omega)))
    (fun _ _ _ _ _ hs _ _ => hs)
    ⟨⟨⟨_, G5.out⟩, B5.out⟩, Below.refl _ _⟩
    (fun x => { tmps := #[.pointer (some ⟨g, 0, none⟩), .string nm, .string st, .pointer (some ⟨w.heap.size, 0, none⟩), .pointer (some ⟨w.heap.size + 1, 0, none⟩), .pointer (some ⟨w.heap.size + 1 + 1, 0, none⟩), .slice none 0 0, .pointer (some ⟨w.heap.size + 1 + 1 + 1, 0, none⟩), .string x.1.1, .string st, .bool false, undef, undef, .pointer (some ⟨g, 0, none⟩), .string nm, .func (.func 84) #[] #[.pointer (some ⟨Bv, 0, none⟩), .pointer (some ⟨Bc, 0, none⟩)], .string x.1.1, .int .i64 (x.1.2 : Int), undef, undef, undef, undef, undef, undef, undef, undef, undef, undef, undef, undef, undef, undef, undef, undef, undef], defers := [] }) ?assign ?body ?done ?stop
  case assign =>
    intro l x W K hK
    gi_wp2
    exact hK
  case body =>
    rintro l pre ⟨⟨ys, yn⟩, hmem⟩ W ⟨⟨⟨v, hL'⟩, hW⟩, hU⟩ hlt
    dsimp only
    have HPX := hide (haspre_any ys st W)
    have csb := hL'.bs.cell
    have GW := hide hL'
    have BW := hide hW
    have BU := hide hU
    have HSE : Hid (∀ u, Below (w.heap.size + 1 + 1 + 1) W u → BgS g w.heap.size bp nm ys (p nm) (atQ q nm ys) W u) := fun u hu => HSEE.out W u _ _ _ (ys, yn) hmem GW.out BW.out hu
    have HZL : Hid ((bgZ q nm st (pre.map (·.1))).length ≤ 4096) := by
      have h1 : (bgZ q nm st (pre.map (·.1))).length ≤ pre.length := by
        unfold bgZ
        rw [List.length_map]
        exact Nat.le_trans (List.length_filter_le _ _) (by rw [List.length_map]; exact Nat.le_refl _)
      show _ ≤ _
      omega
    clear hL' hW hU HSEE
    gi_wp2_with fail
    refine ⟨trivial, (CallsIn.inRound l (callsIn_wide.2 HPX.out)).mono ?_⟩
    rintro e w2 ⟨rfl, hw⟩
    rw [hw]
    clear hw HPX csb
    cases hp : st.toList.isPrefixOf ys.toList with
    | false =>
      have HZ : Hid (bgZ q nm st ((pre ++ [(⟨(ys, yn), hmem⟩ : { y : Vn // y ∈ vs })]).map (·.1)) = bgZ q nm st (pre.map (·.1))) := by
        show _ = _
        rw [List.map_append]
        exact bgZ_no hp
      clear hp
      gi_wp2
      refine ⟨KeepsOthers.refl _, Ch.refl _ _, ⟨⟨v, ?_⟩, BW.out⟩, BU.out⟩
      rw [HZ.out]
      exact GW.out
    | true =>
      have HZ : Hid (bgZ q nm st ((pre ++ [(⟨(ys, yn), hmem⟩ : { y : Vn // y ∈ vs })]).map (·.1)) = bgZ q nm st (pre.map (·.1)) ++ [hlV (atQ q nm ys)]) := by
        show _ = _
        rw [List.map_append]
        exact bgZ_yes hp
      clear hp
      obtain ⟨⟨ya, yb, yc⟩, hyq⟩ : ∃ y, Hid (atQ q nm ys = y) := ⟨_, rfl⟩
      rw [hyq.out] at HSE HZ
      generalize bgZ q nm st (pre.map (·.1)) = zs at *
      generalize p nm = mb at *
      obtain ⟨al, cl, rfl⟩ := row_form GW.out.rl
      obtain ⟨zn, hzn⟩ : ∃ zn, Hid (zs.length = zn) := ⟨_, rfl⟩
      have hz4 : zn ≤ 4096 := by have := HZL.out; have := hzn.out; omega
      have RW := hide GW.out.rl
      have cbl := GW.out.bl.cell
      rw [hzn.out] at RW cbl
      have BLT : Hid (w.heap.size + 1 + 1 + 1 < W.heap.size) := GW.out.bl.lt
      have PU : Hid (∀ (u w1 : World) (v' : Value), Below W.heap.size W u → u.grownBy w1 (Value.slice al zn cl).ownBlock → w1.ownsRow u5.heap.size 33 1 v' (zn + 1) (zs ++ [.slice ya yb yc]) → (w1.cell? ⟨w.heap.size + 1 + 1 + 1, 0, none⟩ = some (.slice al zn cl) ∧ w1.frozen? ⟨w.heap.size + 1 + 1 + 1, 0, none⟩ = false) ∧ KeepsOthers W (w1.setCell ⟨w.heap.size + 1 + 1 + 1, 0, none⟩ v') ∧ BgI (w1.setCell ⟨w.heap.size + 1 + 1 + 1, 0, none⟩ v') w.heap.size u5.heap.size g nm st (zs ++ [.slice ya yb yc]) v' ∧ Below (w.heap.size + 1 + 1 + 1) W w1 ∧ Ch (fun k => k = w.heap.size + 1 + 1 + 1 ∨ u5.heap.size ≤ k) W (w1.setCell ⟨w.heap.size + 1 + 1 + 1, 0, none⟩ v')) := fun u w1 v' hb hg ho => by
        have e := hzn.out
        subst e
        exact GW.out.push s5 hb hg ho
      have BD : Hid (Below (w.heap.size + 1 + 1 + 1) W W.drew) := (Below.refl _ _).drew
      clear GW HZL
      gi_wp2_with fail
      refine regionIn_of (S := fun u => (u.cell? ⟨w.heap.size, 0, none⟩ = some (.pointer (some ⟨g, 0, none⟩)) ∧ u.cell? ⟨w.heap.size + 1, 0, none⟩ = some (.string nm) ∧ u.cell? ⟨g, 2, none⟩ = some (.map (some bp))) ∧ ((Instr.lookup 64 (.map (some bp)) (.string nm) false).run Tryz.prog u = .ok (.map mb) u ∧ (Instr.lookup 76 (.map mb) (.string ys) false).run Tryz.prog u = .ok (.slice ya yb yc) u) ∧ Hid (Below (w.heap.size + 1 + 1 + 1) W u)) (by kernel_rfl) (by kernel_rfl) (by rintro ⟨_, _, hh⟩; exact hh) (HSE.out _ BD.out) (fun hHeld => ?_)
      refine held_take (i := 1) (d := (some 22)) (v := ?_) rfl rfl (by kernel_rfl) (by kernel_rfl) (by kernel_rfl) (fun _ _ _ h => h) (Or.inl ⟨by rfl, ?_⟩) (by first | assumption | rfl | trivial) ?_
      rotate_left 1
      · (intro w hSw; (try dsimp only at hSw); (try subst hSw); go_simp; try with_reducible rfl)
      simp only [Act.put, List.setIfInBounds_toArray, List.set_cons_zero, List.set_cons_succ]
      refine held_take (i := 2) (d := (some 23)) (v := ?_) rfl rfl (by kernel_rfl) (by kernel_rfl) (by kernel_rfl) (fun _ _ _ h => h) (Or.inl ⟨by rfl, ?_⟩) (by first | assumption | rfl | trivial) ?_
      rotate_left 1
      · (intro w hSw; (try dsimp only at hSw); (try subst hSw); go_simp; try with_reducible rfl)
      simp only [Act.put, List.setIfInBounds_toArray, List.set_cons_zero, List.set_cons_succ]
      refine held_take (i := 3) (d := (some 24)) (v := ?_) rfl rfl (by kernel_rfl) (by kernel_rfl) (by kernel_rfl) (fun _ _ _ h => h) (Or.inl ⟨by rfl, ?_⟩) (by first | assumption | rfl | trivial) ?_
      rotate_left 1
      · (intro w hSw; (try dsimp only at hSw); (try subst hSw); go_simp; try with_reducible rfl)
      simp only [Act.put, List.setIfInBounds_toArray, List.set_cons_zero, List.set_cons_succ]
      refine held_take (i := 4) (d := (some 25)) (v := ?_) rfl rfl (by kernel_rfl) (by kernel_rfl) (by kernel_rfl) (fun _ _ _ h => h) (Or.inl ⟨by rfl, ?_⟩) (by first | assumption | rfl | trivial) ?_
      rotate_left 1
      · (intro w hSw; (try dsimp only at hSw); (try subst hSw); go_simp; try with_reducible rfl)
      simp only [Act.put, List.setIfInBounds_toArray, List.set_cons_zero, List.set_cons_succ]
      refine held_take (i := 5) (d := (some 26)) (v := ?_) rfl rfl (by kernel_rfl) (by kernel_rfl) (by kernel_rfl) (fun _ _ _ h => h) (Or.inl ⟨by rfl, ?_⟩) (by first | assumption | rfl | trivial) ?_
      rotate_left 1
      · (intro w hSw; (try dsimp only at hSw); (try subst hSw); go_simp; try with_reducible rfl)
      simp only [Act.put, List.setIfInBounds_toArray, List.set_cons_zero, List.set_cons_succ]
      refine held_take (i := 7) (d := (some 28)) (v := ?_) rfl rfl (by kernel_rfl) (by kernel_rfl) (by kernel_rfl) (fun _ _ _ h => h) (Or.inl ⟨by rfl, ?_⟩) (by first | assumption | rfl | trivial) ?_
      rotate_left 1
      · (intro w hSw; (try dsimp only at hSw); (try subst hSw); go_simp; try with_reducible rfl)
      simp only [Act.put, List.setIfInBounds_toArray, List.set_cons_zero, List.set_cons_succ]
      refine held_take (i := 6) (d := (some 27)) (v := ?_) rfl rfl (by kernel_rfl) (by kernel_rfl) (by kernel_rfl) (fun _ _ _ h => h) (Or.inl ⟨by rfl, ?_⟩) (by first | assumption | rfl | trivial) ?_
      rotate_left 1
      · (intro w hSw; (try dsimp only at hSw); (try subst hSw); go_simp; try with_reducible rfl)
      simp only [Act.put, List.setIfInBounds_toArray, List.set_cons_zero, List.set_cons_succ]
      refine held_take (i := 8) (d := (some 29)) (v := ?_) rfl rfl (by kernel_rfl) (by kernel_rfl) (by kernel_rfl) (fun _ _ _ h => h) (Or.inl ⟨by rfl, ?_⟩) (by first | assumption | rfl | trivial) ?_
      rotate_left 1
      · (intro w hSw; (try dsimp only at hSw); (try subst hSw); go_simp; try with_reducible rfl)
      simp only [Act.put, List.setIfInBounds_toArray, List.set_cons_zero, List.set_cons_succ]
      have U5 : Hid (u5.heap.size ≤ W.heap.size) := BU.out.size
      refine held_two (i := 0) (j := 9) (by kernel_rfl) rfl (by rfl) rfl (by rfl) (fun K1 hK1 => ?_) (fun K1 hK1 => ?_)
      · go_simp
        refine hK1.out _ _ (HSE.out _ BD.out) ?_
        clear hK1
        refine held_next (i := 9) (by kernel_rfl) rfl (by rfl) (fun K1 hK1 => ?_)
        go_simp
        obtain ⟨wB, hwB⟩ : ∃ wB, Hid ((W.alloc (.cells #[.slice ya yb yc] 33)).drew = wB) := ⟨_, rfl⟩
        rw [hwB.out]
        have BB : Hid (Below W.heap.size W wB) := by rw [← hwB.out]; exact ((Below.refl _ _).alloc (Nat.le_refl _) _).drew
        have NB : Hid (∀ j u, [Value.slice ya yb yc][j]? = some u → wB.cell? ((⟨W.heap.size, 0, none⟩ : Addr).add j) = some u) := by rw [← hwB.out]; exact one_slab W _ _
        have XB := hide (row_ch RW.out (Ch.of_below BB.out) (fun _ _ => id))
        have BB3 : Hid (Below (w.heap.size + 1 + 1 + 1) W wB) := BB.out.mono (by have := BLT.out; omega)
        have cbB : wB.cell? ⟨w.heap.size + 1 + 1 + 1, 0, none⟩ = some (.slice al zn cl) := by
          rw [BB.out.cell (p := ⟨w.heap.size + 1 + 1 + 1, 0, none⟩) BLT.out]
          exact cbl
        refine hK1.out _ _ (HSE.out _ BB3.out) ?_
        clear hK1 hwB
        refine held_next (i := 10) (by kernel_rfl) rfl (by rfl) (fun K1 hK1 => ?_)
        refine wp_append_lies _ (.tmp 21) (.tmp 30) 71 rfl u5.heap.size 33 i0 (.slice none 0 0) 1 24 Tryz.underlying71 HI.out.1 HI.out.2.1 HI.out.2.2.1 HI.out.2.2.2 rfl (by decide) (.slice al zn cl) zn zs rfl XB.out ⟨W.heap.size, 0, none⟩ 1 1 [.slice ya yb yc] rfl rfl NB.out (by simp [Value.oneCell']) (by omega) (by unfold maxLen; omega) (by omega) (Nat.le_trans U5.out BB.out.size) _ rfl ?_
        intro gC cC wC oC grC atC ltC
        obtain ⟨⟨k1, k2⟩, k3, k4, k5, k6⟩ := PU.out wB wC _ BB.out grC oC
        have K3 := hide k3
        have K4 := hide k4
        have K5 := hide k5
        have K6 := hide k6
        have K7 : Hid (Below (w.heap.size + 1 + 1 + 1) W (wC.setCell ⟨w.heap.size + 1 + 1 + 1, 0, none⟩ (.slice (some ⟨gC, 0, none⟩) (zn + 1) cC))) := K6.out.below (by have := BLT.out; omega) (fun k hk e => by omega)
        clear oC grC atC k3 k4 k5 k6 PU XB NB
        go_simp
        refine hK1.out _ _ (HSE.out _ K5.out) ?_
        clear hK1
        refine held_next (i := 11) (by kernel_rfl) rfl (by rfl) (fun K1 hK1 => ?_)
        go_simp
        refine hK1.out _ _ (HSE.out _ K7.out) ?_
        clear hK1 hHeld
        refine wpAnyH_done (by kernel_rfl) ?_ _
        gi_wp2
        refine ⟨K3.out, K6.out.more (fun k _ e => by omega), ⟨⟨.slice (some ⟨gC, 0, none⟩) (zn + 1) cC, ?_⟩, BW.out.trans (K7.out.mono (by omega))⟩, BU.out.trans (K7.out.mono (by omega))⟩
        rw [HZ.out]
        exact K4.out
      · go_simp
        obtain ⟨wB, hwB⟩ : ∃ wB, Hid ((W.alloc (.cells #[.slice ya yb yc] 33)).drew = wB) := ⟨_, rfl⟩
        rw [hwB.out]
        have BB : Hid (Below W.heap.size W wB) := by rw [← hwB.out]; exact ((Below.refl _ _).alloc (Nat.le_refl _) _).drew
        have NB : Hid (∀ j u, [Value.slice ya yb yc][j]? = some u → wB.cell? ((⟨W.heap.size, 0, none⟩ : Addr).add j) = some u) := by rw [← hwB.out]; exact one_slab W _ _
        have XB := hide (row_ch RW.out (Ch.of_below BB.out) (fun _ _ => id))
        have BB3 : Hid (Below (w.heap.size + 1 + 1 + 1) W wB) := BB.out.mono (by have := BLT.out; omega)
        have cbB : wB.cell? ⟨w.heap.size + 1 + 1 + 1, 0, none⟩ = some (.slice al zn cl) := by
          rw [BB.out.cell (p := ⟨w.heap.size + 1 + 1 + 1, 0, none⟩) BLT.out]
          exact cbl
        refine hK1.out _ _ (HSE.out _ BB3.out) ?_
        clear hK1 hwB
        refine held_next (i := 0) (by kernel_rfl) rfl (by rfl) (fun K1 hK1 => ?_)
        go_simp
        refine hK1.out _ _ (HSE.out _ BB3.out) ?_
        clear hK1
        refine held_next (i := 10) (by kernel_rfl) rfl (by rfl) (fun K1 hK1 => ?_)
        refine wp_append_lies _ (.tmp 21) (.tmp 30) 71 rfl u5.heap.size 33 i0 (.slice none 0 0) 1 24 Tryz.underlying71 HI.out.1 HI.out.2.1 HI.out.2.2.1 HI.out.2.2.2 rfl (by decide) (.slice al zn cl) zn zs rfl XB.out ⟨W.heap.size, 0, none⟩ 1 1 [.slice ya yb yc] rfl rfl NB.out (by simp [Value.oneCell']) (by omega) (by unfold maxLen; omega) (by omega) (Nat.le_trans U5.out BB.out.size) _ rfl ?_
        intro gC cC wC oC grC atC ltC
        obtain ⟨⟨k1, k2⟩, k3, k4, k5, k6⟩ := PU.out wB wC _ BB.out grC oC
        have K3 := hide k3
        have K4 := hide k4
        have K5 := hide k5
        have K6 := hide k6
        have K7 : Hid (Below (w.heap.size + 1 + 1 + 1) W (wC.setCell ⟨w.heap.size + 1 + 1 + 1, 0, none⟩ (.slice (some ⟨gC, 0, none⟩) (zn + 1) cC))) := K6.out.below (by have := BLT.out; omega) (fun k hk e => by omega)
        clear oC grC atC k3 k4 k5 k6 PU XB NB
        go_simp
        refine hK1.out _ _ (HSE.out _ K5.out) ?_
        clear hK1
        refine held_next (i := 11) (by kernel_rfl) rfl (by rfl) (fun K1 hK1 => ?_)
        go_simp
        refine hK1.out _ _ (HSE.out _ K7.out) ?_
        clear hK1 hHeld
        refine wpAnyH_done (by kernel_rfl) ?_ _
        gi_wp2
        refine ⟨K3.out, K6.out.more (fun k _ e => by omega), ⟨⟨.slice (some ⟨gC, 0, none⟩) (zn + 1) cC, ?_⟩, BW.out.trans (K7.out.mono (by omega))⟩, BU.out.trans (K7.out.mono (by omega))⟩
        rw [HZ.out]
        exact K4.out
  case done =>
    rintro D xs W hD hS ⟨⟨⟨v, hL'⟩, hW⟩, -⟩ hK
    obtain rfl := hS
    rw [List.attach_map_subtype_val] at hL'
    obtain ⟨ar, cr, rfl⟩ := row_form hL'.rl
    have cbl := hL'.bl.cell
    obtain ⟨zn, hzn⟩ : ∃ zn, Hid ((bgZ q nm st vs).length = zn) := ⟨_, rfl⟩
    have HFL : Hid ((vs.filter (pfB st)).length = zn) := by
      have := hzn.out
      unfold bgZ at this
      rw [List.length_map] at this
      exact this
    have hz4 : zn ≤ 4096 := by
      have h1 := HFL.out
      have h2 := List.length_filter_le (pfB st) vs
      omega
    have RW := hide hL'.rl
    rw [hzn.out] at RW cbl
    have GA := hide (HGT.out W u5.heap.size zn cr ar (vs.filter (pfB st)) hW HNE.out HFL.out RW.out)
    have OR := hide (or_any ar zn cr _ W (GA.out.rowII (by omega)) (by omega) GA.out.lens)
    rw [HMO.out] at OR
    have BW := hide hW
    have DLT : Hid (D < W.heap.size) := (Array.getElem?_eq_some_iff.1 hK).1
    clear hL' hW GA RW HSEE HGT
    gi_wp2_with fail
    refine ⟨trivial, (callsIn_wide.2 OR.out).mono ?_⟩
    rintro e u6 ⟨F, rfl, tF, b6⟩
    have B6 := hide (bel_to BW.out (Nat.le_refl _) b6)
    have IL := hide (ilist_any F X u6 tF HXL.out)
    have hK6 := (b6.block D DLT.out).trans hK
    have D6 : Hid (D < u6.heap.size) := Nat.lt_of_lt_of_le DLT.out b6.size
    clear b6 tF OR cbl hK
    gi_wp2_with fail
    refine ⟨trivial, (callsIn_wide.2 IL.out).mono ?_⟩
    intro e u7 h7
    obtain ⟨a7, n7, d7, rfl, o7, b7⟩ := h7.posP
    have O7 := hide o7
    have B7 := hide (bel_to B6.out (Nat.le_refl _) b7)
    have hK7 := (b7.block D D6.out).trans hK6
    have U7 : Hid (w.heap.size ≤ u6.heap.size) := B6.out.size
    clear IL h7 o7 b7 hK6
    gi_wp2
    refine ⟨by simp, .inl ⟨_, _, rfl, run_takeDeferred hK7, ?_⟩⟩
    refine ⟨_, results_tmp rfl _ _ _, a7, n7, d7, rfl, ?_, ?_⟩
    · exact ownsRow_putObj (Own.mono O7.out U7.out) _ hK7 rfl
    · exact B7.out.trans (belowK_b (w := w) (Nat.le_refl _) _ D _ _ (by omega) hK7 rfl rfl)
  case stop =>
    rintro D c pre W _ _ h _
    exact h.elim
end Go.Proofs.YtpffhpnmbpjifaaGreat
