/-
  What frame.All hands back, and what its iterator does with the law's own collector: contracts, for every world.
  Conditions: the slice shows its bytes; there is room for the lists.
-/
import Derived.Test.YtbpmmeagpefglaaFrameO
import Derived.Test.YtbpmmeagpefglaaFrameL
namespace Go.Proofs.Ytbpmmeagpefglaa
open Go.RowKit Go.Shelf
attribute [local go_sem] Oper.semAt_some

/-- The collector, its lists' rows apart from a box. -/
def Col (w : World) (n0 Ba Bl Bm Bx : Nat) (ks : List Int) (ss : List ByteArray) (most : Int) : Prop := ∃ va vl, Coll w n0 Ba Bl Bm ks ss most va vl ∧ ∀ g, va.ownBlock = some g → g ≠ Bx
theorem col_mk {w : World} {n0 Ba Bl Bm Bx : Nat} {ks : List Int} {ss : List ByteArray} {most : Int} {va vl : Value} (h : Coll w n0 Ba Bl Bm ks ss most va vl) (h' : ∀ g, va.ownBlock = some g → g ≠ Bx) : Col w n0 Ba Bl Bm Bx ks ss most := ⟨va, vl, h, h'⟩
theorem coll_own {β : Type} (n0 Ba Bl Bm Bx : Nat) (ks : β → List Int) (ss : β → List ByteArray) (most : Int) : Go.Own (fun s W => Col W n0 Ba Bl Bm Bx (ks s) (ss s) most) := by
  rintro s X Y row ⟨va, vl, h, hx⟩ hg hrow
  have hc : ∀ {g : Nat} {t : TypeId}, CellsT X g t → ¬ row = some g := by
    rintro g t ⟨cur, mk, h1⟩ h2
    obtain ⟨o, ho, hcells⟩ := hrow g h2
    rw [h1] at ho
    cases ho
    cases hcells
  exact ⟨va, vl, h.keep (Ch.grown hg) (hc (boxed_cells h.ba)) (hc (boxed_cells h.bl)) (hc (boxed_cells h.bm)) (fun g hg' => hc (row_cells h.ra hg').1) (fun g hg' => hc (row_cells h.rl hg').1), hx⟩

theorem ch_others {S : Nat → Prop} {w w' : World} (h : Ch S w w') (hs : ∀ k, S k → ∃ t, CellsT w k t) : KeepsOthers w w' := by
  refine ⟨h.size, fun k o hk ho => (h.block k (Array.getElem?_eq_some_iff.1 hk).1 (fun h' => ?_)).trans hk⟩
  obtain ⟨t, cur, mk, h1⟩ := hs k h'
  rw [h1] at hk
  cases hk
  cases ho

/-- What the loop's body keeps besides the collector's own. -/
structure Beside (w : World) (N0 : Nat) (yv vb : Value) (k : Int) : Prop where
  by' : Boxed w N0 72 yv
  bx : Boxed w (N0 + 1) 3 (.int .i64 k)
  bn : Boxed w (N0 + 2) 25 vb

theorem beside_own {β : Type} (N0 : Nat) (yv vb : Value) (k : β → Int) : Go.Own (fun s W => Beside W N0 yv vb (k s)) := fun s X Y row h hg hrow =>
  ⟨boxed_own N0 _ (fun _ : β => yv) s X Y row h.by' hg hrow, boxed_own (N0 + 1) _ (fun s : β => Value.int .i64 (k s)) s X Y row h.bx hg hrow, boxed_own (N0 + 2) _ (fun _ : β => vb) s X Y row h.bn hg hrow⟩

theorem keeps_below {w w' : World} (h : Below w.heap.size w w') : KeepsOthers w w' := ch_others (Ch.of_below h) (fun _ h => h.elim)

theorem round_step {W wc wd : World} {n0 N0 Ba Bl Bm : Nat} {ks ks' : List Int} {ss ss' : List ByteArray} {most k : Int} {va vl va' vl' yv vb : Value} (hC : Coll W n0 Ba Bl Bm ks ss most va vl) (hne : ∀ g, va.ownBlock = some g → g ≠ N0 + 1) (hb : Beside W N0 yv vb k)
    (ha : Ba < N0) (hl : Bl < N0) (hn : n0 ≤ N0) (k1 : Below W.heap.size W wc) (c2 : Ch (fun g => g = Ba ∨ g = Bl ∨ va.ownBlock = some g ∨ vl.ownBlock = some g) wc wd) (_hC' : Coll wd n0 Ba Bl Bm ks' ss' most va' vl') (hn' : ∀ g, va'.ownBlock = some g → va.ownBlock = some g ∨ wc.heap.size ≤ g) :
    KeepsOthers W wd ∧ Below n0 W wd ∧ Beside wd N0 yv vb k ∧ ∀ g, va'.ownBlock = some g → g ≠ N0 + 1 := by
  have hCc := hC.grow k1
  have b1 := boxed_below hb.by' k1
  have b2 := boxed_below hb.bx k1
  have b3 := boxed_below hb.bn k1
  have lx := hb.bn.lt
  refine ⟨(keeps_below k1).trans (ch_others c2 ?_), (k1.mono (by omega)).trans (c2.below (by have := k1.size; omega) ?_), ⟨boxed_ch b1 c2 ?_, boxed_ch b2 c2 ?_, boxed_ch b3 c2 ?_⟩, ?_⟩
  · rintro g (rfl | rfl | h | h)
    · exact ⟨_, boxed_cells hCc.ba⟩
    · exact ⟨_, boxed_cells hCc.bl⟩
    · exact ⟨_, (row_cells hCc.ra h).1⟩
    · exact ⟨_, (row_cells hCc.rl h).1⟩
  · rintro g hg (rfl | rfl | h | h)
    · have := hC.na; omega
    · have := hC.nl; omega
    · have := (row_cells hCc.ra h).2; omega
    · have := (row_cells hCc.rl h).2; omega
  · rintro (h | h | h | h)
    · omega
    · omega
    · exact (row_cells hCc.ra h).1.ne (boxed_cells b1) (by decide) rfl
    · exact (row_cells hCc.rl h).1.ne (boxed_cells b1) (by decide) rfl
  · rintro (h | h | h | h)
    · omega
    · omega
    · exact hne _ h rfl
    · exact (row_cells hCc.rl h).1.ne (boxed_cells b2) (by decide) rfl
  · rintro (h | h | h | h)
    · omega
    · omega
    · exact (row_cells hCc.ra h).1.ne (boxed_cells b3) (by decide) rfl
    · exact (row_cells hCc.rl h).1.ne (boxed_cells b3) (by decide) rfl
  · intro g h
    rcases hn' g h with h1 | h1
    · exact hne g h1
    · have := b3.lt; omega

theorem round_store {wd : World} {n0 N0 Ba Bl Bm : Nat} {ks : List Int} {ss : List ByteArray} {most k : Int} {va vl yv vb : Value} (hC : Coll wd n0 Ba Bl Bm ks ss most va vl) (hne : ∀ g, va.ownBlock = some g → g ≠ N0 + 1) (hb : Beside wd N0 yv vb k)
    (ha : Ba < N0) (hl : Bl < N0) (hm : Bm < N0) (hn : n0 ≤ N0) (j : Int) :
    KeepsOthers wd (wd.setCell ⟨N0 + 1, 0, none⟩ (.int .i64 j)) ∧ Below n0 wd (wd.setCell ⟨N0 + 1, 0, none⟩ (.int .i64 j)) ∧ Beside (wd.setCell ⟨N0 + 1, 0, none⟩ (.int .i64 j)) N0 yv vb j ∧ Coll (wd.setCell ⟨N0 + 1, 0, none⟩ (.int .i64 j)) n0 Ba Bl Bm ks ss most va vl := by
  refine ⟨KeepsOthers.setCell _ _ _, (Below.refl n0 wd).setCell (p := ⟨N0 + 1, 0, none⟩) (by show n0 ≤ N0 + 1; omega) _, ⟨hb.by'.other (by omega) _, hb.bx.set _, hb.bn.other (by omega) _⟩, hC.keep (Ch.set wd (N0 + 1) _) (by omega) (by omega) (by omega) (fun g h => hne g h) (fun g h => ?_)⟩
  exact (row_cells hC.rl h).1.ne (boxed_cells hb.bx) (by decide)

set_option maxHeartbeats 8000000 in
set_option maxRecDepth 100000 in
theorem allgo_any (w1 W0 : World) (Bk Ba Bl Bm : Nat) (a : Option Addr) (n cap : Nat) (zs : List Int) (most : Int) (va vl : Value) (hc : n ≤ cap) (hr : Row .u8 w1 a n zs) (hn16 : (n + 2) * 16 ≤ 140737488355328) (hw : Below w1.heap.size w1 W0) (hk : Boxed W0 Bk 25 (.slice a n cap))
    (hC : Coll W0 w1.heap.size Ba Bl Bm [] [] most va vl) (hm : 1 ≤ most) :
    Calls Try.prog 45 #[.func (.func 38) #[] #[.pointer (some ⟨Ba, 0, none⟩), .pointer (some ⟨Bl, 0, none⟩), .pointer (some ⟨Bm, 0, none⟩)], .pointer (some ⟨Bk, 0, none⟩)] W0 fun e W' =>
      e = .returned (.tuple #[]) ∧ (∃ va' vl', Coll W' w1.heap.size Ba Bl Bm (startsOf ((framesS zs).take most.toNat)) (textsS zs ((framesS zs).take most.toNat)) most va' vl') ∧ Below w1.heap.size W0 W' := by
  have hn := hr.2.1
  have HR := hide hr
  have HZ : Hid (Bytes8 zs) := hr.bytes
  have hmx : Try.prog.follows .mixedOrders = true := by kernel_rfl
  obtain ⟨yv, hyv⟩ : ∃ yv : Value, yv = .func (.func 38) #[] #[.pointer (some ⟨Ba, 0, none⟩), .pointer (some ⟨Bl, 0, none⟩), .pointer (some ⟨Bm, 0, none⟩)] := ⟨_, rfl⟩
  have hk2 := (hk.alloc (.cells #[yv] 72)).alloc (.cells #[.int .i64 0] 3)
  have hkc := hk2.cell
  rw [hyv] at hkc
  clear hr
  refine (callsIn_wide (n := 9)).1 ?_
  refine callsIn_of_wp_marks Try.func45 rfl trivial ?_ rfl
  simp only [Try.ntmps45, List.size_toArray, List.length_cons, List.length_nil, Nat.reduceAdd, Nat.reduceSub, Array.replicate_succ, Array.replicate_zero, List.push_toArray, List.append_toArray, List.nil_append, List.cons_append]
  gi_wp2_with fail
  refine ⟨trivial, (callsIn_wide.2 (frames_any a n cap _)).mono ?_⟩
  rintro e w2 ⟨rfl, rfl⟩
  clear hkc
  gi_wp2_with fail
  obtain ⟨N0, hN0⟩ : ∃ N0, W0.heap.size = N0 := ⟨_, rfl⟩
  rw [← hyv]
  have by0 : Boxed (((W0.alloc (.cells #[yv] 72)).alloc (.cells #[.int .i64 0] 3)).alloc (.cells #[.slice a n cap] 25)) N0 72 yv := by
    rw [← hN0]; exact ((Boxed.new W0 _ _).alloc _).alloc _
  have bx0 : Boxed (((W0.alloc (.cells #[yv] 72)).alloc (.cells #[.int .i64 0] 3)).alloc (.cells #[.slice a n cap] 25)) (N0 + 1) 3 (.int .i64 0) := by
    have := (Boxed.new (W0.alloc (.cells #[yv] 72)) 3 (.int .i64 0)).alloc (.cells #[.slice a n cap] 25)
    rwa [World.size_alloc, hN0] at this
  have bn0 : Boxed (((W0.alloc (.cells #[yv] 72)).alloc (.cells #[.int .i64 0] 3)).alloc (.cells #[.slice a n cap] 25)) (N0 + 2) 25 (.slice a n cap) := by
    have := Boxed.new ((W0.alloc (.cells #[yv] 72)).alloc (.cells #[.int .i64 0] 3)) 25 (.slice a n cap)
    rwa [World.size_alloc, World.size_alloc, hN0] at this
  have hB0 : Below W0.heap.size W0 (((W0.alloc (.cells #[yv] 72)).alloc (.cells #[.int .i64 0] 3)).alloc (.cells #[.slice a n cap] 25)) := bel_al (bel_al (bel_al (Below.refl _ _) (Nat.le_refl _) _) (Nat.le_refl _) _) (Nat.le_refl _) _
  have hsz : (((W0.alloc (.cells #[yv] 72)).alloc (.cells #[.int .i64 0] 3)).alloc (.cells #[.slice a n cap] 25)).heap.size = N0 + 3 := by simp [hN0]
  obtain ⟨Wl, hWl⟩ : ∃ Wl, ((W0.alloc (.cells #[yv] 72)).alloc (.cells #[.int .i64 0] 3)).alloc (.cells #[.slice a n cap] 25) = Wl := ⟨_, rfl⟩
  rw [hWl] at by0 bx0 bn0 hB0 hsz ⊢
  have hCl := hC.grow hB0
  have hB1 : Below w1.heap.size w1 Wl := hw.trans (hB0.mono hw.size)
  have hB2 : Below w1.heap.size W0 Wl := hB0.mono hw.size
  have hn0 : w1.heap.size ≤ N0 := by rw [← hN0]; exact hw.size
  have hneX : ∀ g, va.ownBlock = some g → g ≠ N0 + 1 := by
    intro g hg
    have h1 := (row_cells hC.ra hg).1.lt
    omega
  have hBa : Ba < N0 := by rw [← hN0]; exact hC.ba.lt
  have hBl : Bl < N0 := by rw [← hN0]; exact hC.bl.lt
  have hBm : Bm < N0 := by rw [← hN0]; exact hC.bm.lt
  have HW := hide hw
  rw [hN0]
  have HYV := hide hyv
  clear hWl hk2 hk hC hw hyv
  refine wpIn_rangeFunc_ownF rfl (by omega) (gf := 44) (lb := #[.pointer (some ⟨N0 + 2, 0, none⟩)]) rfl trivial (enters_of Try.func44 (by kernel_rfl) rfl)
    (frames_stops 8 (by omega) w1 Wl (N0 + 2) a n cap zs hc HR.out hB1 bn0) kept_t (kept_b (by omega) (by omega)) (Below.refl _ _) (fun _ => rfl)
    (fun pre W => ((Col W w1.heap.size Ba Bl Bm (N0 + 1) (startsOf (pre.map (·.1))) (textsS zs (pre.map (·.1))) most ∧ Beside W N0 yv (.slice a n cap) (endOf (pre.map (·.1)))) ∧ (pre = [] ∨ (pre.length : Int) < most)) ∧ Below w1.heap.size W0 W)
    (fun c pre W => (Col W w1.heap.size Ba Bl Bm (N0 + 1) (startsOf (pre.map (·.1))) (textsS zs (pre.map (·.1))) most ∧ (c = .ret ∧ (pre.length : Int) = most)) ∧ Below w1.heap.size W0 W)
    (OwnFrom.and (OwnFrom.and (OwnFrom.and (Go.Own.from (coll_own _ _ _ _ _ _ _ _) _) (Go.Own.from (beside_own _ _ _ _) _)) (ownFrom_pure _ _)) (ownFrom_below (by omega) (by omega)))
    (fun c => OwnFrom.and (OwnFrom.and (Go.Own.from (coll_own _ _ _ _ _ _ _ _) _) (ownFrom_pure _ _)) (ownFrom_below (by omega) (by omega)))
    ⟨⟨⟨col_mk hCl hneX, ⟨by0, bx0, bn0⟩⟩, Or.inl rfl⟩, hB2⟩
    (fun x => { tmps := #[yv, .pointer (some ⟨Bk, 0, none⟩), .pointer (some ⟨N0, 0, none⟩), .pointer (some ⟨N0 + 1, 0, none⟩), .int .i64 ((x.1.1 : Int) + x.1.2), .slice (a.map (·.add x.1.1)) x.1.2 (cap - x.1.1), .slice a n cap, .func (.func 44) #[] #[.pointer (some ⟨N0 + 2, 0, none⟩)], .int .i64 ((x.1.1 : Int) + x.1.2), .slice (a.map (·.add x.1.1)) x.1.2 (cap - x.1.1), undef, undef, undef, undef, undef, undef, undef], defers := [] }) ?assign ?body ?done ?stop
  case assign =>
    intro l x W K hK
    simp only [encB]
    gi_wp2
    exact hK
  case body =>
    rintro l pre ⟨⟨st, v⟩, h1, h2, h3⟩ W ⟨⟨⟨hcol, hbs⟩, hcnt⟩, hB⟩ hlen
    obtain ⟨va, vl, hC, hneX⟩ := hcol
    simp only at h1 h2 h3
    have hcy := hbs.by'.cell
    rw [HYV.out] at hcy
    have hcx := hbs.bx.cell
    have RX := hide ((HR.out.below (HW.out.trans hB) (Nat.le_refl _)).mid hc st v h1 h2)
    have HZB : Hid (Bytes8 ((zs.drop st).take v)) := fun z hz => HZ.out z (List.mem_of_mem_drop (List.mem_of_mem_take hz))
    have CL := hide (clone_any (a.map (·.add st)) v (cap - st) ((zs.drop st).take v) W.drew RX.out.drew (by omega))
    have hl1 : (startsOf (pre.map (·.1))).length = pre.length := by rw [startsOf_len, List.length_map]
    have hl2 : (textsS zs (pre.map (·.1))).length = pre.length := by rw [textsS_len, List.length_map]
    have HWs : Hid (w1.heap.size ≤ W.heap.size) := by have := hB.size; show _ ≤ _; omega
    have CO := hide (fun wc a' c' (hk : Below W.drew.heap.size W.drew wc) (hx : Mine wc W.drew.heap.size a' v c' ((zs.drop st).take v)) => collect_any (endOf (pre.map (·.1)) : Int) W.drew.heap.size a' v c' ((zs.drop st).take v) wc w1.heap.size Ba Bl Bm pre.length _ _ most va vl hx HZB.out (by omega) (hC.grow (w := W) ⟨hk.os, hk.tape, hk.output, hk.size, hk.block⟩) (Nat.le_trans HWs.out hk.size) hl1 hl2 (by omega))
    have HCE : Hid (∀ wc, Below W.drew.heap.size W.drew wc → wc.cell? ⟨N0, 0, none⟩ = some yv ∧ wc.cell? ⟨N0 + 1, 0, none⟩ = some (.int .i64 (endOf (pre.map (·.1))))) := fun wc hk =>
      ⟨(boxed_below (w := W) hbs.by' ⟨hk.os, hk.tape, hk.output, hk.size, hk.block⟩).cell, (boxed_below (w := W) hbs.bx ⟨hk.os, hk.tape, hk.output, hk.size, hk.block⟩).cell⟩
    rw [HYV.out] at HCE
    have HBS := hide hbs
    have HC := hide hC
    have HNX := hide hneX
    have HCN := hide hcnt
    have HBB := hide hB
    have HMP : Hid ((pre ++ [(⟨(st, v), h1, h2, h3⟩ : Body n)]).map (·.1) = pre.map (·.1) ++ [(st, v)]) := by show _ = _; simp
    have HST : Hid (∀ wc wd va' vl', Below W.drew.heap.size W.drew wc → Coll wd w1.heap.size Ba Bl Bm (startsOf (pre.map (·.1)) ++ [(endOf (pre.map (·.1)) : Int)]) (textsS zs (pre.map (·.1)) ++ [strOfNums ((zs.drop st).take v)]) most va' vl' →
        Ch (fun g => g = Ba ∨ g = Bl ∨ va.ownBlock = some g ∨ vl.ownBlock = some g) wc wd → (∀ g, va'.ownBlock = some g → va.ownBlock = some g ∨ wc.heap.size ≤ g) →
        KeepsOthers W wd ∧ Below w1.heap.size W wd ∧ Beside wd N0 yv (.slice a n cap) (endOf (pre.map (·.1))) ∧ (∀ g, va'.ownBlock = some g → g ≠ N0 + 1) ∧ Coll wd w1.heap.size Ba Bl Bm (startsOf (pre.map (·.1) ++ [(st, v)])) (textsS zs (pre.map (·.1) ++ [(st, v)])) most va' vl') := by
      intro wc wd va' vl' hk hC' hch hn'
      obtain ⟨q1, q2, q3, q4⟩ := round_step hC hneX hbs hBa hBl hn0 ⟨hk.os, hk.tape, hk.output, hk.size, hk.block⟩ hch hC' hn'
      rw [startsOf_snoc, textsS_snoc]
      exact ⟨q1, q2, q3, q4, hC'⟩
    clear hbs hC hneX hcnt hB hl1 hl2
    obtain ⟨bb, hbb⟩ : ∃ bb, decide ((pre.length : Int) + 1 < most) = bb := ⟨_, rfl⟩
    rw [hbb] at CO
    have HBT : Hid (bb = true → (pre.length : Int) + 1 < most) := fun h => of_decide_eq_true (hbb.trans h)
    have HBF : Hid (bb = false → ¬ (pre.length : Int) + 1 < most) := fun h => of_decide_eq_false (hbb.trans h)
    clear hbb
    gi_wp2_with fail
    gi_region_with_o (first
      | (refine ⟨trivial, ?_⟩; gi_at_call 29; refine (CallsIn.inRound l (callsIn_wide.2 CL.out)).mono ?_; rintro e wc ⟨a', c', rfl, ho, hk⟩; obtain ⟨hcy', hcx'⟩ := HCE.out wc hk; have HK := hide hk; have HO := hide ho; clear hk ho)
      | (refine ⟨trivial, ?_⟩; gi_at_call 38; refine (CallsIn.inRound l (callsIn_wide.2 (CO.out _ _ _ HK.out HO.out))).mono ?_; rintro e wd ⟨rfl, va', vl', hC', hch, hn'⟩))
    all_goals clear CL CO HCE hcy' hcx' HO hcy hcx
    all_goals obtain ⟨q1, q2, q3, q4, q5⟩ := HST.out _ _ _ _ HK.out hC' hch hn'
    all_goals have hcx3 := q3.bx.cell
    all_goals have hfx3 := q3.bx.frozen
    all_goals have Q1 := hide q1
    all_goals have Q2 := hide q2
    all_goals have Q3 := hide q3
    all_goals have Q4 := hide q4
    all_goals have Q5 := hide q5
    all_goals clear q1 q2 q3 q4 q5 hC' hch hn' HST HK HC HNX
    all_goals
      cases bb
      · have hgo := HBF.out rfl
        have hcn := HCN.out
        have hlast : ((pre ++ [(⟨(st, v), h1, h2, h3⟩ : Body n)]).length : Int) = most := by
          rw [List.length_append]
          rcases hcn with rfl | h
          · simp only [List.length_nil, List.length_cons] at hgo ⊢; omega
          · simp only [List.length_cons, List.length_nil]; omega
        have HLA := hide hlast
        clear hgo hcn hlast
        gi_wp2
        refine ⟨Q1.out, ⟨?_, rfl, HLA.out⟩, HBB.out.trans Q2.out⟩
        rw [HMP.out]; exact col_mk Q5.out Q4.out
      · have hgo := HBT.out rfl
        have HLA : Hid (((pre ++ [(⟨(st, v), h1, h2, h3⟩ : Body n)]).length : Int) < most) := by
          show _ < _
          rw [List.length_append]
          simp only [List.length_cons, List.length_nil]; omega
        obtain ⟨s1, s2, s3, s4⟩ := round_store Q5.out Q4.out Q3.out hBa hBl hBm hn0 ((st : Int) + v)
        have S1 := hide s1
        have S2 := hide s2
        have S3 := hide s3
        have S4 := hide s4
        clear hgo s1 s2 s3 s4
        gi_wp2
        refine ⟨Q1.out.trans S1.out, ⟨Q2.out.trans S2.out, Eq.trans S3.out.bn HBS.out.bn.symm⟩, ⟨⟨?_, ?_⟩, Or.inr HLA.out⟩, HBB.out.trans (Q2.out.trans S2.out)⟩
        · rw [HMP.out]; exact col_mk S4.out Q4.out
        · rw [HMP.out, endOf_snoc]; exact S3.out
  case done =>
    rintro D xs W hD hS ⟨⟨⟨hcol, hbs⟩, hcnt⟩, hB⟩ hK
    obtain ⟨va, vl, hC, hneX⟩ := hcol
    have ht : (framesS zs).take most.toNat = xs.map (·.1) := by
      rw [← hS]
      refine List.take_of_length_le ?_
      rw [List.length_map]
      rcases hcnt with rfl | h
      · simp
      · omega
    obtain ⟨va', vl', hC', _⟩ := coll_own w1.heap.size Ba Bl Bm (N0 + 1) (fun _ : Unit => startsOf (xs.map (·.1))) (fun _ => textsS zs (xs.map (·.1))) most () W _ (some D) ⟨va, vl, hC, hneX⟩ (grownBy_putObj' W D (.deferred none)) (fun r e => by cases e; exact ⟨_, hK, rfl⟩)
    have hE : Hid (∀ W', (∃ va' vl', Coll W' w1.heap.size Ba Bl Bm (startsOf (xs.map (·.1))) (textsS zs (xs.map (·.1))) most va' vl') → (∃ va' vl', Coll W' w1.heap.size Ba Bl Bm (startsOf ((framesS zs).take most.toNat)) (textsS zs ((framesS zs).take most.toNat)) most va' vl')) := fun W' h => by rw [ht]; exact h
    clear ht hS hC hbs hcnt hneX
    gi_wp2
    refine ⟨by simp, .inl ⟨_, _, rfl, run_takeDeferred hK, ?_⟩⟩
    exact ⟨_, results_none rfl _ _ _, rfl, hE.out _ ⟨va', vl', hC'⟩, hB.trans (belowK_b (w := W0) (by omega) W D _ _ (by omega) hK rfl rfl)⟩
  case stop =>
    rintro D c pre W hD hS ⟨⟨hcol, rfl, hcnt⟩, hB⟩ hK
    obtain ⟨va, vl, hC, hneX⟩ := hcol
    have ht : (framesS zs).take most.toNat = pre.map (·.1) := by
      have := List.prefix_iff_eq_take.1 hS
      rw [this, List.length_map]
      congr 1
      omega
    obtain ⟨va', vl', hC', _⟩ := coll_own w1.heap.size Ba Bl Bm (N0 + 1) (fun _ : Unit => startsOf (pre.map (·.1))) (fun _ => textsS zs (pre.map (·.1))) most () W _ (some D) ⟨va, vl, hC, hneX⟩ (grownBy_putObj' W D (.deferred none)) (fun r e => by cases e; exact ⟨_, hK, rfl⟩)
    have hE : Hid (∀ W', (∃ va' vl', Coll W' w1.heap.size Ba Bl Bm (startsOf (pre.map (·.1))) (textsS zs (pre.map (·.1))) most va' vl') → (∃ va' vl', Coll W' w1.heap.size Ba Bl Bm (startsOf ((framesS zs).take most.toNat)) (textsS zs ((framesS zs).take most.toNat)) most va' vl')) := fun W' h => by rw [ht]; exact h
    clear ht hS hC hcnt hneX
    gi_wp2
    refine ⟨by simp, .inl ⟨_, _, rfl, run_takeDeferred hK, ?_⟩⟩
    exact ⟨_, results_none rfl _ _ _, rfl, hE.out _ ⟨va', vl', hC'⟩, hB.trans (belowK_b (w := W0) (by omega) W D _ _ (by omega) hK rfl rfl)⟩
end Go.Proofs.Ytbpmmeagpefglaa
