/-
  What post.List takes of the iterator that tell hands back: a contract, for every world.
  Conditions: the iterator's box and list lie as they lay; at most 1,000,000 numbers.
-/
import Derived.Test.YthmcliapdnbdjaaPosDa
import Derived.RangeFuncNested
import Derived.RangeFuncBound
import Derived.RangeFuncCalls
import Derived.RangeFuncLeaves
import Derived.RangeFuncBox
import Derived.RangeFuncFrom
import Derived.Shelf.Abstract
import Derived.Shelf.RegionOpen
import Derived.OwnWalkIn
import Derived.TacticsInMore
import Derived.LoopNIn
import Derived.LoopIn
import Derived.RecoverIn
import Derived.Recover
namespace Go.Proofs.Ythmcliapdnbdjaa
open Go.RowKit Go.Shelf
attribute [local go_sem] Oper.semAt_some
set_option maxRecDepth 20000

set_option maxHeartbeats 2000000 in
theorem tell_stops (m : Nat) (hm : 1 ≤ m) (w1 w0 : World) (Bn : Nat) (a : Option Addr) (n cap : Nat) (zs : List Int) (hr : SlI w1 a n cap zs) (hw : Below w1.heap.size w1 w0) (hb : Boxed w0 Bn 22 (.slice a n cap)) :
    SeqStopsK Fence.wide m Try.prog 35 #[.pointer (some ⟨Bn, 0, none⟩)] (fun x : Int => #[.int .i64 x]) (Below w1.heap.size) (fun xs => xs = zs) (fun pre => pre <+: zs) n w0 := fun l J Jx W hW hJ hJx hY h0 => by
  have hn := hr.1.2.1
  have HL := hide hr.1.1
  have HR := hide hr
  have HBW : Hid (Below w1.heap.size w1 W) := hw.trans (hW.mono hw.size)
  have hcell := (boxed_below hb hW).cell
  have HY := hide hY
  clear hb hW hw hr hJ hJx hY
  refine callsIn_of_wp Try.func35 rfl trivial ?_ rfl
  simp only [Try.ntmps35, List.size_toArray, List.length_cons, List.length_nil, Nat.reduceAdd, Nat.reduceSub, Array.replicate_succ, Array.replicate_zero, List.push_toArray, List.append_toArray, List.nil_append, List.cons_append]
  gi_wp2
  clear hcell
  gi_loopw [7] (fun p wr => ∃ (k : Nat), p = .int .i64 k ∧ k ≤ n ∧ Hid (J (zs.take k) wr) ∧ Hid (Below w1.heap.size w1 wr)) (fun p _ => n - (intOf p).toNat)
  case atStart => exact ⟨0, rfl, by omega, h0, HBW⟩
  case round =>
    obtain ⟨k, rfl, hk, HJs, HB⟩ := hrel
    by_cases hlt : k < n
    · obtain ⟨b, off, rfl, hck⟩ := (HR.out.below HB.out (Nat.le_refl _)).at' hlt
      have HS : Hid (zs.take (k + 1) = zs.take k ++ [zs.getD k 0]) := take_get (by rw [HL.out]; exact hlt)
      have i1 : (0 : Int) ≤ (k : Int) := by omega
      have i2 : (k : Int) < (n : Int) := by omega
      obtain ⟨fn, tmps, assign, body, hy, hR⟩ := HY.out (zs.take k) (zs.getD k 0) wr HJs.out (by rw [List.length_take, HL.out]; omega)
      rw [← HS.out] at hR
      generalize zs.getD k 0 = z at *
      gi_wp2
      refine hR.mono ?_
      rintro e w3 (⟨rfl, j3, hk3⟩ | ⟨rfl, jx3⟩)
      · have HJ3 := hide j3
        have HB3 : Hid (Below w1.heap.size w1 w3) := HB.out.trans hk3
        clear j3 hk3 hR hy
        gi_wp2
        go_roundw
        case rel => exact ⟨k + 1, by go_num, by omega, HJ3, HB3⟩
        case measure => simp [intOf]; omega
      · have HP : Hid (zs.take (k + 1) <+: zs) := List.take_prefix _ _
        have HJ3 := hide jx3
        clear jx3 hR hy
        gi_wp2
        refine bodyPost_ret (results_none rfl _ _ _) rfl ?_
        exact ⟨⟨_, rfl⟩, .inr ⟨_, HP, HJ3⟩⟩
    · have HE : Hid (zs.take k = zs) := List.take_of_length_le (by rw [HL.out]; omega)
      have i2 : ¬ (k : Int) < (n : Int) := by omega
      rw [HE.out] at HJs
      gi_wp2
      go_end0
      exact ⟨⟨_, rfl⟩, .inl HJs.out⟩

/-- List's two boxes: how many are asked for, and what came so far. -/
structure LsI (W : World) (n0 : Nat) (ks : List Int) (most : Int) (v : Value) : Prop where
  bm : Boxed W n0 3 (.int .i64 most)
  bl : Boxed W (n0 + 1) 22 v
  rl : W.ownsRow (n0 + 1) 3 1 v ks.length (ks.map (Value.int .i64))
def LsE (W : World) (n0 : Nat) (ks : List Int) (most : Int) : Prop := ∃ v, LsI W n0 ks most v
theorem LsI.keep {S : Nat → Prop} {w w' : World} {n0 : Nat} {ks : List Int} {most : Int} {v : Value} (h : LsI w n0 ks most v) (c : Ch S w w') (h1 : ¬ S n0) (h2 : ¬ S (n0 + 1)) (h3 : ∀ g, v.ownBlock = some g → ¬ S g) : LsI w' n0 ks most v :=
  ⟨boxed_ch h.bm c h1, boxed_ch h.bl c h2, row_ch h.rl c h3⟩
theorem lse_own {β : Type} (n0 : Nat) (ks : β → List Int) (most : Int) : Go.Own (fun s W => LsE W n0 (ks s) most) := by
  rintro s X Y row ⟨v, h⟩ hg hrow
  have hc : ∀ {g : Nat} {t : TypeId}, CellsT X g t → ¬ row = some g := by
    rintro g t ⟨cur, mk, h1⟩ h2
    obtain ⟨o, ho, hcells⟩ := hrow g h2
    rw [h1] at ho
    cases ho
    cases hcells
  exact ⟨v, h.keep (Ch.grown hg) (hc (boxed_cells h.bm)) (hc (boxed_cells h.bl)) (fun g hg' => hc (row_cells h.rl hg').1)⟩

theorem catch_idle (m : Nat) (w : World) :
    CallsDIn Fence.wide m Try.prog 33 #[] .returning w fun e u' w' => e = .returned (.tuple #[]) ∧ u' = .returning ∧ w' = w := by
  refine callsDIn_of_wpSIn Try.func33 rfl trivial fun c₀ cs hu => ?_
  apply wpSIn_region
  cases c₀
  simp_all [wpOpsSIn, go_sem, recoverD, Try.ntmps33, bodyPostS, results, Try.results33]

set_option maxHeartbeats 4000000 in
theorem list_any (w : World) (Bk : Nat) (a : Option Addr) (n cap : Nat) (zs : List Int) (hk : Boxed w Bk 22 (.slice a n cap)) (hr : SlI w a n cap zs) (hn8 : n ≤ 1000000) (u : World) (hu : Below w.heap.size w u) (most : Int) :
    Calls Try.prog 23 #[tellF Bk, .int .i64 most] u fun e u' => Told (zs.take most.toNat) u e u' := by
  obtain ⟨i0, hi0⟩ := info_parts Try.infoI
  have HI := hide hi0
  clear hi0
  by_cases hm : most < 1
  · have HE : Hid (zs.take most.toNat = []) := by show _ = _; rw [show most.toNat = 0 by omega]; rfl
    obtain ⟨W1, hW1⟩ : ∃ W, Hid (u.alloc (.cells #[.int .i64 most] 3) = W) := ⟨_, rfl⟩
    obtain ⟨W2, hW2⟩ : ∃ W, Hid (W1.alloc (.cells #[.slice none 0 0] 22) = W) := ⟨_, rfl⟩
    have B1 : Hid (Below u.heap.size u W1) := by rw [← hW1.out]; exact (Below.refl _ _).alloc (Nat.le_refl _) _
    have B2 : Hid (Below u.heap.size u W2) := by rw [← hW2.out]; exact bel_al B1.out (Nat.le_refl _) _
    have S1 : Hid (W1.heap.size = u.heap.size + 1) := by rw [← hW1.out]; show _ = _; simp
    have X1 : Hid (Boxed W2 (u.heap.size + 1) 22 (.slice none 0 0)) := by rw [← hW2.out, ← S1.out]; exact Boxed.new W1 22 (.slice none 0 0)
    have cm : W2.cell? ⟨u.heap.size, 0, none⟩ = some (.int .i64 most) := by
      have q := (Boxed.new u 3 (.int .i64 most)).alloc (.cells #[.slice none 0 0] 22)
      rw [hW1.out, hW2.out] at q
      exact q.cell
    have cl := X1.out.cell
    have fl := X1.out.frozen
    have X2 := hide (X1.out.set (.slice none 0 0)).cell
    have B3 : Hid (Below u.heap.size u (W2.setCell ⟨u.heap.size + 1, 0, none⟩ (.slice none 0 0))) := B2.out.setCell (p := ⟨u.heap.size + 1, 0, none⟩) (by show _ ≤ _ + 1; omega) _
    clear hk hr hu
    unfold tellF
    go_enter_defers Try.func23, Try.ntmps23
    go_upto_region 1 with fail
    rw [hW1.out, hW2.out]
    clear hW1 hW2
    go_wp2
    rw [HE.out]
    refine ⟨_, ?_, none, 0, 0, rfl, sli_nil _, B3.out⟩
    have e1 := X2.out
    simp [results, Try.results23, go_sem, e1]
  · obtain ⟨W1, hW1⟩ : ∃ W, Hid (u.alloc (.cells #[.int .i64 most] 3) = W) := ⟨_, rfl⟩
    obtain ⟨W2, hW2⟩ : ∃ W, Hid (W1.alloc (.cells #[.slice none 0 0] 22) = W) := ⟨_, rfl⟩
    have B1 : Hid (Below u.heap.size u W1) := by rw [← hW1.out]; exact (Below.refl _ _).alloc (Nat.le_refl _) _
    have B2 : Hid (Below u.heap.size u W2) := by rw [← hW2.out]; exact bel_al B1.out (Nat.le_refl _) _
    have S1 : Hid (W1.heap.size = u.heap.size + 1) := by rw [← hW1.out]; show _ = _; simp
    have S2 : W2.heap.size = u.heap.size + 2 := by rw [← hW2.out, World.size_alloc, S1.out]
    have L0 : Hid (LsI W2 u.heap.size [] most (.slice none 0 0)) := by
      refine ⟨?_, ?_, World.ownsRow_nil _ _ _ _⟩
      · rw [← hW2.out, ← hW1.out]
        exact (Boxed.new u 3 (.int .i64 most)).alloc _
      · rw [← hW2.out, ← S1.out]
        exact Boxed.new W1 22 (.slice none 0 0)
    have cm := L0.out.bm.cell
    have hlen : Hid (zs.length = n) := hr.1.1
    have HWF : Hid (∀ z ∈ zs, (Lit.int .i64 z).wf = true) := hr.wf
    have HBW : Hid (Below w.heap.size w W2) := bel_to hu (Nat.le_refl _) B2.out
    have ST := hide (tell_stops 8 (by omega) w W2 Bk a n cap zs hr HBW.out (boxed_below hk HBW.out))
    have hws : w.heap.size ≤ u.heap.size := hu.size
    clear hk hr hu
    unfold tellF
    refine (callsIn_wide (n := 9)).1 ?_
    refine callsIn_of_wp_marks Try.func23 rfl trivial ?_ rfl
    simp only [Try.ntmps23, List.size_toArray, List.length_cons, List.length_nil, Nat.reduceAdd, Nat.reduceSub, Array.replicate_succ, Array.replicate_zero, List.push_toArray, List.append_toArray, List.nil_append, List.cons_append]
    gi_wp2_with fail
    rw [hW1.out, hW2.out]
    clear hW1 hW2
    have hsz := S2
    clear cm
    refine wpIn_rangeFunc_ownF rfl (by omega) (gf := 35) (lb := #[.pointer (some ⟨Bk, 0, none⟩)]) rfl trivial (enters_of Try.func35 (by kernel_rfl) rfl)
      ST.out belowK_t (belowK_b (by omega)) (Below.refl _ _) (fun _ => rfl)
      (fun pre W => (LsE W u.heap.size pre most ∧ (pre = [] ∨ (pre.length : Int) < most)) ∧ Below u.heap.size u W)
      (fun c pre W => (LsE W u.heap.size pre most ∧ (c = .exit 0 ∧ (pre.length : Int) = most)) ∧ Below u.heap.size u W)
      (OwnFrom.and (OwnFrom.and (Go.Own.from (lse_own _ _ _) _) (ownFrom_pure _ _)) (ownFrom_below (by omega) (by omega)))
      (fun c => OwnFrom.and (OwnFrom.and (Go.Own.from (lse_own _ _ _) _) (ownFrom_pure _ _)) (ownFrom_below (by omega) (by omega)))
      ⟨⟨⟨_, L0.out⟩, Or.inl rfl⟩, B2.out⟩
      (fun x => { tmps := #[.func (.func 35) #[] #[.pointer (some ⟨Bk, 0, none⟩)], .int .i64 most, undef, .pointer (some ⟨u.heap.size, 0, none⟩), .pointer (some ⟨u.heap.size + 1, 0, none⟩), .int .i64 x, .int .i64 most, .bool false, .func (.func 35) #[] #[.pointer (some ⟨Bk, 0, none⟩)], .int .i64 x, undef, undef, undef, undef, undef, undef, undef, undef, undef], defers := [] }) ?assign ?body ?done ?stop
    case assign =>
      intro l x W K hK
      gi_wp2
      exact hK
    case body =>
      rintro l pre x W ⟨⟨⟨v, hL⟩, hcnt⟩, hB⟩ hlt
      obtain ⟨L, hLL⟩ : ∃ L, Hid (pre.length = L) := ⟨_, rfl⟩
      have hrow := hL.rl
      rw [hLL.out] at hrow hlt hcnt
      have hcell := hL.bl.cell
      have hs1 : u.heap.size + 1 ≤ W.heap.size := by have := hL.bl.lt; omega
      have hne : ∀ g, v.ownBlock = some g → g ≠ u.heap.size := fun g hg => by have := (row_cells hL.rl hg).2; omega
      have hstep : ∀ (w1 : World) (v' : Value), w1.ownsRow (u.heap.size + 1) 3 1 v' (L + 1) (pre.map (Value.int .i64) ++ [.int .i64 x]) → (W.alloc (.cells #[.int .i64 x] 3)).grownBy w1 v.ownBlock →
          Boxed w1 (u.heap.size + 1) 22 v ∧ Boxed w1 u.heap.size 3 (.int .i64 most) ∧ (w1.setCell ⟨u.heap.size + 1, 0, none⟩ v').cell? ⟨u.heap.size, 0, none⟩ = some (.int .i64 most) ∧
          (KeepsOthers W (w1.setCell ⟨u.heap.size + 1, 0, none⟩ v') ∧ LsI (w1.setCell ⟨u.heap.size + 1, 0, none⟩ v') u.heap.size (pre ++ [x]) most v' ∧ Below u.heap.size W (w1.setCell ⟨u.heap.size + 1, 0, none⟩ v')) := by
        intro w1 v' hown' hgrow
        obtain ⟨hv1, hv2, hr2, hk2, hb2⟩ := hL.bl.appended (by decide) hrow hs1 (Nat.le_refl _) hown' hgrow
        have hm1 : Boxed w1 u.heap.size 3 (.int .i64 most) := (hL.bm.alloc _).kept hgrow (fun e => hne _ e.symm rfl)
        have hm2 : Boxed (w1.setCell ⟨u.heap.size + 1, 0, none⟩ v') u.heap.size 3 (.int .i64 most) := boxed_ch hm1 (Ch.set w1 _ v') (by omega)
        refine ⟨hv1, hm1, hm2.cell, hk2, ⟨hm2, hv2, ?_⟩, hb2.mono (by omega)⟩
        rw [List.length_append, List.map_append, hLL.out]
        exact hr2
      have HST := hide hstep
      have HRW := hide hrow
      have HBB := hide hB
      have HPL : Hid (((pre ++ [x]).length : Int) = (L : Int) + 1) := by
        show _ = _
        rw [List.length_append, hLL.out]
        rfl
      clear hstep hL hne hrow hB
      by_cases hq : (L : Int) + 1 = most
      · have t1 : (((L : Int) + 1) == most) = true := by simpa using hq
        have t2 : (((L + 1 : Nat) : Int) == most) = true := by simpa using hq
        have HQ := hide hq
        clear hq
        gi_wp2_with (gi_at_builtin; refine wpListIn_append_own _ rfl _ _ 22 rfl (u.heap.size + 1) 3 i0 (.int .i64 0) 1 8 Try.underlying22 HI.out.1 HI.out.2.1 HI.out.2.2.1 HI.out.2.2.2 rfl (by decide) _ _ _ rfl (HRW.out.alloc _) ⟨W.heap.size, 0, none⟩ 1 1 [.int .i64 x] rfl rfl (cell_one_new _ _ _) (by simp [Value.oneCell']) (by unfold maxLen; omega) (by omega) (by simp; omega) ?_; intro v' w1 hown' hgrow _; obtain ⟨g', cap', rfl⟩ := ownsRow_succ hown'; obtain ⟨hv1, hm1, hm2, hq3⟩ := HST.out _ _ hown' hgrow; have hc1 := hv1.cell; have hf1 := hv1.frozen; have HQ3 := hide hq3; clear hq3 hgrow hown' hm1 hv1)
        exact ⟨HQ3.out.1, ⟨⟨_, HQ3.out.2.1⟩, rfl, HPL.out.trans HQ.out⟩, HBB.out.trans HQ3.out.2.2⟩
      · have t1 : (((L : Int) + 1) == most) = false := by simpa using hq
        have t2 : (((L + 1 : Nat) : Int) == most) = false := by simpa using hq
        have HQ : Hid (((pre ++ [x]).length : Int) < most) := by
          show _ < _
          rw [HPL.out]
          rcases hcnt with h | h
          · subst h
            simp at hLL
            have := hLL.out
            omega
          · omega
        clear hq
        gi_wp2_with (gi_at_builtin; refine wpListIn_append_own _ rfl _ _ 22 rfl (u.heap.size + 1) 3 i0 (.int .i64 0) 1 8 Try.underlying22 HI.out.1 HI.out.2.1 HI.out.2.2.1 HI.out.2.2.2 rfl (by decide) _ _ _ rfl (HRW.out.alloc _) ⟨W.heap.size, 0, none⟩ 1 1 [.int .i64 x] rfl rfl (cell_one_new _ _ _) (by simp [Value.oneCell']) (by unfold maxLen; omega) (by omega) (by simp; omega) ?_; intro v' w1 hown' hgrow _; obtain ⟨g', cap', rfl⟩ := ownsRow_succ hown'; obtain ⟨hv1, hm1, hm2, hq3⟩ := HST.out _ _ hown' hgrow; have hc1 := hv1.cell; have hf1 := hv1.frozen; have HQ3 := hide hq3; clear hq3 hgrow hown' hm1 hv1)
        exact ⟨HQ3.out.1, HQ3.out.2.2.mono (by omega), ⟨⟨_, HQ3.out.2.1⟩, Or.inr HQ.out⟩, HBB.out.trans HQ3.out.2.2⟩
    case done =>
      rintro D xs W hD hS ⟨⟨⟨v, hL⟩, hcnt⟩, hB⟩ hK
      have hcell := hL.bl.cell
      have hfz := hL.bl.frozen
      obtain ⟨al, cl, rfl⟩ := row_form hL.rl
      have ht : Hid (zs.take most.toNat = xs) := by
        show _ = _
        obtain rfl := hS
        have hln := hlen.out
        rw [List.take_of_length_le]
        rcases hcnt with h | h
        · rw [h]; simp
        · omega
      have HL2 : Hid (LsI (W.setCell ⟨u.heap.size + 1, 0, none⟩ (.slice al xs.length cl)) u.heap.size xs most (.slice al xs.length cl)) :=
        ⟨boxed_ch hL.bm (Ch.set W _ _) (by omega), hL.bl.set _, row_ch hL.rl (Ch.set W _ _) (fun g hg => (row_cells hL.rl hg).1.ne (boxed_cells hL.bl) (by decide))⟩
      have hK2 : (W.setCell ⟨u.heap.size + 1, 0, none⟩ (.slice al xs.length cl)).heap[D]? = some (.deferred (some [])) := (Below.heap_setCell _ _ _ D (by show D ≠ u.heap.size + 1; omega)).trans hK
      have HB2 : Hid (Below u.heap.size u (W.setCell ⟨u.heap.size + 1, 0, none⟩ (.slice al xs.length cl))) := hB.setCell (p := ⟨u.heap.size + 1, 0, none⟩) (by show _ ≤ _ + 1; omega) _
      have HXL : Hid (xs.length ≤ 1000000) := by obtain rfl := hS; show _ ≤ _; rw [hlen.out]; exact hn8
      have HXW : Hid (∀ z ∈ xs, (Lit.int .i64 z).wf = true) := by obtain rfl := hS; exact HWF.out
      clear hL hcnt hS hB
      gi_wp2
      obtain ⟨W3, hW3⟩ : ∃ W3, (W.setCell ⟨u.heap.size + 1, 0, none⟩ (.slice al xs.length cl)) = W3 := ⟨_, rfl⟩
      rw [hW3] at HL2 hK2 HB2 ⊢
      refine ⟨by simp, .inl ⟨_, _, rfl, run_takeDeferred hK2, ?_⟩⟩
      refine ⟨by simp, .inr ⟨by simp [Fence.wide], _, _, 33, #[], rfl, by simp [go_sem], fun _ _ => trivial, ?_⟩⟩
      refine (catch_idle _ _).mono ?_
      rintro e u' w'' ⟨rfl, rfl, rfl⟩
      obtain ⟨v4, q4⟩ := lse_own u.heap.size (fun _ : Unit => xs) most () W3 _ (some D) ⟨_, HL2.out⟩ (grownBy_putObj' W3 D (.deferred none)) (fun r e => by cases e; exact ⟨_, hK2, rfl⟩)
      have hB4 : Below u.heap.size u (W3.putObj D (.deferred none)) := HB2.out.trans (belowK_b (w := u) (Nat.le_refl _) _ D _ _ (by omega) hK2 rfl rfl)
      obtain ⟨a4, c4, rfl⟩ := row_form q4.rl
      have e4 := q4.bl.cell
      refine ⟨.slice a4 xs.length c4, ?_, a4, xs.length, c4, rfl, ?_, hB4⟩
      · simp [results, Try.results23, go_sem, e4]
      · rw [ht.out]
        exact MineI.sl (base := u.heap.size + 1) q4.rl (by have := HXL.out; omega) HXW.out
    case stop =>
      rintro D c pre W hD hS ⟨⟨⟨v, hL⟩, rfl, hcnt⟩, hB⟩ hK
      have hcell := hL.bl.cell
      have hfz := hL.bl.frozen
      obtain ⟨al, cl, rfl⟩ := row_form hL.rl
      have ht : Hid (zs.take most.toNat = pre) := by
        show _ = _
        have h := List.prefix_iff_eq_take.1 hS
        rw [h]
        congr 1
        omega
      have HL2 : Hid (LsI (W.setCell ⟨u.heap.size + 1, 0, none⟩ (.slice al pre.length cl)) u.heap.size pre most (.slice al pre.length cl)) :=
        ⟨boxed_ch hL.bm (Ch.set W _ _) (by omega), hL.bl.set _, row_ch hL.rl (Ch.set W _ _) (fun g hg => (row_cells hL.rl hg).1.ne (boxed_cells hL.bl) (by decide))⟩
      have hK2 : (W.setCell ⟨u.heap.size + 1, 0, none⟩ (.slice al pre.length cl)).heap[D]? = some (.deferred (some [])) := (Below.heap_setCell _ _ _ D (by show D ≠ u.heap.size + 1; omega)).trans hK
      have HB2 : Hid (Below u.heap.size u (W.setCell ⟨u.heap.size + 1, 0, none⟩ (.slice al pre.length cl))) := hB.setCell (p := ⟨u.heap.size + 1, 0, none⟩) (by show _ ≤ _ + 1; omega) _
      have HXL : Hid (pre.length ≤ 1000000) := by have := hS.length_le; have h3 := hlen.out; show _ ≤ _; omega
      have HXW : Hid (∀ z ∈ pre, (Lit.int .i64 z).wf = true) := fun z hz => HWF.out z (hS.subset hz)
      clear hL hcnt hS hB
      gi_wp2
      obtain ⟨W3, hW3⟩ : ∃ W3, (W.setCell ⟨u.heap.size + 1, 0, none⟩ (.slice al pre.length cl)) = W3 := ⟨_, rfl⟩
      rw [hW3] at HL2 hK2 HB2 ⊢
      refine ⟨by simp, .inl ⟨_, _, rfl, run_takeDeferred hK2, ?_⟩⟩
      refine ⟨by simp, .inr ⟨by simp [Fence.wide], _, _, 33, #[], rfl, by simp [go_sem], fun _ _ => trivial, ?_⟩⟩
      refine (catch_idle _ _).mono ?_
      rintro e u' w'' ⟨rfl, rfl, rfl⟩
      obtain ⟨v4, q4⟩ := lse_own u.heap.size (fun _ : Unit => pre) most () W3 _ (some D) ⟨_, HL2.out⟩ (grownBy_putObj' W3 D (.deferred none)) (fun r e => by cases e; exact ⟨_, hK2, rfl⟩)
      have hB4 : Below u.heap.size u (W3.putObj D (.deferred none)) := HB2.out.trans (belowK_b (w := u) (Nat.le_refl _) _ D _ _ (by omega) hK2 rfl rfl)
      obtain ⟨a4, c4, rfl⟩ := row_form q4.rl
      have e4 := q4.bl.cell
      refine ⟨.slice a4 pre.length c4, ?_, a4, pre.length, c4, rfl, ?_, hB4⟩
      · simp [results, Try.results23, go_sem, e4]
      · rw [ht.out]
        exact MineI.sl (base := u.heap.size + 1) q4.rl (by have := HXL.out; omega) HXW.out
end Go.Proofs.Ythmcliapdnbdjaa
