/-
  The document's index: a set's number, and the sets behind it (ID): a contract, for every world.
  Conditions: as the theorem says.
-/
import Derived.Test.YtpffhpnmbpjifaaGreatIdxX
import Derived.Test.YtpffhpnmbpjifaaGreatVintZa
import Derived.Deep.AppendLies
import Derived.Deep.Cut
import Derived.Deep.DeepCutAuto
import Derived.Deep.CutBlock
import Derived.Deep.RegionHeld3
namespace Go.Proofs.YtpffhpnmbpjifaaGreat
open Go.RowKit
set_option maxRecDepth 20000

theorem Tryz.infoLL : (Tryz.prog.info? 42).map (fun i => (i.zero, i.size, i.bytes)) = some (some (.slice none 0 0), 1, 24) := by kernel_rfl
theorem one_slab (w : World) (v : Value) (e : TypeId) (j : Nat) (u : Value) (h : [v][j]? = some u) : (w.alloc (.cells #[v] e)).cell? ((⟨w.heap.size, 0, none⟩ : Addr).add j) = some u := by
  match j, h with
  | 0, h => simp at h; subst h; rw [Addr.add_lit, World.cell?_alloc_mark]; rfl
theorem stepX_below {w w' : World} {g : Nat} {S : Nat → Prop} {L : Lx} (h : XAt w g S L) (b : Below w.heap.size w w') : StepX XAt w w' g S L :=
  ⟨S, h.below b, fun _ hk => Or.inl hk, (Ch.of_below b).more (fun _ _ h => h.elim)⟩
theorem chkL_size {l : List Lb} (h : chkL l = true) : 1 ≤ l.length ∧ l.length ≤ 8 := by
  unfold chkL at h
  simp only [Bool.and_eq_true, decide_eq_true_eq] at h
  exact h.2
/-- One set more. -/
theorem XAt.more {w0 w : World} {g : Nat} {S : Nat → Prop} {L : Lx} {a : Option Addr} {c : Nat} {hs : List Hl} {l : List Lb} {h : Hl} {b : Nat} {c' : Nat} (hX : XAt w0 g S L)
    (hl : hs.length = L.length) (hx : Boxed w0 g 41 (.slice a L.length c)) (hr0 : w0.ownsRow 0 42 1 (.slice a L.length c) L.length (hs.map hlV)) (hown : ∀ b, (Value.slice a L.length c).ownBlock = some b → S b)
    (heach : ∀ (i : Nat) (h : Hl) (l : List Lb), hs[i]? = some h → L[i]? = some l → SlL w0 h l ∧ ∀ b off, h.1 = some ⟨b, off, none⟩ → h.2.1 ≠ 0 → S b ∧ CellsT w0 b 52)
    (hch : Ch (fun k => (Value.slice a L.length c).ownBlock = some k) w0 w)
    (hrow : w.ownsRow 0 42 1 (.slice (some ⟨b, 0, none⟩) (L.length + 1) c') (L.length + 1) ((hs ++ [h]).map hlV)) (hb : (Value.slice a L.length c).ownBlock = some b ∨ w0.heap.size ≤ b)
    (hSl : SlL w h l) (hhb : ∀ b off, h.1 = some ⟨b, off, none⟩ → h.2.1 ≠ 0 → w0.heap.size ≤ b ∧ CellsT w b 52) :
    StepX XAt w0 (w.setCell ⟨g, 0, none⟩ (.slice (some ⟨b, 0, none⟩) (L.length + 1) c')) g S (L ++ [l]) := by
  have hbx : Boxed w g 41 (.slice a L.length c) := boxed_ch hx hch (fun e => (row_cells hr0 e).1.ne (boxed_cells hx) (by decide) rfl)
  have hset : Ch (fun k => k = g) w (w.setCell ⟨g, 0, none⟩ (.slice (some ⟨b, 0, none⟩) (L.length + 1) c')) := Ch.set w g _
  have hbg : b ≠ g := (row_cells hrow (g := b) rfl).1.ne (boxed_cells hbx) (by decide)
  have hbl : b < w.heap.size := (row_cells hrow (g := b) rfl).1.lt
  refine ⟨fun k => S k ∨ (w0.heap.size ≤ k ∧ k < w.heap.size), ⟨Or.inl hX.own, fun k hk => ?_, some ⟨b, 0, none⟩, c', hs ++ [h], ?_, ?_, ?_, ?_, ?_⟩, ?_, ?_⟩
  · have := hset.size
    rcases hk with hk | hk
    · have h1 := hX.lt k hk
      have h2 := hch.size
      omega
    · omega
  · rw [List.length_append]
    exact hbx.set _
  · rw [List.length_append, List.length_append, hl]; rfl
  · rw [List.length_append]
    exact row_ch hrow hset (fun k hk e => hbg (by simp [Value.ownBlock] at hk; omega))
  · intro k hk
    simp [Value.ownBlock] at hk
    subst hk
    rcases hb with e | e
    · exact Or.inl (hown _ e)
    · exact Or.inr ⟨e, hbl⟩
  · intro i h' l' hi hl'
    by_cases hlt' : i < L.length
    · rw [List.getElem?_append_left (by omega)] at hi
      rw [List.getElem?_append_left hlt'] at hl'
      obtain ⟨q1, q2⟩ := heach i h' l' hi hl'
      have n1 : ∀ b off, h'.1 = some ⟨b, off, none⟩ → h'.2.1 ≠ 0 → ¬ (Value.slice a L.length c).ownBlock = some b := fun b off e hz eb => (row_cells hr0 eb).1.ne (q2 b off e hz).2 (by decide) rfl
      have n2 : ∀ b off, h'.1 = some ⟨b, off, none⟩ → h'.2.1 ≠ 0 → ¬ b = g := fun b off e hz => (q2 b off e hz).2.ne (boxed_cells hx) (by decide)
      exact ⟨⟨(q1.1.keep hch n1).keep hset n2, q1.2⟩, fun b off e hz => ⟨Or.inl (q2 b off e hz).1, ((q2 b off e hz).2.keep hch (n1 b off e hz)).keep hset (n2 b off e hz)⟩⟩
    · have hi2 : i < (hs ++ [h]).length := (List.getElem?_eq_some_iff.1 hi).1
      have : i = L.length := by simp [hl] at hi2; omega
      subst this
      rw [List.getElem?_append_right (by omega), hl, Nat.sub_self] at hi
      rw [List.getElem?_append_right (by omega), Nat.sub_self] at hl'
      simp at hi hl'
      subst hi
      subst hl'
      have n2 : ∀ b off, h.1 = some ⟨b, off, none⟩ → h.2.1 ≠ 0 → ¬ b = g := fun b off e hz => (hhb b off e hz).2.ne (boxed_cells hbx) (by decide)
      exact ⟨⟨hSl.1.keep hset n2, hSl.2⟩, fun b' off e hz => ⟨Or.inr ⟨(hhb b' off e hz).1, (hhb b' off e hz).2.lt⟩, (hhb b' off e hz).2.keep hset (n2 b' off e hz)⟩⟩
  · rintro k (hk | hk)
    · exact Or.inl hk
    · exact Or.inr hk.1
  · refine (hch.more (fun k _ hk => hown k hk)).trans ?_
    exact hset.more (fun k _ hk => hk ▸ hX.own)

/-- Two operations that are ready: either may come first. -/
theorem held_two {P : Program} {ops : Array Oper} {Q : Exit → Act → World → Prop} {md : Region.Mode} {S : World → Prop} {i j : Nat} {o o' : Oper} {fuel : Nat} {listed : Array Bool} {a : Act} {w : World} (hr : Region.ready md ops listed = [i, j]) (ho : ops[i]? = some o) (hw : Region.wanted o (yielded ops a.tmps) = true) (ho' : ops[j]? = some o') (hw' : Region.wanted o' (yielded ops a.tmps) = true)
    (h : ∀ K' : Act → World → Prop, Shut (∀ a w, S w → wpAnyH P md ops Q S fuel (listed.setIfInBounds i true) a w → K' a w) → Oper.wp P o a w K' Q)
    (h' : ∀ K' : Act → World → Prop, Shut (∀ a w, S w → wpAnyH P md ops Q S fuel (listed.setIfInBounds j true) a w → K' a w) → Oper.wp P o' a w K' Q) : wpAnyH P md ops Q S (fuel + 1) listed a w := by
  refine wpAnyH_all hr (by simp) ?_
  intro k hk
  have : k = i ∨ k = j := by simpa using hk
  rcases this with e | e
  · subst e
    unfold wpOp
    simp only [ho]
    rw [if_pos hw]
    exact Or.inl (h _ (fun a' w' hS q => ⟨hS, q⟩))
  · subst e
    unfold wpOp
    simp only [ho']
    rw [if_pos hw']
    exact Or.inl (h' _ (fun a' w' hS q => ⟨hS, q⟩))

/-- What ID tells. -/
def IdP (L : Lx) (l : List Lb) (g : Nat) (S : Nat → Prop) (w : World) (e : Ending) (w' : World) : Prop := e = .returned (.tuple #[.int .i64 (idN L l), .int .i64 (idE L l)]) ∧ StepX XAt w w' g S (idL L l)

set_option maxHeartbeats 4000000 in
theorem rid_any (g : Nat) (S : Nat → Prop) (L : Lx) (a : Option Addr) (n c : Nat) (l : List Lb) (w : World) (hX : XAt w g S L) (hr : RowL w a n l) (hL : L.length ≤ 4096) :
    Calls Tryz.prog 18 #[.pointer (some ⟨g, 0, none⟩), .slice a n c] w fun e w' => IdP L l g S w e w' := by
  obtain ⟨i0, hi, hz0, hz1, hz2⟩ := info_parts Tryz.infoL
  obtain ⟨i1, hj, hy0, hy1, hy2⟩ := info_parts Tryz.infoLL
  have HX := hide hX
  have HR := hide hr
  have CK := hide (refchkl_any a n c l w hr)
  have FI := hide (fun u (hu : Below w.heap.size w u) => rfind_any g S L a n c l u (hX.below hu) (hr.below hu (Nat.le_refl _)) (by omega))
  clear hX hr
  cases hc : chkL l with
  | false =>
    rw [hc] at CK
    have F : Hid (∀ u, Below w.heap.size w u → IdP L l g S w (.returned (.tuple #[.int .i64 (-1), .int .i64 5])) u) := fun u hu => by
      obtain ⟨e1, e2, e3⟩ := id_no (L := L) hc
      refine ⟨by rw [e1, e2], ?_⟩
      rw [e3]
      exact stepX_below HX.out hu
    clear hc FI
    go_enter Tryz.func18, Tryz.ntmps18
    go_wp2_with fail
    with_reducible refine CK.out.mono ?_
    rintro e u1 ⟨rfl, q⟩
    have B1 := hide (drewB q)
    clear q CK
    go_wp2
    refine bodyPost_ret (v := .tuple #[.int .i64 (-1), .int .i64 5]) (by simp [results, Tryz.results18, go_sem]) rfl ?_
    exact F.out _ B1.out
  | true =>
    rw [hc] at CK
    cases hf : findX L l with
    | some k =>
      have F : Hid (∀ u, Below w.heap.size w u → IdP L l g S w (.returned (.tuple #[.int .i64 (k : Int), .int .i64 0])) u) := fun u hu => by
        obtain ⟨e1, e2, e3⟩ := id_has hc hf
        refine ⟨by rw [e1, e2], ?_⟩
        rw [e3]
        exact stepX_below HX.out hu
      have fn : findN L l = (k : Int) := by unfold findN; rw [hf]
      rw [fn, hf] at FI
      dsimp only [Option.isSome] at FI
      clear hc hf fn
      go_enter Tryz.func18, Tryz.ntmps18
      go_wp2_with fail
      with_reducible refine CK.out.mono ?_
      rintro e u1 ⟨rfl, q⟩
      have B1 := hide (drewB q)
      clear q CK
      go_wp2_with fail
      with_reducible refine (FI.out _ B1.out).mono ?_
      rintro e u2 ⟨rfl, b2⟩
      have B2 := hide (bel_to B1.out (Nat.le_refl _) b2)
      clear b2 FI B1
      go_wp2
      refine bodyPost_ret (v := .tuple #[.int .i64 (k : Int), .int .i64 0]) (by simp [results, Tryz.results18, go_sem]) rfl ?_
      exact F.out _ B2.out
    | none =>
      have fn : findN L l = -1 := by unfold findN; rw [hf]
      rw [fn, hf] at FI
      dsimp only [Option.isSome] at FI
      obtain ⟨ax, cx, hs, x1, x2, x3, x4, x5⟩ := HX.out.body
      obtain ⟨m, hm⟩ : ∃ m, Hid (L.length = m) := ⟨_, rfl⟩
      have X1 := hide x1
      by_cases hfull : 4096 ≤ L.length
      · have F : Hid (∀ u, Below w.heap.size w u → IdP L l g S w (.returned (.tuple #[.int .i64 (-1), .int .i64 2])) u) := fun u hu => by
          obtain ⟨e1, e2, e3⟩ := id_full hc hf hfull
          refine ⟨by rw [e1, e2], ?_⟩
          rw [e3]
          exact stepX_below HX.out hu
        have hm4 : (4096 : Int) ≤ (m : Int) := by have := hm.out; omega
        rw [hm.out] at X1
        clear hc hf fn x1 x2 x3 x4 x5 hfull hL
        go_enter Tryz.func18, Tryz.ntmps18
        go_wp2_with fail
        with_reducible refine CK.out.mono ?_
        rintro e u1 ⟨rfl, q⟩
        have B1 := hide (drewB q)
        clear q CK
        go_wp2_with fail
        with_reducible refine (FI.out _ B1.out).mono ?_
        rintro e u2 ⟨rfl, b2⟩
        have B2 := hide (bel_to B1.out (Nat.le_refl _) b2)
        have g2 := (boxed_below X1.out B2.out).cell
        clear b2 FI B1
        go_wp2
        refine bodyPost_ret (v := .tuple #[.int .i64 (-1), .int .i64 2]) (by simp [results, Tryz.results18, go_sem]) rfl ?_
        exact F.out _ B2.out
      · have hfree : L.length < 4096 := by omega
        have hn1 : 1 ≤ n := by have := chkL_size hc; have := HR.out.1; omega
        have hn8 : n ≤ 8 := by have := chkL_size hc; have := HR.out.1; omega
        obtain ⟨ad, rfl⟩ : ∃ ad, a = some ad := by
          cases a with
          | none => have := HR.out.nz rfl; omega
          | some ad => exact ⟨ad, rfl⟩
        have HLF : Hid (l.length = n) := HR.out.1
        have HLW : Hid (∀ x ∈ l, LbW x) := HR.out.2.2.1
        have F : Hid (∀ v, StepX XAt w v g S (L ++ [l]) → IdP L l g S w (.returned (.tuple #[.int .i64 (m : Int), .int .i64 0])) v) := fun v hv => by
          obtain ⟨e1, e2, e3⟩ := id_new hc hf hfree
          refine ⟨by rw [e1, e2, hm.out], ?_⟩
          rw [e3]
          exact hv
        have hm4 : ¬ (4096 : Int) ≤ (m : Int) := by have := hm.out; omega
        have hmb : m < 4096 := by have := hm.out; omega
        rw [hm.out] at X1
        have X2 := hide x2
        have X3 := hide x3
        have X4 := hide x4
        have X5 := hide x5
        rw [hm.out] at X2 X3 X4
        clear hc hf fn x1 x2 x3 x4 x5 hfull hL hfree
        go_enter Tryz.func18, Tryz.ntmps18
        go_wp2_with fail
        with_reducible refine CK.out.mono ?_
        rintro e u1 ⟨rfl, q⟩
        have B1 := hide (drewB q)
        clear q CK
        go_wp2_with fail
        with_reducible refine (FI.out _ B1.out).mono ?_
        rintro e u2 ⟨rfl, b2⟩
        have B2 := hide (bel_to B1.out (Nat.le_refl _) b2)
        have g2 := (boxed_below X1.out B2.out).cell
        clear b2 FI B1
        go_upto_region 8 with fail
        refine wp_region_held_drew (S := fun _ => True) (by kernel_rfl) trivial (fun hHeld => ?_)
        refine held_take (i := 0) (d := (some 25)) (v := ?_) rfl rfl (by kernel_rfl) (by kernel_rfl) (by kernel_rfl) (fun _ _ _ h => h) (Or.inl ⟨by rfl, ?_⟩) (by first | assumption | rfl | trivial) ?_
        rotate_left 1
        · (intro w hSw; (try dsimp only at hSw); (try subst hSw); go_simp; try with_reducible rfl)
        simp only [Act.put, List.setIfInBounds_toArray, List.set_cons_zero, List.set_cons_succ]
        refine held_take (i := 1) (d := (some 26)) (v := ?_) rfl rfl (by kernel_rfl) (by kernel_rfl) (by kernel_rfl) (fun _ _ _ h => h) (Or.inl ⟨by rfl, ?_⟩) (by first | assumption | rfl | trivial) ?_
        rotate_left 1
        · (intro w hSw; (try dsimp only at hSw); (try subst hSw); go_simp; try with_reducible rfl)
        simp only [Act.put, List.setIfInBounds_toArray, List.set_cons_zero, List.set_cons_succ]
        refine held_take (i := 2) (d := (some 27)) (v := ?_) rfl rfl (by kernel_rfl) (by kernel_rfl) (by kernel_rfl) (fun _ _ _ h => h) (Or.inl ⟨by rfl, ?_⟩) (by first | assumption | rfl | trivial) ?_
        rotate_left 1
        · (intro w hSw; (try dsimp only at hSw); (try subst hSw); go_simp; try with_reducible rfl)
        simp only [Act.put, List.setIfInBounds_toArray, List.set_cons_zero, List.set_cons_succ]
        refine held_take (i := 3) (d := (some 28)) (v := ?_) rfl rfl (by kernel_rfl) (by kernel_rfl) (by kernel_rfl) (fun _ _ _ h => h) (Or.inl ⟨by rfl, ?_⟩) (by first | assumption | rfl | trivial) ?_
        rotate_left 1
        · (intro w hSw; (try dsimp only at hSw); (try subst hSw); go_simp; try with_reducible rfl)
        simp only [Act.put, List.setIfInBounds_toArray, List.set_cons_zero, List.set_cons_succ]
        refine held_take (i := 5) (d := (some 30)) (v := ?_) rfl rfl (by kernel_rfl) (by kernel_rfl) (by kernel_rfl) (fun _ _ _ h => h) (Or.inl ⟨by rfl, ?_⟩) (by first | assumption | rfl | trivial) ?_
        rotate_left 1
        · (intro w hSw; (try dsimp only at hSw); (try subst hSw); go_simp; try with_reducible rfl)
        simp only [Act.put, List.setIfInBounds_toArray, List.set_cons_zero, List.set_cons_succ]
        have R2 := hide ((HR.out.below B2.out (Nat.le_refl _)).drew.cells)
        refine held_two (i := 4) (j := 6) (by kernel_rfl) rfl (by rfl) rfl (by rfl) (fun K1 hK1 => ?_) (fun K1 hK1 => ?_)
        · go_simp
          refine hK1.out _ _ trivial ?_
          clear hK1
          refine held_next (i := 6) (by kernel_rfl) rfl (by rfl) (fun K1 hK1 => ?_)
          refine wp_append_lies _ (.const (.slice none 0 0)) (.tmp 30) 42 rfl u2.heap.size 52 i0 (.agg #[.string .empty, .string .empty]) 2 32 Tryz.underlying42 hi hz0 hz1 hz2 rfl (by decide) _ 0 [] rfl (World.ownsRow_nil _ _ _ _) ad n c (flatL l) rfl (by rw [flatL_len, HLF.out]) R2.out (flatL_one l) (by omega) (by unfold maxLen; omega) (by omega) (Nat.le_refl _) _ rfl ?_
          intro gA cA wA oA grA atA ltA
          have BA : Hid (Below u2.heap.size u2 wA) := ⟨grA.os, grA.tape, grA.output, grA.size, fun k hk => grA.block k hk (by simp [Act.eval, Value.ownBlock])⟩
          have hgA : gA = u2.heap.size := by
            rcases atA with e | e
            · simp [Act.eval, Value.ownBlock] at e
            · exact e
          have OA : Hid (OwnL wA u2.heap.size (some ⟨gA, 0, none⟩) n cA l) := by
            have := oA
            rw [Nat.zero_add, List.nil_append] at this
            exact this
          have gA2 : wA.cell? ⟨g, 0, none⟩ = some (.slice ax m cx) := by
            rw [BA.out.cell (p := ⟨g, 0, none⟩) (World.block_lt_of_cell? u2 _ g2)]
            exact g2
          rw [Nat.zero_add]
          subst hgA
          clear oA grA atA R2
          go_simp
          refine hK1.out _ _ trivial ?_
          clear hK1
          refine held_next (i := 7) (by kernel_rfl) rfl (by rfl) (fun K1 hK1 => ?_)
          go_simp
          obtain ⟨wB, hwB⟩ : ∃ wB, Hid (wA.alloc (.cells #[.slice (some ⟨u2.heap.size, 0, none⟩) n cA] 42) = wB) := ⟨_, rfl⟩
          rw [hwB.out]
          have BB : Hid (Below wA.heap.size wA wB) := by rw [← hwB.out]; exact (Below.refl _ _).alloc (Nat.le_refl _) _
          have BWB := hide (bel_to (bel_to B2.out (Nat.le_refl _) BA.out) (Nat.le_refl _) BB.out)
          have NB : Hid (∀ j u, [Value.slice (some ⟨u2.heap.size, 0, none⟩) n cA][j]? = some u → wB.cell? ((⟨wA.heap.size, 0, none⟩ : Addr).add j) = some u) := by rw [← hwB.out]; exact one_slab wA _ _
          have gB2 : wB.cell? ⟨g, 0, none⟩ = some (.slice ax m cx) := by
            rw [BB.out.cell (p := ⟨g, 0, none⟩) (World.block_lt_of_cell? wA _ gA2)]
            exact gA2
          have OB := hide (OA.out.below BB.out (Nat.le_refl _))
          have XB := hide (row_ch X3.out (Ch.of_below BWB.out) (fun _ _ => id))
          refine hK1.out _ _ trivial ?_
          clear hK1 hwB OA
          refine held_next (i := 8) (by kernel_rfl) rfl (by rfl) (fun K1 hK1 => ?_)
          refine wp_append_lies _ (.tmp 29) (.tmp 32) 22 rfl 0 42 i1 (.slice none 0 0) 1 24 Tryz.underlying22 hj hy0 hy1 hy2 rfl (by decide) (.slice ax m cx) m (hs.map hlV) rfl XB.out ⟨wA.heap.size, 0, none⟩ 1 1 [.slice (some ⟨u2.heap.size, 0, none⟩) n cA] rfl rfl NB.out (by simp [Value.oneCell']) (by omega) (by unfold maxLen; omega) (by omega) (Nat.zero_le _) _ rfl ?_
          intro gC cC wC oC grC atC ltC
          have KC : Hid (Ch (fun k => (Value.slice ax m cx).ownBlock = some k) w wC) := ((Ch.of_below BWB.out).more (fun _ _ h => h.elim)).trans (Ch.grown grC)
          have OC : Hid (OwnL wC u2.heap.size (some ⟨u2.heap.size, 0, none⟩) n cA l) := OB.out.ch (Ch.grown grC) (fun k hk e => by
            have h1 := (row_cells X3.out e).1.lt
            have h2 := OB.out.block k hk
            have h3 := B2.out.size
            omega)
          have SC : Hid (SlL wC (some ⟨u2.heap.size, 0, none⟩, n, cA) l) := ⟨OC.out.row (by omega) HLW.out, OC.out.capped.1, fun h => by cases h⟩
          have XC : Hid (Boxed wC g 41 (.slice ax m cx)) := boxed_ch X1.out KC.out (fun e => (row_cells X3.out e).1.ne (boxed_cells X1.out) (by decide) rfl)
          have ST : Hid (StepX XAt w (wC.setCell ⟨g, 0, none⟩ (.slice (some ⟨gC, 0, none⟩) (m + 1) cC)) g S (L ++ [l])) := by
            have e := hm.out
            subst e
            refine XAt.more (h := (some ⟨u2.heap.size, 0, none⟩, n, cA)) HX.out X2.out X1.out X3.out X4.out X5.out KC.out ?_ ?_ SC.out ?_
            · rw [List.map_append]
              exact oC
            · rcases atC with e | e
              · exact Or.inl e
              · exact Or.inr (by rw [e]; exact BWB.out.size)
            · intro b off e _
              simp only [Option.some.injEq, Addr.mk.injEq, and_true] at e
              obtain ⟨rfl, rfl⟩ := e
              exact ⟨B2.out.size, (row_cells OC.out rfl).1⟩
          have gC2 := XC.out.cell
          have fC2 := XC.out.frozen
          have F3 := hide (F.out _ ST.out)
          clear oC grC atC KC OC SC XC ST XB OB NB gA2 gB2 BB BA F
          go_simp
          refine hK1.out _ _ trivial ?_
          clear hK1
          refine held_take (i := 9) (d := (some 34)) (v := ?_) rfl rfl (by kernel_rfl) (by kernel_rfl) (by kernel_rfl) (fun _ _ _ h => h) (Or.inl ⟨by rfl, ?_⟩) (by first | assumption | rfl | trivial) ?_
          rotate_left 1
          · (intro w hSw; (try dsimp only at hSw); (try subst hSw); go_simp; try with_reducible rfl)
          simp only [Act.put, List.setIfInBounds_toArray, List.set_cons_zero, List.set_cons_succ]
          refine held_take (i := 10) (d := (some 35)) (v := ?_) rfl rfl (by kernel_rfl) (by kernel_rfl) (by kernel_rfl) (fun _ _ _ h => h) (Or.inl ⟨by rfl, ?_⟩) (by first | assumption | rfl | trivial) ?_
          rotate_left 1
          · (intro w hSw; (try dsimp only at hSw); (try subst hSw); go_simp; try with_reducible rfl)
          simp only [Act.put, List.setIfInBounds_toArray, List.set_cons_zero, List.set_cons_succ]
          refine held_next (i := 11) (by kernel_rfl) rfl (by rfl) (fun K1 hK1 => ?_)
          go_simp
          refine hK1.out _ _ trivial ?_
          clear hK1 hHeld
          refine wpAnyH_done (by kernel_rfl) ?_ _
          go_wp2
          refine bodyPost_ret (v := .tuple #[.int .i64 (m : Int), .int .i64 0]) (by simp [results, Tryz.results18, go_sem]) rfl ?_
          exact F3.out
        · refine wp_append_lies _ (.const (.slice none 0 0)) (.tmp 30) 42 rfl u2.heap.size 52 i0 (.agg #[.string .empty, .string .empty]) 2 32 Tryz.underlying42 hi hz0 hz1 hz2 rfl (by decide) _ 0 [] rfl (World.ownsRow_nil _ _ _ _) ad n c (flatL l) rfl (by rw [flatL_len, HLF.out]) R2.out (flatL_one l) (by omega) (by unfold maxLen; omega) (by omega) (Nat.le_refl _) _ rfl ?_
          intro gA cA wA oA grA atA ltA
          have BA : Hid (Below u2.heap.size u2 wA) := ⟨grA.os, grA.tape, grA.output, grA.size, fun k hk => grA.block k hk (by simp [Act.eval, Value.ownBlock])⟩
          have hgA : gA = u2.heap.size := by
            rcases atA with e | e
            · simp [Act.eval, Value.ownBlock] at e
            · exact e
          have OA : Hid (OwnL wA u2.heap.size (some ⟨gA, 0, none⟩) n cA l) := by
            have := oA
            rw [Nat.zero_add, List.nil_append] at this
            exact this
          have gA2 : wA.cell? ⟨g, 0, none⟩ = some (.slice ax m cx) := by
            rw [BA.out.cell (p := ⟨g, 0, none⟩) (World.block_lt_of_cell? u2 _ g2)]
            exact g2
          rw [Nat.zero_add]
          subst hgA
          clear oA grA atA R2
          go_simp
          refine hK1.out _ _ trivial ?_
          clear hK1
          refine held_two (i := 4) (j := 7) (by kernel_rfl) rfl (by rfl) rfl (by rfl) (fun K1 hK1 => ?_) (fun K1 hK1 => ?_)
          · go_simp
            refine hK1.out _ _ trivial ?_
            clear hK1
            refine held_next (i := 7) (by kernel_rfl) rfl (by rfl) (fun K1 hK1 => ?_)
            go_simp
            obtain ⟨wB, hwB⟩ : ∃ wB, Hid (wA.alloc (.cells #[.slice (some ⟨u2.heap.size, 0, none⟩) n cA] 42) = wB) := ⟨_, rfl⟩
            rw [hwB.out]
            have BB : Hid (Below wA.heap.size wA wB) := by rw [← hwB.out]; exact (Below.refl _ _).alloc (Nat.le_refl _) _
            have BWB := hide (bel_to (bel_to B2.out (Nat.le_refl _) BA.out) (Nat.le_refl _) BB.out)
            have NB : Hid (∀ j u, [Value.slice (some ⟨u2.heap.size, 0, none⟩) n cA][j]? = some u → wB.cell? ((⟨wA.heap.size, 0, none⟩ : Addr).add j) = some u) := by rw [← hwB.out]; exact one_slab wA _ _
            have gB2 : wB.cell? ⟨g, 0, none⟩ = some (.slice ax m cx) := by
              rw [BB.out.cell (p := ⟨g, 0, none⟩) (World.block_lt_of_cell? wA _ gA2)]
              exact gA2
            have OB := hide (OA.out.below BB.out (Nat.le_refl _))
            have XB := hide (row_ch X3.out (Ch.of_below BWB.out) (fun _ _ => id))
            refine hK1.out _ _ trivial ?_
            clear hK1 hwB OA
            refine held_next (i := 8) (by kernel_rfl) rfl (by rfl) (fun K1 hK1 => ?_)
            refine wp_append_lies _ (.tmp 29) (.tmp 32) 22 rfl 0 42 i1 (.slice none 0 0) 1 24 Tryz.underlying22 hj hy0 hy1 hy2 rfl (by decide) (.slice ax m cx) m (hs.map hlV) rfl XB.out ⟨wA.heap.size, 0, none⟩ 1 1 [.slice (some ⟨u2.heap.size, 0, none⟩) n cA] rfl rfl NB.out (by simp [Value.oneCell']) (by omega) (by unfold maxLen; omega) (by omega) (Nat.zero_le _) _ rfl ?_
            intro gC cC wC oC grC atC ltC
            have KC : Hid (Ch (fun k => (Value.slice ax m cx).ownBlock = some k) w wC) := ((Ch.of_below BWB.out).more (fun _ _ h => h.elim)).trans (Ch.grown grC)
            have OC : Hid (OwnL wC u2.heap.size (some ⟨u2.heap.size, 0, none⟩) n cA l) := OB.out.ch (Ch.grown grC) (fun k hk e => by
              have h1 := (row_cells X3.out e).1.lt
              have h2 := OB.out.block k hk
              have h3 := B2.out.size
              omega)
            have SC : Hid (SlL wC (some ⟨u2.heap.size, 0, none⟩, n, cA) l) := ⟨OC.out.row (by omega) HLW.out, OC.out.capped.1, fun h => by cases h⟩
            have XC : Hid (Boxed wC g 41 (.slice ax m cx)) := boxed_ch X1.out KC.out (fun e => (row_cells X3.out e).1.ne (boxed_cells X1.out) (by decide) rfl)
            have ST : Hid (StepX XAt w (wC.setCell ⟨g, 0, none⟩ (.slice (some ⟨gC, 0, none⟩) (m + 1) cC)) g S (L ++ [l])) := by
              have e := hm.out
              subst e
              refine XAt.more (h := (some ⟨u2.heap.size, 0, none⟩, n, cA)) HX.out X2.out X1.out X3.out X4.out X5.out KC.out ?_ ?_ SC.out ?_
              · rw [List.map_append]
                exact oC
              · rcases atC with e | e
                · exact Or.inl e
                · exact Or.inr (by rw [e]; exact BWB.out.size)
              · intro b off e _
                simp only [Option.some.injEq, Addr.mk.injEq, and_true] at e
                obtain ⟨rfl, rfl⟩ := e
                exact ⟨B2.out.size, (row_cells OC.out rfl).1⟩
            have gC2 := XC.out.cell
            have fC2 := XC.out.frozen
            have F3 := hide (F.out _ ST.out)
            clear oC grC atC KC OC SC XC ST XB OB NB gA2 gB2 BB BA F
            go_simp
            refine hK1.out _ _ trivial ?_
            clear hK1
            refine held_take (i := 9) (d := (some 34)) (v := ?_) rfl rfl (by kernel_rfl) (by kernel_rfl) (by kernel_rfl) (fun _ _ _ h => h) (Or.inl ⟨by rfl, ?_⟩) (by first | assumption | rfl | trivial) ?_
            rotate_left 1
            · (intro w hSw; (try dsimp only at hSw); (try subst hSw); go_simp; try with_reducible rfl)
            simp only [Act.put, List.setIfInBounds_toArray, List.set_cons_zero, List.set_cons_succ]
            refine held_take (i := 10) (d := (some 35)) (v := ?_) rfl rfl (by kernel_rfl) (by kernel_rfl) (by kernel_rfl) (fun _ _ _ h => h) (Or.inl ⟨by rfl, ?_⟩) (by first | assumption | rfl | trivial) ?_
            rotate_left 1
            · (intro w hSw; (try dsimp only at hSw); (try subst hSw); go_simp; try with_reducible rfl)
            simp only [Act.put, List.setIfInBounds_toArray, List.set_cons_zero, List.set_cons_succ]
            refine held_next (i := 11) (by kernel_rfl) rfl (by rfl) (fun K1 hK1 => ?_)
            go_simp
            refine hK1.out _ _ trivial ?_
            clear hK1 hHeld
            refine wpAnyH_done (by kernel_rfl) ?_ _
            go_wp2
            refine bodyPost_ret (v := .tuple #[.int .i64 (m : Int), .int .i64 0]) (by simp [results, Tryz.results18, go_sem]) rfl ?_
            exact F3.out
          · go_simp
            obtain ⟨wB, hwB⟩ : ∃ wB, Hid (wA.alloc (.cells #[.slice (some ⟨u2.heap.size, 0, none⟩) n cA] 42) = wB) := ⟨_, rfl⟩
            rw [hwB.out]
            have BB : Hid (Below wA.heap.size wA wB) := by rw [← hwB.out]; exact (Below.refl _ _).alloc (Nat.le_refl _) _
            have BWB := hide (bel_to (bel_to B2.out (Nat.le_refl _) BA.out) (Nat.le_refl _) BB.out)
            have NB : Hid (∀ j u, [Value.slice (some ⟨u2.heap.size, 0, none⟩) n cA][j]? = some u → wB.cell? ((⟨wA.heap.size, 0, none⟩ : Addr).add j) = some u) := by rw [← hwB.out]; exact one_slab wA _ _
            have gB2 : wB.cell? ⟨g, 0, none⟩ = some (.slice ax m cx) := by
              rw [BB.out.cell (p := ⟨g, 0, none⟩) (World.block_lt_of_cell? wA _ gA2)]
              exact gA2
            have OB := hide (OA.out.below BB.out (Nat.le_refl _))
            have XB := hide (row_ch X3.out (Ch.of_below BWB.out) (fun _ _ => id))
            refine hK1.out _ _ trivial ?_
            clear hK1 hwB OA
            refine held_next (i := 4) (by kernel_rfl) rfl (by rfl) (fun K1 hK1 => ?_)
            go_simp
            refine hK1.out _ _ trivial ?_
            clear hK1
            refine held_next (i := 8) (by kernel_rfl) rfl (by rfl) (fun K1 hK1 => ?_)
            refine wp_append_lies _ (.tmp 29) (.tmp 32) 22 rfl 0 42 i1 (.slice none 0 0) 1 24 Tryz.underlying22 hj hy0 hy1 hy2 rfl (by decide) (.slice ax m cx) m (hs.map hlV) rfl XB.out ⟨wA.heap.size, 0, none⟩ 1 1 [.slice (some ⟨u2.heap.size, 0, none⟩) n cA] rfl rfl NB.out (by simp [Value.oneCell']) (by omega) (by unfold maxLen; omega) (by omega) (Nat.zero_le _) _ rfl ?_
            intro gC cC wC oC grC atC ltC
            have KC : Hid (Ch (fun k => (Value.slice ax m cx).ownBlock = some k) w wC) := ((Ch.of_below BWB.out).more (fun _ _ h => h.elim)).trans (Ch.grown grC)
            have OC : Hid (OwnL wC u2.heap.size (some ⟨u2.heap.size, 0, none⟩) n cA l) := OB.out.ch (Ch.grown grC) (fun k hk e => by
              have h1 := (row_cells X3.out e).1.lt
              have h2 := OB.out.block k hk
              have h3 := B2.out.size
              omega)
            have SC : Hid (SlL wC (some ⟨u2.heap.size, 0, none⟩, n, cA) l) := ⟨OC.out.row (by omega) HLW.out, OC.out.capped.1, fun h => by cases h⟩
            have XC : Hid (Boxed wC g 41 (.slice ax m cx)) := boxed_ch X1.out KC.out (fun e => (row_cells X3.out e).1.ne (boxed_cells X1.out) (by decide) rfl)
            have ST : Hid (StepX XAt w (wC.setCell ⟨g, 0, none⟩ (.slice (some ⟨gC, 0, none⟩) (m + 1) cC)) g S (L ++ [l])) := by
              have e := hm.out
              subst e
              refine XAt.more (h := (some ⟨u2.heap.size, 0, none⟩, n, cA)) HX.out X2.out X1.out X3.out X4.out X5.out KC.out ?_ ?_ SC.out ?_
              · rw [List.map_append]
                exact oC
              · rcases atC with e | e
                · exact Or.inl e
                · exact Or.inr (by rw [e]; exact BWB.out.size)
              · intro b off e _
                simp only [Option.some.injEq, Addr.mk.injEq, and_true] at e
                obtain ⟨rfl, rfl⟩ := e
                exact ⟨B2.out.size, (row_cells OC.out rfl).1⟩
            have gC2 := XC.out.cell
            have fC2 := XC.out.frozen
            have F3 := hide (F.out _ ST.out)
            clear oC grC atC KC OC SC XC ST XB OB NB gA2 gB2 BB BA F
            go_simp
            refine hK1.out _ _ trivial ?_
            clear hK1
            refine held_take (i := 9) (d := (some 34)) (v := ?_) rfl rfl (by kernel_rfl) (by kernel_rfl) (by kernel_rfl) (fun _ _ _ h => h) (Or.inl ⟨by rfl, ?_⟩) (by first | assumption | rfl | trivial) ?_
            rotate_left 1
            · (intro w hSw; (try dsimp only at hSw); (try subst hSw); go_simp; try with_reducible rfl)
            simp only [Act.put, List.setIfInBounds_toArray, List.set_cons_zero, List.set_cons_succ]
            refine held_take (i := 10) (d := (some 35)) (v := ?_) rfl rfl (by kernel_rfl) (by kernel_rfl) (by kernel_rfl) (fun _ _ _ h => h) (Or.inl ⟨by rfl, ?_⟩) (by first | assumption | rfl | trivial) ?_
            rotate_left 1
            · (intro w hSw; (try dsimp only at hSw); (try subst hSw); go_simp; try with_reducible rfl)
            simp only [Act.put, List.setIfInBounds_toArray, List.set_cons_zero, List.set_cons_succ]
            refine held_next (i := 11) (by kernel_rfl) rfl (by rfl) (fun K1 hK1 => ?_)
            go_simp
            refine hK1.out _ _ trivial ?_
            clear hK1 hHeld
            refine wpAnyH_done (by kernel_rfl) ?_ _
            go_wp2
            refine bodyPost_ret (v := .tuple #[.int .i64 (m : Int), .int .i64 0]) (by simp [results, Tryz.results18, go_sem]) rfl ?_
            exact F3.out
end Go.Proofs.YtpffhpnmbpjifaaGreat
