/-
  What take of the index comes to: a set has the next number: a contract, for every world.
  Conditions: the index lies in memory, the set is one that may be, has no number yet, and lies outside the index's blocks.
-/
import Derived.Test.YtpffhpnmbpjifaaGreatIdxDz
import Derived.Deep.AppendLies
import Derived.Deep.Cut
import Derived.Deep.DeepCutAuto
import Derived.Deep.CutBlock
namespace Go.Proofs.YtpffhpnmbpjifaaGreat
open Go.RowKit Go.Maps
set_option maxRecDepth 20000

theorem eqlmap (w : World) (b : Option Nat) : (binOp .eql 76 (.map b) (.map none)).run Tryz.prog w = .ok (.bool b.isNone) w := by
  have h : ∀ d, (Op.equalIn (d + 1) 76 (.map b) (.map none)).run Tryz.prog w = .ok b.isNone w := fun d => by
    simp [Op.equalIn, run_underlying Tryz.underlying76]
    cases b <;> rfl
  simp only [binOp]
  simp [Op.equal, Op.maxDepth, h 9999]
theorem ch_then {S T : Nat → Prop} {u v w : World} (h : Ch S u v) (k : Ch T v w) (ht : ∀ j, T j → S j ∨ u.heap.size ≤ j) : Ch S u w :=
  ⟨k.os.trans h.os, k.tape.trans h.tape, k.output.trans h.output, Nat.le_trans h.size k.size, fun i hi hs => (k.block i (Nat.lt_of_lt_of_le hi h.size) (fun e => by
    rcases ht i e with z | z
    · exact hs z
    · omega)).trans (h.block i hi hs)⟩
/-- In a round: the name has its map, the label its box. -/
def TkR (w : World) (g : Nat) (S : Nat → Prop) (L : Lx) (l : List Lb) (bn bp j : Nat) (nm vv : ByteArray) (bx b : Nat) (W : World) : Prop :=
  ∃ S' a c hs nb p q, IB W g S' (L ++ [l]) (L ++ [l]) (L ++ [l.take j]) a c hs bn bp nb p q ∧ p nm = some b ∧ nb ≤ 2 * (cntX L + j) + 1 ∧ (∀ k, S k → S' k) ∧ (∀ k, S' k → S k ∨ w.heap.size ≤ k) ∧ Ch S w W ∧ W.heap[bx]? = some (.cells #[.string nm, .string vv] 52)
/-- Behind the row of sets. -/
def TkA (w : World) (g : Nat) (S : Nat → Prop) (L : Lx) (l : List Lb) (bn bp nb : Nat) (p : ByteArray → Option Nat) (q : ByteArray → ByteArray → Option Hl) (W : World) : Prop :=
  ∃ S' a c hs, IB W g S' (L ++ [l]) L L a c hs bn bp nb p q ∧ (∀ k, S k → S' k) ∧ (∀ k, S' k → S k ∨ w.heap.size ≤ k) ∧ Ch S w W

set_option maxHeartbeats 8000000 in
theorem take_any (g : Nat) (S : Nat → Prop) (L : Lx) (a : Option Addr) (n c : Nat) (l : List Lb) (ax : Option Addr) (cx : Nat) (hs : List Hl) (bn bp nb : Nat) (p : ByteArray → Option Nat) (q : ByteArray → ByteArray → Option Hl) (w : World)
    (hG : GoodX L) (hL : L.length < 4096) (hB : IB w g S L L L ax cx hs bn bp nb p q) (hnb : nb ≤ 2 * cntX L) (hr : RowL w a n l) (hnc : a = none → c = 0) (hc : chkL l = true) (hf : findX L l = none) (hap : ∀ b off, a = some ⟨b, off, none⟩ → n ≠ 0 → ¬ S b) :
    Calls Tryz.prog 32 #[.pointer (some ⟨g, 0, none⟩), .slice a n c] w fun e w' => e = .returned (.int .i64 (L.length : Int)) ∧ StepX IAt w w' g S (L ++ [l]) := by
  obtain ⟨i1, hj, hy0, hy1, hy2⟩ := info_parts Tryz.infoLL
  obtain ⟨i2, hk, hx0, hx1, hx2⟩ := info_parts Tryz.infoI
  have hn1 : 1 ≤ n := by have := chkL_size hc; have := hr.1; omega
  have hn8 : n ≤ 8 := by have := chkL_size hc; have := hr.1; omega
  obtain ⟨bl, ol, rfl⟩ : ∃ bl ol, a = some ⟨bl, ol, none⟩ := by
    obtain ⟨_, _, _, h0 | ⟨bl, ol, e, _⟩⟩ := hr
    · omega
    · exact ⟨bl, ol, e⟩
  have HLS : Hid (¬ S bl) := hap bl ol rfl (by omega)
  have HLF : Hid (l.length = n) := hr.1
  have HLW : Hid (∀ x ∈ l, LbW x) := hr.2.2.1
  have HPW := hide (chkL_less hc)
  have HPT := hide (chkL_parts hc).2.2
  have HGL : Hid (GoodX (L ++ [l])) := fun x hx => by
    rcases List.mem_append.1 hx with e | e
    · exact hG x e
    · rw [List.mem_singleton] at e
      rw [e]
      exact hc
  have HCX := hide (cntX_le hG)
  have HRL := hide (fun W (k : Ch S w W) => hr.keep k (fun b off e hz => hap b off e hz))
  have TX := hide (fun W (k : Ch S w W) => laT.text (some ⟨bl, ol, none⟩) n c l W (HRL.out W k) hc)
  have hsz := textL_size hc
  have FT : Hid (findT L (textL l) = none) := (findT_set hG hc).trans hf
  have LE := hide (len_any g S L L L ax cx hs bn bp nb p q w hB)
  have CL := hide (fun W (b : Below w.heap.size w W) => clonel_any (some ⟨bl, ol, none⟩) n c l W (hr.below b (Nat.le_refl _)) hnc)
  have c0 := hB.c0
  have HB := hide hB
  have X3 := hide hB.sets.row
  have HSL := hide hB.sets.len
  obtain ⟨m, hm⟩ : ∃ m, Hid (L.length = m) := ⟨_, rfl⟩
  have hmb : m < 4096 := by have := hm.out; omega
  rw [hm.out] at c0 X3 LE
  rw [hm.out]
  have hnb2 : nb ≤ 65536 := by have := HCX.out; omega
  have HNB := hide hnb
  generalize HTT : textL l = TT at *
  have hTT := hide HTT
  have hTsz : TT.size ≤ 9223372036854775807 := by omega
  clear hB hr hG hc hf hap hL hnb hsz HTT
  go_enter Tryz.func32, Tryz.ntmps32
  go_wp2_with fail
  with_reducible refine LE.out.mono ?_
  rintro e u1 ⟨rfl, hw⟩
  rw [hw]
  clear hw LE
  go_upto_region 2 with fail
  go_cut [5] (fun x wy => x = .int .i64 (m : Int) ∧ ∃ wx, wx = wy ∧ Hid (TkA w g S L l bn bp nb p q wx))
  case first =>
    refine wp_region_held_drew (S := fun _ => True) (by kernel_rfl) trivial (fun hHeld => ?_)
    refine held_take (i := 0) (d := (some 11)) (v := ?_) rfl rfl (by kernel_rfl) (by kernel_rfl) (by kernel_rfl) (fun _ _ _ h => h) (Or.inl ⟨by rfl, ?_⟩) (by first | assumption | rfl | trivial) ?_
    rotate_left 1
    · (intro w hSw; (try dsimp only at hSw); (try subst hSw); go_simp; try with_reducible rfl)
    simp only [Act.put, List.setIfInBounds_toArray, List.set_cons_zero, List.set_cons_succ]
    refine held_take (i := 1) (d := (some 12)) (v := ?_) rfl rfl (by kernel_rfl) (by kernel_rfl) (by kernel_rfl) (fun _ _ _ h => h) (Or.inl ⟨by rfl, ?_⟩) (by first | assumption | rfl | trivial) ?_
    rotate_left 1
    · (intro w hSw; (try dsimp only at hSw); (try subst hSw); go_simp; try with_reducible rfl)
    simp only [Act.put, List.setIfInBounds_toArray, List.set_cons_zero, List.set_cons_succ]
    refine held_take (i := 2) (d := (some 13)) (v := ?_) rfl rfl (by kernel_rfl) (by kernel_rfl) (by kernel_rfl) (fun _ _ _ h => h) (Or.inl ⟨by rfl, ?_⟩) (by first | assumption | rfl | trivial) ?_
    rotate_left 1
    · (intro w hSw; (try dsimp only at hSw); (try subst hSw); go_simp; try with_reducible rfl)
    simp only [Act.put, List.setIfInBounds_toArray, List.set_cons_zero, List.set_cons_succ]
    refine held_take (i := 3) (d := (some 14)) (v := ?_) rfl rfl (by kernel_rfl) (by kernel_rfl) (by kernel_rfl) (fun _ _ _ h => h) (Or.inl ⟨by rfl, ?_⟩) (by first | assumption | rfl | trivial) ?_
    rotate_left 1
    · (intro w hSw; (try dsimp only at hSw); (try subst hSw); go_simp; try with_reducible rfl)
    simp only [Act.put, List.setIfInBounds_toArray, List.set_cons_zero, List.set_cons_succ]
    refine held_take (i := 5) (d := (some 16)) (v := ?_) rfl rfl (by kernel_rfl) (by kernel_rfl) (by kernel_rfl) (fun _ _ _ h => h) (Or.inl ⟨by rfl, ?_⟩) (by first | assumption | rfl | trivial) ?_
    rotate_left 1
    · (intro w hSw; (try dsimp only at hSw); (try subst hSw); go_simp; try with_reducible rfl)
    simp only [Act.put, List.setIfInBounds_toArray, List.set_cons_zero, List.set_cons_succ]
    have B0 : Hid (Below w.heap.size w w.drew) := (Below.refl _ _).drew
    refine held_two (i := 4) (j := 6) (by kernel_rfl) rfl (by rfl) rfl (by rfl) (fun K1 hK1 => ?_) (fun K1 hK1 => ?_)
    · go_simp
      refine hK1.out _ _ trivial ?_
      clear hK1
      refine held_next (i := 6) (by kernel_rfl) rfl (by rfl) (fun K1 hK1 => ?_)

      go_simp
      with_reducible refine (CL.out _ B0.out).mono ?_
      rintro e wA ⟨aA, cA, rfl, oA, bA⟩
      have BA := hide (bel_to B0.out (Nat.le_refl _) bA)
      have OA : Hid (OwnL wA w.heap.size aA n cA l) := oA
      have gA2 := (HB.out.below BA.out).c0
      rw [hm.out] at gA2
      clear oA bA CL
      go_wp2_with fail
      refine hK1.out _ _ trivial ?_
      clear hK1
      refine held_next (i := 7) (by kernel_rfl) rfl (by rfl) (fun K1 hK1 => ?_)

      go_simp
      obtain ⟨wB, hwB⟩ : ∃ wB, Hid (wA.alloc (.cells #[.slice aA n cA] 42) = wB) := ⟨_, rfl⟩
      rw [hwB.out]
      have BB : Hid (Below wA.heap.size wA wB) := by rw [← hwB.out]; exact (Below.refl _ _).alloc (Nat.le_refl _) _
      have BWB := hide (bel_to BA.out (Nat.le_refl _) BB.out)
      have NB : Hid (∀ j u, [Value.slice aA n cA][j]? = some u → wB.cell? ((⟨wA.heap.size, 0, none⟩ : Addr).add j) = some u) := by rw [← hwB.out]; exact one_slab wA _ _
      have gB2 := (HB.out.below BWB.out).c0
      rw [hm.out] at gB2
      have OB := hide (OA.out.below BB.out (Nat.le_refl _))
      have XB := hide (row_ch X3.out (Ch.of_below BWB.out) (fun _ _ => id))
      refine hK1.out _ _ trivial ?_
      clear hK1 hwB OA
      refine held_next (i := 8) (by kernel_rfl) rfl (by rfl) (fun K1 hK1 => ?_)

      refine wp_append_lies _ (.tmp 15) (.tmp 18) 22 rfl 0 42 i1 (.slice none 0 0) 1 24 Tryz.underlying22 hj hy0 hy1 hy2 rfl (by decide) (.slice ax m cx) m (hs.map hlV) rfl XB.out ⟨wA.heap.size, 0, none⟩ 1 1 [.slice aA n cA] rfl rfl NB.out (by simp [Value.oneCell']) (by omega) (by unfold maxLen; omega) (by omega) (Nat.zero_le _) _ rfl ?_
      intro gC cC wC oC grC atC ltC
      have KC : Hid (Ch (fun k => (Value.slice ax m cx).ownBlock = some k) w wC) := ((Ch.of_below BWB.out).more (fun _ _ h => h.elim)).trans (Ch.grown grC)
      have OC : Hid (OwnL wC w.heap.size aA n cA l) := OB.out.ch (Ch.grown grC) (fun k hk e => by
        have h1 := (row_cells X3.out e).1.lt
        have h2 := OB.out.block k hk
        omega)
      have SC : Hid (SlL wC (aA, n, cA) l) := ⟨OC.out.row (by omega) HLW.out, OC.out.capped.1, fun h => (OC.out.capped.2 h).2⟩
      have GC : Hid (wC.cell? ⟨g, 0, none⟩ = some (.slice ax m cx) ∧ wC.frozen? ⟨g, 0, none⟩ = false) := by
        have k := KC.out.block g (HB.out.lt g HB.out.own) (fun e => by
          have := hm.out
          subst this
          exact (row_cells X3.out e).1.ne HB.out.cells (by decide) rfl)
        have h1 := HB.out.c0
        have h2 := HB.out.fz 0
        rw [hm.out] at h1
        simp only [World.cell?, World.frozen?] at h1 h2 ⊢
        rw [k]
        exact ⟨h1, h2⟩
      have ST : Hid (TkA w g S L l bn bp nb p q (wC.setCell ⟨g, 0, none⟩ (.slice (some ⟨gC, 0, none⟩) (m + 1) cC))) := by
        have e := hm.out
        subst e
        obtain ⟨S', q1, q2, q3, q4⟩ := IB.moreSets (x := (aA, n, cA)) HB.out KC.out (by rw [List.map_append]; exact oC) (by
          rcases atC with e | e
          · exact Or.inl e
          · exact Or.inr (by rw [e]; exact BWB.out.size)) SC.out (by
          intro b off e _
          have e1 : aA = some ⟨b, off, none⟩ := e
          have hob : (Value.slice aA n cA).ownBlock = some b := by rw [e1]; rfl
          exact ⟨OC.out.block b hob, (row_cells OC.out hob).1⟩)
        exact ⟨S', _, _, _, q1, q2, q3, q4⟩
      have gC2 := GC.out.1
      have fC2 := GC.out.2
      clear oC grC atC KC OC SC GC XB OB NB gA2 gB2 BB BA
      go_simp
      refine hK1.out _ _ trivial ?_
      clear hK1
      refine held_take (i := 9) (d := (some 20)) (v := ?_) rfl rfl (by kernel_rfl) (by kernel_rfl) (by kernel_rfl) (fun _ _ _ h => h) (Or.inl ⟨by rfl, ?_⟩) (by first | assumption | rfl | trivial) ?_
      rotate_left 1
      · (intro w hSw; (try dsimp only at hSw); (try subst hSw); go_simp; try with_reducible rfl)
      simp only [Act.put, List.setIfInBounds_toArray, List.set_cons_zero, List.set_cons_succ]
      refine held_take (i := 10) (d := (some 21)) (v := ?_) rfl rfl (by kernel_rfl) (by kernel_rfl) (by kernel_rfl) (fun _ _ _ h => h) (Or.inl ⟨by rfl, ?_⟩) (by first | assumption | rfl | trivial) ?_
      rotate_left 1
      · (intro w hSw; (try dsimp only at hSw); (try subst hSw); go_simp; try with_reducible rfl)
      simp only [Act.put, List.setIfInBounds_toArray, List.set_cons_zero, List.set_cons_succ]
      refine held_next (i := 11) (by kernel_rfl) rfl (by rfl) (fun K1 hK1 => ?_)
      go_simp
      refine hK1.out _ _ trivial ?_
      clear hK1 hHeld
      refine wpAnyH_done (by kernel_rfl) ?_ _
      go_wp2
      go_meet
      case rel => exact ⟨rfl, _, rfl, ST⟩
    · go_simp
      with_reducible refine (CL.out _ B0.out).mono ?_
      rintro e wA ⟨aA, cA, rfl, oA, bA⟩
      have BA := hide (bel_to B0.out (Nat.le_refl _) bA)
      have OA : Hid (OwnL wA w.heap.size aA n cA l) := oA
      have gA2 := (HB.out.below BA.out).c0
      rw [hm.out] at gA2
      clear oA bA CL
      go_wp2_with fail
      refine hK1.out _ _ trivial ?_
      clear hK1
      refine held_two (i := 4) (j := 7) (by kernel_rfl) rfl (by rfl) rfl (by rfl) (fun K1 hK1 => ?_) (fun K1 hK1 => ?_)
      · go_simp
        refine hK1.out _ _ trivial ?_
        clear hK1
        refine held_next (i := 7) (by kernel_rfl) rfl (by rfl) (fun K1 hK1 => ?_)

        go_simp
        obtain ⟨wB, hwB⟩ : ∃ wB, Hid (wA.alloc (.cells #[.slice aA n cA] 42) = wB) := ⟨_, rfl⟩
        rw [hwB.out]
        have BB : Hid (Below wA.heap.size wA wB) := by rw [← hwB.out]; exact (Below.refl _ _).alloc (Nat.le_refl _) _
        have BWB := hide (bel_to BA.out (Nat.le_refl _) BB.out)
        have NB : Hid (∀ j u, [Value.slice aA n cA][j]? = some u → wB.cell? ((⟨wA.heap.size, 0, none⟩ : Addr).add j) = some u) := by rw [← hwB.out]; exact one_slab wA _ _
        have gB2 := (HB.out.below BWB.out).c0
        rw [hm.out] at gB2
        have OB := hide (OA.out.below BB.out (Nat.le_refl _))
        have XB := hide (row_ch X3.out (Ch.of_below BWB.out) (fun _ _ => id))
        refine hK1.out _ _ trivial ?_
        clear hK1 hwB OA
        refine held_next (i := 8) (by kernel_rfl) rfl (by rfl) (fun K1 hK1 => ?_)

        refine wp_append_lies _ (.tmp 15) (.tmp 18) 22 rfl 0 42 i1 (.slice none 0 0) 1 24 Tryz.underlying22 hj hy0 hy1 hy2 rfl (by decide) (.slice ax m cx) m (hs.map hlV) rfl XB.out ⟨wA.heap.size, 0, none⟩ 1 1 [.slice aA n cA] rfl rfl NB.out (by simp [Value.oneCell']) (by omega) (by unfold maxLen; omega) (by omega) (Nat.zero_le _) _ rfl ?_
        intro gC cC wC oC grC atC ltC
        have KC : Hid (Ch (fun k => (Value.slice ax m cx).ownBlock = some k) w wC) := ((Ch.of_below BWB.out).more (fun _ _ h => h.elim)).trans (Ch.grown grC)
        have OC : Hid (OwnL wC w.heap.size aA n cA l) := OB.out.ch (Ch.grown grC) (fun k hk e => by
          have h1 := (row_cells X3.out e).1.lt
          have h2 := OB.out.block k hk
          omega)
        have SC : Hid (SlL wC (aA, n, cA) l) := ⟨OC.out.row (by omega) HLW.out, OC.out.capped.1, fun h => (OC.out.capped.2 h).2⟩
        have GC : Hid (wC.cell? ⟨g, 0, none⟩ = some (.slice ax m cx) ∧ wC.frozen? ⟨g, 0, none⟩ = false) := by
          have k := KC.out.block g (HB.out.lt g HB.out.own) (fun e => by
            have := hm.out
            subst this
            exact (row_cells X3.out e).1.ne HB.out.cells (by decide) rfl)
          have h1 := HB.out.c0
          have h2 := HB.out.fz 0
          rw [hm.out] at h1
          simp only [World.cell?, World.frozen?] at h1 h2 ⊢
          rw [k]
          exact ⟨h1, h2⟩
        have ST : Hid (TkA w g S L l bn bp nb p q (wC.setCell ⟨g, 0, none⟩ (.slice (some ⟨gC, 0, none⟩) (m + 1) cC))) := by
          have e := hm.out
          subst e
          obtain ⟨S', q1, q2, q3, q4⟩ := IB.moreSets (x := (aA, n, cA)) HB.out KC.out (by rw [List.map_append]; exact oC) (by
            rcases atC with e | e
            · exact Or.inl e
            · exact Or.inr (by rw [e]; exact BWB.out.size)) SC.out (by
            intro b off e _
            have e1 : aA = some ⟨b, off, none⟩ := e
            have hob : (Value.slice aA n cA).ownBlock = some b := by rw [e1]; rfl
            exact ⟨OC.out.block b hob, (row_cells OC.out hob).1⟩)
          exact ⟨S', _, _, _, q1, q2, q3, q4⟩
        have gC2 := GC.out.1
        have fC2 := GC.out.2
        clear oC grC atC KC OC SC GC XB OB NB gA2 gB2 BB BA
        go_simp
        refine hK1.out _ _ trivial ?_
        clear hK1
        refine held_take (i := 9) (d := (some 20)) (v := ?_) rfl rfl (by kernel_rfl) (by kernel_rfl) (by kernel_rfl) (fun _ _ _ h => h) (Or.inl ⟨by rfl, ?_⟩) (by first | assumption | rfl | trivial) ?_
        rotate_left 1
        · (intro w hSw; (try dsimp only at hSw); (try subst hSw); go_simp; try with_reducible rfl)
        simp only [Act.put, List.setIfInBounds_toArray, List.set_cons_zero, List.set_cons_succ]
        refine held_take (i := 10) (d := (some 21)) (v := ?_) rfl rfl (by kernel_rfl) (by kernel_rfl) (by kernel_rfl) (fun _ _ _ h => h) (Or.inl ⟨by rfl, ?_⟩) (by first | assumption | rfl | trivial) ?_
        rotate_left 1
        · (intro w hSw; (try dsimp only at hSw); (try subst hSw); go_simp; try with_reducible rfl)
        simp only [Act.put, List.setIfInBounds_toArray, List.set_cons_zero, List.set_cons_succ]
        refine held_next (i := 11) (by kernel_rfl) rfl (by rfl) (fun K1 hK1 => ?_)
        go_simp
        refine hK1.out _ _ trivial ?_
        clear hK1 hHeld
        refine wpAnyH_done (by kernel_rfl) ?_ _
        go_wp2
        go_meet
        case rel => exact ⟨rfl, _, rfl, ST⟩
      · go_simp
        obtain ⟨wB, hwB⟩ : ∃ wB, Hid (wA.alloc (.cells #[.slice aA n cA] 42) = wB) := ⟨_, rfl⟩
        rw [hwB.out]
        have BB : Hid (Below wA.heap.size wA wB) := by rw [← hwB.out]; exact (Below.refl _ _).alloc (Nat.le_refl _) _
        have BWB := hide (bel_to BA.out (Nat.le_refl _) BB.out)
        have NB : Hid (∀ j u, [Value.slice aA n cA][j]? = some u → wB.cell? ((⟨wA.heap.size, 0, none⟩ : Addr).add j) = some u) := by rw [← hwB.out]; exact one_slab wA _ _
        have gB2 := (HB.out.below BWB.out).c0
        rw [hm.out] at gB2
        have OB := hide (OA.out.below BB.out (Nat.le_refl _))
        have XB := hide (row_ch X3.out (Ch.of_below BWB.out) (fun _ _ => id))
        refine hK1.out _ _ trivial ?_
        clear hK1 hwB OA
        refine held_next (i := 4) (by kernel_rfl) rfl (by rfl) (fun K1 hK1 => ?_)

        go_simp
        refine hK1.out _ _ trivial ?_
        clear hK1
        refine held_next (i := 8) (by kernel_rfl) rfl (by rfl) (fun K1 hK1 => ?_)

        refine wp_append_lies _ (.tmp 15) (.tmp 18) 22 rfl 0 42 i1 (.slice none 0 0) 1 24 Tryz.underlying22 hj hy0 hy1 hy2 rfl (by decide) (.slice ax m cx) m (hs.map hlV) rfl XB.out ⟨wA.heap.size, 0, none⟩ 1 1 [.slice aA n cA] rfl rfl NB.out (by simp [Value.oneCell']) (by omega) (by unfold maxLen; omega) (by omega) (Nat.zero_le _) _ rfl ?_
        intro gC cC wC oC grC atC ltC
        have KC : Hid (Ch (fun k => (Value.slice ax m cx).ownBlock = some k) w wC) := ((Ch.of_below BWB.out).more (fun _ _ h => h.elim)).trans (Ch.grown grC)
        have OC : Hid (OwnL wC w.heap.size aA n cA l) := OB.out.ch (Ch.grown grC) (fun k hk e => by
          have h1 := (row_cells X3.out e).1.lt
          have h2 := OB.out.block k hk
          omega)
        have SC : Hid (SlL wC (aA, n, cA) l) := ⟨OC.out.row (by omega) HLW.out, OC.out.capped.1, fun h => (OC.out.capped.2 h).2⟩
        have GC : Hid (wC.cell? ⟨g, 0, none⟩ = some (.slice ax m cx) ∧ wC.frozen? ⟨g, 0, none⟩ = false) := by
          have k := KC.out.block g (HB.out.lt g HB.out.own) (fun e => by
            have := hm.out
            subst this
            exact (row_cells X3.out e).1.ne HB.out.cells (by decide) rfl)
          have h1 := HB.out.c0
          have h2 := HB.out.fz 0
          rw [hm.out] at h1
          simp only [World.cell?, World.frozen?] at h1 h2 ⊢
          rw [k]
          exact ⟨h1, h2⟩
        have ST : Hid (TkA w g S L l bn bp nb p q (wC.setCell ⟨g, 0, none⟩ (.slice (some ⟨gC, 0, none⟩) (m + 1) cC))) := by
          have e := hm.out
          subst e
          obtain ⟨S', q1, q2, q3, q4⟩ := IB.moreSets (x := (aA, n, cA)) HB.out KC.out (by rw [List.map_append]; exact oC) (by
            rcases atC with e | e
            · exact Or.inl e
            · exact Or.inr (by rw [e]; exact BWB.out.size)) SC.out (by
            intro b off e _
            have e1 : aA = some ⟨b, off, none⟩ := e
            have hob : (Value.slice aA n cA).ownBlock = some b := by rw [e1]; rfl
            exact ⟨OC.out.block b hob, (row_cells OC.out hob).1⟩)
          exact ⟨S', _, _, _, q1, q2, q3, q4⟩
        have gC2 := GC.out.1
        have fC2 := GC.out.2
        clear oC grC atC KC OC SC GC XB OB NB gA2 gB2 BB BA
        go_simp
        refine hK1.out _ _ trivial ?_
        clear hK1
        refine held_take (i := 9) (d := (some 20)) (v := ?_) rfl rfl (by kernel_rfl) (by kernel_rfl) (by kernel_rfl) (fun _ _ _ h => h) (Or.inl ⟨by rfl, ?_⟩) (by first | assumption | rfl | trivial) ?_
        rotate_left 1
        · (intro w hSw; (try dsimp only at hSw); (try subst hSw); go_simp; try with_reducible rfl)
        simp only [Act.put, List.setIfInBounds_toArray, List.set_cons_zero, List.set_cons_succ]
        refine held_take (i := 10) (d := (some 21)) (v := ?_) rfl rfl (by kernel_rfl) (by kernel_rfl) (by kernel_rfl) (fun _ _ _ h => h) (Or.inl ⟨by rfl, ?_⟩) (by first | assumption | rfl | trivial) ?_
        rotate_left 1
        · (intro w hSw; (try dsimp only at hSw); (try subst hSw); go_simp; try with_reducible rfl)
        simp only [Act.put, List.setIfInBounds_toArray, List.set_cons_zero, List.set_cons_succ]
        refine held_next (i := 11) (by kernel_rfl) rfl (by rfl) (fun K1 hK1 => ?_)
        go_simp
        refine hK1.out _ _ trivial ?_
        clear hK1 hHeld
        refine wpAnyH_done (by kernel_rfl) ?_ _
        go_wp2
        go_meet
        case rel => exact ⟨rfl, _, rfl, ST⟩
  case rest =>
    obtain ⟨rfl, wx, rfl, TA⟩ := hcut
    obtain ⟨S1, a1, c1, hs1, hB1, hS1, hS2, hC1⟩ := TA.out
    have HB1 := hide hB1
    have HS1 := hide hS1
    have HS2 := hide hS2
    have HC1 := hide hC1
    have d1 := hB1.c1
    clear hB1 hS1 hS2 hC1 TA
    go_upto_region 3 with fail
    refine wp_region_held_drew (S := fun u => u.cell? ⟨g, 1, none⟩ = some (.map (some bn))) (by kernel_rfl) d1 (fun hHeld => ?_)
    refine held_take (i := 0) (d := (some 22)) (v := ?_) rfl rfl (by kernel_rfl) (by kernel_rfl) (by kernel_rfl) (fun _ _ _ h => h) (Or.inl ⟨by rfl, ?_⟩) (by first | assumption | rfl | trivial) ?_
    rotate_left 1
    · (intro w hSw; (try dsimp only at hSw); (try subst hSw); go_simp; try with_reducible rfl)
    simp only [Act.put, List.setIfInBounds_toArray, List.set_cons_zero, List.set_cons_succ]
    refine held_take (i := 1) (d := (some 23)) (v := ?_) rfl rfl (by kernel_rfl) (by kernel_rfl) (by kernel_rfl) (fun _ _ _ h => h) (Or.inl ⟨by rfl, ?_⟩) (by first | assumption | rfl | trivial) ?_
    rotate_left 1
    · (intro w hSw; (try dsimp only at hSw); (try subst hSw); go_simp; try with_reducible rfl)
    simp only [Act.put, List.setIfInBounds_toArray, List.set_cons_zero, List.set_cons_succ]
    refine held_take (i := 2) (d := (some 24)) (v := ?_) rfl rfl (by kernel_rfl) (by kernel_rfl) (by kernel_rfl) (fun _ _ _ h => h) (Or.inl ⟨by rfl, ?_⟩) (by first | assumption | rfl | trivial) ?_
    rotate_left 1
    · (intro w hSw; (try dsimp only at hSw); (try subst hSw); go_simp; try with_reducible rfl)
    simp only [Act.put, List.setIfInBounds_toArray, List.set_cons_zero, List.set_cons_succ]
    refine held_take (i := 3) (d := (some 25)) (v := ?_) rfl rfl (by kernel_rfl) (by kernel_rfl) (by kernel_rfl) (fun _ _ _ h => h) (Or.inl ⟨by rfl, ?_⟩) (by first | assumption | rfl | trivial) ?_
    rotate_left 1
    · (intro w hSw; (try dsimp only at hSw); (try subst hSw); go_simp; try with_reducible rfl)
    simp only [Act.put, List.setIfInBounds_toArray, List.set_cons_zero, List.set_cons_succ]
    refine held_take (i := 4) (d := (some 26)) (v := ?_) rfl rfl (by kernel_rfl) (by kernel_rfl) (by kernel_rfl) (fun _ _ _ h => h) (Or.inl ⟨by rfl, ?_⟩) (by first | assumption | rfl | trivial) ?_
    rotate_left 1
    · (intro w hSw; (try dsimp only at hSw); (try subst hSw); go_simp; try with_reducible rfl)
    simp only [Act.put, List.setIfInBounds_toArray, List.set_cons_zero, List.set_cons_succ]
    refine held_take (i := 6) (d := (some 28)) (v := ?_) rfl rfl (by kernel_rfl) (by kernel_rfl) (by kernel_rfl) (fun _ _ _ h => h) (Or.inl ⟨by rfl, ?_⟩) (by first | assumption | rfl | trivial) ?_
    rotate_left 1
    · (intro w hSw; (try dsimp only at hSw); (try subst hSw); go_simp; try with_reducible rfl)
    simp only [Act.put, List.setIfInBounds_toArray, List.set_cons_zero, List.set_cons_succ]
    have C1d : Hid (Ch S w wx.drew) := HC1.out.trans ((Ch.of_below (Below.refl _ _).drew).more (fun _ _ h => h.elim))
    refine held_next (i := 5) (by kernel_rfl) rfl (by rfl) (fun K1 hK1 => ?_)
    go_simp
    with_reducible refine (TX.out _ C1d.out).mono ?_
    rintro e u2 ⟨rfl, b2⟩
    have HB2 := hide ((HB1.out.below (Below.refl _ _).drew).below b2)
    have HC2 : Hid (Ch S w u2) := C1d.out.trans ((Ch.of_below b2).more (fun _ _ h => h.elim))
    have d2 := HB2.out.c1
    clear b2 TX C1d
    go_wp2_with fail
    refine hK1.out _ _ d2 ?_
    clear hK1
    obtain ⟨u3, hrun, hm3, hg3⟩ := HB2.out.num.store Tryz.underlying63 (by unfold maxLen; have := hm.out; omega) (s := TT) (by unfold maxLen; omega) (.int .i64 (m : Int))
    have HB3 : Hid (IB u3 g S1 (L ++ [l]) (L ++ [l]) L a1 c1 hs1 bn bp nb p q) := HB2.out.moreNum hg3 (by
      have e := hm3
      rw [← hm.out, ← hTT.out] at e
      rw [List.length_append]
      exact e.congr (fun s => numF_more (by rw [hTT.out]; exact FT.out) s))
    have HC3 : Hid (Ch S w u3) := HC2.out.trans ((Ch.grown hg3).more (fun k hk e => by
      cases e
      exact HB.out.numS))
    have d3 := HB3.out.c1
    have TS : Hid (TkS w g S L l bn bp 0 u3) := ⟨S1, a1, c1, hs1, nb, p, q, by
      have h := HB3.out
      exact ⟨h.own, h.lt, h.str, h.sets, h.numS, h.nump, h.num, h.posts.same (fun nm v hv => by rw [List.take_zero]; exact postX_start L nm v hv)⟩, by have := HNB.out; omega, HS1.out, HS2.out, HC3.out⟩
    clear hm3 hg3
    refine held_next (i := 7) (by kernel_rfl) rfl (by rfl) (fun K1 hK1 => ?_)
    go_simp
    refine hK1.out _ _ d3 ?_
    clear hK1 hHeld hrun d1 d2 d3 HB1 HB2 HB3 HC2 HC3 HS1 HS2 HC1
    refine wpAnyH_done (by kernel_rfl) ?_ _
    go_wp2
    go_loopw [31] (fun i wr => ∃ j : Nat, j ≤ n ∧ i = .int .i64 j ∧ Hid (TkS w g S L l bn bp j wr)) (fun i _ => n - (intOf i).toNat)
    case atStart => exact ⟨0, by omega, rfl, TS⟩
    case round =>
      clear TS
      obtain ⟨j, hjn, rfl, TS⟩ := hrel
      by_cases hlt : j < n
      · obtain ⟨S1, a1, c1, hs1, nb1, p1, q1, hB1, hnb1, hS1, hS2, hC1⟩ := TS.out
        obtain ⟨⟨nm, vv⟩, hx⟩ : ∃ x, l[j]? = some x := ⟨_, List.getElem?_eq_getElem (by rw [HLF.out]; exact hlt)⟩
        have hmem := List.mem_of_getElem? hx
        obtain ⟨t1, t2, t3⟩ := HPT.out _ hmem
        have hsn : nm.size ≤ 32 := name_size t1
        have hsv : vv.size ≤ 64 := t3
        have HVE : Hid (vv ≠ .empty) := fun e => by
          rw [e] at t2
          exact absurd t2 (by show ¬ 1 ≤ ByteArray.empty.size; decide)
        obtain ⟨y1, y2⟩ : wr.cell? ⟨bl, ol + j * 2, none⟩ = some (.string nm) ∧ wr.cell? ⟨bl, ol + j * 2 + 1, none⟩ = some (.string vv) := by
          obtain ⟨_, _, _, h0 | ⟨b', o', e, hcs⟩⟩ := HRL.out wr hC1
          · omega
          · cases e
            exact hcs j _ hx
        have HX := hide hx
        have HB1 := hide hB1
        have HN1 := hide hnb1
        have HS1 := hide hS1
        have HS2 := hide hS2
        have HC1 := hide hC1
        have j1 : (0 : Int) ≤ (j : Int) := by omega
        have j2 : (j : Int) < (n : Int) := by omega
        clear hB1 hnb1 hS1 hS2 hC1 hx hmem t1 t2 t3 TS
        go_upto_region 7 with fail
        obtain ⟨bx, hbx⟩ : ∃ bx, Hid (wr.heap.size = bx) := ⟨_, rfl⟩
        obtain ⟨W1, hW1⟩ : ∃ W1, Hid (wr.alloc (.cells #[.string nm, .string vv] 52) = W1) := ⟨_, rfl⟩
        rw [hW1.out, hbx.out]
        have HX1 : Hid (W1.heap[bx]? = some (.cells #[.string nm, .string vv] 52)) := by
          rw [← hW1.out, ← hbx.out]
          exact World.alloc_heap_new _ _
        have B1 : Hid (Below wr.heap.size wr W1) := by rw [← hW1.out]; exact (Below.refl _ _).alloc (Nat.le_refl _) _
        have HBW := hide (HB1.out.below B1.out)
        have HCW : Hid (Ch S w W1) := HC1.out.trans ((Ch.of_below B1.out).more (fun _ _ h => h.elim))
        obtain ⟨z0, z1⟩ := box_cells (x := (nm, vv)) HX1.out
        have e2 := HBW.out.c2
        clear hW1 y1 y2 B1 HB1 HC1
        have hq := eqlmap
        have hmm := @run_makeMap Tryz.prog
        have LK0 := hide (HBW.out.posts.map.drew.look Tryz.underlying64 (zeroMp _) (s := nm) (by unfold maxLen; omega))
        cases hp : p1 nm with
        | some b =>
          have lk0 := LK0.out
          rw [hp] at lk0
          dsimp only [Option.map, Option.getD] at lk0
          have ST : Hid (TkR w g S L l bn bp j nm vv bx b W1.drew) := ⟨S1, a1, c1, hs1, nb1, p1, q1, HBW.out.below (Below.refl _ _).drew, hp, by have := HN1.out; omega, HS1.out, HS2.out, HCW.out.trans ((Ch.of_below (Below.refl _ _).drew).more (fun _ _ h => h.elim)), HX1.out⟩
          refine wp_region_held_drew (S := fun u => u = W1.drew) (by kernel_rfl) rfl (fun hHeld => ?_)
          refine held_take (i := 0) (d := (some 35)) (v := ?_) rfl rfl (by kernel_rfl) (by kernel_rfl) (by kernel_rfl) (fun _ _ _ h => h) (Or.inl ⟨by rfl, ?_⟩) (by first | assumption | rfl | trivial) ?_
          rotate_left 1
          · (intro w hSw; (try dsimp only at hSw); (try subst hSw); go_simp; try with_reducible rfl)
          simp only [Act.put, List.setIfInBounds_toArray, List.set_cons_zero, List.set_cons_succ]
          refine held_take (i := 1) (d := (some 36)) (v := ?_) rfl rfl (by kernel_rfl) (by kernel_rfl) (by kernel_rfl) (fun _ _ _ h => h) (Or.inl ⟨by rfl, ?_⟩) (by first | assumption | rfl | trivial) ?_
          rotate_left 1
          · (intro w hSw; (try dsimp only at hSw); (try subst hSw); go_simp; try with_reducible rfl)
          simp only [Act.put, List.setIfInBounds_toArray, List.set_cons_zero, List.set_cons_succ]
          refine held_take (i := 2) (d := (some 37)) (v := ?_) rfl rfl (by kernel_rfl) (by kernel_rfl) (by kernel_rfl) (fun _ _ _ h => h) (Or.inl ⟨by rfl, ?_⟩) (by first | assumption | rfl | trivial) ?_
          rotate_left 1
          · (intro w hSw; (try dsimp only at hSw); (try subst hSw); go_simp; try with_reducible rfl)
          simp only [Act.put, List.setIfInBounds_toArray, List.set_cons_zero, List.set_cons_succ]
          refine held_take (i := 3) (d := (some 38)) (v := ?_) rfl rfl (by kernel_rfl) (by kernel_rfl) (by kernel_rfl) (fun _ _ _ h => h) (Or.inl ⟨by rfl, ?_⟩) (by first | assumption | rfl | trivial) ?_
          rotate_left 1
          · (intro w hSw; (try dsimp only at hSw); (try subst hSw); go_simp; try with_reducible rfl)
          simp only [Act.put, List.setIfInBounds_toArray, List.set_cons_zero, List.set_cons_succ]
          refine held_take (i := 4) (d := (some 39)) (v := ?_) rfl rfl (by kernel_rfl) (by kernel_rfl) (by kernel_rfl) (fun _ _ _ h => h) (Or.inl ⟨by rfl, ?_⟩) (by first | assumption | rfl | trivial) ?_
          rotate_left 1
          · (intro w hSw; (try dsimp only at hSw); (try subst hSw); go_simp; try with_reducible rfl)
          simp only [Act.put, List.setIfInBounds_toArray, List.set_cons_zero, List.set_cons_succ]
          refine held_take (i := 5) (d := (some 40)) (v := ?_) rfl rfl (by kernel_rfl) (by kernel_rfl) (by kernel_rfl) (fun _ _ _ h => h) (Or.inl ⟨by rfl, ?_⟩) (by first | assumption | rfl | trivial) ?_
          rotate_left 1
          · (intro w hSw; (try dsimp only at hSw); (try subst hSw); go_simp; try with_reducible rfl)
          simp only [Act.put, List.setIfInBounds_toArray, List.set_cons_zero, List.set_cons_succ]
          refine held_take (i := 6) (d := (some 41)) (v := ?_) rfl rfl (by kernel_rfl) (by kernel_rfl) (by kernel_rfl) (fun _ _ _ h => h) (Or.inl ⟨by rfl, ?_⟩) (by first | assumption | rfl | trivial) ?_
          rotate_left 1
          · (intro w hSw; (try dsimp only at hSw); (try subst hSw); go_simp; try with_reducible rfl)
          simp only [Act.put, List.setIfInBounds_toArray, List.set_cons_zero, List.set_cons_succ]
          refine held_take (i := 7) (d := (some 8)) (v := ?_) rfl rfl (by kernel_rfl) (by kernel_rfl) (by kernel_rfl) (fun _ _ _ h => h) (Or.inl ⟨by rfl, ?_⟩) (by first | assumption | rfl | trivial) ?_
          rotate_left 1
          · (intro w hSw; (try dsimp only at hSw); (try subst hSw); go_simp; try with_reducible rfl)
          simp only [Act.put, List.setIfInBounds_toArray, List.set_cons_zero, List.set_cons_succ]
          clear hHeld
          refine wpAnyH_done (by kernel_rfl) ?_ _
          obtain ⟨W2, hW2⟩ : ∃ W2, W1.drew = W2 := ⟨_, rfl⟩
          rw [hW2] at ST ⊢
          clear hW2 lk0 LK0 z0 z1 e2 HBW HCW
          go_upto_region 11 with fail
          obtain ⟨S2, a2, c2, hs2, nb2, p2, q2, hB2, hp2, hnb2', hS3, hS4, hC2, hX2⟩ := ST.out
          have HB2 := hide hB2
          have HC2 := hide hC2
          have HS3 := hide hS3
          have HS4 := hide hS4
          have HN2 := hide hnb2'
          have HP2 := hide hp2
          have HX2 := hide hX2
          obtain ⟨-, z1⟩ := box_cells (x := (nm, vv)) hX2
          obtain ⟨q11, q12⟩ := hB2.posts.at' nm vv HVE.out
          obtain ⟨i11, i12, i13⟩ := hB2.posts.ins nm b hp2
          have hav := atQ_val q2 nm vv
          have LKX : Hid (∀ u, Below W2.heap.size W2 u → (Instr.lookup 76 (.map (some b)) (.string vv) false).run Tryz.prog u = .ok (hlV (atQ q2 nm vv)) u) := fun u hu => by
            have := (i13.below hu).look Tryz.underlying76 (zeroSi u) (s := vv) (by unfold maxLen; omega)
            rw [hav] at this
            exact this
          obtain ⟨hd, hhd⟩ : ∃ hd, Hid (atQ q2 nm vv = hd) := ⟨_, rfl⟩
          rw [hhd.out] at q11 q12 LKX
          obtain ⟨ad, nd, cd⟩ := hd
          have hnd : nd ≤ 4096 := by
            have h1 := q11.len
            have h2 := postX_len (L ++ [l.take j]) nm vv
            rw [List.length_append, hm.out] at h2
            simp at h1 h2
            omega
          have X3' := hide q11
          have BD : Hid (Below W2.heap.size W2 W2.drew) := (Below.refl _ _).drew
          obtain ⟨WB, hWB⟩ : ∃ WB, Hid ((W2.alloc (.cells #[.int .i64 (m : Int)] 3)).drew = WB) := ⟨_, rfl⟩
          have BB : Hid (Below W2.heap.size W2 WB) := by rw [← hWB.out]; exact (bel_al (Below.refl _ _) (Nat.le_refl _) _).drew
          have NB : Hid (∀ j u, [Value.int .i64 (m : Int)][j]? = some u → WB.cell? ((⟨W2.heap.size, 0, none⟩ : Addr).add j) = some u) := by rw [← hWB.out]; exact one_slab W2 _ _
          have XB := hide (mineI_ch X3'.out (Ch.of_below BB.out) (fun _ _ => id))
          have SB : Hid (WB.heap.size = W2.heap.size + 1) := by rw [← hWB.out]; show _ = _; simp
          have lkD := LKX.out _ BD.out
          have lkB := LKX.out _ BB.out
          have zB : WB.cell? ⟨bx, 1, none⟩ = some (.string vv) := by
            rw [BB.out.cell (p := ⟨bx, 1, none⟩) (World.block_lt_of_cell? W2 _ z1)]
            exact z1
          have APP : Hid (∀ gC cC wC, wC.ownsRow 0 3 1 (.slice (some ⟨gC, 0, none⟩) (nd + 1) cC) (nd + 1) ((postX (L ++ [l.take j]) nm vv).map (Value.int .i64) ++ [.int .i64 (m : Int)]) → WB.grownBy wC (Value.slice ad nd cd).ownBlock → ((Value.slice ad nd cd).ownBlock = some gC ∨ gC = WB.heap.size) → gC < wC.heap.size →
              wC.cell? ⟨bx, 1, none⟩ = some (.string vv) ∧ ∃ u5, (Instr.mapUpdate 76 (.map (some b)) (.string vv) (.slice (some ⟨gC, 0, none⟩) (nd + 1) cC)).run Tryz.prog wC = .ok () u5 ∧ u5.cell? ⟨bx, 1, none⟩ = some (.string vv) ∧ TkS w g S L l bn bp (j + 1) u5) := by
            intro gC cC wC oC grC atC ltC
            have KC : Ch (fun k => (Value.slice ad nd cd).ownBlock = some k) W2 wC := ((Ch.of_below BB.out).more (fun _ _ h => h.elim)).trans (Ch.grown grC)
            have hown : ∀ {k : Nat}, MapB W2 k → ¬ (Value.slice ad nd cd).ownBlock = some k := fun hk e => hk.ne (row_cells q11 e).1 rfl
            have hXC : wC.heap[bx]? = some (.cells #[.string nm, .string vv] 52) := (KC.block bx (Array.getElem?_eq_some_iff.1 hX2).1 (fun e => (row_cells q11 e).1.ne (⟨_, _, hX2⟩ : CellsT W2 bx 52) (by decide) rfl)).trans hX2
            have mC := i13.ch KC (hown i13.isMap)
            obtain ⟨u5, hr5, m5, g5⟩ := mC.store Tryz.underlying76 (by unfold maxLen; have := HCX.out; have := hm.out; omega) (s := vv) (by unfold maxLen; omega) (.slice (some ⟨gC, 0, none⟩) (nd + 1) cC)
            have K5 : Ch (fun k => k = b) wC u5 := (Ch.grown g5).more (fun k _ e => by cases e; rfl)
            have hX5 : u5.heap[bx]? = some (.cells #[.string nm, .string vv] 52) := (K5.block bx (Array.getElem?_eq_some_iff.1 hXC).1 (fun e => mC.isMap.ne ⟨_, _, hXC⟩ e.symm)).trans hXC
            have at2 : (Value.slice ad nd cd).ownBlock = some gC ∨ W2.heap.size ≤ gC := by
              rcases atC with e | e
              · exact Or.inl e
              · exact Or.inr (by rw [e, SB.out]; omega)
            have hP5 := PostsM.push (L' := L ++ [l.take (j + 1)]) (id := (L.length : Int)) (nC := nd + 1) (cC := cC) hB2.posts hB2.lt hp2 HVE.out (fun nm' v' hv' => postX_push HPW.out HX.out nm' v' hv') (by
                rw [hm.out]
                show wC.ownsRow 0 _ _ _ _ _
                rw [List.map_append]
                exact oC) (by rw [hhd.out]; exact KC) (by rw [hhd.out]; exact at2) m5 g5
            refine ⟨(box_cells (x := (nm, vv)) hXC).2, u5, hr5, (box_cells (x := (nm, vv)) hX5).2, fun k => S2 k ∨ k = gC, a2, c2, hs2, nb2 + 1, p2, _, IB.withPosts (T := fun k => (Value.slice ad nd cd).ownBlock = some k ∨ k = b) hB2 ((KC.more (fun k _ e => Or.inl e)).trans (K5.more (fun k _ e => Or.inr e))) (fun k hk e => ?_) (fun k hk => Or.inl hk) (fun k hk => ?_) hP5 hB2.nump.2, by omega, fun k hk => Or.inl (hS3 k hk), fun k hk => ?_, ?_⟩
            · rcases e with e | e
              · exact Or.inr (row_cells q11 e).1
              · subst e
                exact Or.inl ⟨i13.isMap, hB2.nump.2 nm _ hp2⟩
            · have h5 := K5.size
              rcases hk with hk | hk
              · have h1 := hB2.lt k hk
                have h2 := KC.size
                omega
              · omega
            · have h3 := hC2.size
              rcases hk with hk | hk
              · exact hS4 k hk
              · subst hk
                rcases at2 with e | e
                · exact hS4 _ (q12 _ e)
                · exact Or.inr (by omega)
            · refine ch_then (ch_then hC2 KC (fun k e => hS4 k (q12 k e))) K5 (fun k e => ?_)
              subst e
              exact hS4 _ i11
          clear hB2 hp2 hnb2' hS3 hS4 hC2 hX2 q11 q12 i11 i12 i13 hav LKX ST X3' HB2 HC2 HS3 HS4 HN2 HP2 HX2 hhd
          refine wp_region_held_drew (S := fun u => u.cell? ⟨bx, 1, none⟩ = some (.string vv)) (by kernel_rfl) z1 (fun hHeld => ?_)
          refine held_take (i := 0) (d := (some 52)) (v := ?_) rfl rfl (by kernel_rfl) (by kernel_rfl) (by kernel_rfl) (fun _ _ _ h => h) (Or.inl ⟨by rfl, ?_⟩) (by first | assumption | rfl | trivial) ?_
          rotate_left 1
          · (intro w hSw; (try dsimp only at hSw); (try subst hSw); go_simp; try with_reducible rfl)
          simp only [Act.put, List.setIfInBounds_toArray, List.set_cons_zero, List.set_cons_succ]
          refine held_take (i := 1) (d := (some 53)) (v := ?_) rfl rfl (by kernel_rfl) (by kernel_rfl) (by kernel_rfl) (fun _ _ _ h => h) (Or.inl ⟨by rfl, ?_⟩) (by first | assumption | rfl | trivial) ?_
          rotate_left 1
          · (intro w hSw; (try dsimp only at hSw); (try subst hSw); go_simp; try with_reducible rfl)
          simp only [Act.put, List.setIfInBounds_toArray, List.set_cons_zero, List.set_cons_succ]
          refine held_take (i := 2) (d := (some 54)) (v := ?_) rfl rfl (by kernel_rfl) (by kernel_rfl) (by kernel_rfl) (fun _ _ _ h => h) (Or.inl ⟨by rfl, ?_⟩) (by first | assumption | rfl | trivial) ?_
          rotate_left 1
          · (intro w hSw; (try dsimp only at hSw); (try subst hSw); go_simp; try with_reducible rfl)
          simp only [Act.put, List.setIfInBounds_toArray, List.set_cons_zero, List.set_cons_succ]
          refine held_take (i := 3) (d := (some 55)) (v := ?_) rfl rfl (by kernel_rfl) (by kernel_rfl) (by kernel_rfl) (fun _ _ _ h => h) (Or.inl ⟨by rfl, ?_⟩) (by first | assumption | rfl | trivial) ?_
          rotate_left 1
          · (intro w hSw; (try dsimp only at hSw); (try subst hSw); go_simp; try with_reducible rfl)
          simp only [Act.put, List.setIfInBounds_toArray, List.set_cons_zero, List.set_cons_succ]
          refine held_take (i := 4) (d := (some 56)) (v := ?_) rfl rfl (by kernel_rfl) (by kernel_rfl) (by kernel_rfl) (fun _ _ _ h => h) (Or.inl ⟨by rfl, ?_⟩) (by first | assumption | rfl | trivial) ?_
          rotate_left 1
          · (intro w hSw; (try dsimp only at hSw); (try subst hSw); go_simp; try with_reducible rfl)
          simp only [Act.put, List.setIfInBounds_toArray, List.set_cons_zero, List.set_cons_succ]
          refine held_take (i := 5) (d := (some 57)) (v := ?_) rfl rfl (by kernel_rfl) (by kernel_rfl) (by kernel_rfl) (fun _ _ _ h => h) (Or.inl ⟨by rfl, ?_⟩) (by first | assumption | rfl | trivial) ?_
          rotate_left 1
          · (intro w hSw; (try dsimp only at hSw); (try subst hSw); go_simp; try with_reducible rfl)
          simp only [Act.put, List.setIfInBounds_toArray, List.set_cons_zero, List.set_cons_succ]
          refine held_take (i := 7) (d := (some 59)) (v := ?_) rfl rfl (by kernel_rfl) (by kernel_rfl) (by kernel_rfl) (fun _ _ _ h => h) (Or.inl ⟨by rfl, ?_⟩) (by first | assumption | rfl | trivial) ?_
          rotate_left 1
          · (intro w hSw; (try dsimp only at hSw); (try subst hSw); go_simp; try with_reducible rfl)
          simp only [Act.put, List.setIfInBounds_toArray, List.set_cons_zero, List.set_cons_succ]
          refine held_two (i := 6) (j := 8) (by kernel_rfl) rfl (by rfl) rfl (by rfl) (fun K1 hK1 => ?_) (fun K1 hK1 => ?_)
          · go_simp
            refine hK1.out _ _ z1 ?_
            clear hK1
            refine held_next (i := 8) (by kernel_rfl) rfl (by rfl) (fun K1 hK1 => ?_)
            go_simp
            rw [hWB.out]
            refine hK1.out _ _ zB ?_
            clear hK1
            refine held_next (i := 9) (by kernel_rfl) rfl (by rfl) (fun K1 hK1 => ?_)
            refine wp_append_lies _ (.tmp 58) (.tmp 60) 33 rfl 0 3 i2 (.int .i64 0) 1 8 Tryz.underlying33 hk hx0 hx1 hx2 rfl (by decide) (.slice ad nd cd) nd ((postX (L ++ [l.take j]) nm vv).map (Value.int .i64)) rfl XB.out ⟨W2.heap.size, 0, none⟩ 1 1 [.int .i64 (m : Int)] rfl rfl NB.out (by simp [Value.oneCell']) (by omega) (by unfold maxLen; omega) (by omega) (Nat.zero_le _) _ rfl ?_
            intro gC cC wC oC grC atC ltC
            obtain ⟨zC, u5, hr5, z5, TS5⟩ := APP.out gC cC wC oC grC atC ltC
            have HT5 := hide TS5
            clear oC grC atC TS5 APP
            go_simp
            refine hK1.out _ _ zC ?_
            clear hK1
            refine held_next (i := 10) (by kernel_rfl) rfl (by rfl) (fun K1 hK1 => ?_)
            go_simp
            refine hK1.out _ _ z5 ?_
            clear hK1 hHeld hr5
            refine wpAnyH_done (by kernel_rfl) ?_ _
            go_wp2
            go_roundw
            case rel => exact ⟨j + 1, by omega, by go_num, HT5⟩
            case measure => simp [intOf]; omega
          · go_simp
            rw [hWB.out]
            refine hK1.out _ _ zB ?_
            clear hK1
            refine held_next (i := 6) (by kernel_rfl) rfl (by rfl) (fun K1 hK1 => ?_)
            go_simp
            refine hK1.out _ _ zB ?_
            clear hK1
            refine held_next (i := 9) (by kernel_rfl) rfl (by rfl) (fun K1 hK1 => ?_)
            refine wp_append_lies _ (.tmp 58) (.tmp 60) 33 rfl 0 3 i2 (.int .i64 0) 1 8 Tryz.underlying33 hk hx0 hx1 hx2 rfl (by decide) (.slice ad nd cd) nd ((postX (L ++ [l.take j]) nm vv).map (Value.int .i64)) rfl XB.out ⟨W2.heap.size, 0, none⟩ 1 1 [.int .i64 (m : Int)] rfl rfl NB.out (by simp [Value.oneCell']) (by omega) (by unfold maxLen; omega) (by omega) (Nat.zero_le _) _ rfl ?_
            intro gC cC wC oC grC atC ltC
            obtain ⟨zC, u5, hr5, z5, TS5⟩ := APP.out gC cC wC oC grC atC ltC
            have HT5 := hide TS5
            clear oC grC atC TS5 APP
            go_simp
            refine hK1.out _ _ zC ?_
            clear hK1
            refine held_next (i := 10) (by kernel_rfl) rfl (by rfl) (fun K1 hK1 => ?_)
            go_simp
            refine hK1.out _ _ z5 ?_
            clear hK1 hHeld hr5
            refine wpAnyH_done (by kernel_rfl) ?_ _
            go_wp2
            go_roundw
            case rel => exact ⟨j + 1, by omega, by go_num, HT5⟩
            case measure => simp [intOf]; omega
        | none =>
          have lk0 := LK0.out
          rw [hp] at lk0
          dsimp only [Option.map, Option.getD] at lk0
          refine wp_region_held_drew (S := fun u => u = W1.drew) (by kernel_rfl) rfl (fun hHeld => ?_)
          refine held_take (i := 0) (d := (some 35)) (v := ?_) rfl rfl (by kernel_rfl) (by kernel_rfl) (by kernel_rfl) (fun _ _ _ h => h) (Or.inl ⟨by rfl, ?_⟩) (by first | assumption | rfl | trivial) ?_
          rotate_left 1
          · (intro w hSw; (try dsimp only at hSw); (try subst hSw); go_simp; try with_reducible rfl)
          simp only [Act.put, List.setIfInBounds_toArray, List.set_cons_zero, List.set_cons_succ]
          refine held_take (i := 1) (d := (some 36)) (v := ?_) rfl rfl (by kernel_rfl) (by kernel_rfl) (by kernel_rfl) (fun _ _ _ h => h) (Or.inl ⟨by rfl, ?_⟩) (by first | assumption | rfl | trivial) ?_
          rotate_left 1
          · (intro w hSw; (try dsimp only at hSw); (try subst hSw); go_simp; try with_reducible rfl)
          simp only [Act.put, List.setIfInBounds_toArray, List.set_cons_zero, List.set_cons_succ]
          refine held_take (i := 2) (d := (some 37)) (v := ?_) rfl rfl (by kernel_rfl) (by kernel_rfl) (by kernel_rfl) (fun _ _ _ h => h) (Or.inl ⟨by rfl, ?_⟩) (by first | assumption | rfl | trivial) ?_
          rotate_left 1
          · (intro w hSw; (try dsimp only at hSw); (try subst hSw); go_simp; try with_reducible rfl)
          simp only [Act.put, List.setIfInBounds_toArray, List.set_cons_zero, List.set_cons_succ]
          refine held_take (i := 3) (d := (some 38)) (v := ?_) rfl rfl (by kernel_rfl) (by kernel_rfl) (by kernel_rfl) (fun _ _ _ h => h) (Or.inl ⟨by rfl, ?_⟩) (by first | assumption | rfl | trivial) ?_
          rotate_left 1
          · (intro w hSw; (try dsimp only at hSw); (try subst hSw); go_simp; try with_reducible rfl)
          simp only [Act.put, List.setIfInBounds_toArray, List.set_cons_zero, List.set_cons_succ]
          refine held_take (i := 4) (d := (some 39)) (v := ?_) rfl rfl (by kernel_rfl) (by kernel_rfl) (by kernel_rfl) (fun _ _ _ h => h) (Or.inl ⟨by rfl, ?_⟩) (by first | assumption | rfl | trivial) ?_
          rotate_left 1
          · (intro w hSw; (try dsimp only at hSw); (try subst hSw); go_simp; try with_reducible rfl)
          simp only [Act.put, List.setIfInBounds_toArray, List.set_cons_zero, List.set_cons_succ]
          refine held_take (i := 5) (d := (some 40)) (v := ?_) rfl rfl (by kernel_rfl) (by kernel_rfl) (by kernel_rfl) (fun _ _ _ h => h) (Or.inl ⟨by rfl, ?_⟩) (by first | assumption | rfl | trivial) ?_
          rotate_left 1
          · (intro w hSw; (try dsimp only at hSw); (try subst hSw); go_simp; try with_reducible rfl)
          simp only [Act.put, List.setIfInBounds_toArray, List.set_cons_zero, List.set_cons_succ]
          refine held_take (i := 6) (d := (some 41)) (v := ?_) rfl rfl (by kernel_rfl) (by kernel_rfl) (by kernel_rfl) (fun _ _ _ h => h) (Or.inl ⟨by rfl, ?_⟩) (by first | assumption | rfl | trivial) ?_
          rotate_left 1
          · (intro w hSw; (try dsimp only at hSw); (try subst hSw); go_simp; try with_reducible rfl)
          simp only [Act.put, List.setIfInBounds_toArray, List.set_cons_zero, List.set_cons_succ]
          refine held_take (i := 7) (d := (some 8)) (v := ?_) rfl rfl (by kernel_rfl) (by kernel_rfl) (by kernel_rfl) (fun _ _ _ h => h) (Or.inl ⟨by rfl, ?_⟩) (by first | assumption | rfl | trivial) ?_
          rotate_left 1
          · (intro w hSw; (try dsimp only at hSw); (try subst hSw); go_simp; try with_reducible rfl)
          simp only [Act.put, List.setIfInBounds_toArray, List.set_cons_zero, List.set_cons_succ]
          clear hHeld
          refine wpAnyH_done (by kernel_rfl) ?_ _
          obtain ⟨W2, hW2⟩ : ∃ W2, Hid (W1.drew = W2) := ⟨_, rfl⟩
          rw [hW2.out]
          have BD : Hid (Below W1.heap.size W1 W2) := by rw [← hW2.out]; exact (Below.refl _ _).drew
          have HB2 := hide (HBW.out.below BD.out)
          have HC2 : Hid (Ch S w W2) := HCW.out.trans ((Ch.of_below BD.out).more (fun _ _ h => h.elim))
          have HX2 : Hid (W2.heap[bx]? = some (.cells #[.string nm, .string vv] 52)) := by rw [← hW2.out]; exact HX1.out
          clear hW2 lk0 LK0 z0 z1 e2 HBW HCW BD HX1
          go_upto_region 10 with fail
          obtain ⟨bN, hbN⟩ : ∃ bN, Hid (W2.heap.size = bN) := ⟨_, rfl⟩
          obtain ⟨W3, hW3⟩ : ∃ W3, Hid (W2.alloc (.map #[] 0) = W3) := ⟨_, rfl⟩
          rw [hW3.out, hbN.out]
          have HN3 : Hid (MapS W3 bN 0 (fun _ => none)) := by rw [← hW3.out, ← hbN.out]; exact mapS_new W2
          have B3 : Hid (Below W2.heap.size W2 W3) := by rw [← hW3.out]; exact (Below.refl _ _).alloc (Nat.le_refl _) _
          have HB3 := hide (HB2.out.below B3.out)
          have HX3 : Hid (W3.heap[bx]? = some (.cells #[.string nm, .string vv] 52)) := by
            rw [B3.out.block bx (Array.getElem?_eq_some_iff.1 HX2.out).1]
            exact HX2.out
          obtain ⟨z0, z1⟩ := box_cells (x := (nm, vv)) HX3.out
          have e3 := HB3.out.c2
          obtain ⟨W4, hrun, hm4, hg4⟩ := HB3.out.posts.map.drew.store Tryz.underlying64 (by unfold maxLen; have := HN1.out; have := HCX.out; have := hm.out; omega) (s := nm) (by unfold maxLen; omega) (.map (some bN))
          have K4 : Hid (Ch (fun k => k = bp) W3 W4) := ((Ch.of_below (Below.refl _ _).drew).more (fun _ _ h => h.elim)).trans ((Ch.grown hg4).more (fun k _ e => by cases e; rfl))
          have HX4 : Hid (W4.heap[bx]? = some (.cells #[.string nm, .string vv] 52)) := by
            rw [K4.out.block bx (Array.getElem?_eq_some_iff.1 HX3.out).1 (fun e => HB3.out.posts.map.isMap.ne ⟨_, _, HX3.out⟩ e.symm)]
            exact HX3.out
          have hbN2 : W2.heap.size ≤ bN := by rw [hbN.out]; omega
          have hP4 := HB2.out.posts.name HB2.out.lt hp (Ch.of_below B3.out |>.trans (Ch.of_below (Below.refl _ _).drew)) hbN2 HN3.out hm4 hg4
          have ST : Hid (TkR w g S L l bn bp j nm vv bx bN W4) := by
            refine ⟨fun k => S1 k ∨ k = bN, a1, c1, hs1, nb1 + 1, _, q1, IB.withPosts HB3.out K4.out (fun k hk e => ?_) (fun k hk => Or.inl hk) (fun k hk => ?_) hP4 (fun nm' b' e => ?_), ?_, by have := HN1.out; omega, fun k hk => Or.inl (HS1.out k hk), fun k hk => ?_, ?_, HX4.out⟩
            · subst e
              exact Or.inl ⟨HB3.out.posts.map.isMap, fun e => HB3.out.nump.1 e.symm⟩
            · rcases hk with hk | hk
              · have h1 := HB3.out.lt k hk
                have h2 := K4.out.size
                omega
              · have h1 := HN3.out.lt
                have h2 := K4.out.size
                omega
            · unfold updP at e
              by_cases z : nm' = nm
              · rw [if_pos z] at e
                cases e
                have h1 := HB2.out.lt bn HB2.out.numS
                omega
              · rw [if_neg z] at e
                exact HB3.out.nump.2 nm' b' e
            · unfold updP
              rw [if_pos rfl]
            · rcases hk with hk | hk
              · exact HS2.out k hk
              · have h1 := HC2.out.size
                exact Or.inr (by omega)
            · refine ch_then (HC2.out.trans ((Ch.of_below B3.out).more (fun _ _ h => h.elim))) K4.out (fun k e => ?_)
              subst e
              exact HS2.out _ HB3.out.posts.own
          have zs4 : W4.cell? ⟨g, 2, none⟩ = some (.map (some bp)) ∧ W4.cell? ⟨bx, 0, none⟩ = some (.string nm) := by
            refine ⟨?_, (box_cells (x := (nm, vv)) HX4.out).1⟩
            have k := K4.out.block g (HB3.out.lt g HB3.out.own) (fun e => HB3.out.posts.map.isMap.ne HB3.out.cells e.symm)
            simp only [World.cell?] at e3 ⊢
            rw [k]
            exact e3
          clear hm4 hg4 hP4 K4 HX4 HN3 HB3 B3 HB2 HC2 HX2 hbN2 hW3 hbN
          refine wp_region_held_drew (S := fun u => u.cell? ⟨g, 2, none⟩ = some (.map (some bp)) ∧ u.cell? ⟨bx, 0, none⟩ = some (.string nm)) (by kernel_rfl) ⟨e3, z0⟩ (fun hHeld => ?_)
          refine held_take (i := 0) (d := (some 45)) (v := ?_) rfl rfl (by kernel_rfl) (by kernel_rfl) (by kernel_rfl) (fun _ _ _ h => h) (Or.inl ⟨by rfl, ?_⟩) (by first | assumption | rfl | trivial) ?_
          rotate_left 1
          · (intro w hSw; (try dsimp only at hSw); (try subst hSw); go_simp; try with_reducible rfl)
          simp only [Act.put, List.setIfInBounds_toArray, List.set_cons_zero, List.set_cons_succ]
          refine held_take (i := 1) (d := (some 46)) (v := ?_) rfl rfl (by kernel_rfl) (by kernel_rfl) (by kernel_rfl) (fun _ _ _ h => h) (Or.inl ⟨by rfl, ?_⟩) (by first | assumption | rfl | trivial) ?_
          rotate_left 1
          · (intro w hSw; (try dsimp only at hSw); (try subst hSw); go_simp; try with_reducible rfl)
          simp only [Act.put, List.setIfInBounds_toArray, List.set_cons_zero, List.set_cons_succ]
          refine held_take (i := 2) (d := (some 47)) (v := ?_) rfl rfl (by kernel_rfl) (by kernel_rfl) (by kernel_rfl) (fun _ _ _ h => h) (Or.inl ⟨by rfl, ?_⟩) (by first | assumption | rfl | trivial) ?_
          rotate_left 1
          · (intro w hSw; (try dsimp only at hSw); (try subst hSw); go_simp; try with_reducible rfl)
          simp only [Act.put, List.setIfInBounds_toArray, List.set_cons_zero, List.set_cons_succ]
          refine held_take (i := 3) (d := (some 48)) (v := ?_) rfl rfl (by kernel_rfl) (by kernel_rfl) (by kernel_rfl) (fun _ _ _ h => h) (Or.inl ⟨by rfl, ?_⟩) (by first | assumption | rfl | trivial) ?_
          rotate_left 1
          · (intro w hSw; (try dsimp only at hSw); (try subst hSw); go_simp; try with_reducible rfl)
          simp only [Act.put, List.setIfInBounds_toArray, List.set_cons_zero, List.set_cons_succ]
          refine held_take (i := 4) (d := (some 49)) (v := ?_) rfl rfl (by kernel_rfl) (by kernel_rfl) (by kernel_rfl) (fun _ _ _ h => h) (Or.inl ⟨by rfl, ?_⟩) (by first | assumption | rfl | trivial) ?_
          rotate_left 1
          · (intro w hSw; (try dsimp only at hSw); (try subst hSw); go_simp; try with_reducible rfl)
          simp only [Act.put, List.setIfInBounds_toArray, List.set_cons_zero, List.set_cons_succ]
          refine held_take (i := 5) (d := (some 50)) (v := ?_) rfl rfl (by kernel_rfl) (by kernel_rfl) (by kernel_rfl) (fun _ _ _ h => h) (Or.inl ⟨by rfl, ?_⟩) (by first | assumption | rfl | trivial) ?_
          rotate_left 1
          · (intro w hSw; (try dsimp only at hSw); (try subst hSw); go_simp; try with_reducible rfl)
          simp only [Act.put, List.setIfInBounds_toArray, List.set_cons_zero, List.set_cons_succ]
          refine held_take (i := 6) (d := (some 51)) (v := ?_) rfl rfl (by kernel_rfl) (by kernel_rfl) (by kernel_rfl) (fun _ _ _ h => h) (Or.inl ⟨by rfl, ?_⟩) (by first | assumption | rfl | trivial) ?_
          rotate_left 1
          · (intro w hSw; (try dsimp only at hSw); (try subst hSw); go_simp; try with_reducible rfl)
          simp only [Act.put, List.setIfInBounds_toArray, List.set_cons_zero, List.set_cons_succ]
          refine held_next (i := 7) (by kernel_rfl) rfl (by rfl) (fun K1 hK1 => ?_)
          go_simp
          refine hK1.out _ _ zs4 ?_
          clear hK1 hHeld hrun
          refine wpAnyH_done (by kernel_rfl) ?_ _
          obtain ⟨b, hb⟩ : ∃ b, b = bN := ⟨_, rfl⟩
          obtain ⟨W2, hW2⟩ : ∃ W2, W2 = W4 := ⟨_, rfl⟩
          rw [← hb, ← hW2]
          rw [← hb, ← hW2] at ST
          clear hb hW2 z0 z1 e3 zs4
          go_upto_region 11 with fail
          obtain ⟨S2, a2, c2, hs2, nb2, p2, q2, hB2, hp2, hnb2', hS3, hS4, hC2, hX2⟩ := ST.out
          have HB2 := hide hB2
          have HC2 := hide hC2
          have HS3 := hide hS3
          have HS4 := hide hS4
          have HN2 := hide hnb2'
          have HP2 := hide hp2
          have HX2 := hide hX2
          obtain ⟨-, z1⟩ := box_cells (x := (nm, vv)) hX2
          obtain ⟨q11, q12⟩ := hB2.posts.at' nm vv HVE.out
          obtain ⟨i11, i12, i13⟩ := hB2.posts.ins nm b hp2
          have hav := atQ_val q2 nm vv
          have LKX : Hid (∀ u, Below W2.heap.size W2 u → (Instr.lookup 76 (.map (some b)) (.string vv) false).run Tryz.prog u = .ok (hlV (atQ q2 nm vv)) u) := fun u hu => by
            have := (i13.below hu).look Tryz.underlying76 (zeroSi u) (s := vv) (by unfold maxLen; omega)
            rw [hav] at this
            exact this
          obtain ⟨hd, hhd⟩ : ∃ hd, Hid (atQ q2 nm vv = hd) := ⟨_, rfl⟩
          rw [hhd.out] at q11 q12 LKX
          obtain ⟨ad, nd, cd⟩ := hd
          have hnd : nd ≤ 4096 := by
            have h1 := q11.len
            have h2 := postX_len (L ++ [l.take j]) nm vv
            rw [List.length_append, hm.out] at h2
            simp at h1 h2
            omega
          have X3' := hide q11
          have BD : Hid (Below W2.heap.size W2 W2.drew) := (Below.refl _ _).drew
          obtain ⟨WB, hWB⟩ : ∃ WB, Hid ((W2.alloc (.cells #[.int .i64 (m : Int)] 3)).drew = WB) := ⟨_, rfl⟩
          have BB : Hid (Below W2.heap.size W2 WB) := by rw [← hWB.out]; exact (bel_al (Below.refl _ _) (Nat.le_refl _) _).drew
          have NB : Hid (∀ j u, [Value.int .i64 (m : Int)][j]? = some u → WB.cell? ((⟨W2.heap.size, 0, none⟩ : Addr).add j) = some u) := by rw [← hWB.out]; exact one_slab W2 _ _
          have XB := hide (mineI_ch X3'.out (Ch.of_below BB.out) (fun _ _ => id))
          have SB : Hid (WB.heap.size = W2.heap.size + 1) := by rw [← hWB.out]; show _ = _; simp
          have lkD := LKX.out _ BD.out
          have lkB := LKX.out _ BB.out
          have zB : WB.cell? ⟨bx, 1, none⟩ = some (.string vv) := by
            rw [BB.out.cell (p := ⟨bx, 1, none⟩) (World.block_lt_of_cell? W2 _ z1)]
            exact z1
          have APP : Hid (∀ gC cC wC, wC.ownsRow 0 3 1 (.slice (some ⟨gC, 0, none⟩) (nd + 1) cC) (nd + 1) ((postX (L ++ [l.take j]) nm vv).map (Value.int .i64) ++ [.int .i64 (m : Int)]) → WB.grownBy wC (Value.slice ad nd cd).ownBlock → ((Value.slice ad nd cd).ownBlock = some gC ∨ gC = WB.heap.size) → gC < wC.heap.size →
              wC.cell? ⟨bx, 1, none⟩ = some (.string vv) ∧ ∃ u5, (Instr.mapUpdate 76 (.map (some b)) (.string vv) (.slice (some ⟨gC, 0, none⟩) (nd + 1) cC)).run Tryz.prog wC = .ok () u5 ∧ u5.cell? ⟨bx, 1, none⟩ = some (.string vv) ∧ TkS w g S L l bn bp (j + 1) u5) := by
            intro gC cC wC oC grC atC ltC
            have KC : Ch (fun k => (Value.slice ad nd cd).ownBlock = some k) W2 wC := ((Ch.of_below BB.out).more (fun _ _ h => h.elim)).trans (Ch.grown grC)
            have hown : ∀ {k : Nat}, MapB W2 k → ¬ (Value.slice ad nd cd).ownBlock = some k := fun hk e => hk.ne (row_cells q11 e).1 rfl
            have hXC : wC.heap[bx]? = some (.cells #[.string nm, .string vv] 52) := (KC.block bx (Array.getElem?_eq_some_iff.1 hX2).1 (fun e => (row_cells q11 e).1.ne (⟨_, _, hX2⟩ : CellsT W2 bx 52) (by decide) rfl)).trans hX2
            have mC := i13.ch KC (hown i13.isMap)
            obtain ⟨u5, hr5, m5, g5⟩ := mC.store Tryz.underlying76 (by unfold maxLen; have := HCX.out; have := hm.out; omega) (s := vv) (by unfold maxLen; omega) (.slice (some ⟨gC, 0, none⟩) (nd + 1) cC)
            have K5 : Ch (fun k => k = b) wC u5 := (Ch.grown g5).more (fun k _ e => by cases e; rfl)
            have hX5 : u5.heap[bx]? = some (.cells #[.string nm, .string vv] 52) := (K5.block bx (Array.getElem?_eq_some_iff.1 hXC).1 (fun e => mC.isMap.ne ⟨_, _, hXC⟩ e.symm)).trans hXC
            have at2 : (Value.slice ad nd cd).ownBlock = some gC ∨ W2.heap.size ≤ gC := by
              rcases atC with e | e
              · exact Or.inl e
              · exact Or.inr (by rw [e, SB.out]; omega)
            have hP5 := PostsM.push (L' := L ++ [l.take (j + 1)]) (id := (L.length : Int)) (nC := nd + 1) (cC := cC) hB2.posts hB2.lt hp2 HVE.out (fun nm' v' hv' => postX_push HPW.out HX.out nm' v' hv') (by
                rw [hm.out]
                show wC.ownsRow 0 _ _ _ _ _
                rw [List.map_append]
                exact oC) (by rw [hhd.out]; exact KC) (by rw [hhd.out]; exact at2) m5 g5
            refine ⟨(box_cells (x := (nm, vv)) hXC).2, u5, hr5, (box_cells (x := (nm, vv)) hX5).2, fun k => S2 k ∨ k = gC, a2, c2, hs2, nb2 + 1, p2, _, IB.withPosts (T := fun k => (Value.slice ad nd cd).ownBlock = some k ∨ k = b) hB2 ((KC.more (fun k _ e => Or.inl e)).trans (K5.more (fun k _ e => Or.inr e))) (fun k hk e => ?_) (fun k hk => Or.inl hk) (fun k hk => ?_) hP5 hB2.nump.2, by omega, fun k hk => Or.inl (hS3 k hk), fun k hk => ?_, ?_⟩
            · rcases e with e | e
              · exact Or.inr (row_cells q11 e).1
              · subst e
                exact Or.inl ⟨i13.isMap, hB2.nump.2 nm _ hp2⟩
            · have h5 := K5.size
              rcases hk with hk | hk
              · have h1 := hB2.lt k hk
                have h2 := KC.size
                omega
              · omega
            · have h3 := hC2.size
              rcases hk with hk | hk
              · exact hS4 k hk
              · subst hk
                rcases at2 with e | e
                · exact hS4 _ (q12 _ e)
                · exact Or.inr (by omega)
            · refine ch_then (ch_then hC2 KC (fun k e => hS4 k (q12 k e))) K5 (fun k e => ?_)
              subst e
              exact hS4 _ i11
          clear hB2 hp2 hnb2' hS3 hS4 hC2 hX2 q11 q12 i11 i12 i13 hav LKX ST X3' HB2 HC2 HS3 HS4 HN2 HP2 HX2 hhd
          refine wp_region_held_drew (S := fun u => u.cell? ⟨bx, 1, none⟩ = some (.string vv)) (by kernel_rfl) z1 (fun hHeld => ?_)
          refine held_take (i := 0) (d := (some 52)) (v := ?_) rfl rfl (by kernel_rfl) (by kernel_rfl) (by kernel_rfl) (fun _ _ _ h => h) (Or.inl ⟨by rfl, ?_⟩) (by first | assumption | rfl | trivial) ?_
          rotate_left 1
          · (intro w hSw; (try dsimp only at hSw); (try subst hSw); go_simp; try with_reducible rfl)
          simp only [Act.put, List.setIfInBounds_toArray, List.set_cons_zero, List.set_cons_succ]
          refine held_take (i := 1) (d := (some 53)) (v := ?_) rfl rfl (by kernel_rfl) (by kernel_rfl) (by kernel_rfl) (fun _ _ _ h => h) (Or.inl ⟨by rfl, ?_⟩) (by first | assumption | rfl | trivial) ?_
          rotate_left 1
          · (intro w hSw; (try dsimp only at hSw); (try subst hSw); go_simp; try with_reducible rfl)
          simp only [Act.put, List.setIfInBounds_toArray, List.set_cons_zero, List.set_cons_succ]
          refine held_take (i := 2) (d := (some 54)) (v := ?_) rfl rfl (by kernel_rfl) (by kernel_rfl) (by kernel_rfl) (fun _ _ _ h => h) (Or.inl ⟨by rfl, ?_⟩) (by first | assumption | rfl | trivial) ?_
          rotate_left 1
          · (intro w hSw; (try dsimp only at hSw); (try subst hSw); go_simp; try with_reducible rfl)
          simp only [Act.put, List.setIfInBounds_toArray, List.set_cons_zero, List.set_cons_succ]
          refine held_take (i := 3) (d := (some 55)) (v := ?_) rfl rfl (by kernel_rfl) (by kernel_rfl) (by kernel_rfl) (fun _ _ _ h => h) (Or.inl ⟨by rfl, ?_⟩) (by first | assumption | rfl | trivial) ?_
          rotate_left 1
          · (intro w hSw; (try dsimp only at hSw); (try subst hSw); go_simp; try with_reducible rfl)
          simp only [Act.put, List.setIfInBounds_toArray, List.set_cons_zero, List.set_cons_succ]
          refine held_take (i := 4) (d := (some 56)) (v := ?_) rfl rfl (by kernel_rfl) (by kernel_rfl) (by kernel_rfl) (fun _ _ _ h => h) (Or.inl ⟨by rfl, ?_⟩) (by first | assumption | rfl | trivial) ?_
          rotate_left 1
          · (intro w hSw; (try dsimp only at hSw); (try subst hSw); go_simp; try with_reducible rfl)
          simp only [Act.put, List.setIfInBounds_toArray, List.set_cons_zero, List.set_cons_succ]
          refine held_take (i := 5) (d := (some 57)) (v := ?_) rfl rfl (by kernel_rfl) (by kernel_rfl) (by kernel_rfl) (fun _ _ _ h => h) (Or.inl ⟨by rfl, ?_⟩) (by first | assumption | rfl | trivial) ?_
          rotate_left 1
          · (intro w hSw; (try dsimp only at hSw); (try subst hSw); go_simp; try with_reducible rfl)
          simp only [Act.put, List.setIfInBounds_toArray, List.set_cons_zero, List.set_cons_succ]
          refine held_take (i := 7) (d := (some 59)) (v := ?_) rfl rfl (by kernel_rfl) (by kernel_rfl) (by kernel_rfl) (fun _ _ _ h => h) (Or.inl ⟨by rfl, ?_⟩) (by first | assumption | rfl | trivial) ?_
          rotate_left 1
          · (intro w hSw; (try dsimp only at hSw); (try subst hSw); go_simp; try with_reducible rfl)
          simp only [Act.put, List.setIfInBounds_toArray, List.set_cons_zero, List.set_cons_succ]
          refine held_two (i := 6) (j := 8) (by kernel_rfl) rfl (by rfl) rfl (by rfl) (fun K1 hK1 => ?_) (fun K1 hK1 => ?_)
          · go_simp
            refine hK1.out _ _ z1 ?_
            clear hK1
            refine held_next (i := 8) (by kernel_rfl) rfl (by rfl) (fun K1 hK1 => ?_)
            go_simp
            rw [hWB.out]
            refine hK1.out _ _ zB ?_
            clear hK1
            refine held_next (i := 9) (by kernel_rfl) rfl (by rfl) (fun K1 hK1 => ?_)
            refine wp_append_lies _ (.tmp 58) (.tmp 60) 33 rfl 0 3 i2 (.int .i64 0) 1 8 Tryz.underlying33 hk hx0 hx1 hx2 rfl (by decide) (.slice ad nd cd) nd ((postX (L ++ [l.take j]) nm vv).map (Value.int .i64)) rfl XB.out ⟨W2.heap.size, 0, none⟩ 1 1 [.int .i64 (m : Int)] rfl rfl NB.out (by simp [Value.oneCell']) (by omega) (by unfold maxLen; omega) (by omega) (Nat.zero_le _) _ rfl ?_
            intro gC cC wC oC grC atC ltC
            obtain ⟨zC, u5, hr5, z5, TS5⟩ := APP.out gC cC wC oC grC atC ltC
            have HT5 := hide TS5
            clear oC grC atC TS5 APP
            go_simp
            refine hK1.out _ _ zC ?_
            clear hK1
            refine held_next (i := 10) (by kernel_rfl) rfl (by rfl) (fun K1 hK1 => ?_)
            go_simp
            refine hK1.out _ _ z5 ?_
            clear hK1 hHeld hr5
            refine wpAnyH_done (by kernel_rfl) ?_ _
            go_wp2
            go_roundw
            case rel => exact ⟨j + 1, by omega, by go_num, HT5⟩
            case measure => simp [intOf]; omega
          · go_simp
            rw [hWB.out]
            refine hK1.out _ _ zB ?_
            clear hK1
            refine held_next (i := 6) (by kernel_rfl) rfl (by rfl) (fun K1 hK1 => ?_)
            go_simp
            refine hK1.out _ _ zB ?_
            clear hK1
            refine held_next (i := 9) (by kernel_rfl) rfl (by rfl) (fun K1 hK1 => ?_)
            refine wp_append_lies _ (.tmp 58) (.tmp 60) 33 rfl 0 3 i2 (.int .i64 0) 1 8 Tryz.underlying33 hk hx0 hx1 hx2 rfl (by decide) (.slice ad nd cd) nd ((postX (L ++ [l.take j]) nm vv).map (Value.int .i64)) rfl XB.out ⟨W2.heap.size, 0, none⟩ 1 1 [.int .i64 (m : Int)] rfl rfl NB.out (by simp [Value.oneCell']) (by omega) (by unfold maxLen; omega) (by omega) (Nat.zero_le _) _ rfl ?_
            intro gC cC wC oC grC atC ltC
            obtain ⟨zC, u5, hr5, z5, TS5⟩ := APP.out gC cC wC oC grC atC ltC
            have HT5 := hide TS5
            clear oC grC atC TS5 APP
            go_simp
            refine hK1.out _ _ zC ?_
            clear hK1
            refine held_next (i := 10) (by kernel_rfl) rfl (by rfl) (fun K1 hK1 => ?_)
            go_simp
            refine hK1.out _ _ z5 ?_
            clear hK1 hHeld hr5
            refine wpAnyH_done (by kernel_rfl) ?_ _
            go_wp2
            go_roundw
            case rel => exact ⟨j + 1, by omega, by go_num, HT5⟩
            case measure => simp [intOf]; omega
      · have i2 : ¬ (j : Int) < (n : Int) := by omega
        have FIN : Hid (StepX IAt w wr g S (L ++ [l])) := by
          obtain ⟨S1, a1, c1, hs1, nb1, p1, q1, hB1, hnb1, hS1, hS2, hC1⟩ := TS.out
          have e : l.take j = l := List.take_of_length_le (by rw [HLF.out]; omega)
          rw [e] at hB1
          refine ⟨S1, ⟨HGL.out, ?_, a1, c1, hs1, bn, bp, nb1, p1, q1, ?_, hB1⟩, hS2, hC1⟩
          · rw [List.length_append, hm.out]
            simp
            omega
          · rw [cntX_more, HLF.out]
            omega
        clear TS
        go_wp2
        go_ret
        exact ⟨rfl, FIN.out⟩
end Go.Proofs.YtpffhpnmbpjifaaGreat
