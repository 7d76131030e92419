/-
  The document's Eval of a matcher: contracts, for every world; what was there before stays (written by gen/matg.gen.py).
  Conditions: the matcher and the labels lie in memory; all its parts fit.
-/
import Derived.Test.YtpffhpnmbpjifaaGreatMatE
import Derived.Test.YtpffhpnmbpjifaaGreatLabZb
namespace Go.Proofs.YtpffhpnmbpjifaaGreat
open Go.RowKit
set_option maxRecDepth 20000

theorem val_size {w : World} {a : Option Addr} {n : Nat} {l : List Lb} (h : RowL w a n l) (nm : ByteArray) : (valL l nm).size ≤ 9223372036854775807 := by
  unfold valL
  cases hf : l.find? (fun x => decide (x.1 = nm)) with
  | none => decide
  | some x => exact (h.2.2.1 x (List.mem_of_find?_eq_some hf)).2
theorem keep7c {w v v' : World} {B : Nat} {p1 p2 p3 p4 p5 p6 p7 : Addr} {x1 x2 x3 x4 x5 x6 x7 : Value} (hb : Below v.heap.size v v')
    (h : (v.cell? p1 = some x1 ∧ v.cell? p2 = some x2) ∧ (v.cell? p3 = some x3 ∧ v.cell? p4 = some x4 ∧ v.cell? p5 = some x5 ∧ v.cell? p6 = some x6 ∧ v.cell? p7 = some x7) ∧ Hid (B ≤ v.heap.size ∧ Below B w v)) : (v'.cell? p1 = some x1 ∧ v'.cell? p2 = some x2) ∧ (v'.cell? p3 = some x3 ∧ v'.cell? p4 = some x4 ∧ v'.cell? p5 = some x5 ∧ v'.cell? p6 = some x6 ∧ v'.cell? p7 = some x7) ∧ Hid (B ≤ v'.heap.size ∧ Below B w v') := by
  have k : ∀ {p : Addr} {x : Value}, v.cell? p = some x → v'.cell? p = some x := fun {p x} e => by
    rw [hb.cell (World.block_lt_of_cell? v _ e)]; exact e
  obtain ⟨⟨a1, a2⟩, ⟨c0, c1, c2, c3, c4⟩, l1, l2⟩ := h
  exact ⟨⟨k a1, k a2⟩, ⟨k c0, k c1, k c2, k c3, k c4⟩, Nat.le_trans l1 hb.size, l2.trans (hb.mono l1)⟩
/-- What the document's Eval tells of a matcher. -/
def EvR (l : List Lb) (m : Mt) : Prop := ∀ (S : Nat → Prop) (h : Hm) (al : Option Addr) (nl cl : Nat) (w : World), SeeM S w m h → okM m → RowL w al nl l →
    Calls Tryz.prog 26 #[.agg #[.int .i64 h.op, .string h.nm, .string h.vl, .slice h.va h.vn h.vc, .slice h.ka h.kn h.kc], .slice al nl cl] w fun e w' => e = .returned (.bool (evalM l m)) ∧ Below w.heap.size w w'

set_option maxHeartbeats 4000000 in
theorem reval_0 (l : List Lb) (nm vl : ByteArray) (va : Option Addr) (vn vc : Nat) (ka : Option Addr) (kn kc : Nat) (al : Option Addr) (nl cl : Nat) (w : World) (hw : HmW ⟨0, nm, vl, va, vn, vc, ka, kn, kc⟩) (hr : RowL w al nl l) :
    Calls Tryz.prog 26 #[.agg #[.int .i64 0, .string nm, .string vl, .slice va vn vc, .slice ka kn kc], .slice al nl cl] w fun e w' => e = .returned (.bool (true)) ∧ Below w.heap.size w w' := by
  have w1 : nm.size ≤ 9223372036854775807 := hw.nm
  have w2 : vl.size ≤ 9223372036854775807 := hw.vl
  have w4 : kn * 88 ≤ 140737488355328 := hw.kn
  obtain ⟨W, hW⟩ : ∃ W, Hid (w.alloc (.cells #[.int .i64 0, .string nm, .string vl, .slice va vn vc, .slice ka kn kc] 26) = W) := ⟨_, rfl⟩
  have LW : Hid (Below w.heap.size w W) := by rw [← hW.out]; exact (Below.refl _ _).alloc (Nat.le_refl _) _
  have B : Hid (BoxM W w.heap.size ⟨0, nm, vl, va, vn, vc, ka, kn, kc⟩) := by rw [← hW.out]; exact boxM_new w ⟨0, nm, vl, va, vn, vc, ka, kn, kc⟩
  have T := hide (quietB (refval_any al nl cl l nm W (hr.below LW.out (Nat.le_refl _))))
  obtain ⟨b0, b1, b2, b3, b4, _⟩ := B.out.all
  dsimp only at b0 b1 b2 b3 b4
  go_enter Tryz.func26, Tryz.ntmps26
  go_upto_region 1 with fail
  rw [hW.out]
  clear hW
  go_wp2_with fail
  with_reducible refine T.out.mono ?_
  rintro e v1 ⟨rfl, k1⟩
  have L1 := hide (bel_to LW.out (Nat.le_refl _) k1)
  have B1 := hide (B.out.block (k1.block _ B.out.lt))
  clear T k1 b0 b1 b2 b3 b4 B LW
  obtain ⟨b0, b1, b2, b3, b4, _⟩ := B1.out.all
  dsimp only at b0 b1 b2 b3 b4
  go_wp2
  go_ret
  exact ⟨rfl, L1.out⟩

set_option maxHeartbeats 4000000 in
theorem reval_1 (l : List Lb) (nm vl : ByteArray) (va : Option Addr) (vn vc : Nat) (ka : Option Addr) (kn kc : Nat) (al : Option Addr) (nl cl : Nat) (w : World) (hw : HmW ⟨1, nm, vl, va, vn, vc, ka, kn, kc⟩) (hr : RowL w al nl l) :
    Calls Tryz.prog 26 #[.agg #[.int .i64 1, .string nm, .string vl, .slice va vn vc, .slice ka kn kc], .slice al nl cl] w fun e w' => e = .returned (.bool (decide (valL l nm = vl))) ∧ Below w.heap.size w w' := by
  have w1 : nm.size ≤ 9223372036854775807 := hw.nm
  have w2 : vl.size ≤ 9223372036854775807 := hw.vl
  have w4 : kn * 88 ≤ 140737488355328 := hw.kn
  obtain ⟨W, hW⟩ : ∃ W, Hid (w.alloc (.cells #[.int .i64 1, .string nm, .string vl, .slice va vn vc, .slice ka kn kc] 26) = W) := ⟨_, rfl⟩
  have LW : Hid (Below w.heap.size w W) := by rw [← hW.out]; exact (Below.refl _ _).alloc (Nat.le_refl _) _
  have B : Hid (BoxM W w.heap.size ⟨1, nm, vl, va, vn, vc, ka, kn, kc⟩) := by rw [← hW.out]; exact boxM_new w ⟨1, nm, vl, va, vn, vc, ka, kn, kc⟩
  have T := hide (quietB (refval_any al nl cl l nm W (hr.below LW.out (Nat.le_refl _))))
  obtain ⟨b0, b1, b2, b3, b4, _⟩ := B.out.all
  dsimp only at b0 b1 b2 b3 b4
  obtain ⟨v, HV⟩ : ∃ v, Hid (valL l nm = v) := ⟨_, rfl⟩
  rw [HV.out] at T
  have HE : Hid ((v.toList == vl.toList) = decide (valL l nm = vl)) := by rw [HV.out]; exact ba_eq
  go_enter Tryz.func26, Tryz.ntmps26
  go_upto_region 1 with fail
  rw [hW.out]
  clear hW
  go_wp2_with fail
  with_reducible refine T.out.mono ?_
  rintro e v1 ⟨rfl, k1⟩
  have L1 := hide (bel_to LW.out (Nat.le_refl _) k1)
  have B1 := hide (B.out.block (k1.block _ B.out.lt))
  clear T k1 b0 b1 b2 b3 b4 B LW
  obtain ⟨b0, b1, b2, b3, b4, _⟩ := B1.out.all
  dsimp only at b0 b1 b2 b3 b4
  go_wp2
  go_ret
  exact ⟨by rw [← HE.out]; rfl, L1.out⟩

set_option maxHeartbeats 4000000 in
theorem reval_2 (l : List Lb) (nm vl : ByteArray) (va : Option Addr) (vn vc : Nat) (ka : Option Addr) (kn kc : Nat) (al : Option Addr) (nl cl : Nat) (w : World) (hw : HmW ⟨2, nm, vl, va, vn, vc, ka, kn, kc⟩) (hr : RowL w al nl l) :
    Calls Tryz.prog 26 #[.agg #[.int .i64 2, .string nm, .string vl, .slice va vn vc, .slice ka kn kc], .slice al nl cl] w fun e w' => e = .returned (.bool (decide (valL l nm ≠ vl))) ∧ Below w.heap.size w w' := by
  have w1 : nm.size ≤ 9223372036854775807 := hw.nm
  have w2 : vl.size ≤ 9223372036854775807 := hw.vl
  have w4 : kn * 88 ≤ 140737488355328 := hw.kn
  obtain ⟨W, hW⟩ : ∃ W, Hid (w.alloc (.cells #[.int .i64 2, .string nm, .string vl, .slice va vn vc, .slice ka kn kc] 26) = W) := ⟨_, rfl⟩
  have LW : Hid (Below w.heap.size w W) := by rw [← hW.out]; exact (Below.refl _ _).alloc (Nat.le_refl _) _
  have B : Hid (BoxM W w.heap.size ⟨2, nm, vl, va, vn, vc, ka, kn, kc⟩) := by rw [← hW.out]; exact boxM_new w ⟨2, nm, vl, va, vn, vc, ka, kn, kc⟩
  have T := hide (quietB (refval_any al nl cl l nm W (hr.below LW.out (Nat.le_refl _))))
  obtain ⟨b0, b1, b2, b3, b4, _⟩ := B.out.all
  dsimp only at b0 b1 b2 b3 b4
  obtain ⟨v, HV⟩ : ∃ v, Hid (valL l nm = v) := ⟨_, rfl⟩
  rw [HV.out] at T
  have HE : Hid ((v.toList == vl.toList) = decide (valL l nm = vl)) := by rw [HV.out]; exact ba_eq
  go_enter Tryz.func26, Tryz.ntmps26
  go_upto_region 1 with fail
  rw [hW.out]
  clear hW
  go_wp2_with fail
  with_reducible refine T.out.mono ?_
  rintro e v1 ⟨rfl, k1⟩
  have L1 := hide (bel_to LW.out (Nat.le_refl _) k1)
  have B1 := hide (B.out.block (k1.block _ B.out.lt))
  clear T k1 b0 b1 b2 b3 b4 B LW
  obtain ⟨b0, b1, b2, b3, b4, _⟩ := B1.out.all
  dsimp only at b0 b1 b2 b3 b4
  go_wp2
  go_ret
  exact ⟨by rw [show decide (valL l nm ≠ vl) = !(v.toList == vl.toList) by rw [HE.out]; exact decide_not]; rfl, L1.out⟩

set_option maxHeartbeats 4000000 in
theorem reval_3 (l : List Lb) (nm vl : ByteArray) (va : Option Addr) (vn vc : Nat) (ka : Option Addr) (kn kc : Nat) (al : Option Addr) (nl cl : Nat) (w : World) (hw : HmW ⟨3, nm, vl, va, vn, vc, ka, kn, kc⟩) (hr : RowL w al nl l) :
    Calls Tryz.prog 26 #[.agg #[.int .i64 3, .string nm, .string vl, .slice va vn vc, .slice ka kn kc], .slice al nl cl] w fun e w' => e = .returned (.bool (vl.toList.isPrefixOf (valL l nm).toList)) ∧ Below w.heap.size w w' := by
  have w1 : nm.size ≤ 9223372036854775807 := hw.nm
  have w2 : vl.size ≤ 9223372036854775807 := hw.vl
  have w4 : kn * 88 ≤ 140737488355328 := hw.kn
  obtain ⟨W, hW⟩ : ∃ W, Hid (w.alloc (.cells #[.int .i64 3, .string nm, .string vl, .slice va vn vc, .slice ka kn kc] 26) = W) := ⟨_, rfl⟩
  have LW : Hid (Below w.heap.size w W) := by rw [← hW.out]; exact (Below.refl _ _).alloc (Nat.le_refl _) _
  have B : Hid (BoxM W w.heap.size ⟨3, nm, vl, va, vn, vc, ka, kn, kc⟩) := by rw [← hW.out]; exact boxM_new w ⟨3, nm, vl, va, vn, vc, ka, kn, kc⟩
  have T := hide (quietB (refval_any al nl cl l nm W (hr.below LW.out (Nat.le_refl _))))
  obtain ⟨b0, b1, b2, b3, b4, _⟩ := B.out.all
  dsimp only at b0 b1 b2 b3 b4
  have hvs := val_size hr nm
  generalize valL l nm = v at *
  by_cases h1 : vl.size ≤ v.size
  · have i1 : (vl.size : Int) ≤ (v.size : Int) := by omega
    have E : Hid (vl.toList.isPrefixOf v.toList = ((v.extract 0 vl.size).toList == vl.toList)) := by
      show _ = _
      rw [ByteArray.toList_eq (v.extract 0 vl.size), ByteArray.data_extract, Array.toList_extract]
      simp only [List.extract_eq_take_drop, Nat.sub_zero, List.drop_zero]
      rw [← ByteArray.toList_eq v, Bool.eq_iff_iff, List.isPrefixOf_iff_prefix, List.prefix_iff_eq_take, beq_iff_eq, ba_len]
      exact eq_comm
    have d1 : decide ((vl.size : Int) ≤ (v.size : Int)) = true := decide_eq_true i1
    have d1' : decide (vl.size ≤ v.size) = true := decide_eq_true h1
    rw [E.out]
    go_enter Tryz.func26, Tryz.ntmps26
    go_upto_region 1 with fail
    rw [hW.out]
    clear hW
    go_wp2_with fail
    with_reducible refine T.out.mono ?_
    rintro e v1 ⟨rfl, k1⟩
    have L1 := hide (bel_to LW.out (Nat.le_refl _) k1)
    have B1 := hide (B.out.block (k1.block _ B.out.lt))
    clear T k1 b0 b1 b2 b3 b4 B LW
    obtain ⟨b0, b1, b2, b3, b4, _⟩ := B1.out.all
    dsimp only at b0 b1 b2 b3 b4
    go_wp2
    go_quiet (fail)
    go_wp2
    go_ret
    exact ⟨rfl, bel_drewN L1.out _⟩
  · have i1 : ¬ (vl.size : Int) ≤ (v.size : Int) := by omega
    have E : Hid (vl.toList.isPrefixOf v.toList = false) := by
      show _ = _
      rw [Bool.eq_false_iff]
      intro h
      have := (List.isPrefixOf_iff_prefix.1 h).length_le
      rw [ba_len, ba_len] at this
      exact h1 this
    have d1 : decide ((vl.size : Int) ≤ (v.size : Int)) = false := decide_eq_false i1
    have d1' : decide (vl.size ≤ v.size) = false := decide_eq_false h1
    rw [E.out]
    clear h1
    go_enter Tryz.func26, Tryz.ntmps26
    go_upto_region 1 with fail
    rw [hW.out]
    clear hW
    go_wp2_with fail
    with_reducible refine T.out.mono ?_
    rintro e v1 ⟨rfl, k1⟩
    have L1 := hide (bel_to LW.out (Nat.le_refl _) k1)
    have B1 := hide (B.out.block (k1.block _ B.out.lt))
    clear T k1 b0 b1 b2 b3 b4 B LW
    obtain ⟨b0, b1, b2, b3, b4, _⟩ := B1.out.all
    dsimp only at b0 b1 b2 b3 b4
    go_wp2
    go_quiet (fail)
    go_wp2
    go_ret
    exact ⟨rfl, bel_drewN L1.out _⟩

set_option maxHeartbeats 4000000 in
theorem reval_4 (l : List Lb) (S : Nat → Prop) (vs : List ByteArray) (nm vl : ByteArray) (va : Option Addr) (vn vc : Nat) (ka : Option Addr) (kn kc : Nat) (al : Option Addr) (nl cl : Nat) (w : World) (hw : HmW ⟨4, nm, vl, va, vn, vc, ka, kn, kc⟩) (hr : RowL w al nl l) (hv : TxR S w va vn vs) :
    Calls Tryz.prog 26 #[.agg #[.int .i64 4, .string nm, .string vl, .slice va vn vc, .slice ka kn kc], .slice al nl cl] w fun e w' => e = .returned (.bool (vs.any fun v => decide (v = valL l nm))) ∧ Below w.heap.size w w' := by
  have w1 : nm.size ≤ 9223372036854775807 := hw.nm
  have w2 : vl.size ≤ 9223372036854775807 := hw.vl
  have w4 : kn * 88 ≤ 140737488355328 := hw.kn
  obtain ⟨W, hW⟩ : ∃ W, Hid (w.alloc (.cells #[.int .i64 4, .string nm, .string vl, .slice va vn vc, .slice ka kn kc] 26) = W) := ⟨_, rfl⟩
  have LW : Hid (Below w.heap.size w W) := by rw [← hW.out]; exact (Below.refl _ _).alloc (Nat.le_refl _) _
  have B : Hid (BoxM W w.heap.size ⟨4, nm, vl, va, vn, vc, ka, kn, kc⟩) := by rw [← hW.out]; exact boxM_new w ⟨4, nm, vl, va, vn, vc, ka, kn, kc⟩
  have T := hide (quietB (refval_any al nl cl l nm W (hr.below LW.out (Nat.le_refl _))))
  obtain ⟨b0, b1, b2, b3, b4, _⟩ := B.out.all
  dsimp only at b0 b1 b2 b3 b4
  have w3 : vn * 16 ≤ 140737488355328 := hv.2.1
  have HV := hide hv
  have HL := hide hv.1
  generalize valL l nm = x at *
  obtain ⟨ans, HA⟩ : ∃ ans, Hid ((vs.any fun v => decide (v = x)) = ans) := ⟨_, rfl⟩
  rw [HA.out]
  clear hv
  go_enter Tryz.func26, Tryz.ntmps26
  go_upto_region 1 with fail
  rw [hW.out]
  clear hW
  go_wp2_with fail
  with_reducible refine T.out.mono ?_
  rintro e v1 ⟨rfl, k1⟩
  have L1 := hide (bel_to LW.out (Nat.le_refl _) k1)
  have B1 := hide (B.out.block (k1.block _ B.out.lt))
  clear T k1 b0 b1 b2 b3 b4 B LW
  obtain ⟨b0, b1, b2, b3, b4, _⟩ := B1.out.all
  dsimp only at b0 b1 b2 b3 b4
  go_wp2
  go_loopg [6] vn (fun g i wr => ∃ k : Nat, k ≤ vn ∧ vn - k ≤ g ∧ i = .int .i64 k ∧ wr = v1 ∧ Hid (∀ i s, i < k → vs[i]? = some s → s ≠ x))
  case atStart => exact ⟨0, Nat.zero_le _, by omega, rfl, rfl, fun i s hi => absurd hi (Nat.not_lt_zero _)⟩
  case round =>
    obtain ⟨k, hk, hg, rfl, rfl, A⟩ := hrel
    by_cases hlt : k < vn
    · obtain ⟨c1, o1, s, rfl, hs, hsz, -, f0⟩ := (HV.out.ch (Ch.of_below L1.out) (fun _ _ => id)).at' hlt
      have i1 : (0 : Int) ≤ (k : Int) := by omega
      have i2 : (k : Int) < (vn : Int) := by omega
      have HX := hide hs
      clear hs
      by_cases he : s = x
      · have t1 : (s.toList == x.toList) = true := by rw [ba_eq]; exact decide_eq_true he
        have F : Hid (true = ans) := by rw [← HA.out]; exact (List.any_eq_true.2 ⟨s, List.mem_of_getElem? HX.out, decide_eq_true he⟩).symm
        clear he
        go_wp2
        go_ret
        exact ⟨by rw [← F.out]; rfl, L1.out⟩
      · have t1 : (s.toList == x.toList) = false := by rw [ba_eq]; exact decide_eq_false he
        have A2 : Hid (∀ i s, i < k + 1 → vs[i]? = some s → s ≠ x) := by
          intro i s' hi hs'
          by_cases e : i = k
          · subst e
            rw [HX.out] at hs'
            simp only [Option.some.injEq] at hs'
            subst hs'
            exact he
          · exact A.out i s' (by omega) hs'
        clear he
        go_wp2
        go_roundg (vn - (k + 1))
        case measure => omega
        case rel => exact ⟨k + 1, by omega, by omega, by go_num, rfl, A2⟩
    · have F : Hid (false = ans) := by rw [← HA.out]; exact (any_none A.out (by rw [HL.out]; omega)).symm
      clear A
      go_wp2
      go_ret
      exact ⟨by rw [← F.out]; rfl, L1.out⟩

set_option maxHeartbeats 4000000 in
theorem reval_5 (l : List Lb) (m : Mt) (ih : ∀ k ∈ m.ks, EvR l k) (S : Nat → Prop) (nm vl : ByteArray) (va : Option Addr) (vn vc : Nat) (ka : Option Addr) (kn kc : Nat) (al : Option Addr) (nl cl : Nat) (w : World) (q : SeeM S w m ⟨5, nm, vl, va, vn, vc, ka, kn, kc⟩) (ok : okM m) (hr : RowL w al nl l) :
    Calls Tryz.prog 26 #[.agg #[.int .i64 5, .string nm, .string vl, .slice va vn vc, .slice ka kn kc], .slice al nl cl] w fun e w' => e = .returned (.bool (m.ks.all (evalM l))) ∧ Below w.heap.size w w' := by
  obtain ⟨-, -, -, hw, -, hk, -⟩ := seeM_iff.1 q
  dsimp only at hk
  have w1 : nm.size ≤ 9223372036854775807 := hw.nm
  have w2 : vl.size ≤ 9223372036854775807 := hw.vl
  have w4 : kn * 88 ≤ 140737488355328 := hw.kn
  obtain ⟨W, hW⟩ : ∃ W, Hid (w.alloc (.cells #[.int .i64 5, .string nm, .string vl, .slice va vn vc, .slice ka kn kc] 26) = W) := ⟨_, rfl⟩
  have LW : Hid (Below w.heap.size w W) := by rw [← hW.out]; exact (Below.refl _ _).alloc (Nat.le_refl _) _
  have B : Hid (BoxM W w.heap.size ⟨5, nm, vl, va, vn, vc, ka, kn, kc⟩) := by rw [← hW.out]; exact boxM_new w ⟨5, nm, vl, va, vn, vc, ka, kn, kc⟩
  have T := hide (quietB (refval_any al nl cl l nm W (hr.below LW.out (Nat.le_refl _))))
  obtain ⟨b0, b1, b2, b3, b4, _⟩ := B.out.all
  dsimp only at b0 b1 b2 b3 b4
  have HKL := hide hk
  have IH := hide ih
  have OK := hide ok
  have HQ := hide q
  have HR := hide hr
  obtain ⟨ans, HA⟩ : ∃ ans, Hid (m.ks.all (evalM l) = ans) := ⟨_, rfl⟩
  rw [HA.out]
  clear ih ok q hr hk hw
  go_enter Tryz.func26, Tryz.ntmps26
  go_upto_region 1 with fail
  rw [hW.out]
  clear hW
  go_wp2_with fail
  with_reducible refine T.out.mono ?_
  rintro e v1 ⟨rfl, k1⟩
  have L1 := hide (bel_to LW.out (Nat.le_refl _) k1)
  have B1 := hide (B.out.block (k1.block _ B.out.lt))
  clear T k1 b0 b1 b2 b3 b4 B LW
  obtain ⟨b0, b1, b2, b3, b4, _⟩ := B1.out.all
  dsimp only at b0 b1 b2 b3 b4
  go_wp2
  go_loopw [7] (fun i wr => ∃ k : Nat, k ≤ kn ∧ i = .int .i64 k ∧ Hid (BoxM wr w.heap.size ⟨5, nm, vl, va, vn, vc, ka, kn, kc⟩) ∧ Hid (Below w.heap.size w wr) ∧ Hid (∀ i x, i < k → m.ks[i]? = some x → evalM l x = true)) (fun i _ => kn - (intOf i).toNat)
  case atStart => exact ⟨0, by omega, rfl, B1, L1, fun i x hi => absurd hi (Nat.not_lt_zero _)⟩
  case round =>
    obtain ⟨k, hk, rfl, HB, HL, A⟩ := hrel
    obtain ⟨v, rfl⟩ : ∃ v, v = wr := ⟨wr, rfl⟩
    clear b0 b1 b2 b3 b4 B1 L1
    obtain ⟨b0, b1, b2, b3, b4, _⟩ := HB.out.all
    dsimp only at b0 b1 b2 b3 b4
    by_cases hlt : k < kn
    · obtain ⟨x1, y1, kd, h', e, hkd, -, q5, qk⟩ := (HQ.out.below HL.out).kid hlt
      obtain ⟨p0, p1, p2, p3, p4, p5, p6, p7, p8⟩ := h'
      dsimp only at e
      subst e
      obtain ⟨g0, g1, g2, g3, g4⟩ := q5.all
      dsimp only at g0 g1 g2 g3 g4
      have i1 : (0 : Int) ≤ (k : Int) := by omega
      have i2 : (k : Int) < (kn : Int) := by omega
      have hkm := List.mem_of_getElem? hkd
      have HX := hide hkd
      have T := hide (IH.out kd hkm S _ al nl cl v.drew qk.drew (OK.out.kid hkm) (HR.out.below HL.out.drew (Nat.le_refl _)))
      dsimp only at T
      have S0 : Hid ((v.drew.cell? ⟨w.heap.size, 0, none⟩ = some (.int .i64 5) ∧ v.drew.cell? ⟨w.heap.size, 4, none⟩ = some (.slice (some ⟨x1, y1, none⟩) kn kc)) ∧ (v.drew.cell? ⟨x1, y1 + k * 5, none⟩ = some (.int .i64 p0) ∧ v.drew.cell? ⟨x1, y1 + k * 5 + 1, none⟩ = some (.string p1) ∧ v.drew.cell? ⟨x1, y1 + k * 5 + 2, none⟩ = some (.string p2) ∧ v.drew.cell? ⟨x1, y1 + k * 5 + 3, none⟩ = some (.slice p3 p4 p5) ∧ v.drew.cell? ⟨x1, y1 + k * 5 + 4, none⟩ = some (.slice p6 p7 p8)) ∧ Hid (w.heap.size ≤ v.drew.heap.size ∧ Below w.heap.size w v.drew)) := ⟨⟨b0, b4⟩, ⟨g0, g1, g2, g3, g4⟩, HL.out.size, HL.out.drew⟩
      clear hkd q5 qk hkm
      go_upto_region 23 with fail
      clear b0 b1 b2 b3 b4 g0 g1 g2 g3 g4
      go_region_held3 (fun w' => (w'.cell? ⟨w.heap.size, 0, none⟩ = some (.int .i64 5) ∧ w'.cell? ⟨w.heap.size, 4, none⟩ = some (.slice (some ⟨x1, y1, none⟩) kn kc)) ∧ (w'.cell? ⟨x1, y1 + k * 5, none⟩ = some (.int .i64 p0) ∧ w'.cell? ⟨x1, y1 + k * 5 + 1, none⟩ = some (.string p1) ∧ w'.cell? ⟨x1, y1 + k * 5 + 2, none⟩ = some (.string p2) ∧ w'.cell? ⟨x1, y1 + k * 5 + 3, none⟩ = some (.slice p3 p4 p5) ∧ w'.cell? ⟨x1, y1 + k * 5 + 4, none⟩ = some (.slice p6 p7 p8)) ∧ Hid (w.heap.size ≤ w'.heap.size ∧ Below w.heap.size w w')) (first | with_reducible exact S0.out | with_reducible exact keep7c (by assumption) (by assumption)) (first
        | (go_at_call 26; (with_reducible refine T.out.mono ?_); rintro e v2 ⟨rfl, bv2⟩))
      have BV : Hid (Below w.heap.size w v2) := bel_to HL.out.drew (Nat.le_refl _) bv2
      have HB3 := hide (HB.out.drew.block (bv2.block _ HB.out.drew.lt))
      clear bv2 S0 T
      obtain ⟨b0, b1, b2, b3, b4, _⟩ := HB3.out.all
      dsimp only at b0 b1 b2 b3 b4
      cases hev : evalM l kd with
      | true =>
        have A2 : Hid (∀ i x, i < k + 1 → m.ks[i]? = some x → evalM l x = true) := by
          intro i x hi hx
          by_cases e : i = k
          · subst e
            rw [HX.out] at hx
            simp only [Option.some.injEq] at hx
            subst hx
            exact hev
          · exact A.out i x (by omega) hx
        clear hev
        go_wp2
        go_roundw
        case rel => exact ⟨k + 1, by omega, by go_num, HB3, BV, A2⟩
        case measure => simp [intOf]; omega
      | false =>
        have FA : Hid (false = ans) := by
          rw [← HA.out]
          have : m.ks.all (evalM l) = false := by
            rw [Bool.eq_false_iff]
            intro e
            have := List.all_eq_true.1 e kd (List.mem_of_getElem? HX.out)
            rw [hev] at this
            cases this
          exact this.symm
        clear hev
        go_wp2
        go_ret
        exact ⟨by rw [← FA.out]; rfl, BV.out⟩
    · have FA : Hid (true = ans) := by
        rw [← HA.out]
        refine (List.all_eq_true.2 fun x hx => ?_).symm
        obtain ⟨i, hi⟩ := List.getElem?_of_mem hx
        exact A.out i x (by have := (List.getElem?_eq_some_iff.1 hi).1; rw [HKL.out] at this; omega) hi
      clear A
      go_wp2
      go_ret
      exact ⟨by rw [← FA.out]; rfl, HL.out⟩

set_option maxHeartbeats 4000000 in
theorem reval_6 (l : List Lb) (m : Mt) (ih : ∀ k ∈ m.ks, EvR l k) (S : Nat → Prop) (nm vl : ByteArray) (va : Option Addr) (vn vc : Nat) (ka : Option Addr) (kn kc : Nat) (al : Option Addr) (nl cl : Nat) (w : World) (q : SeeM S w m ⟨6, nm, vl, va, vn, vc, ka, kn, kc⟩) (ok : okM m) (hr : RowL w al nl l) :
    Calls Tryz.prog 26 #[.agg #[.int .i64 6, .string nm, .string vl, .slice va vn vc, .slice ka kn kc], .slice al nl cl] w fun e w' => e = .returned (.bool (m.ks.any (evalM l))) ∧ Below w.heap.size w w' := by
  obtain ⟨-, -, -, hw, -, hk, -⟩ := seeM_iff.1 q
  dsimp only at hk
  have w1 : nm.size ≤ 9223372036854775807 := hw.nm
  have w2 : vl.size ≤ 9223372036854775807 := hw.vl
  have w4 : kn * 88 ≤ 140737488355328 := hw.kn
  obtain ⟨W, hW⟩ : ∃ W, Hid (w.alloc (.cells #[.int .i64 6, .string nm, .string vl, .slice va vn vc, .slice ka kn kc] 26) = W) := ⟨_, rfl⟩
  have LW : Hid (Below w.heap.size w W) := by rw [← hW.out]; exact (Below.refl _ _).alloc (Nat.le_refl _) _
  have B : Hid (BoxM W w.heap.size ⟨6, nm, vl, va, vn, vc, ka, kn, kc⟩) := by rw [← hW.out]; exact boxM_new w ⟨6, nm, vl, va, vn, vc, ka, kn, kc⟩
  have T := hide (quietB (refval_any al nl cl l nm W (hr.below LW.out (Nat.le_refl _))))
  obtain ⟨b0, b1, b2, b3, b4, _⟩ := B.out.all
  dsimp only at b0 b1 b2 b3 b4
  have HKL := hide hk
  have IH := hide ih
  have OK := hide ok
  have HQ := hide q
  have HR := hide hr
  obtain ⟨ans, HA⟩ : ∃ ans, Hid (m.ks.any (evalM l) = ans) := ⟨_, rfl⟩
  rw [HA.out]
  clear ih ok q hr hk hw
  go_enter Tryz.func26, Tryz.ntmps26
  go_upto_region 1 with fail
  rw [hW.out]
  clear hW
  go_wp2_with fail
  with_reducible refine T.out.mono ?_
  rintro e v1 ⟨rfl, k1⟩
  have L1 := hide (bel_to LW.out (Nat.le_refl _) k1)
  have B1 := hide (B.out.block (k1.block _ B.out.lt))
  clear T k1 b0 b1 b2 b3 b4 B LW
  obtain ⟨b0, b1, b2, b3, b4, _⟩ := B1.out.all
  dsimp only at b0 b1 b2 b3 b4
  go_wp2
  go_loopw [7] (fun i wr => ∃ k : Nat, k ≤ kn ∧ i = .int .i64 k ∧ Hid (BoxM wr w.heap.size ⟨6, nm, vl, va, vn, vc, ka, kn, kc⟩) ∧ Hid (Below w.heap.size w wr) ∧ Hid (∀ i x, i < k → m.ks[i]? = some x → evalM l x = false)) (fun i _ => kn - (intOf i).toNat)
  case atStart => exact ⟨0, by omega, rfl, B1, L1, fun i x hi => absurd hi (Nat.not_lt_zero _)⟩
  case round =>
    obtain ⟨k, hk, rfl, HB, HL, A⟩ := hrel
    obtain ⟨v, rfl⟩ : ∃ v, v = wr := ⟨wr, rfl⟩
    clear b0 b1 b2 b3 b4 B1 L1
    obtain ⟨b0, b1, b2, b3, b4, _⟩ := HB.out.all
    dsimp only at b0 b1 b2 b3 b4
    by_cases hlt : k < kn
    · obtain ⟨x1, y1, kd, h', e, hkd, -, q5, qk⟩ := (HQ.out.below HL.out).kid hlt
      obtain ⟨p0, p1, p2, p3, p4, p5, p6, p7, p8⟩ := h'
      dsimp only at e
      subst e
      obtain ⟨g0, g1, g2, g3, g4⟩ := q5.all
      dsimp only at g0 g1 g2 g3 g4
      have i1 : (0 : Int) ≤ (k : Int) := by omega
      have i2 : (k : Int) < (kn : Int) := by omega
      have hkm := List.mem_of_getElem? hkd
      have HX := hide hkd
      have T := hide (IH.out kd hkm S _ al nl cl v.drew qk.drew (OK.out.kid hkm) (HR.out.below HL.out.drew (Nat.le_refl _)))
      dsimp only at T
      have S0 : Hid ((v.drew.cell? ⟨w.heap.size, 0, none⟩ = some (.int .i64 6) ∧ v.drew.cell? ⟨w.heap.size, 4, none⟩ = some (.slice (some ⟨x1, y1, none⟩) kn kc)) ∧ (v.drew.cell? ⟨x1, y1 + k * 5, none⟩ = some (.int .i64 p0) ∧ v.drew.cell? ⟨x1, y1 + k * 5 + 1, none⟩ = some (.string p1) ∧ v.drew.cell? ⟨x1, y1 + k * 5 + 2, none⟩ = some (.string p2) ∧ v.drew.cell? ⟨x1, y1 + k * 5 + 3, none⟩ = some (.slice p3 p4 p5) ∧ v.drew.cell? ⟨x1, y1 + k * 5 + 4, none⟩ = some (.slice p6 p7 p8)) ∧ Hid (w.heap.size ≤ v.drew.heap.size ∧ Below w.heap.size w v.drew)) := ⟨⟨b0, b4⟩, ⟨g0, g1, g2, g3, g4⟩, HL.out.size, HL.out.drew⟩
      clear hkd q5 qk hkm
      go_upto_region 23 with fail
      clear b0 b1 b2 b3 b4 g0 g1 g2 g3 g4
      go_region_held3 (fun w' => (w'.cell? ⟨w.heap.size, 0, none⟩ = some (.int .i64 6) ∧ w'.cell? ⟨w.heap.size, 4, none⟩ = some (.slice (some ⟨x1, y1, none⟩) kn kc)) ∧ (w'.cell? ⟨x1, y1 + k * 5, none⟩ = some (.int .i64 p0) ∧ w'.cell? ⟨x1, y1 + k * 5 + 1, none⟩ = some (.string p1) ∧ w'.cell? ⟨x1, y1 + k * 5 + 2, none⟩ = some (.string p2) ∧ w'.cell? ⟨x1, y1 + k * 5 + 3, none⟩ = some (.slice p3 p4 p5) ∧ w'.cell? ⟨x1, y1 + k * 5 + 4, none⟩ = some (.slice p6 p7 p8)) ∧ Hid (w.heap.size ≤ w'.heap.size ∧ Below w.heap.size w w')) (first | with_reducible exact S0.out | with_reducible exact keep7c (by assumption) (by assumption)) (first
        | (go_at_call 26; (with_reducible refine T.out.mono ?_); rintro e v2 ⟨rfl, bv2⟩))
      have BV : Hid (Below w.heap.size w v2) := bel_to HL.out.drew (Nat.le_refl _) bv2
      have HB3 := hide (HB.out.drew.block (bv2.block _ HB.out.drew.lt))
      clear bv2 S0 T
      obtain ⟨b0, b1, b2, b3, b4, _⟩ := HB3.out.all
      dsimp only at b0 b1 b2 b3 b4
      cases hev : evalM l kd with
      | false =>
        have A2 : Hid (∀ i x, i < k + 1 → m.ks[i]? = some x → evalM l x = false) := by
          intro i x hi hx
          by_cases e : i = k
          · subst e
            rw [HX.out] at hx
            simp only [Option.some.injEq] at hx
            subst hx
            exact hev
          · exact A.out i x (by omega) hx
        clear hev
        go_wp2
        go_roundw
        case rel => exact ⟨k + 1, by omega, by go_num, HB3, BV, A2⟩
        case measure => simp [intOf]; omega
      | true =>
        have FA : Hid (true = ans) := by
          rw [← HA.out]
          exact (List.any_eq_true.2 ⟨kd, List.mem_of_getElem? HX.out, hev⟩).symm
        clear hev
        go_wp2
        go_ret
        exact ⟨by rw [← FA.out]; rfl, BV.out⟩
    · have FA : Hid (false = ans) := by
        rw [← HA.out]
        have : m.ks.any (evalM l) = false := by
          rw [Bool.eq_false_iff]
          intro e
          obtain ⟨x, hx, hv⟩ := List.any_eq_true.1 e
          obtain ⟨i, hi⟩ := List.getElem?_of_mem hx
          rw [A.out i x (by have := (List.getElem?_eq_some_iff.1 hi).1; rw [HKL.out] at this; omega) hi] at hv
          cases hv
        exact this.symm
      clear A
      go_wp2
      go_ret
      exact ⟨by rw [← FA.out]; rfl, HL.out⟩

set_option maxHeartbeats 4000000 in
theorem reval_7 (l : List Lb) (m : Mt) (ih : ∀ k ∈ m.ks, EvR l k) (S : Nat → Prop) (nm vl : ByteArray) (va : Option Addr) (vn vc : Nat) (ka : Option Addr) (kn kc : Nat) (al : Option Addr) (nl cl : Nat) (w : World) (q : SeeM S w m ⟨7, nm, vl, va, vn, vc, ka, kn, kc⟩) (ok : okM m) (hr : RowL w al nl l) :
    Calls Tryz.prog 26 #[.agg #[.int .i64 7, .string nm, .string vl, .slice va vn vc, .slice ka kn kc], .slice al nl cl] w fun e w' => e = .returned (.bool (evalM l m)) ∧ Below w.heap.size w w' := by
  obtain ⟨-, -, -, hw, -, hk, -⟩ := seeM_iff.1 q
  dsimp only at hk
  have w1 : nm.size ≤ 9223372036854775807 := hw.nm
  have w2 : vl.size ≤ 9223372036854775807 := hw.vl
  have w4 : kn * 88 ≤ 140737488355328 := hw.kn
  obtain ⟨W, hW⟩ : ∃ W, Hid (w.alloc (.cells #[.int .i64 7, .string nm, .string vl, .slice va vn vc, .slice ka kn kc] 26) = W) := ⟨_, rfl⟩
  have LW : Hid (Below w.heap.size w W) := by rw [← hW.out]; exact (Below.refl _ _).alloc (Nat.le_refl _) _
  have B : Hid (BoxM W w.heap.size ⟨7, nm, vl, va, vn, vc, ka, kn, kc⟩) := by rw [← hW.out]; exact boxM_new w ⟨7, nm, vl, va, vn, vc, ka, kn, kc⟩
  have T := hide (quietB (refval_any al nl cl l nm W (hr.below LW.out (Nat.le_refl _))))
  obtain ⟨b0, b1, b2, b3, b4, _⟩ := B.out.all
  dsimp only at b0 b1 b2 b3 b4
  have hk1 : kn = 1 := by
    rcases fit_names ok.fit with ⟨h, -⟩ | ⟨h, -⟩ | ⟨h, -⟩ | ⟨-, -, -, -, h⟩
    · have := (seeM_iff.1 q).1; dsimp only at this; omega
    · have := (seeM_iff.1 q).1; dsimp only at this; omega
    · have := (seeM_iff.1 q).1; dsimp only at this; omega
    · rw [← hk]; exact h (seeM_iff.1 q).1.symm
  obtain ⟨kd, hkd⟩ : ∃ kd, m.ks = [kd] := by
    match hm : m.ks, (show m.ks.length = 1 by omega) with
    | [k], _ => exact ⟨k, rfl⟩
  have HE : Hid (evalM l m = !evalM l kd) := by
    show _ = _
    rw [evalM_eq, show m.op = 7 from (seeM_iff.1 q).1.symm, if_neg (by decide), if_neg (by decide), if_neg (by decide), if_neg (by decide), if_neg (by decide), if_neg (by decide), if_neg (by decide), if_pos rfl, hkd]
  have IH := hide ih
  have OK := hide ok
  have HQ := hide q
  have HR := hide hr
  have HKD := hide hkd
  rw [HE.out]
  obtain ⟨a, HAE⟩ : ∃ a, Hid (evalM l kd = a) := ⟨_, rfl⟩
  rw [HAE.out]
  have i2 : (0 : Int) < (kn : Int) := by omega
  clear ih ok q hr hk hw hkd hk1
  go_enter Tryz.func26, Tryz.ntmps26
  go_upto_region 1 with fail
  rw [hW.out]
  clear hW
  go_wp2_with fail
  with_reducible refine T.out.mono ?_
  rintro e v1 ⟨rfl, k1⟩
  have L1 := hide (bel_to LW.out (Nat.le_refl _) k1)
  have B1 := hide (B.out.block (k1.block _ B.out.lt))
  clear T k1 b0 b1 b2 b3 b4 B LW
  obtain ⟨b0, b1, b2, b3, b4, _⟩ := B1.out.all
  dsimp only at b0 b1 b2 b3 b4
  obtain ⟨x1, y1, kd2, h', e, hkd, -, q5, qk⟩ := (HQ.out.below L1.out).kid (i := 0) (show 0 < kn by omega)
  obtain ⟨p0, p1, p2, p3, p4, p5, p6, p7, p8⟩ := h'
  dsimp only at e
  subst e
  rw [HKD.out] at hkd
  simp only [List.getElem?_cons_zero, Option.some.injEq] at hkd
  subst hkd
  obtain ⟨g0, g1, g2, g3, g4⟩ := q5.all
  dsimp only at g0 g1 g2 g3 g4
  simp only [Nat.zero_mul, Nat.add_zero] at g0 g1 g2 g3 g4
  have hkm : kd ∈ m.ks := by rw [HKD.out]; simp
  have T := hide (IH.out kd hkm S _ al nl cl v1 qk (OK.out.kid hkm) (HR.out.below L1.out (Nat.le_refl _)))
  dsimp only at T
  rw [HAE.out] at T
  clear q5 qk hkm
  go_wp2_with fail
  with_reducible refine T.out.mono ?_
  rintro e v2 ⟨rfl, bv⟩
  have L2 := hide (bel_to L1.out (Nat.le_refl _) bv)
  clear T bv b0 b1 b2 b3 b4 g0 g1 g2 g3 g4
  go_wp2
  go_ret
  exact ⟨rfl, L2.out⟩

theorem reval_any (l : List Lb) (m : Mt) : EvR l m := by
  refine Mt.ind (P := EvR l) ?_ m
  intro m ih S h al nl cl w q ok hr
  obtain ⟨op, nm, vl, va, vn, vc, ka, kn, kc⟩ := h
  obtain ⟨e1, e2, e3, hw, hv, hk, -⟩ := seeM_iff.1 q
  dsimp only at e1 e2 e3 hv hk ⊢
  have ho := ok.op
  rw [← e1] at ho
  by_cases h7 : op = 7
  · subst h7
    exact reval_7 l m ih S nm vl va vn vc ka kn kc al nl cl w q ok hr
  · rw [evalM_eq, ← e1, ← e2, ← e3]
    rcases ho with rfl | rfl | rfl | rfl | rfl | rfl | rfl | rfl
    · rw [if_pos rfl]
      exact reval_0 l nm vl va vn vc ka kn kc al nl cl w hw hr
    · rw [if_neg (by decide), if_pos rfl]
      exact reval_1 l nm vl va vn vc ka kn kc al nl cl w hw hr
    · rw [if_neg (by decide), if_neg (by decide), if_pos rfl]
      exact reval_2 l nm vl va vn vc ka kn kc al nl cl w hw hr
    · rw [if_neg (by decide), if_neg (by decide), if_neg (by decide), if_pos rfl]
      exact reval_3 l nm vl va vn vc ka kn kc al nl cl w hw hr
    · rw [if_neg (by decide), if_neg (by decide), if_neg (by decide), if_neg (by decide), if_pos rfl]
      exact reval_4 l S m.vs nm vl va vn vc ka kn kc al nl cl w hw hr hv
    · rw [if_neg (by decide), if_neg (by decide), if_neg (by decide), if_neg (by decide), if_neg (by decide), if_pos rfl]
      exact reval_5 l m ih S nm vl va vn vc ka kn kc al nl cl w q ok hr
    · rw [if_neg (by decide), if_neg (by decide), if_neg (by decide), if_neg (by decide), if_neg (by decide), if_neg (by decide), if_pos rfl]
      exact reval_6 l m ih S nm vl va vn vc ka kn kc al nl cl w q ok hr
    · exact absurd rfl h7
end Go.Proofs.YtpffhpnmbpjifaaGreat
