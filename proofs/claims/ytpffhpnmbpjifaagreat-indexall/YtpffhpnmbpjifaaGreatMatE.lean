/-
  The program's own Eval of a matcher (eval, count; strings.HasPrefix, slices.Contains): contracts, for every world; what was there before stays (written by gen/mate.gen.py).
  Conditions: the matcher and the labels lie in memory; all its parts fit.
-/
import Derived.Test.YtpffhpnmbpjifaaGreatMatDb
import Derived.Deep.RegionHeld3
namespace Go.Proofs.YtpffhpnmbpjifaaGreat
open Go.RowKit
set_option maxRecDepth 20000

/-- All its parts fit, in some room. -/
def okM (m : Mt) : Prop := ∃ d n b r, lookF m d n b = some r
theorem okM.fit {m : Mt} (h : okM m) : fitB m = true := by
  obtain ⟨d, n, b, r, h⟩ := h
  exact (lookF_some h).2.2.1
theorem okM.kid {m k : Mt} (h : okM m) (hk : k ∈ m.ks) : okM k := by
  obtain ⟨d, n, b, r, h⟩ := h
  have h3 := (lookF_some h).2.2.2.2
  have key : ∀ (ks : List Mt) (n b : Nat), k ∈ ks → lookKs ks (d + 1) n b = some r → okM k := by
    intro ks
    induction ks with
    | nil => intro n b hk; cases hk
    | cons x t ih =>
      intro n b hk h
      obtain ⟨r', hx, ht⟩ := lookKs_cons h
      rcases List.mem_cons.1 hk with rfl | hk
      · exact ⟨_, _, _, _, hx⟩
      · exact ih _ _ hk ht
  exact key _ _ _ hk h3
theorem okM_of {m : Mt} (h : chkM m = true) : okM m := by
  obtain ⟨r, hr⟩ := Option.isSome_iff_exists.1 (show (lookF m 1 0 0).isSome = true from h)
  exact ⟨_, _, _, _, hr⟩
theorem okM.op {m : Mt} (h : okM m) : m.op = 0 ∨ m.op = 1 ∨ m.op = 2 ∨ m.op = 3 ∨ m.op = 4 ∨ m.op = 5 ∨ m.op = 6 ∨ m.op = 7 := by
  rcases fit_names h.fit with ⟨h, -⟩ | ⟨h, -⟩ | ⟨h, -⟩ | ⟨h, -⟩ <;> omega
theorem evalM_eq (l : List Lb) (m : Mt) : evalM l m = (if m.op = 0 then true
    else if m.op = 1 then decide (valL l m.nm = m.vl)
    else if m.op = 2 then decide (valL l m.nm ≠ m.vl)
    else if m.op = 3 then m.vl.toList.isPrefixOf (valL l m.nm).toList
    else if m.op = 4 then m.vs.any fun v => decide (v = valL l m.nm)
    else if m.op = 5 then m.ks.all (evalM l)
    else if m.op = 6 then m.ks.any (evalM l)
    else if m.op = 7 then (match m.ks with
      | [] => false
      | k :: _ => !evalM l k)
    else false) := by
  cases m with
  | mk op nm vl vs ks =>
    rw [evalM.eq_def]
    simp only [allM_iff, oneM_iff]
    rfl
/-- So many kids say yes. -/
def cntM (l : List Lb) (ks : List Mt) : Nat := ks.countP (evalM l)
theorem cnt_take {l : List Lb} {ks : List Mt} {k : Nat} {x : Mt} (h : ks[k]? = some x) : cntM l (ks.take (k + 1)) = cntM l (ks.take k) + (if evalM l x then 1 else 0) := by
  unfold cntM
  rw [take_kid h, List.countP_append, List.countP_singleton]
theorem cnt_all (l : List Lb) (ks : List Mt) : ((cntM l ks : Int) == (ks.length : Int)) = ks.all (evalM l) := by
  unfold cntM
  rw [Bool.eq_iff_iff, beq_iff_eq, List.all_eq_true]
  have := List.countP_eq_length (p := evalM l) (l := ks)
  constructor
  · intro h
    exact this.1 (by omega)
  · intro h
    have := this.2 h
    omega
theorem cnt_one (l : List Lb) (ks : List Mt) : decide ((0 : Int) < (cntM l ks : Int)) = ks.any (evalM l) := by
  unfold cntM
  rw [Bool.eq_iff_iff, decide_eq_true_eq, List.any_eq_true]
  have := List.countP_pos_iff (p := evalM l) (l := ks)
  constructor
  · intro h
    exact this.1 (by omega)
  · intro h
    have := this.2 h
    omega

theorem keep1c {w v v' : World} {B : Nat} {p1 : Addr} {x1 : Value} (hb : Below v.heap.size v v')
    (h : v.cell? p1 = some x1 ∧ Hid (B ≤ v.heap.size ∧ Below B w v)) : v'.cell? p1 = some x1 ∧ Hid (B ≤ v'.heap.size ∧ Below B w v') := by
  obtain ⟨c1, l1, l2⟩ := h
  refine ⟨?_, Nat.le_trans l1 hb.size, l2.trans (hb.mono l1)⟩
  rw [hb.cell (World.block_lt_of_cell? v _ c1)]; exact c1
theorem keep2c {w v v' : World} {B : Nat} {p1 p2 : Addr} {x1 x2 : Value} (hb : Below v.heap.size v v')
    (h : v.cell? p1 = some x1 ∧ v.cell? p2 = some x2 ∧ Hid (B ≤ v.heap.size ∧ Below B w v)) : v'.cell? p1 = some x1 ∧ v'.cell? p2 = some x2 ∧ Hid (B ≤ v'.heap.size ∧ Below B w v') := by
  obtain ⟨c1, c2, l1, l2⟩ := h
  refine ⟨?_, ?_, Nat.le_trans l1 hb.size, l2.trans (hb.mono l1)⟩
  · rw [hb.cell (World.block_lt_of_cell? v _ c1)]; exact c1
  · rw [hb.cell (World.block_lt_of_cell? v _ c2)]; exact c2

set_option maxHeartbeats 2000000 in
theorem haspre0_any (s p : ByteArray) (w : World) :
    Calls Tryz.prog 67 #[.string s, .string p] w fun e w' => e = .returned (.bool (p.toList.isPrefixOf s.toList)) ∧ w' = w := by
  by_cases h1 : p.size ≤ s.size
  · have i1 : (p.size : Int) ≤ (s.size : Int) := by omega
    have E : Hid (p.toList.isPrefixOf s.toList = ((s.extract 0 p.size).toList == p.toList)) := by
      show _ = _
      rw [ByteArray.toList_eq (s.extract 0 p.size), ByteArray.data_extract, Array.toList_extract]
      simp only [List.extract_eq_take_drop, Nat.sub_zero, List.drop_zero]
      rw [← ByteArray.toList_eq s, Bool.eq_iff_iff, List.isPrefixOf_iff_prefix, List.prefix_iff_eq_take, beq_iff_eq, ba_len]
      exact eq_comm
    rw [E.out]
    clear E
    go_enter Tryz.func67, Tryz.ntmps67
    go_wp2
    go_ret
    exact ⟨rfl, rfl⟩
  · have i1 : ¬ (p.size : Int) ≤ (s.size : Int) := by omega
    have E : Hid (p.toList.isPrefixOf s.toList = false) := by
      show _ = _
      rw [Bool.eq_false_iff]
      intro h
      have := (List.isPrefixOf_iff_prefix.1 h).length_le
      rw [ba_len, ba_len] at this
      exact h1 this
    rw [E.out]
    clear E h1
    go_enter Tryz.func67, Tryz.ntmps67
    go_wp2
    go_ret
    exact ⟨rfl, rfl⟩
theorem haspre_any (s p : ByteArray) (w : World) :
    Calls Tryz.prog 53 #[.string s, .string p] w fun e w' => e = .returned (.bool (p.toList.isPrefixOf s.toList)) ∧ w' = w := by
  have T := hide (haspre0_any s p w)
  generalize p.toList.isPrefixOf s.toList = r at *
  go_enter Tryz.func53, Tryz.ntmps53
  go_wp2_with fail
  with_reducible refine T.out.mono ?_
  rintro e w' ⟨rfl, hw⟩
  rw [hw]
  go_wp2
  go_ret
  exact ⟨rfl, rfl⟩

/-- Where a text first stands. -/
theorem any_none {vs : List ByteArray} {x : ByteArray} {k : Nat} (h : ∀ i s, i < k → vs[i]? = some s → s ≠ x) (hk : vs.length ≤ k) : (vs.any fun v => decide (v = x)) = false := by
  rw [Bool.eq_false_iff]
  intro e
  obtain ⟨v, hv, hx⟩ := List.any_eq_true.1 e
  obtain ⟨i, hi⟩ := List.getElem?_of_mem hv
  exact h i v (by have := (List.getElem?_eq_some_iff.1 hi).1; omega) hi (of_decide_eq_true hx)
set_option maxHeartbeats 2000000 in
theorem indexS_any (S : Nat → Prop) (a : Option Addr) (n cap : Nat) (vs : List ByteArray) (x : ByteArray) (w : World) (hr : TxR S w a n vs) :
    Calls Tryz.prog 68 #[.slice a n cap, .string x] w fun e w' => ∃ z : Int, e = .returned (.int .i64 z) ∧ decide (0 ≤ z) = (vs.any fun v => decide (v = x)) ∧ w' = w := by
  have hn := hr.2.1
  have HR := hide hr
  have HL := hide hr.1
  obtain ⟨ans, HA⟩ : ∃ ans, Hid ((vs.any fun v => decide (v = x)) = ans) := ⟨_, rfl⟩
  rw [HA.out]
  clear hr
  go_enter Tryz.func68, Tryz.ntmps68
  go_wp2
  go_loopg [8] n (fun g i wr => ∃ k : Nat, k ≤ n ∧ n - k ≤ g ∧ i = .int .i64 k ∧ wr = w ∧ Hid (∀ i s, i < k → vs[i]? = some s → s ≠ x))
  case atStart => exact ⟨0, Nat.zero_le _, by omega, rfl, rfl, fun i s hi => absurd hi (Nat.not_lt_zero _)⟩
  case round =>
    obtain ⟨k, hk, hg, rfl, rfl, A⟩ := hrel
    by_cases hlt : k < n
    · obtain ⟨b1, o1, s, rfl, hs, hsz, -, f0⟩ := HR.out.at' hlt
      have i1 : (0 : Int) ≤ (k : Int) := by omega
      have i2 : (k : Int) < (n : Int) := by omega
      have HX := hide hs
      clear hs
      by_cases he : s = x
      · have t1 : (x.toList == s.toList) = true := by rw [ba_eq]; exact decide_eq_true he.symm
        have F : Hid (true = ans) := by rw [← HA.out]; exact (List.any_eq_true.2 ⟨s, List.mem_of_getElem? HX.out, decide_eq_true he⟩).symm
        clear he
        go_wp2
        go_ret
        exact ⟨_, rfl, by rw [← F.out]; exact decide_eq_true (by omega), rfl⟩
      · have t1 : (x.toList == s.toList) = false := by rw [ba_eq]; exact decide_eq_false (fun e => he e.symm)
        have A2 : Hid (∀ i s, i < k + 1 → vs[i]? = some s → s ≠ x) := by
          intro i s' hi hs'
          by_cases e : i = k
          · subst e
            rw [HX.out] at hs'
            simp only [Option.some.injEq] at hs'
            subst hs'
            exact he
          · exact A.out i s' (by omega) hs'
        clear he
        go_wp2
        go_roundg (n - (k + 1))
        case measure => omega
        case rel => exact ⟨k + 1, by omega, by omega, by go_num, rfl, A2⟩
    · have F : Hid (false = ans) := by rw [← HA.out]; exact (any_none A.out (by rw [HL.out]; omega)).symm
      have : k = n := by omega
      clear A
      go_wp2
      go_ret
      exact ⟨_, rfl, by rw [← F.out]; rfl, rfl⟩
theorem contS_any (S : Nat → Prop) (a : Option Addr) (n cap : Nat) (vs : List ByteArray) (x : ByteArray) (w : World) (hr : TxR S w a n vs) :
    Calls Tryz.prog 54 #[.slice a n cap, .string x] w fun e w' => e = .returned (.bool (vs.any fun v => decide (v = x))) ∧ w' = w := by
  have T := hide (indexS_any S a n cap vs x w hr)
  generalize (vs.any fun v => decide (v = x)) = ans at *
  clear hr
  go_enter Tryz.func54, Tryz.ntmps54
  go_wp2_with fail
  with_reducible refine T.out.mono ?_
  rintro e w' ⟨z, rfl, hz, hw⟩
  rw [hw]
  have HZ := hide hz
  clear hz
  go_wp2
  go_ret
  exact ⟨by rw [← HZ.out]; rfl, rfl⟩

/-- What eval tells of a matcher. -/
def EvP (l : List Lb) (m : Mt) : Prop := ∀ (S : Nat → Prop) (h : Hm) (al : Option Addr) (nl cl : Nat) (w : World), SeeM S w m h → okM m → RowL w al nl l →
    Calls Tryz.prog 29 #[.agg #[.int .i64 h.op, .string h.nm, .string h.vl, .slice h.va h.vn h.vc, .slice h.ka h.kn h.kc], .slice al nl cl] w fun e w' => e = .returned (.bool (evalM l m)) ∧ Below w.heap.size w w'
set_option maxHeartbeats 4000000 in
theorem count_of (l : List Lb) (m : Mt) (ih : ∀ k ∈ m.ks, EvP l k) (S : Nat → Prop) (h : Hm) (al : Option Addr) (nl cl : Nat) (w : World) (q : SeeM S w m h) (ok : okM m) (hr : RowL w al nl l) :
    Calls Tryz.prog 55 #[.slice h.ka h.kn h.kc, .slice al nl cl] w fun e w' => e = .returned (.int .i64 (cntM l m.ks : Int)) ∧ Below w.heap.size w w' := by
  obtain ⟨op, nm, vl, va, vn, vc, ka, kn, kc⟩ := h
  obtain ⟨-, -, -, hw, -, hk, -⟩ := seeM_iff.1 q
  dsimp only at hk ⊢
  have w4 : kn * 88 ≤ 140737488355328 := hw.kn
  have IH := hide ih
  have OK := hide ok
  have HR := hide hr
  have HQ := hide q
  have HKL := hide hk
  have HCL : Hid (∀ k, cntM l (m.ks.take k) ≤ k) := fun k => Nat.le_trans List.countP_le_length (List.length_take_le k m.ks)
  clear ih ok hr q hk hw
  go_enter Tryz.func55, Tryz.ntmps55
  go_wp2
  go_loopw [5, 10] (fun c i wr => ∃ k : Nat, k ≤ kn ∧ i = .int .i64 k ∧ c = .int .i64 (cntM l (m.ks.take k) : Int) ∧ Hid (Below w.heap.size w wr)) (fun _ i _ => kn - (intOf i).toNat)
  case atStart => exact ⟨0, by omega, rfl, rfl, Below.refl _ _⟩
  case round =>
    obtain ⟨k, hk, rfl, rfl, HB⟩ := hrel
    obtain ⟨v, rfl⟩ : ∃ v, v = wr := ⟨wr, rfl⟩
    by_cases hlt : k < kn
    · obtain ⟨x1, y1, kd, h', e, hkd, -, q5, qk⟩ := (HQ.out.below HB.out).kid hlt
      obtain ⟨p0, p1, p2, p3, p4, p5, p6, p7, p8⟩ := h'
      dsimp only at e
      subst e
      obtain ⟨g0, g1, g2, g3, g4⟩ := q5.all
      dsimp only at g0 g1 g2 g3 g4
      have i1 : (0 : Int) ≤ (k : Int) := by omega
      have i2 : (k : Int) < (kn : Int) := by omega
      have hkm := List.mem_of_getElem? hkd
      have HC := hide (cnt_take (l := l) hkd)
      have A1 : Hid (Below w.heap.size w (v.alloc (.cells #[.int .i64 p0, .string p1, .string p2, .slice p3 p4 p5, .slice p6 p7 p8] 26))) := bel_al HB.out (Nat.le_refl _) _
      have T := hide (IH.out kd hkm S _ al nl cl _ (qk.alloc (.cells #[.int .i64 p0, .string p1, .string p2, .slice p3 p4 p5, .slice p6 p7 p8] 26)) (OK.out.kid hkm) (HR.out.below A1.out (Nat.le_refl _)))
      dsimp only at T
      have hcl := HCL.out k
      clear hkd q5 qk hkm
      go_wp2_with fail
      with_reducible refine T.out.mono ?_
      rintro e v2 ⟨rfl, bv⟩
      have B2 := hide (bel_to A1.out (Nat.le_refl _) bv)
      clear bv T A1 HB g0 g1 g2 g3 g4
      cases hev : evalM l kd with
      | true =>
        rw [hev, if_pos rfl] at HC
        clear hev
        generalize cntM l (m.ks.take k) = c at *
        go_wp2
        go_roundw
        case rel => exact ⟨k + 1, by omega, by go_num, by rw [HC.out]; go_num, B2⟩
        case measure => simp [intOf]; omega
      | false =>
        rw [hev, if_neg (by decide)] at HC
        clear hev
        go_wp2
        go_roundw
        case rel => exact ⟨k + 1, by omega, by go_num, by rw [HC.out]; rfl, B2⟩
        case measure => simp [intOf]; omega
    · obtain ⟨j0, hj0⟩ : ∃ j0, j0 = k := ⟨k, rfl⟩
      have : kn = j0 := by omega
      subst this
      subst hj0
      rw [List.take_of_length_le (show m.ks.length ≤ kn by rw [HKL.out]; exact Nat.le_refl _)]
      go_wp2
      go_ret
      exact ⟨rfl, HB.out⟩

set_option maxHeartbeats 4000000 in
theorem eval_1 (l : List Lb) (nm vl : ByteArray) (va : Option Addr) (vn vc : Nat) (ka : Option Addr) (kn kc : Nat) (al : Option Addr) (nl cl : Nat) (w : World) (hw : HmW ⟨1, nm, vl, va, vn, vc, ka, kn, kc⟩) (hr : RowL w al nl l) :
    Calls Tryz.prog 29 #[.agg #[.int .i64 1, .string nm, .string vl, .slice va vn vc, .slice ka kn kc], .slice al nl cl] w fun e w' => e = .returned (.bool (decide (valL l nm = vl))) ∧ Below w.heap.size w w' := by
  have w1 : nm.size ≤ 9223372036854775807 := hw.nm
  have w2 : vl.size ≤ 9223372036854775807 := hw.vl
  have w4 : kn * 88 ≤ 140737488355328 := hw.kn
  obtain ⟨W, hW⟩ : ∃ W, Hid (w.alloc (.cells #[.int .i64 1, .string nm, .string vl, .slice va vn vc, .slice ka kn kc] 26) = W) := ⟨_, rfl⟩
  have LW : Hid (Below w.heap.size w W) := by rw [← hW.out]; exact (Below.refl _ _).alloc (Nat.le_refl _) _
  have B : Hid (BoxM W w.heap.size ⟨1, nm, vl, va, vn, vc, ka, kn, kc⟩) := by rw [← hW.out]; exact boxM_new w ⟨1, nm, vl, va, vn, vc, ka, kn, kc⟩
  have HR := hide (hr.below LW.out (Nat.le_refl _))
  obtain ⟨b0, b1, b2, b3, b4, _⟩ := B.out.all
  dsimp only at b0 b1 b2 b3 b4
  have T := hide (val_any al nl cl l nm W.drew (HR.out.below (Below.refl _ _).drew (Nat.le_refl _)))
  obtain ⟨v, HV⟩ : ∃ v, Hid (valL l nm = v) := ⟨_, rfl⟩
  rw [HV.out] at T
  have S0 : Hid (W.drew.cell? ⟨w.heap.size, 1, none⟩ = some (.string nm) ∧ W.drew.cell? ⟨w.heap.size, 2, none⟩ = some (.string vl) ∧ Hid (w.heap.size ≤ W.drew.heap.size ∧ Below w.heap.size w W.drew)) := ⟨b1, b2, LW.out.size, LW.out.drew⟩
  have HE : Hid ((v.toList == vl.toList) = decide (valL l nm = vl)) := by rw [HV.out]; exact ba_eq
  clear hw hr HR
  go_enter Tryz.func29, Tryz.ntmps29
  go_upto_region 1 with fail
  rw [hW.out]
  clear hW B
  go_upto_region 5 with fail
  clear b0 b1 b2 b3 b4
  go_region_held3 (fun w' => w'.cell? ⟨w.heap.size, 1, none⟩ = some (.string nm) ∧ w'.cell? ⟨w.heap.size, 2, none⟩ = some (.string vl) ∧ Hid (w.heap.size ≤ w'.heap.size ∧ Below w.heap.size w w')) (first | with_reducible exact S0.out | with_reducible exact keep2c (by assumption) (by assumption)) (first
    | (go_at_call 52; with_reducible refine T.out.mono ?_; rintro e v2 ⟨rfl, bv2⟩))
  rename_i hh
  have F := hide hh.2.2.out.2
  clear hh
  go_wp2
  go_ret
  exact ⟨by rw [← HE.out]; rfl, F.out⟩

set_option maxHeartbeats 4000000 in
theorem eval_2 (l : List Lb) (nm vl : ByteArray) (va : Option Addr) (vn vc : Nat) (ka : Option Addr) (kn kc : Nat) (al : Option Addr) (nl cl : Nat) (w : World) (hw : HmW ⟨2, nm, vl, va, vn, vc, ka, kn, kc⟩) (hr : RowL w al nl l) :
    Calls Tryz.prog 29 #[.agg #[.int .i64 2, .string nm, .string vl, .slice va vn vc, .slice ka kn kc], .slice al nl cl] w fun e w' => e = .returned (.bool (decide (valL l nm ≠ vl))) ∧ Below w.heap.size w w' := by
  have w1 : nm.size ≤ 9223372036854775807 := hw.nm
  have w2 : vl.size ≤ 9223372036854775807 := hw.vl
  have w4 : kn * 88 ≤ 140737488355328 := hw.kn
  obtain ⟨W, hW⟩ : ∃ W, Hid (w.alloc (.cells #[.int .i64 2, .string nm, .string vl, .slice va vn vc, .slice ka kn kc] 26) = W) := ⟨_, rfl⟩
  have LW : Hid (Below w.heap.size w W) := by rw [← hW.out]; exact (Below.refl _ _).alloc (Nat.le_refl _) _
  have B : Hid (BoxM W w.heap.size ⟨2, nm, vl, va, vn, vc, ka, kn, kc⟩) := by rw [← hW.out]; exact boxM_new w ⟨2, nm, vl, va, vn, vc, ka, kn, kc⟩
  have HR := hide (hr.below LW.out (Nat.le_refl _))
  obtain ⟨b0, b1, b2, b3, b4, _⟩ := B.out.all
  dsimp only at b0 b1 b2 b3 b4
  have T := hide (val_any al nl cl l nm W.drew (HR.out.below (Below.refl _ _).drew (Nat.le_refl _)))
  obtain ⟨v, HV⟩ : ∃ v, Hid (valL l nm = v) := ⟨_, rfl⟩
  rw [HV.out] at T
  have S0 : Hid (W.drew.cell? ⟨w.heap.size, 1, none⟩ = some (.string nm) ∧ W.drew.cell? ⟨w.heap.size, 2, none⟩ = some (.string vl) ∧ Hid (w.heap.size ≤ W.drew.heap.size ∧ Below w.heap.size w W.drew)) := ⟨b1, b2, LW.out.size, LW.out.drew⟩
  have HE : Hid ((v.toList == vl.toList) = decide (valL l nm = vl)) := by rw [HV.out]; exact ba_eq
  clear hw hr HR
  go_enter Tryz.func29, Tryz.ntmps29
  go_upto_region 1 with fail
  rw [hW.out]
  clear hW B
  go_upto_region 7 with fail
  clear b0 b1 b2 b3 b4
  go_region_held3 (fun w' => w'.cell? ⟨w.heap.size, 1, none⟩ = some (.string nm) ∧ w'.cell? ⟨w.heap.size, 2, none⟩ = some (.string vl) ∧ Hid (w.heap.size ≤ w'.heap.size ∧ Below w.heap.size w w')) (first | with_reducible exact S0.out | with_reducible exact keep2c (by assumption) (by assumption)) (first
    | (go_at_call 52; with_reducible refine T.out.mono ?_; rintro e v2 ⟨rfl, bv2⟩))
  rename_i hh
  have F := hide hh.2.2.out.2
  clear hh
  go_wp2
  go_ret
  exact ⟨by rw [show decide (valL l nm ≠ vl) = !(v.toList == vl.toList) by rw [HE.out]; exact decide_not]; rfl, F.out⟩

set_option maxHeartbeats 4000000 in
theorem eval_3 (l : List Lb) (nm vl : ByteArray) (va : Option Addr) (vn vc : Nat) (ka : Option Addr) (kn kc : Nat) (al : Option Addr) (nl cl : Nat) (w : World) (hw : HmW ⟨3, nm, vl, va, vn, vc, ka, kn, kc⟩) (hr : RowL w al nl l) :
    Calls Tryz.prog 29 #[.agg #[.int .i64 3, .string nm, .string vl, .slice va vn vc, .slice ka kn kc], .slice al nl cl] w fun e w' => e = .returned (.bool (vl.toList.isPrefixOf (valL l nm).toList)) ∧ Below w.heap.size w w' := by
  have w1 : nm.size ≤ 9223372036854775807 := hw.nm
  have w2 : vl.size ≤ 9223372036854775807 := hw.vl
  have w4 : kn * 88 ≤ 140737488355328 := hw.kn
  obtain ⟨W, hW⟩ : ∃ W, Hid (w.alloc (.cells #[.int .i64 3, .string nm, .string vl, .slice va vn vc, .slice ka kn kc] 26) = W) := ⟨_, rfl⟩
  have LW : Hid (Below w.heap.size w W) := by rw [← hW.out]; exact (Below.refl _ _).alloc (Nat.le_refl _) _
  have B : Hid (BoxM W w.heap.size ⟨3, nm, vl, va, vn, vc, ka, kn, kc⟩) := by rw [← hW.out]; exact boxM_new w ⟨3, nm, vl, va, vn, vc, ka, kn, kc⟩
  have HR := hide (hr.below LW.out (Nat.le_refl _))
  obtain ⟨b0, b1, b2, b3, b4, _⟩ := B.out.all
  dsimp only at b0 b1 b2 b3 b4
  have T := hide (val_any al nl cl l nm W.drew (HR.out.below (Below.refl _ _).drew (Nat.le_refl _)))
  have T2 : Hid (∀ u, Calls Tryz.prog 53 #[.string (valL l nm), .string vl] u fun e w' => e = .returned (.bool (vl.toList.isPrefixOf (valL l nm).toList)) ∧ Below u.heap.size u w') := fun u => (haspre_any _ _ u).mono fun e w' ⟨he, hw⟩ => ⟨he, by rw [hw]; exact Below.refl _ _⟩
  generalize vl.toList.isPrefixOf (valL l nm).toList = ans at *
  generalize valL l nm = v at *
  have S0 : Hid (W.drew.cell? ⟨w.heap.size, 1, none⟩ = some (.string nm) ∧ W.drew.cell? ⟨w.heap.size, 2, none⟩ = some (.string vl) ∧ Hid (w.heap.size ≤ W.drew.heap.size ∧ Below w.heap.size w W.drew)) := ⟨b1, b2, LW.out.size, LW.out.drew⟩
  clear hw hr HR
  go_enter Tryz.func29, Tryz.ntmps29
  go_upto_region 1 with fail
  rw [hW.out]
  clear hW B
  go_upto_region 9 with fail
  clear b0 b1 b2 b3 b4
  go_region_held3 (fun w' => w'.cell? ⟨w.heap.size, 1, none⟩ = some (.string nm) ∧ w'.cell? ⟨w.heap.size, 2, none⟩ = some (.string vl) ∧ Hid (w.heap.size ≤ w'.heap.size ∧ Below w.heap.size w w')) (first | with_reducible exact S0.out | with_reducible exact keep2c (by assumption) (by assumption)) (first
    | (go_at_call 52; with_reducible refine T.out.mono ?_; rintro e v2 ⟨rfl, bv2⟩)
    | (go_at_call 53; with_reducible refine (T2.out _).mono ?_; rintro e v3 ⟨rfl, bv3⟩))
  rename_i hh
  have F := hide hh.2.2.out.2
  clear hh
  go_wp2
  go_ret
  exact ⟨rfl, F.out⟩

set_option maxHeartbeats 4000000 in
theorem eval_4 (l : List Lb) (S : Nat → Prop) (vs : List ByteArray) (nm vl : ByteArray) (va : Option Addr) (vn vc : Nat) (ka : Option Addr) (kn kc : Nat) (al : Option Addr) (nl cl : Nat) (w : World) (hw : HmW ⟨4, nm, vl, va, vn, vc, ka, kn, kc⟩) (hr : RowL w al nl l) (hv : TxR S w va vn vs) :
    Calls Tryz.prog 29 #[.agg #[.int .i64 4, .string nm, .string vl, .slice va vn vc, .slice ka kn kc], .slice al nl cl] w fun e w' => e = .returned (.bool (vs.any fun v => decide (v = valL l nm))) ∧ Below w.heap.size w w' := by
  have w1 : nm.size ≤ 9223372036854775807 := hw.nm
  have w2 : vl.size ≤ 9223372036854775807 := hw.vl
  have w4 : kn * 88 ≤ 140737488355328 := hw.kn
  obtain ⟨W, hW⟩ : ∃ W, Hid (w.alloc (.cells #[.int .i64 4, .string nm, .string vl, .slice va vn vc, .slice ka kn kc] 26) = W) := ⟨_, rfl⟩
  have LW : Hid (Below w.heap.size w W) := by rw [← hW.out]; exact (Below.refl _ _).alloc (Nat.le_refl _) _
  have B : Hid (BoxM W w.heap.size ⟨4, nm, vl, va, vn, vc, ka, kn, kc⟩) := by rw [← hW.out]; exact boxM_new w ⟨4, nm, vl, va, vn, vc, ka, kn, kc⟩
  have HR := hide (hr.below LW.out (Nat.le_refl _))
  obtain ⟨b0, b1, b2, b3, b4, _⟩ := B.out.all
  dsimp only at b0 b1 b2 b3 b4
  have T := hide (val_any al nl cl l nm W.drew (HR.out.below (Below.refl _ _).drew (Nat.le_refl _)))
  have T2 : Hid (∀ u, (u.cell? ⟨w.heap.size, 1, none⟩ = some (.string nm) ∧ u.cell? ⟨w.heap.size, 3, none⟩ = some (.slice va vn vc) ∧ Hid (w.heap.size ≤ u.heap.size ∧ Below w.heap.size w u)) → Calls Tryz.prog 54 #[.slice va vn vc, .string (valL l nm)] u fun e w' => e = .returned (.bool (vs.any fun v => decide (v = valL l nm))) ∧ Below u.heap.size u w') := fun u hu => (contS_any S va vn vc vs _ u (hv.ch (Ch.of_below hu.2.2.out.2) (fun _ _ => id))).mono fun e w' ⟨he, hw⟩ => ⟨he, by rw [hw]; exact Below.refl _ _⟩
  generalize (vs.any fun v => decide (v = valL l nm)) = ans at *
  generalize valL l nm = v at *
  have S0 : Hid (W.drew.cell? ⟨w.heap.size, 1, none⟩ = some (.string nm) ∧ W.drew.cell? ⟨w.heap.size, 3, none⟩ = some (.slice va vn vc) ∧ Hid (w.heap.size ≤ W.drew.heap.size ∧ Below w.heap.size w W.drew)) := ⟨b1, b3, LW.out.size, LW.out.drew⟩
  clear hw hr HR hv
  go_enter Tryz.func29, Tryz.ntmps29
  go_upto_region 1 with fail
  rw [hW.out]
  clear hW B
  go_upto_region 11 with fail
  clear b0 b1 b2 b3 b4
  go_region_held3 (fun w' => w'.cell? ⟨w.heap.size, 1, none⟩ = some (.string nm) ∧ w'.cell? ⟨w.heap.size, 3, none⟩ = some (.slice va vn vc) ∧ Hid (w.heap.size ≤ w'.heap.size ∧ Below w.heap.size w w')) (first | with_reducible exact S0.out | with_reducible exact keep2c (by assumption) (by assumption)) (first
    | (go_at_call 52; with_reducible refine T.out.mono ?_; rintro e v2 ⟨rfl, bv2⟩)
    | (go_at_call 54; with_reducible refine (T2.out _ (by assumption)).mono ?_; rintro e v3 ⟨rfl, bv3⟩))
  rename_i hh
  have F := hide hh.2.2.out.2
  clear hh
  go_wp2
  go_ret
  exact ⟨rfl, F.out⟩

set_option maxHeartbeats 4000000 in
theorem eval_5 (l : List Lb) (m : Mt) (ih : ∀ k ∈ m.ks, EvP l k) (S : Nat → Prop) (nm vl : ByteArray) (va : Option Addr) (vn vc : Nat) (ka : Option Addr) (kn kc : Nat) (al : Option Addr) (nl cl : Nat) (w : World) (q : SeeM S w m ⟨5, nm, vl, va, vn, vc, ka, kn, kc⟩) (ok : okM m) (hr : RowL w al nl l) :
    Calls Tryz.prog 29 #[.agg #[.int .i64 5, .string nm, .string vl, .slice va vn vc, .slice ka kn kc], .slice al nl cl] w fun e w' => e = .returned (.bool (m.ks.all (evalM l))) ∧ Below w.heap.size w w' := by
  obtain ⟨-, -, -, hw, -, hk, -⟩ := seeM_iff.1 q
  dsimp only at hk
  have w4 : kn * 88 ≤ 140737488355328 := hw.kn
  obtain ⟨W, hW⟩ : ∃ W, Hid (w.alloc (.cells #[.int .i64 5, .string nm, .string vl, .slice va vn vc, .slice ka kn kc] 26) = W) := ⟨_, rfl⟩
  have LW : Hid (Below w.heap.size w W) := by rw [← hW.out]; exact (Below.refl _ _).alloc (Nat.le_refl _) _
  have B : Hid (BoxM W w.heap.size ⟨5, nm, vl, va, vn, vc, ka, kn, kc⟩) := by rw [← hW.out]; exact boxM_new w ⟨5, nm, vl, va, vn, vc, ka, kn, kc⟩
  obtain ⟨b0, b1, b2, b3, b4, _⟩ := B.out.all
  dsimp only at b0 b1 b2 b3 b4
  have CA := hide (cnt_all l m.ks)
  have CO := hide (cnt_one l m.ks)
  rw [hk] at CA
  have T := hide (count_of l m ih S _ al nl cl W.drew (q.below LW.out.drew) ok (hr.below LW.out.drew (Nat.le_refl _)))
  dsimp only at T
  have S0 : Hid (W.drew.cell? ⟨w.heap.size, 4, none⟩ = some (.slice ka kn kc) ∧ Hid (w.heap.size ≤ W.drew.heap.size ∧ Below w.heap.size w W.drew)) := ⟨b4, LW.out.size, LW.out.drew⟩
  generalize m.ks.all (evalM l) = ans at *
  generalize cntM l m.ks = c at *
  clear hw hr q ih ok hk CO
  go_enter Tryz.func29, Tryz.ntmps29
  go_upto_region 1 with fail
  rw [hW.out]
  clear hW B
  go_upto_region 13 with fail
  clear b0 b1 b2 b3 b4
  go_region_held3 (fun w' => w'.cell? ⟨w.heap.size, 4, none⟩ = some (.slice ka kn kc) ∧ Hid (w.heap.size ≤ w'.heap.size ∧ Below w.heap.size w w')) (first | with_reducible exact S0.out | with_reducible exact keep1c (by assumption) (by assumption)) (first
    | (go_at_call 55; with_reducible refine T.out.mono ?_; rintro e v2 ⟨rfl, bv2⟩))
  rename_i hh
  have F := hide hh.2.out.2
  clear hh
  go_wp2
  go_ret
  exact ⟨by rw [← CA.out]; rfl, F.out⟩

theorem zero_not (c : Nat) : ((c : Int) == 0) = !decide ((0 : Int) < (c : Int)) := by
  by_cases h : c = 0
  · subst h; rfl
  · rw [decide_eq_true (by omega)]
    simp [h]
set_option maxHeartbeats 4000000 in
theorem eval_6 (l : List Lb) (m : Mt) (ih : ∀ k ∈ m.ks, EvP l k) (S : Nat → Prop) (nm vl : ByteArray) (va : Option Addr) (vn vc : Nat) (ka : Option Addr) (kn kc : Nat) (al : Option Addr) (nl cl : Nat) (w : World) (q : SeeM S w m ⟨6, nm, vl, va, vn, vc, ka, kn, kc⟩) (ok : okM m) (hr : RowL w al nl l) :
    Calls Tryz.prog 29 #[.agg #[.int .i64 6, .string nm, .string vl, .slice va vn vc, .slice ka kn kc], .slice al nl cl] w fun e w' => e = .returned (.bool (m.ks.any (evalM l))) ∧ Below w.heap.size w w' := by
  obtain ⟨-, -, -, hw, -, hk, -⟩ := seeM_iff.1 q
  dsimp only at hk
  have w4 : kn * 88 ≤ 140737488355328 := hw.kn
  obtain ⟨W, hW⟩ : ∃ W, Hid (w.alloc (.cells #[.int .i64 6, .string nm, .string vl, .slice va vn vc, .slice ka kn kc] 26) = W) := ⟨_, rfl⟩
  have LW : Hid (Below w.heap.size w W) := by rw [← hW.out]; exact (Below.refl _ _).alloc (Nat.le_refl _) _
  have B : Hid (BoxM W w.heap.size ⟨6, nm, vl, va, vn, vc, ka, kn, kc⟩) := by rw [← hW.out]; exact boxM_new w ⟨6, nm, vl, va, vn, vc, ka, kn, kc⟩
  obtain ⟨b0, b1, b2, b3, b4, _⟩ := B.out.all
  dsimp only at b0 b1 b2 b3 b4
  have CA := hide (cnt_all l m.ks)
  have CO := hide (cnt_one l m.ks)
  rw [hk] at CA
  have T := hide (count_of l m ih S _ al nl cl W (q.below LW.out) ok (hr.below LW.out (Nat.le_refl _)))
  dsimp only at T
  generalize m.ks.any (evalM l) = ans at *
  generalize cntM l m.ks = c at *
  clear hw hr q ih ok hk CA
  go_enter Tryz.func29, Tryz.ntmps29
  go_upto_region 1 with fail
  rw [hW.out]
  clear hW B
  go_wp2_with fail
  with_reducible refine T.out.mono ?_
  rintro e v2 ⟨rfl, bv2⟩
  have F := hide (bel_to LW.out (Nat.le_refl _) bv2)
  clear T bv2 b0 b1 b2 b3 b4
  go_wp2
  go_ret
  exact ⟨by rw [← CO.out, show decide ((0 : Int) < (c : Int)) = decide (0 < c) by rw [decide_eq_decide]; omega]; rfl, F.out⟩

set_option maxHeartbeats 4000000 in
theorem eval_7 (l : List Lb) (m : Mt) (ih : ∀ k ∈ m.ks, EvP l k) (S : Nat → Prop) (nm vl : ByteArray) (va : Option Addr) (vn vc : Nat) (ka : Option Addr) (kn kc : Nat) (al : Option Addr) (nl cl : Nat) (w : World) (q : SeeM S w m ⟨7, nm, vl, va, vn, vc, ka, kn, kc⟩) (ok : okM m) (hr : RowL w al nl l) :
    Calls Tryz.prog 29 #[.agg #[.int .i64 7, .string nm, .string vl, .slice va vn vc, .slice ka kn kc], .slice al nl cl] w fun e w' => e = .returned (.bool (!(m.ks.any (evalM l)))) ∧ Below w.heap.size w w' := by
  obtain ⟨-, -, -, hw, -, hk, -⟩ := seeM_iff.1 q
  dsimp only at hk
  have w4 : kn * 88 ≤ 140737488355328 := hw.kn
  obtain ⟨W, hW⟩ : ∃ W, Hid (w.alloc (.cells #[.int .i64 7, .string nm, .string vl, .slice va vn vc, .slice ka kn kc] 26) = W) := ⟨_, rfl⟩
  have LW : Hid (Below w.heap.size w W) := by rw [← hW.out]; exact (Below.refl _ _).alloc (Nat.le_refl _) _
  have B : Hid (BoxM W w.heap.size ⟨7, nm, vl, va, vn, vc, ka, kn, kc⟩) := by rw [← hW.out]; exact boxM_new w ⟨7, nm, vl, va, vn, vc, ka, kn, kc⟩
  obtain ⟨b0, b1, b2, b3, b4, _⟩ := B.out.all
  dsimp only at b0 b1 b2 b3 b4
  have CA := hide (cnt_all l m.ks)
  have CO := hide (cnt_one l m.ks)
  rw [hk] at CA
  have T := hide (count_of l m ih S _ al nl cl W (q.below LW.out) ok (hr.below LW.out (Nat.le_refl _)))
  dsimp only at T
  generalize m.ks.any (evalM l) = ans at *
  generalize cntM l m.ks = c at *
  clear hw hr q ih ok hk CA
  go_enter Tryz.func29, Tryz.ntmps29
  go_upto_region 1 with fail
  rw [hW.out]
  clear hW B
  go_wp2_with fail
  with_reducible refine T.out.mono ?_
  rintro e v2 ⟨rfl, bv2⟩
  have F := hide (bel_to LW.out (Nat.le_refl _) bv2)
  clear T bv2 b0 b1 b2 b3 b4
  go_wp2
  go_ret
  exact ⟨by rw [← CO.out]; exact congrArg (fun b => Ending.returned (Value.bool b)) (zero_not c), F.out⟩

set_option maxHeartbeats 1000000 in
theorem eval_0 (nm vl : ByteArray) (va : Option Addr) (vn vc : Nat) (ka : Option Addr) (kn kc : Nat) (al : Option Addr) (nl cl : Nat) (w : World) :
    Calls Tryz.prog 29 #[.agg #[.int .i64 0, .string nm, .string vl, .slice va vn vc, .slice ka kn kc], .slice al nl cl] w fun e w' => e = .returned (.bool true) ∧ Below w.heap.size w w' := by
  have BA := hide ((Below.refl w.heap.size w).alloc (Nat.le_refl _) (.cells #[.int .i64 0, .string nm, .string vl, .slice va vn vc, .slice ka kn kc] 26))
  go_enter Tryz.func29, Tryz.ntmps29
  go_wp2
  go_ret
  exact ⟨rfl, BA.out⟩

theorem eval_any (l : List Lb) (m : Mt) : EvP l m := by
  refine Mt.ind (P := EvP l) ?_ m
  intro m ih S h al nl cl w q ok hr
  obtain ⟨op, nm, vl, va, vn, vc, ka, kn, kc⟩ := h
  obtain ⟨e1, e2, e3, hw, hv, hk, -⟩ := seeM_iff.1 q
  dsimp only at e1 e2 e3 hv hk ⊢
  have ho := ok.op
  rw [← e1] at ho
  rw [evalM_eq, ← e1, ← e2, ← e3]
  rcases ho with rfl | rfl | rfl | rfl | rfl | rfl | rfl | rfl
  · rw [if_pos rfl]
    exact eval_0 nm vl va vn vc ka kn kc al nl cl w
  · rw [if_neg (by decide), if_pos rfl]
    exact eval_1 l nm vl va vn vc ka kn kc al nl cl w hw hr
  · rw [if_neg (by decide), if_neg (by decide), if_pos rfl]
    exact eval_2 l nm vl va vn vc ka kn kc al nl cl w hw hr
  · rw [if_neg (by decide), if_neg (by decide), if_neg (by decide), if_pos rfl]
    exact eval_3 l nm vl va vn vc ka kn kc al nl cl w hw hr
  · rw [if_neg (by decide), if_neg (by decide), if_neg (by decide), if_neg (by decide), if_pos rfl]
    exact eval_4 l S m.vs nm vl va vn vc ka kn kc al nl cl w hw hr hv
  · rw [if_neg (by decide), if_neg (by decide), if_neg (by decide), if_neg (by decide), if_neg (by decide), if_pos rfl]
    exact eval_5 l m ih S nm vl va vn vc ka kn kc al nl cl w q ok hr
  · rw [if_neg (by decide), if_neg (by decide), if_neg (by decide), if_neg (by decide), if_neg (by decide), if_neg (by decide), if_pos rfl]
    exact eval_6 l m ih S nm vl va vn vc ka kn kc al nl cl w q ok hr
  · rw [if_neg (by decide), if_neg (by decide), if_neg (by decide), if_neg (by decide), if_neg (by decide), if_neg (by decide), if_neg (by decide), if_pos rfl]
    refine (eval_7 l m ih S nm vl va vn vc ka kn kc al nl cl w q ok hr).mono fun e w' h => ⟨?_, h.2⟩
    rw [h.1]
    have h1 : m.ks.length = 1 := by
      rcases fit_names ok.fit with ⟨h, -⟩ | ⟨h, -⟩ | ⟨h, -⟩ | ⟨-, -, -, -, h⟩
      · omega
      · omega
      · omega
      · exact h e1.symm
    match hm : m.ks, h1 with
    | [k], _ => simp

set_option maxHeartbeats 2000000 in
theorem evalT_any (l : List Lb) (S : Nat → Prop) (m : Mt) (h : Hm) (al : Option Addr) (nl cl : Nat) (w : World) (q : SeeM S w m h) (hc : chkM m = true) (hr : RowL w al nl l) :
    Calls Tryz.prog 14 #[.agg #[.int .i64 h.op, .string h.nm, .string h.vl, .slice h.va h.vn h.vc, .slice h.ka h.kn h.kc], .slice al nl cl] w fun e w' => e = .returned (.bool (evalM l m)) ∧ Below w.heap.size w w' := by
  obtain ⟨op, nm, vl, va, vn, vc, ka, kn, kc⟩ := h
  dsimp only
  obtain ⟨W, hW⟩ : ∃ W, Hid (w.alloc (.cells #[.int .i64 op, .string nm, .string vl, .slice va vn vc, .slice ka kn kc] 26) = W) := ⟨_, rfl⟩
  have LW : Hid (Below w.heap.size w W) := by rw [← hW.out]; exact (Below.refl _ _).alloc (Nat.le_refl _) _
  have B : Hid (BoxM W w.heap.size ⟨op, nm, vl, va, vn, vc, ka, kn, kc⟩) := by rw [← hW.out]; exact boxM_new w ⟨op, nm, vl, va, vn, vc, ka, kn, kc⟩
  have T := hide (chkM_any S m _ W (q.below LW.out))
  rw [hc] at T
  dsimp only at T
  have T2 := hide (fun (u : World) (hu : Below w.heap.size w u) => eval_any l m S _ al nl cl u (q.below hu) (okM_of hc) (hr.below hu (Nat.le_refl _)))
  dsimp only at T2
  obtain ⟨b0, b1, b2, b3, b4, _⟩ := B.out.all
  dsimp only at b0 b1 b2 b3 b4
  clear q hc hr
  go_enter Tryz.func14, Tryz.ntmps14
  go_upto_region 1 with fail
  rw [hW.out]
  clear hW
  go_wp2_with fail
  with_reducible refine T.out.mono ?_
  rintro e v2 ⟨rfl, bv⟩
  have B2 := hide (B.out.block (bv.block _ B.out.lt))
  have L2 := hide (bel_to LW.out (Nat.le_refl _) bv)
  clear T bv b0 b1 b2 b3 b4 B LW
  obtain ⟨b0, b1, b2, b3, b4, _⟩ := B2.out.all
  dsimp only at b0 b1 b2 b3 b4
  go_wp2_with fail
  with_reducible refine (T2.out _ L2.out).mono ?_
  rintro e v3 ⟨rfl, bv⟩
  have L3 := hide (bel_to L2.out (Nat.le_refl _) bv)
  clear T2 bv b0 b1 b2 b3 b4
  go_wp2
  go_ret
  exact ⟨rfl, L3.out⟩
end Go.Proofs.YtpffhpnmbpjifaaGreat
