/-
  The document's Text of a matcher: contracts, for every world; what was there before stays (written by gen/math.gen.py).
  Conditions: the matcher lies in memory; all its parts fit.
-/
import Derived.Test.YthebcmkainplnaaMatF
import Derived.Test.YthebcmkainplnaaLabC
namespace Go.Proofs.Ythebcmkainplnaa
open Go.RowKit
set_option maxRecDepth 20000

theorem RQ (v : ByteArray) (w : World) (hv : v.size ≤ 64) : Calls Try.prog 37 #[.string v] w fun e w' => e = .returned (.string (quoS v)) ∧ Below w.heap.size w w' :=
  quietB (refquoted_any v w (by omega))
/-- What the document's Text tells of a matcher. -/
def RxP (m : Mt) : Prop := ∀ (S : Nat → Prop) (h : Hm) (w : World), SeeM S w m h → okM m →
    Calls Try.prog 19 #[.agg #[.int .i64 h.op, .string h.nm, .string h.vl, .slice h.va h.vn h.vc, .slice h.ka h.kn h.kc]] w fun e w' => e = .returned (.string (bar (textM m))) ∧ Below w.heap.size w w'
theorem join_take {l : List (List UInt8)} {k : Nat} {x : List UInt8} (h : l[k]? = some x) : joinC (l.take (k + 1)) = if k = 0 then x else joinC (l.take k) ++ 44 :: x := by
  have key : ∀ (t : List (List UInt8)), t ≠ [] → joinC (t ++ [x]) = joinC t ++ 44 :: x := by
    intro t
    induction t with
    | nil => intro h; exact absurd rfl h
    | cons y u ih =>
      intro _
      by_cases h0 : u = []
      · subst h0
        rfl
      · rw [List.cons_append, joinC_cons _ _ (by simp), ih h0, joinC_cons _ _ h0, List.append_assoc]
        rfl
  rw [List.take_add_one, h]
  by_cases h0 : k = 0
  · subst h0
    rfl
  · rw [if_neg h0]
    refine key _ (fun e => ?_)
    have hl : k < l.length := (List.getElem?_eq_some_iff.1 h).1
    have := congrArg List.length e
    rw [List.length_take, List.length_nil] at this
    omega
theorem join_sub {l : List (List UInt8)} (k : Nat) : (joinC (l.take k)).length ≤ (joinC l).length := by
  induction l generalizing k with
  | nil => simp
  | cons x t ih =>
    cases k with
    | zero => simp [joinC]
    | succ k =>
      rw [List.take_succ_cons]
      by_cases h0 : t = []
      · subst h0
        simp
      · by_cases h1 : t.take k = []
        · rw [h1, joinC_one, joinC_cons _ _ h0]
          simp only [List.length_append]
          omega
        · rw [joinC_cons _ _ h1, joinC_cons _ _ h0]
          have := ih k
          simp only [List.length_append, List.length_cons]
          omega

set_option maxHeartbeats 4000000 in
theorem rtext_0 (nm vl : ByteArray) (va : Option Addr) (vn vc : Nat) (ka : Option Addr) (kn kc : Nat) (w : World) :
    Calls Try.prog 19 #[.agg #[.int .i64 0, .string nm, .string vl, .slice va vn vc, .slice ka kn kc]] w fun e w' => e = .returned (.string (bar ([42]))) ∧ Below w.heap.size w w' := by
  obtain ⟨W, hW⟩ : ∃ W, Hid (w.alloc (.cells #[.int .i64 0, .string nm, .string vl, .slice va vn vc, .slice ka kn kc] 25) = W) := ⟨_, rfl⟩
  have LW : Hid (Below w.heap.size w W) := by rw [← hW.out]; exact (Below.refl _ _).alloc (Nat.le_refl _) _
  have B : Hid (BoxM W w.heap.size ⟨0, nm, vl, va, vn, vc, ka, kn, kc⟩) := by rw [← hW.out]; exact boxM_new w ⟨0, nm, vl, va, vn, vc, ka, kn, kc⟩
  obtain ⟨b0, b1, b2, b3, b4, _⟩ := B.out.all
  dsimp only at b0 b1 b2 b3 b4
  go_enter Try.func19, Try.ntmps19
  go_upto_region 1 with fail
  rw [hW.out]
  clear hW
  go_wp2
  go_ret
  exact ⟨rfl, LW.out⟩

set_option maxHeartbeats 4000000 in
theorem rtext_1 (nm vl : ByteArray) (va : Option Addr) (vn vc : Nat) (ka : Option Addr) (kn kc : Nat) (w : World) (h1 : nm.size ≤ 32) (h2 : vl.size ≤ 64) :
    Calls Try.prog 19 #[.agg #[.int .i64 1, .string nm, .string vl, .slice va vn vc, .slice ka kn kc]] w fun e w' => e = .returned (.string (bar (nm.toList ++ 61 :: quoB vl.toList))) ∧ Below w.heap.size w w' := by
  obtain ⟨W, hW⟩ : ∃ W, Hid (w.alloc (.cells #[.int .i64 1, .string nm, .string vl, .slice va vn vc, .slice ka kn kc] 25) = W) := ⟨_, rfl⟩
  have LW : Hid (Below w.heap.size w W) := by rw [← hW.out]; exact (Below.refl _ _).alloc (Nat.le_refl _) _
  have B : Hid (BoxM W w.heap.size ⟨1, nm, vl, va, vn, vc, ka, kn, kc⟩) := by rw [← hW.out]; exact boxM_new w ⟨1, nm, vl, va, vn, vc, ka, kn, kc⟩
  obtain ⟨b0, b1, b2, b3, b4, _⟩ := B.out.all
  dsimp only at b0 b1 b2 b3 b4
  have T := hide (RQ vl W.drew h2)
  have hqs : (quoS vl).size ≤ 258 := by
    have := quoB_le vl.toList
    rw [ba_len] at this
    have e : (quoS vl).size = (quoB vl.toList).length := bar_size _
    omega
  have E : Hid (nm ++ (⟨#[61]⟩ : ByteArray) ++ quoS vl = bar (nm.toList ++ 61 :: quoB vl.toList)) := ba_ext (by
    rw [ba_app, ba_app, bar_list, show (quoS vl).toList = quoB vl.toList from bar_list _, show (⟨#[61]⟩ : ByteArray).toList = [61] from ByteArray.toList_mk _]
    simp)
  generalize quoS vl = qv at *
  have k1 : ¬ 9223372036854775807 < nm.size + 1 := by omega
  have k2 : ¬ 9223372036854775807 < nm.size + 1 + qv.size := by omega
  have S0 : Hid (W.drew.cell? ⟨w.heap.size, 1, none⟩ = some (.string nm) ∧ W.drew.cell? ⟨w.heap.size, 2, none⟩ = some (.string vl) ∧ Hid (w.heap.size ≤ W.drew.heap.size ∧ Below w.heap.size w W.drew)) := ⟨b1, b2, LW.out.size, LW.out.drew⟩
  go_enter Try.func19, Try.ntmps19
  go_upto_region 1 with fail
  rw [hW.out]
  clear hW
  go_upto_region 5 with fail
  clear b0 b1 b2 b3 b4
  go_region_held3 (fun w' => w'.cell? ⟨w.heap.size, 1, none⟩ = some (.string nm) ∧ w'.cell? ⟨w.heap.size, 2, none⟩ = some (.string vl) ∧ Hid (w.heap.size ≤ w'.heap.size ∧ Below w.heap.size w w')) (first | with_reducible exact S0.out | with_reducible exact keep2c (by assumption) (by assumption)) (first
    | (go_at_call 37; (with_reducible refine T.out.mono ?_); rintro e v2 ⟨rfl, bv2⟩))
  rename_i hh
  have F := hide hh.2.2.out.2
  clear hh
  go_wp2
  go_ret
  exact ⟨by rw [← E.out]; rfl, F.out⟩

set_option maxHeartbeats 4000000 in
theorem rtext_2 (nm vl : ByteArray) (va : Option Addr) (vn vc : Nat) (ka : Option Addr) (kn kc : Nat) (w : World) (h1 : nm.size ≤ 32) (h2 : vl.size ≤ 64) :
    Calls Try.prog 19 #[.agg #[.int .i64 2, .string nm, .string vl, .slice va vn vc, .slice ka kn kc]] w fun e w' => e = .returned (.string (bar (nm.toList ++ 33 :: 61 :: quoB vl.toList))) ∧ Below w.heap.size w w' := by
  obtain ⟨W, hW⟩ : ∃ W, Hid (w.alloc (.cells #[.int .i64 2, .string nm, .string vl, .slice va vn vc, .slice ka kn kc] 25) = W) := ⟨_, rfl⟩
  have LW : Hid (Below w.heap.size w W) := by rw [← hW.out]; exact (Below.refl _ _).alloc (Nat.le_refl _) _
  have B : Hid (BoxM W w.heap.size ⟨2, nm, vl, va, vn, vc, ka, kn, kc⟩) := by rw [← hW.out]; exact boxM_new w ⟨2, nm, vl, va, vn, vc, ka, kn, kc⟩
  obtain ⟨b0, b1, b2, b3, b4, _⟩ := B.out.all
  dsimp only at b0 b1 b2 b3 b4
  have T := hide (RQ vl W.drew h2)
  have hqs : (quoS vl).size ≤ 258 := by
    have := quoB_le vl.toList
    rw [ba_len] at this
    have e : (quoS vl).size = (quoB vl.toList).length := bar_size _
    omega
  have E : Hid (nm ++ (⟨#[33, 61]⟩ : ByteArray) ++ quoS vl = bar (nm.toList ++ 33 :: 61 :: quoB vl.toList)) := ba_ext (by
    rw [ba_app, ba_app, bar_list, show (quoS vl).toList = quoB vl.toList from bar_list _, show (⟨#[33, 61]⟩ : ByteArray).toList = [33, 61] from ByteArray.toList_mk _]
    simp)
  generalize quoS vl = qv at *
  have k1 : ¬ 9223372036854775807 < nm.size + 2 := by omega
  have k2 : ¬ 9223372036854775807 < nm.size + 2 + qv.size := by omega
  have S0 : Hid (W.drew.cell? ⟨w.heap.size, 1, none⟩ = some (.string nm) ∧ W.drew.cell? ⟨w.heap.size, 2, none⟩ = some (.string vl) ∧ Hid (w.heap.size ≤ W.drew.heap.size ∧ Below w.heap.size w W.drew)) := ⟨b1, b2, LW.out.size, LW.out.drew⟩
  go_enter Try.func19, Try.ntmps19
  go_upto_region 1 with fail
  rw [hW.out]
  clear hW
  go_upto_region 7 with fail
  clear b0 b1 b2 b3 b4
  go_region_held3 (fun w' => w'.cell? ⟨w.heap.size, 1, none⟩ = some (.string nm) ∧ w'.cell? ⟨w.heap.size, 2, none⟩ = some (.string vl) ∧ Hid (w.heap.size ≤ w'.heap.size ∧ Below w.heap.size w w')) (first | with_reducible exact S0.out | with_reducible exact keep2c (by assumption) (by assumption)) (first
    | (go_at_call 37; (with_reducible refine T.out.mono ?_); rintro e v2 ⟨rfl, bv2⟩))
  rename_i hh
  have F := hide hh.2.2.out.2
  clear hh
  go_wp2
  go_ret
  exact ⟨by rw [← E.out]; rfl, F.out⟩

set_option maxHeartbeats 4000000 in
theorem rtext_3 (nm vl : ByteArray) (va : Option Addr) (vn vc : Nat) (ka : Option Addr) (kn kc : Nat) (w : World) (h1 : nm.size ≤ 32) (h2 : vl.size ≤ 64) :
    Calls Try.prog 19 #[.agg #[.int .i64 3, .string nm, .string vl, .slice va vn vc, .slice ka kn kc]] w fun e w' => e = .returned (.string (bar (nm.toList ++ 94 :: 61 :: quoB vl.toList))) ∧ Below w.heap.size w w' := by
  obtain ⟨W, hW⟩ : ∃ W, Hid (w.alloc (.cells #[.int .i64 3, .string nm, .string vl, .slice va vn vc, .slice ka kn kc] 25) = W) := ⟨_, rfl⟩
  have LW : Hid (Below w.heap.size w W) := by rw [← hW.out]; exact (Below.refl _ _).alloc (Nat.le_refl _) _
  have B : Hid (BoxM W w.heap.size ⟨3, nm, vl, va, vn, vc, ka, kn, kc⟩) := by rw [← hW.out]; exact boxM_new w ⟨3, nm, vl, va, vn, vc, ka, kn, kc⟩
  obtain ⟨b0, b1, b2, b3, b4, _⟩ := B.out.all
  dsimp only at b0 b1 b2 b3 b4
  have T := hide (RQ vl W.drew h2)
  have hqs : (quoS vl).size ≤ 258 := by
    have := quoB_le vl.toList
    rw [ba_len] at this
    have e : (quoS vl).size = (quoB vl.toList).length := bar_size _
    omega
  have E : Hid (nm ++ (⟨#[94, 61]⟩ : ByteArray) ++ quoS vl = bar (nm.toList ++ 94 :: 61 :: quoB vl.toList)) := ba_ext (by
    rw [ba_app, ba_app, bar_list, show (quoS vl).toList = quoB vl.toList from bar_list _, show (⟨#[94, 61]⟩ : ByteArray).toList = [94, 61] from ByteArray.toList_mk _]
    simp)
  generalize quoS vl = qv at *
  have k1 : ¬ 9223372036854775807 < nm.size + 2 := by omega
  have k2 : ¬ 9223372036854775807 < nm.size + 2 + qv.size := by omega
  have S0 : Hid (W.drew.cell? ⟨w.heap.size, 1, none⟩ = some (.string nm) ∧ W.drew.cell? ⟨w.heap.size, 2, none⟩ = some (.string vl) ∧ Hid (w.heap.size ≤ W.drew.heap.size ∧ Below w.heap.size w W.drew)) := ⟨b1, b2, LW.out.size, LW.out.drew⟩
  go_enter Try.func19, Try.ntmps19
  go_upto_region 1 with fail
  rw [hW.out]
  clear hW
  go_upto_region 9 with fail
  clear b0 b1 b2 b3 b4
  go_region_held3 (fun w' => w'.cell? ⟨w.heap.size, 1, none⟩ = some (.string nm) ∧ w'.cell? ⟨w.heap.size, 2, none⟩ = some (.string vl) ∧ Hid (w.heap.size ≤ w'.heap.size ∧ Below w.heap.size w w')) (first | with_reducible exact S0.out | with_reducible exact keep2c (by assumption) (by assumption)) (first
    | (go_at_call 37; (with_reducible refine T.out.mono ?_); rintro e v2 ⟨rfl, bv2⟩))
  rename_i hh
  have F := hide hh.2.2.out.2
  clear hh
  go_wp2
  go_ret
  exact ⟨by rw [← E.out]; rfl, F.out⟩

set_option maxHeartbeats 4000000 in
theorem rtext_4 (S : Nat → Prop) (vs : List ByteArray) (nm vl : ByteArray) (va : Option Addr) (vn vc : Nat) (ka : Option Addr) (kn kc : Nat) (w : World) (h1 : nm.size ≤ 32) (hv : TxR S w va vn vs) (hvs : valsB vs = true) :
    Calls Try.prog 19 #[.agg #[.int .i64 4, .string nm, .string vl, .slice va vn vc, .slice ka kn kc]] w fun e w' => e = .returned (.string (bar (nm.toList ++ 64 :: 40 :: (joinC (vs.map fun v => quoB v.toList) ++ [41])))) ∧ Below w.heap.size w w' := by
  obtain ⟨W, hW⟩ : ∃ W, Hid (w.alloc (.cells #[.int .i64 4, .string nm, .string vl, .slice va vn vc, .slice ka kn kc] 25) = W) := ⟨_, rfl⟩
  have LW : Hid (Below w.heap.size w W) := by rw [← hW.out]; exact (Below.refl _ _).alloc (Nat.le_refl _) _
  have B : Hid (BoxM W w.heap.size ⟨4, nm, vl, va, vn, vc, ka, kn, kc⟩) := by rw [← hW.out]; exact boxM_new w ⟨4, nm, vl, va, vn, vc, ka, kn, kc⟩
  obtain ⟨b0, b1, b2, b3, b4, _⟩ := B.out.all
  dsimp only at b0 b1 b2 b3 b4
  have hsz : ∀ v ∈ vs, v.size ≤ 64 := by
    unfold valsB at hvs
    simp only [Bool.and_eq_true, decide_eq_true_eq] at hvs
    intro v hv'
    obtain ⟨i, hi⟩ := List.getElem?_of_mem hv'
    exact (risB_iff.1 hvs.2 i v hi).1
  have w3 : vn * 16 ≤ 140737488355328 := hv.2.1
  have HV := hide hv
  have HVZ := hide hsz
  have HTL : Hid ((vs.map fun v => quoB v.toList).length = vn) := by show _ = _; rw [List.length_map]; exact hv.1
  have HTK : Hid (∀ (k : Nat) (s : ByteArray), vs[k]? = some s → (vs.map fun v => quoB v.toList)[k]? = some (quoB s.toList)) := fun k s hs => by rw [List.getElem?_map, hs]; rfl
  have hjl : (joinC (vs.map fun v => quoB v.toList)).length ≤ 19720 := by
    have h3 := quos_len vs
    have h4 := ris_len hvs
    have h5 : vs.length ≤ 16 := by
      unfold valsB at hvs
      simp only [Bool.and_eq_true, decide_eq_true_eq] at hvs
      exact hvs.1.2
    omega
  obtain ⟨pre, hpre⟩ : ∃ pre, nm.toList ++ [64, 40] = pre := ⟨_, rfl⟩
  have hpl : pre.length ≤ 34 := by rw [← hpre, List.length_append, ba_len]; show nm.size + 2 ≤ _; omega
  have P0 : Hid (nm ++ (⟨#[64, 40]⟩ : ByteArray) = bar pre) := ba_ext (by rw [ba_app, bar_list, ← hpre, show (⟨#[64, 40]⟩ : ByteArray).toList = [64, 40] from ByteArray.toList_mk _])
  generalize hts : (vs.map fun v => quoB v.toList) = ts at *
  obtain ⟨ans, HEND⟩ : ∃ ans, Hid (bar (pre ++ joinC ts ++ [41]) = ans) := ⟨bar (pre ++ joinC ts ++ [41]), hide rfl⟩
  rw [show nm.toList ++ 64 :: 40 :: (joinC ts ++ [41]) = pre ++ joinC ts ++ [41] by rw [← hpre]; simp, HEND.out]
  clear hts hpre hvs hsz hv
  go_enter Try.func19, Try.ntmps19
  go_upto_region 1 with fail
  rw [hW.out]
  clear hW
  go_wp2
  go_loopw [3, 4] (fun t i wr => ∃ k : Nat, k ≤ vn ∧ i = .int .i64 k ∧ t = .string (bar (pre ++ joinC (ts.take k))) ∧ Hid (BoxM wr w.heap.size ⟨4, nm, vl, va, vn, vc, ka, kn, kc⟩) ∧ Hid (Below w.heap.size w wr)) (fun _ i _ => vn - (intOf i).toNat)
  case atStart => exact ⟨0, by omega, rfl, by rw [List.take_zero, show joinC [] = [] from rfl, List.append_nil]; exact congrArg Value.string P0.out, B, LW⟩
  case round =>
    obtain ⟨k, hk, rfl, rfl, HB, HL⟩ := hrel
    obtain ⟨v, rfl⟩ : ∃ v, v = wr := ⟨wr, rfl⟩
    clear b0 b1 b2 b3 b4 B LW
    obtain ⟨b0, b1, b2, b3, b4, _⟩ := HB.out.all
    dsimp only at b0 b1 b2 b3 b4
    have hts : (bar (pre ++ joinC (ts.take k))).size ≤ 40000 := by
      rw [bar_size, List.length_append]
      have := join_sub (l := ts) k
      omega
    by_cases hlt : k < vn
    · have i1 : (0 : Int) ≤ (k : Int) := by omega
      have i2 : (k : Int) < (vn : Int) := by omega
      obtain ⟨x1, y1, s, rfl, hs, hsz, -, hc⟩ := (HV.out.ch (Ch.of_below HL.out) (fun _ _ => id)).at' hlt
      have HX := hide (HTK.out k s hs)
      have T := hide (RQ s v (HVZ.out s (List.mem_of_getElem? hs)))
      have U : Hid (quoS s = bar (quoB s.toList)) := rfl
      rw [U.out] at T
      obtain ⟨tx, HTX⟩ : ∃ tx, Hid (quoB s.toList = tx) := ⟨_, rfl⟩
      rw [HTX.out] at T HX
      have htx : (bar tx).size ≤ 20000 := by
        rw [bar_size, ← HTX.out]
        have h1 := quoB_le s.toList
        have h2 := HVZ.out s (List.mem_of_getElem? hs)
        rw [ba_len] at h1
        omega
      clear hs U
      have JT := hide (join_take HX.out)
      by_cases hk0 : k = 0
      · have e0 : ¬ (0 : Int) < (k : Int) := by omega
        have J2 : Hid (bar (pre ++ joinC (ts.take k)) ++ bar tx = bar (pre ++ joinC (ts.take (k + 1)))) := ba_ext (by
          rw [ba_app, bar_list, bar_list, bar_list, JT.out, if_pos hk0, hk0, List.take_zero, show joinC [] = [] from rfl, List.append_nil])
        generalize bar (pre ++ joinC (ts.take k)) = t at *
        clear hk0
        go_wp2_with fail
        with_reducible refine T.out.mono ?_
        rintro e v2 ⟨rfl, bv⟩
        have L2 := hide (bel_to HL.out (Nat.le_refl _) bv)
        have B2 := hide (HB.out.block (bv.block _ HB.out.lt))
        clear T bv HB HL
        go_wp2
        go_roundw
        case rel => exact ⟨k + 1, by omega, by go_num, by rw [← J2.out], B2, L2⟩
        case measure => simp [intOf]; omega
      · have e0 : (0 : Int) < (k : Int) := by omega
        have J2 : Hid (bar (pre ++ joinC (ts.take k)) ++ (⟨#[44]⟩ : ByteArray) ++ bar tx = bar (pre ++ joinC (ts.take (k + 1)))) := ba_ext (by
          rw [ba_app, ba_app, bar_list, bar_list, bar_list, one_byte, JT.out, if_neg hk0]
          simp)
        generalize bar (pre ++ joinC (ts.take k)) = t at *
        clear hk0
        go_wp2_with fail
        with_reducible refine T.out.mono ?_
        rintro e v2 ⟨rfl, bv⟩
        have L2 := hide (bel_to HL.out (Nat.le_refl _) bv)
        have B2 := hide (HB.out.block (bv.block _ HB.out.lt))
        clear T bv HB HL
        go_wp2
        go_roundw
        case rel => exact ⟨k + 1, by omega, by go_num, by rw [← J2.out], B2, L2⟩
        case measure => simp [intOf]; omega
    · have hkn : ts.take k = ts := List.take_of_length_le (by rw [HTL.out]; omega)
      rw [hkn] at hts ⊢
      have E : Hid (bar (pre ++ joinC ts) ++ (⟨#[41]⟩ : ByteArray) = bar (pre ++ joinC ts ++ [41])) := ba_ext (by rw [ba_app, bar_list, bar_list, one_byte])
      have HE := hide (HEND.out)
      rw [← E.out] at HE
      generalize bar (pre ++ joinC ts) = t at *
      have i2 : ¬ (k : Int) < (vn : Int) := by omega
      clear hkn
      go_wp2
      go_ret
      exact ⟨by rw [← HE.out]; rfl, HL.out⟩

set_option maxHeartbeats 4000000 in
theorem rtext_5 (m : Mt) (ih : ∀ k ∈ m.ks, RxP k) (S : Nat → Prop) (nm vl : ByteArray) (va : Option Addr) (vn vc : Nat) (ka : Option Addr) (kn kc : Nat) (w : World) (q : SeeM S w m ⟨5, nm, vl, va, vn, vc, ka, kn, kc⟩) (ok : okM m) :
    Calls Try.prog 19 #[.agg #[.int .i64 5, .string nm, .string vl, .slice va vn vc, .slice ka kn kc]] w fun e w' => e = .returned (.string (bar (38 :: 40 :: (joinC (textKs m.ks) ++ [41])))) ∧ Below w.heap.size w w' := by
  have hop : m.op = 5 := (seeM_iff.1 q).1.symm
  obtain ⟨-, -, -, hw, -, hk, -⟩ := seeM_iff.1 q
  dsimp only at hk
  have w4 : kn * 88 ≤ 140737488355328 := hw.kn
  obtain ⟨W, hW⟩ : ∃ W, Hid (w.alloc (.cells #[.int .i64 5, .string nm, .string vl, .slice va vn vc, .slice ka kn kc] 25) = W) := ⟨_, rfl⟩
  have LW : Hid (Below w.heap.size w W) := by rw [← hW.out]; exact (Below.refl _ _).alloc (Nat.le_refl _) _
  have B : Hid (BoxM W w.heap.size ⟨5, nm, vl, va, vn, vc, ka, kn, kc⟩) := by rw [← hW.out]; exact boxM_new w ⟨5, nm, vl, va, vn, vc, ka, kn, kc⟩
  obtain ⟨b0, b1, b2, b3, b4, _⟩ := B.out.all
  dsimp only at b0 b1 b2 b3 b4
  have IH := hide ih
  have OK := hide ok
  have HQ := hide q
  have HTL : Hid ((textKs m.ks).length = kn) := by show _ = _; rw [textKs_map, List.length_map]; exact hk
  have HTK : Hid (∀ (k : Nat) (x : Mt), m.ks[k]? = some x → (textKs m.ks)[k]? = some (textM x)) := fun k x hx => by rw [textKs_map, List.getElem?_map, hx]; rfl
  have hjl : (joinC (textKs m.ks)).length ≤ 19720 := by
    have h1 := ok.len
    rw [textM_eq, if_neg (by omega), if_neg (by omega), if_neg (by omega), if_neg (by omega), if_neg (by omega)] at h1
    simp only [List.length_cons, List.length_append, List.length_nil] at h1
    omega
  obtain ⟨pre, hpre⟩ : ∃ pre : List UInt8, [38, 40] = pre := ⟨_, rfl⟩
  have hpl : pre.length ≤ 34 := by rw [← hpre]; decide
  have P0 : Hid ((⟨#[38, 40]⟩ : ByteArray) = bar pre) := by rw [← hpre]; exact rfl
  generalize hts : textKs m.ks = ts at *
  obtain ⟨ans, HEND⟩ : ∃ ans, Hid (bar (pre ++ joinC ts ++ [41]) = ans) := ⟨bar (pre ++ joinC ts ++ [41]), hide rfl⟩
  rw [show 38 :: 40 :: (joinC ts ++ [41]) = pre ++ joinC ts ++ [41] by rw [← hpre]; simp, HEND.out]
  clear hts hpre ih ok q hk hw hop
  go_enter Try.func19, Try.ntmps19
  go_upto_region 1 with fail
  rw [hW.out]
  clear hW
  go_wp2
  go_loopw [5, 6] (fun t i wr => ∃ k : Nat, k ≤ kn ∧ i = .int .i64 k ∧ t = .string (bar (pre ++ joinC (ts.take k))) ∧ Hid (BoxM wr w.heap.size ⟨5, nm, vl, va, vn, vc, ka, kn, kc⟩) ∧ Hid (Below w.heap.size w wr)) (fun _ i _ => kn - (intOf i).toNat)
  case atStart => exact ⟨0, by omega, rfl, by rw [List.take_zero, show joinC [] = [] from rfl, List.append_nil]; exact congrArg Value.string P0.out, B, LW⟩
  case round =>
    obtain ⟨k, hk, rfl, rfl, HB, HL⟩ := hrel
    obtain ⟨v, rfl⟩ : ∃ v, v = wr := ⟨wr, rfl⟩
    clear b0 b1 b2 b3 b4 B LW
    obtain ⟨b0, b1, b2, b3, b4, _⟩ := HB.out.all
    dsimp only at b0 b1 b2 b3 b4
    have hts : (bar (pre ++ joinC (ts.take k))).size ≤ 40000 := by
      rw [bar_size, List.length_append]
      have := join_sub (l := ts) k
      omega
    by_cases hlt : k < kn
    · have i1 : (0 : Int) ≤ (k : Int) := by omega
      have i2 : (k : Int) < (kn : Int) := by omega
      obtain ⟨x1, y1, kd, h', e, hkd, -, q5, qk⟩ := (HQ.out.below HL.out).kid hlt
      obtain ⟨p0, p1, p2, p3, p4, p5, p6, p7, p8⟩ := h'
      dsimp only at e
      subst e
      obtain ⟨g0, g1, g2, g3, g4⟩ := q5.all
      dsimp only at g0 g1 g2 g3 g4
      have HX := hide (HTK.out k kd hkd)
      have hkm := List.mem_of_getElem? hkd
      have T := hide (IH.out kd hkm S _ v qk (OK.out.kid hkm))
      dsimp only at T
      obtain ⟨tx, HTX⟩ : ∃ tx, Hid (textM kd = tx) := ⟨_, rfl⟩
      rw [HTX.out] at T HX
      have htx : (bar tx).size ≤ 20000 := by
        rw [bar_size, ← HTX.out]
        have := (OK.out.kid hkm).len
        omega
      clear hkd q5 qk hkm
      have JT := hide (join_take HX.out)
      by_cases hk0 : k = 0
      · have e0 : ¬ (0 : Int) < (k : Int) := by omega
        have J2 : Hid (bar (pre ++ joinC (ts.take k)) ++ bar tx = bar (pre ++ joinC (ts.take (k + 1)))) := ba_ext (by
          rw [ba_app, bar_list, bar_list, bar_list, JT.out, if_pos hk0, hk0, List.take_zero, show joinC [] = [] from rfl, List.append_nil])
        generalize bar (pre ++ joinC (ts.take k)) = t at *
        clear hk0
        go_wp2_with fail
        with_reducible refine T.out.mono ?_
        rintro e v2 ⟨rfl, bv⟩
        have L2 := hide (bel_to HL.out (Nat.le_refl _) bv)
        have B2 := hide (HB.out.block (bv.block _ HB.out.lt))
        clear T bv HB HL g0 g1 g2 g3 g4
        go_wp2
        go_roundw
        case rel => exact ⟨k + 1, by omega, by go_num, by rw [← J2.out], B2, L2⟩
        case measure => simp [intOf]; omega
      · have e0 : (0 : Int) < (k : Int) := by omega
        have J2 : Hid (bar (pre ++ joinC (ts.take k)) ++ (⟨#[44]⟩ : ByteArray) ++ bar tx = bar (pre ++ joinC (ts.take (k + 1)))) := ba_ext (by
          rw [ba_app, ba_app, bar_list, bar_list, bar_list, one_byte, JT.out, if_neg hk0]
          simp)
        generalize bar (pre ++ joinC (ts.take k)) = t at *
        clear hk0
        go_wp2_with fail
        with_reducible refine T.out.mono ?_
        rintro e v2 ⟨rfl, bv⟩
        have L2 := hide (bel_to HL.out (Nat.le_refl _) bv)
        have B2 := hide (HB.out.block (bv.block _ HB.out.lt))
        clear T bv HB HL g0 g1 g2 g3 g4
        go_wp2
        go_roundw
        case rel => exact ⟨k + 1, by omega, by go_num, by rw [← J2.out], B2, L2⟩
        case measure => simp [intOf]; omega
    · have hkn : ts.take k = ts := List.take_of_length_le (by rw [HTL.out]; omega)
      rw [hkn] at hts ⊢
      have E : Hid (bar (pre ++ joinC ts) ++ (⟨#[41]⟩ : ByteArray) = bar (pre ++ joinC ts ++ [41])) := ba_ext (by rw [ba_app, bar_list, bar_list, one_byte])
      have HE := hide (HEND.out)
      rw [← E.out] at HE
      generalize bar (pre ++ joinC ts) = t at *
      have i2 : ¬ (k : Int) < (kn : Int) := by omega
      clear hkn
      go_wp2
      go_ret
      exact ⟨by rw [← HE.out]; rfl, HL.out⟩

set_option maxHeartbeats 4000000 in
theorem rtext_6 (m : Mt) (ih : ∀ k ∈ m.ks, RxP k) (S : Nat → Prop) (nm vl : ByteArray) (va : Option Addr) (vn vc : Nat) (ka : Option Addr) (kn kc : Nat) (w : World) (q : SeeM S w m ⟨6, nm, vl, va, vn, vc, ka, kn, kc⟩) (ok : okM m) :
    Calls Try.prog 19 #[.agg #[.int .i64 6, .string nm, .string vl, .slice va vn vc, .slice ka kn kc]] w fun e w' => e = .returned (.string (bar (124 :: 40 :: (joinC (textKs m.ks) ++ [41])))) ∧ Below w.heap.size w w' := by
  have hop : m.op = 6 := (seeM_iff.1 q).1.symm
  obtain ⟨-, -, -, hw, -, hk, -⟩ := seeM_iff.1 q
  dsimp only at hk
  have w4 : kn * 88 ≤ 140737488355328 := hw.kn
  obtain ⟨W, hW⟩ : ∃ W, Hid (w.alloc (.cells #[.int .i64 6, .string nm, .string vl, .slice va vn vc, .slice ka kn kc] 25) = W) := ⟨_, rfl⟩
  have LW : Hid (Below w.heap.size w W) := by rw [← hW.out]; exact (Below.refl _ _).alloc (Nat.le_refl _) _
  have B : Hid (BoxM W w.heap.size ⟨6, nm, vl, va, vn, vc, ka, kn, kc⟩) := by rw [← hW.out]; exact boxM_new w ⟨6, nm, vl, va, vn, vc, ka, kn, kc⟩
  obtain ⟨b0, b1, b2, b3, b4, _⟩ := B.out.all
  dsimp only at b0 b1 b2 b3 b4
  have IH := hide ih
  have OK := hide ok
  have HQ := hide q
  have HTL : Hid ((textKs m.ks).length = kn) := by show _ = _; rw [textKs_map, List.length_map]; exact hk
  have HTK : Hid (∀ (k : Nat) (x : Mt), m.ks[k]? = some x → (textKs m.ks)[k]? = some (textM x)) := fun k x hx => by rw [textKs_map, List.getElem?_map, hx]; rfl
  have hjl : (joinC (textKs m.ks)).length ≤ 19720 := by
    have h1 := ok.len
    rw [textM_eq, if_neg (by omega), if_neg (by omega), if_neg (by omega), if_neg (by omega), if_neg (by omega)] at h1
    simp only [List.length_cons, List.length_append, List.length_nil] at h1
    omega
  obtain ⟨pre, hpre⟩ : ∃ pre : List UInt8, [124, 40] = pre := ⟨_, rfl⟩
  have hpl : pre.length ≤ 34 := by rw [← hpre]; decide
  have P0 : Hid ((⟨#[124, 40]⟩ : ByteArray) = bar pre) := by rw [← hpre]; exact rfl
  generalize hts : textKs m.ks = ts at *
  obtain ⟨ans, HEND⟩ : ∃ ans, Hid (bar (pre ++ joinC ts ++ [41]) = ans) := ⟨bar (pre ++ joinC ts ++ [41]), hide rfl⟩
  rw [show 124 :: 40 :: (joinC ts ++ [41]) = pre ++ joinC ts ++ [41] by rw [← hpre]; simp, HEND.out]
  clear hts hpre ih ok q hk hw hop
  go_enter Try.func19, Try.ntmps19
  go_upto_region 1 with fail
  rw [hW.out]
  clear hW
  go_wp2
  go_loopw [5, 6] (fun t i wr => ∃ k : Nat, k ≤ kn ∧ i = .int .i64 k ∧ t = .string (bar (pre ++ joinC (ts.take k))) ∧ Hid (BoxM wr w.heap.size ⟨6, nm, vl, va, vn, vc, ka, kn, kc⟩) ∧ Hid (Below w.heap.size w wr)) (fun _ i _ => kn - (intOf i).toNat)
  case atStart => exact ⟨0, by omega, rfl, by rw [List.take_zero, show joinC [] = [] from rfl, List.append_nil]; exact congrArg Value.string P0.out, B, LW⟩
  case round =>
    obtain ⟨k, hk, rfl, rfl, HB, HL⟩ := hrel
    obtain ⟨v, rfl⟩ : ∃ v, v = wr := ⟨wr, rfl⟩
    clear b0 b1 b2 b3 b4 B LW
    obtain ⟨b0, b1, b2, b3, b4, _⟩ := HB.out.all
    dsimp only at b0 b1 b2 b3 b4
    have hts : (bar (pre ++ joinC (ts.take k))).size ≤ 40000 := by
      rw [bar_size, List.length_append]
      have := join_sub (l := ts) k
      omega
    by_cases hlt : k < kn
    · have i1 : (0 : Int) ≤ (k : Int) := by omega
      have i2 : (k : Int) < (kn : Int) := by omega
      obtain ⟨x1, y1, kd, h', e, hkd, -, q5, qk⟩ := (HQ.out.below HL.out).kid hlt
      obtain ⟨p0, p1, p2, p3, p4, p5, p6, p7, p8⟩ := h'
      dsimp only at e
      subst e
      obtain ⟨g0, g1, g2, g3, g4⟩ := q5.all
      dsimp only at g0 g1 g2 g3 g4
      have HX := hide (HTK.out k kd hkd)
      have hkm := List.mem_of_getElem? hkd
      have T := hide (IH.out kd hkm S _ v qk (OK.out.kid hkm))
      dsimp only at T
      obtain ⟨tx, HTX⟩ : ∃ tx, Hid (textM kd = tx) := ⟨_, rfl⟩
      rw [HTX.out] at T HX
      have htx : (bar tx).size ≤ 20000 := by
        rw [bar_size, ← HTX.out]
        have := (OK.out.kid hkm).len
        omega
      clear hkd q5 qk hkm
      have JT := hide (join_take HX.out)
      by_cases hk0 : k = 0
      · have e0 : ¬ (0 : Int) < (k : Int) := by omega
        have J2 : Hid (bar (pre ++ joinC (ts.take k)) ++ bar tx = bar (pre ++ joinC (ts.take (k + 1)))) := ba_ext (by
          rw [ba_app, bar_list, bar_list, bar_list, JT.out, if_pos hk0, hk0, List.take_zero, show joinC [] = [] from rfl, List.append_nil])
        generalize bar (pre ++ joinC (ts.take k)) = t at *
        clear hk0
        go_wp2_with fail
        with_reducible refine T.out.mono ?_
        rintro e v2 ⟨rfl, bv⟩
        have L2 := hide (bel_to HL.out (Nat.le_refl _) bv)
        have B2 := hide (HB.out.block (bv.block _ HB.out.lt))
        clear T bv HB HL g0 g1 g2 g3 g4
        go_wp2
        go_roundw
        case rel => exact ⟨k + 1, by omega, by go_num, by rw [← J2.out], B2, L2⟩
        case measure => simp [intOf]; omega
      · have e0 : (0 : Int) < (k : Int) := by omega
        have J2 : Hid (bar (pre ++ joinC (ts.take k)) ++ (⟨#[44]⟩ : ByteArray) ++ bar tx = bar (pre ++ joinC (ts.take (k + 1)))) := ba_ext (by
          rw [ba_app, ba_app, bar_list, bar_list, bar_list, one_byte, JT.out, if_neg hk0]
          simp)
        generalize bar (pre ++ joinC (ts.take k)) = t at *
        clear hk0
        go_wp2_with fail
        with_reducible refine T.out.mono ?_
        rintro e v2 ⟨rfl, bv⟩
        have L2 := hide (bel_to HL.out (Nat.le_refl _) bv)
        have B2 := hide (HB.out.block (bv.block _ HB.out.lt))
        clear T bv HB HL g0 g1 g2 g3 g4
        go_wp2
        go_roundw
        case rel => exact ⟨k + 1, by omega, by go_num, by rw [← J2.out], B2, L2⟩
        case measure => simp [intOf]; omega
    · have hkn : ts.take k = ts := List.take_of_length_le (by rw [HTL.out]; omega)
      rw [hkn] at hts ⊢
      have E : Hid (bar (pre ++ joinC ts) ++ (⟨#[41]⟩ : ByteArray) = bar (pre ++ joinC ts ++ [41])) := ba_ext (by rw [ba_app, bar_list, bar_list, one_byte])
      have HE := hide (HEND.out)
      rw [← E.out] at HE
      generalize bar (pre ++ joinC ts) = t at *
      have i2 : ¬ (k : Int) < (kn : Int) := by omega
      clear hkn
      go_wp2
      go_ret
      exact ⟨by rw [← HE.out]; rfl, HL.out⟩

set_option maxHeartbeats 4000000 in
theorem rtext_7 (m : Mt) (ih : ∀ k ∈ m.ks, RxP k) (S : Nat → Prop) (nm vl : ByteArray) (va : Option Addr) (vn vc : Nat) (ka : Option Addr) (kn kc : Nat) (w : World) (q : SeeM S w m ⟨7, nm, vl, va, vn, vc, ka, kn, kc⟩) (ok : okM m) :
    Calls Try.prog 19 #[.agg #[.int .i64 7, .string nm, .string vl, .slice va vn vc, .slice ka kn kc]] w fun e w' => e = .returned (.string (bar (33 :: 40 :: (joinC (textKs m.ks) ++ [41])))) ∧ Below w.heap.size w w' := by
  have hop : m.op = 7 := (seeM_iff.1 q).1.symm
  obtain ⟨-, -, -, hw, -, hk, -⟩ := seeM_iff.1 q
  dsimp only at hk
  have w4 : kn * 88 ≤ 140737488355328 := hw.kn
  obtain ⟨W, hW⟩ : ∃ W, Hid (w.alloc (.cells #[.int .i64 7, .string nm, .string vl, .slice va vn vc, .slice ka kn kc] 25) = W) := ⟨_, rfl⟩
  have LW : Hid (Below w.heap.size w W) := by rw [← hW.out]; exact (Below.refl _ _).alloc (Nat.le_refl _) _
  have B : Hid (BoxM W w.heap.size ⟨7, nm, vl, va, vn, vc, ka, kn, kc⟩) := by rw [← hW.out]; exact boxM_new w ⟨7, nm, vl, va, vn, vc, ka, kn, kc⟩
  obtain ⟨b0, b1, b2, b3, b4, _⟩ := B.out.all
  dsimp only at b0 b1 b2 b3 b4
  have IH := hide ih
  have OK := hide ok
  have HQ := hide q
  have HTL : Hid ((textKs m.ks).length = kn) := by show _ = _; rw [textKs_map, List.length_map]; exact hk
  have HTK : Hid (∀ (k : Nat) (x : Mt), m.ks[k]? = some x → (textKs m.ks)[k]? = some (textM x)) := fun k x hx => by rw [textKs_map, List.getElem?_map, hx]; rfl
  have hjl : (joinC (textKs m.ks)).length ≤ 19720 := by
    have h1 := ok.len
    rw [textM_eq, if_neg (by omega), if_neg (by omega), if_neg (by omega), if_neg (by omega), if_neg (by omega)] at h1
    simp only [List.length_cons, List.length_append, List.length_nil] at h1
    omega
  obtain ⟨pre, hpre⟩ : ∃ pre : List UInt8, [33, 40] = pre := ⟨_, rfl⟩
  have hpl : pre.length ≤ 34 := by rw [← hpre]; decide
  have P0 : Hid ((⟨#[33, 40]⟩ : ByteArray) = bar pre) := by rw [← hpre]; exact rfl
  generalize hts : textKs m.ks = ts at *
  obtain ⟨ans, HEND⟩ : ∃ ans, Hid (bar (pre ++ joinC ts ++ [41]) = ans) := ⟨bar (pre ++ joinC ts ++ [41]), hide rfl⟩
  rw [show 33 :: 40 :: (joinC ts ++ [41]) = pre ++ joinC ts ++ [41] by rw [← hpre]; simp, HEND.out]
  clear hts hpre ih ok q hk hw hop
  go_enter Try.func19, Try.ntmps19
  go_upto_region 1 with fail
  rw [hW.out]
  clear hW
  go_wp2
  go_loopw [5, 6] (fun t i wr => ∃ k : Nat, k ≤ kn ∧ i = .int .i64 k ∧ t = .string (bar (pre ++ joinC (ts.take k))) ∧ Hid (BoxM wr w.heap.size ⟨7, nm, vl, va, vn, vc, ka, kn, kc⟩) ∧ Hid (Below w.heap.size w wr)) (fun _ i _ => kn - (intOf i).toNat)
  case atStart => exact ⟨0, by omega, rfl, by rw [List.take_zero, show joinC [] = [] from rfl, List.append_nil]; exact congrArg Value.string P0.out, B, LW⟩
  case round =>
    obtain ⟨k, hk, rfl, rfl, HB, HL⟩ := hrel
    obtain ⟨v, rfl⟩ : ∃ v, v = wr := ⟨wr, rfl⟩
    clear b0 b1 b2 b3 b4 B LW
    obtain ⟨b0, b1, b2, b3, b4, _⟩ := HB.out.all
    dsimp only at b0 b1 b2 b3 b4
    have hts : (bar (pre ++ joinC (ts.take k))).size ≤ 40000 := by
      rw [bar_size, List.length_append]
      have := join_sub (l := ts) k
      omega
    by_cases hlt : k < kn
    · have i1 : (0 : Int) ≤ (k : Int) := by omega
      have i2 : (k : Int) < (kn : Int) := by omega
      obtain ⟨x1, y1, kd, h', e, hkd, -, q5, qk⟩ := (HQ.out.below HL.out).kid hlt
      obtain ⟨p0, p1, p2, p3, p4, p5, p6, p7, p8⟩ := h'
      dsimp only at e
      subst e
      obtain ⟨g0, g1, g2, g3, g4⟩ := q5.all
      dsimp only at g0 g1 g2 g3 g4
      have HX := hide (HTK.out k kd hkd)
      have hkm := List.mem_of_getElem? hkd
      have T := hide (IH.out kd hkm S _ v qk (OK.out.kid hkm))
      dsimp only at T
      obtain ⟨tx, HTX⟩ : ∃ tx, Hid (textM kd = tx) := ⟨_, rfl⟩
      rw [HTX.out] at T HX
      have htx : (bar tx).size ≤ 20000 := by
        rw [bar_size, ← HTX.out]
        have := (OK.out.kid hkm).len
        omega
      clear hkd q5 qk hkm
      have JT := hide (join_take HX.out)
      by_cases hk0 : k = 0
      · have e0 : ¬ (0 : Int) < (k : Int) := by omega
        have J2 : Hid (bar (pre ++ joinC (ts.take k)) ++ bar tx = bar (pre ++ joinC (ts.take (k + 1)))) := ba_ext (by
          rw [ba_app, bar_list, bar_list, bar_list, JT.out, if_pos hk0, hk0, List.take_zero, show joinC [] = [] from rfl, List.append_nil])
        generalize bar (pre ++ joinC (ts.take k)) = t at *
        clear hk0
        go_wp2_with fail
        with_reducible refine T.out.mono ?_
        rintro e v2 ⟨rfl, bv⟩
        have L2 := hide (bel_to HL.out (Nat.le_refl _) bv)
        have B2 := hide (HB.out.block (bv.block _ HB.out.lt))
        clear T bv HB HL g0 g1 g2 g3 g4
        go_wp2
        go_roundw
        case rel => exact ⟨k + 1, by omega, by go_num, by rw [← J2.out], B2, L2⟩
        case measure => simp [intOf]; omega
      · have e0 : (0 : Int) < (k : Int) := by omega
        have J2 : Hid (bar (pre ++ joinC (ts.take k)) ++ (⟨#[44]⟩ : ByteArray) ++ bar tx = bar (pre ++ joinC (ts.take (k + 1)))) := ba_ext (by
          rw [ba_app, ba_app, bar_list, bar_list, bar_list, one_byte, JT.out, if_neg hk0]
          simp)
        generalize bar (pre ++ joinC (ts.take k)) = t at *
        clear hk0
        go_wp2_with fail
        with_reducible refine T.out.mono ?_
        rintro e v2 ⟨rfl, bv⟩
        have L2 := hide (bel_to HL.out (Nat.le_refl _) bv)
        have B2 := hide (HB.out.block (bv.block _ HB.out.lt))
        clear T bv HB HL g0 g1 g2 g3 g4
        go_wp2
        go_roundw
        case rel => exact ⟨k + 1, by omega, by go_num, by rw [← J2.out], B2, L2⟩
        case measure => simp [intOf]; omega
    · have hkn : ts.take k = ts := List.take_of_length_le (by rw [HTL.out]; omega)
      rw [hkn] at hts ⊢
      have E : Hid (bar (pre ++ joinC ts) ++ (⟨#[41]⟩ : ByteArray) = bar (pre ++ joinC ts ++ [41])) := ba_ext (by rw [ba_app, bar_list, bar_list, one_byte])
      have HE := hide (HEND.out)
      rw [← E.out] at HE
      generalize bar (pre ++ joinC ts) = t at *
      have i2 : ¬ (k : Int) < (kn : Int) := by omega
      clear hkn
      go_wp2
      go_ret
      exact ⟨by rw [← HE.out]; rfl, HL.out⟩

theorem rtextP_any (m : Mt) : RxP m := by
  refine Mt.ind (P := RxP) ?_ m
  intro m ih S h w q ok
  obtain ⟨op, nm, vl, va, vn, vc, ka, kn, kc⟩ := h
  obtain ⟨e1, e2, e3, hw, hv, hk, -⟩ := seeM_iff.1 q
  dsimp only at e1 e2 e3 hv hk ⊢
  have ho := ok.op
  rw [← e1] at ho
  obtain ⟨o1, o2, -, -⟩ := fit_own ok.fit
  have hvs : m.op = 4 → valsB m.vs = true := fun h4 => by
    rcases fit_names ok.fit with ⟨h, -⟩ | ⟨h, -⟩ | ⟨-, -, -, h, -⟩ | ⟨h, -⟩
    · omega
    · omega
    · exact h
    · omega
  rw [← e1] at hvs
  rw [← e2] at o1
  rw [← e3] at o2
  rw [textM_eq, ← e1, ← e2, ← e3]
  rcases ho with rfl | rfl | rfl | rfl | rfl | rfl | rfl | rfl
  · rw [if_pos rfl]
    exact rtext_0 nm vl va vn vc ka kn kc w
  · rw [if_neg (by decide), if_pos rfl]
    exact rtext_1 nm vl va vn vc ka kn kc w o1 o2
  · rw [if_neg (by decide), if_neg (by decide), if_pos rfl]
    exact rtext_2 nm vl va vn vc ka kn kc w o1 o2
  · rw [if_neg (by decide), if_neg (by decide), if_neg (by decide), if_pos rfl]
    exact rtext_3 nm vl va vn vc ka kn kc w o1 o2
  · rw [if_neg (by decide), if_neg (by decide), if_neg (by decide), if_neg (by decide), if_pos rfl]
    exact rtext_4 S m.vs nm vl va vn vc ka kn kc w o1 hv (hvs rfl)
  · rw [if_neg (by decide), if_neg (by decide), if_neg (by decide), if_neg (by decide), if_neg (by decide), if_neg (by decide), if_neg (by decide)]
    exact rtext_5 m ih S nm vl va vn vc ka kn kc w q ok
  · rw [if_neg (by decide), if_neg (by decide), if_neg (by decide), if_neg (by decide), if_neg (by decide), if_pos rfl]
    exact rtext_6 m ih S nm vl va vn vc ka kn kc w q ok
  · rw [if_neg (by decide), if_neg (by decide), if_neg (by decide), if_neg (by decide), if_neg (by decide), if_neg (by decide), if_pos rfl]
    exact rtext_7 m ih S nm vl va vn vc ka kn kc w q ok
end Go.Proofs.Ythebcmkainplnaa
