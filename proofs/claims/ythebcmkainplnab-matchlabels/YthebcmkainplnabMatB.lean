/-
  The law MatchLabels, walked: of one label: it is, it begins, it is among, by texts; the document's examples hold (written by gen/matb.gen.py).
  Conditions: none.
-/
import Derived.Test.YthebcmkainplnabMatJ
import Derived.Test.YthebcmkainplnabMatR
import Derived.Test.YthebcmkainplnabLabY
namespace Go.Proofs.Ythebcmkainplnab
open Go.RowKit
set_option maxRecDepth 20000

theorem leafB_see (S : Nat → Prop) (w : World) {op : Int} {nm vl : ByteArray} (ho : (Lit.int .i64 op).wf = true) (h1 : nm.size ≤ 9223372036854775807) (h2 : vl.size ≤ 9223372036854775807) : SeeM S w (.mk op nm vl [] []) ⟨op, nm, vl, none, 0, 0, none, 0, 0⟩ := by
  rw [seeM_iff]
  refine ⟨rfl, rfl, rfl, ⟨ho, h1, h2, Nat.le_refl _, fun _ => rfl, by show (0 : Nat) * 88 ≤ _; decide, Nat.le_refl _, fun _ => rfl⟩, ⟨rfl, by show (0 : Nat) * 16 ≤ _; omega, ?_, Or.inl rfl⟩, rfl, Or.inl rfl⟩
  intro s hs
  cases hs
theorem valsB_see {S : Nat → Prop} {w : World} {op : Int} {nm vl : ByteArray} {a : Option Addr} {j c : Nat} {vs : List ByteArray} (ho : (Lit.int .i64 op).wf = true) (h1 : nm.size ≤ 9223372036854775807) (h2 : vl.size ≤ 9223372036854775807) (t : TxR S w a j vs) (hj : j ≤ c) (ha : a = none → c = 0) : SeeM S w (.mk op nm vl vs []) ⟨op, nm, vl, a, j, c, none, 0, 0⟩ := by
  rw [seeM_iff]
  exact ⟨rfl, rfl, rfl, ⟨ho, h1, h2, hj, ha, by show (0 : Nat) * 88 ≤ _; decide, Nat.le_refl _, fun _ => rfl⟩, t, rfl, Or.inl rfl⟩
theorem leaf_chk {op : Int} {nm vl : ByteArray} (ho : op = 1 ∨ op = 2 ∨ op = 3) (hn : nameB nm = true) (hv : vl.size ≤ 64) : chkM (.mk op nm vl [] []) = true := by
  have hs := nameB_len hn
  have ho0 : op ≠ 0 := by omega
  have hf : fitB (.mk op nm vl [] []) = true := by
    unfold fitB
    rw [if_neg (show ¬ (Mt.mk op nm vl [] []).op = 0 from ho0), if_pos (show (Mt.mk op nm vl [] []).op = 1 ∨ (Mt.mk op nm vl [] []).op = 2 ∨ (Mt.mk op nm vl [] []).op = 3 from ho)]
    show (decide ((0 : Nat) = 0) && decide ((0 : Nat) = 0) && nameB nm && decide (vl.size ≤ 64)) = true
    rw [hn, decide_eq_true hv]
    rfl
  have hw : ownT (.mk op nm vl [] []) ≤ 4096 := by
    show nm.size + vl.size + 0 ≤ 4096
    omega
  unfold chkM
  rw [lookF_eq, if_neg (by rw [hf]; simp; omega)]
  rfl
theorem val_own (n v : ByteArray) : valL [(n, v)] n = v := by simp [valL]
theorem one_name {n v : ByteArray} (h : chkL [(n, v)] = true) : nameB n = true ∧ v.size ≤ 64 := by
  unfold chkL at h
  simp only [Bool.and_eq_true] at h
  have h1 := h.1
  simp [chkF, lbB] at h1
  exact ⟨h1.1, h1.2.2⟩
theorem eval_is (l : List Lb) (n x : ByteArray) : evalM l (.mk 1 n x [] []) = decide (valL l n = x) := by rw [evalM_eq]; rfl
theorem eval_isnt (l : List Lb) (n x : ByteArray) : evalM l (.mk 2 n x [] []) = decide (valL l n ≠ x) := by rw [evalM_eq]; rfl
theorem eval_begins (l : List Lb) (n x : ByteArray) : evalM l (.mk 3 n x [] []) = x.toList.isPrefixOf (valL l n).toList := by rw [evalM_eq]; rfl
theorem eval_among (l : List Lb) (n : ByteArray) (vs : List ByteArray) : evalM l (.mk 4 n .empty vs []) = vs.any fun v => decide (v = valL l n) := by rw [evalM_eq]; rfl
theorem pre_is {x v : ByteArray} : x.toList.isPrefixOf v.toList = ((v.extract 0 x.size).toList == x.toList) := by
  rw [ByteArray.toList_eq (v.extract 0 x.size), ByteArray.data_extract, Array.toList_extract]
  simp only [List.extract_eq_take_drop, Nat.sub_zero, List.drop_zero]
  rw [← ByteArray.toList_eq v, Bool.eq_iff_iff, List.isPrefixOf_iff_prefix, List.prefix_iff_eq_take, beq_iff_eq, ba_len]
  exact eq_comm
theorem pre_no {x v : ByteArray} (h : ¬ x.size ≤ v.size) : x.toList.isPrefixOf v.toList = false := by
  rw [Bool.eq_false_iff]
  intro e
  rw [List.isPrefixOf_iff_prefix] at e
  have := e.length_le
  rw [ba_len, ba_len] at this
  omega
theorem any_texts {vs : List ByteArray} {p : ByteArray → Bool} {i : Nat} {s : ByteArray} (hs : vs[i]? = some s) : (vs.take (i + 1)).any p = ((vs.take i).any p || p s) := by
  rw [List.take_add_one, hs, List.any_append]
  simp
theorem textsZ_of {w : World} {a : Option Addr} {len cap : Nat} {ss : List ByteArray} (h : IsTextsZ w a len cap ss) : TxR (fun _ => True) w a len (ss.take len) ∧ len ≤ cap ∧ (a = none → cap = 0) := by
  have hx := textsF_of h.1
  have hc := h.1.1
  have hz : len ≤ cap ∧ (a = none → cap = 0) := by
    rcases h.1.2 with ⟨rfl, rfl, rfl, rfl⟩ | ⟨x, rfl, hl, -⟩
    · exact ⟨Nat.le_refl _, fun _ => rfl⟩
    · exact ⟨hl, fun e => by cases e⟩
  refine ⟨⟨hx.1, by omega, fun s hs => ?_, ?_⟩, hz⟩
  · have := h.2 s (List.mem_of_mem_take hs)
    unfold maxLen at this
    omega
  · rcases hx.2.2 with h0 | ⟨b, off, he, hc⟩
    · exact Or.inl h0
    · exact Or.inr ⟨b, off, he, trivial, hc⟩

set_option maxHeartbeats 8000000 in
theorem labelsM_any (n v x : ByteArray) (a : Option Addr) (k c : Nat) (vs : List ByteArray) (w : World) (hn : n.size ≤ 9223372036854775807) (hv : v.size ≤ 9223372036854775807) (hx : x.size ≤ 9223372036854775807) (ht : TxR (fun _ => True) w a k vs) (hz : a = none → c = 0) :
    Calls Try.prog 4 #[.string n, .string v, .string x, .slice a k c] w fun e w' => e = .returned (.bool true) ∧ Below w.heap.size w w' := by
  obtain ⟨i0, hi, hz0, hz1, hz2⟩ := info_parts Try.infoS
  have hk := ht.2.1
  obtain ⟨W, hW⟩ : ∃ W, Hid (w.alloc (.cells #[.string n, .string v] 32) = W) := ⟨_, rfl⟩
  have LW : Hid (Below w.heap.size w W) := by rw [← hW.out]; exact (Below.refl _ _).alloc (Nat.le_refl _) _
  have RW : Hid (RowL W (some ⟨w.heap.size, 0, none⟩) 1 [(n, v)]) := by
    rw [← hW.out]
    exact lab_row1 w n v hn hv
  have HT := hide ht
  have HV := hide hv
  have HN := hide hn
  have HX := hide hx
  have AW := hide awakeM_any
  have T0 := hide (quietB (refchkl_any (some ⟨w.heap.size, 0, none⟩) 1 1 [(n, v)] W RW.out))
  clear ht
  go_enter Try.func4, Try.ntmps4
  go_upto_region 2 with fail
  rw [hW.out]
  clear hW
  go_wp2_with fail
  with_reducible refine T0.out.mono ?_
  rintro e v1 ⟨rfl, k1⟩
  have L1 : Hid (Below w.heap.size w v1) := bel_to LW.out (Nat.le_refl _) k1
  have R1 := hide (RW.out.below k1 (Nat.le_refl _))
  clear T0 k1 LW RW
  cases hc : chkL [(n, v)] with
  | false =>
    go_wp2_with fail
    with_reducible refine (AW.out _).mono ?_
    rintro e vz ⟨rfl, kz⟩
    have LZ := hide (bel_to L1.out (Nat.le_refl _) kz)
    clear kz
    go_wp2
    go_ret
    exact ⟨rfl, LZ.out⟩
  | true =>
    by_cases hx1 : 64 < x.size
    · have t3 : (64 : Int) < (x.size : Int) := by omega
      go_wp2_with fail
      with_reducible refine (AW.out _).mono ?_
      rintro e vz ⟨rfl, kz⟩
      have LZ := hide (bel_to L1.out (Nat.le_refl _) kz)
      clear kz
      go_wp2
      go_ret
      exact ⟨rfl, LZ.out⟩
    · have t3 : ¬ (64 : Int) < (x.size : Int) := by omega
      by_cases hx2 : 10 < k
      · have t4 : (10 : Int) < (k : Int) := by omega
        go_wp2_with fail
        with_reducible refine (AW.out _).mono ?_
        rintro e vz ⟨rfl, kz⟩
        have LZ := hide (bel_to L1.out (Nat.le_refl _) kz)
        clear kz
        go_wp2
        go_ret
        exact ⟨rfl, LZ.out⟩
      · have t4 : ¬ (10 : Int) < (k : Int) := by omega
        obtain ⟨hnm, hv64⟩ := one_name hc
        have T1 := hide (fun u (r : RowL u (some ⟨w.heap.size, 0, none⟩) 1 [(n, v)]) => evalT_any [(n, v)] (fun _ => True) (.mk 1 n x [] []) ⟨1, n, x, none, 0, 0, none, 0, 0⟩ (some ⟨w.heap.size, 0, none⟩) 1 1 u (leafB_see _ _ (by decide) HN.out HX.out) (leaf_chk (by decide) hnm (by omega)) r)
        rw [eval_is, val_own] at T1
        have T2 := hide (fun u (r : RowL u (some ⟨w.heap.size, 0, none⟩) 1 [(n, v)]) => evalT_any [(n, v)] (fun _ => True) (.mk 2 n x [] []) ⟨2, n, x, none, 0, 0, none, 0, 0⟩ (some ⟨w.heap.size, 0, none⟩) 1 1 u (leafB_see _ _ (by decide) HN.out HX.out) (leaf_chk (by decide) hnm (by omega)) r)
        rw [eval_isnt, val_own] at T2
        have T3 := hide (fun u (r : RowL u (some ⟨w.heap.size, 0, none⟩) 1 [(n, v)]) => evalT_any [(n, v)] (fun _ => True) (.mk 3 n x [] []) ⟨3, n, x, none, 0, 0, none, 0, 0⟩ (some ⟨w.heap.size, 0, none⟩) 1 1 u (leafB_see _ _ (by decide) HN.out HX.out) (leaf_chk (by decide) hnm (by omega)) r)
        rw [eval_begins, val_own] at T3
        dsimp only at T1 T2 T3
        rw [show decide (v ≠ x) = !decide (v = x) from decide_not] at T2
        have e1 : (x.toList == v.toList) = decide (v = x) := by rw [ba_eq]; exact decide_eq_decide.2 eq_comm
        have e0 : ∀ b : Bool, ((!b) == b) = false := by intro b; cases b <;> rfl
        have e00 : ∀ b : Bool, (b != b) = false := by intro b; cases b <;> rfl
        have hmin : x.size ≤ v.size → min (x.size : Int) (v.size : Int) = (x.size : Int) := fun h => by omega
        obtain ⟨bx, hbx⟩ : ∃ b, b = decide (v = x) := ⟨_, rfl⟩
        rw [← hbx] at T1 T2 e1
        have e4 : ((!bx) == bx) = false := e0 bx
        have e5 : (bx != bx) = false := e00 bx
        clear hbx
        obtain ⟨pb, hpb⟩ : ∃ b, b = x.toList.isPrefixOf v.toList := ⟨_, rfl⟩
        rw [← hpb] at T3
        have e8 : (pb != pb) = false := e00 pb
        go_wp2_with fail
        with_reducible refine (T1.out _ R1.out).mono ?_
        rintro e u1 ⟨rfl, k1⟩
        have LU1 := hide (bel_to L1.out (Nat.le_refl _) k1)
        have RU1 := hide (R1.out.below k1 (Nat.le_refl _))
        clear T1 k1 L1 R1
        go_wp2_with fail
        with_reducible refine (T2.out _ RU1.out).mono ?_
        rintro e u2 ⟨rfl, k2⟩
        have LU2 := hide (bel_to LU1.out (Nat.le_refl _) k2)
        have RU2 := hide (RU1.out.below k2 (Nat.le_refl _))
        clear T2 k2 LU1 RU1
        go_wp2_with fail
        with_reducible refine (T3.out _ RU2.out).mono ?_
        rintro e u3 ⟨rfl, k3⟩
        have LU3 := hide (bel_to LU2.out (Nat.le_refl _) k3)
        have RU3 := hide (RU2.out.below k3 (Nat.le_refl _))
        clear T3 k3 LU2 RU2
        have GO : Hid (x.size ≤ v.size → ((v.extract 0 x.size).toList == x.toList) = pb) := fun _ => by rw [hpb]; exact pre_is.symm
        have GN : Hid (¬ x.size ≤ v.size → pb = false) := fun h => by rw [hpb]; exact pre_no h
        clear hpb e0 e00
        by_cases hle : x.size ≤ v.size
        · have i1 : (x.size : Int) ≤ (v.size : Int) := by omega
          have e6 := hmin hle
          have e7 := GO.out hle
          clear GO GN hmin
          go_upto_region 9 with fail
          have TV := hide (HT.out.below LU3.out)
          go_wp2_with (at_builtin; refine wpList_copy_texts _ rfl _ _ 22 rfl i0 Try.underlying22 hi hz0 hz1 hz2 rfl (fun _ => True) a k c vs rfl TV.out hz ?_)
          intro a9 c9 u4 t9 hk9 hz9 k9
          have L4 := hide (bel_to LU3.out (Nat.le_refl _) k9)
          have R4 := hide (RU3.out.below k9 (Nat.le_refl _))
          have T9 := hide t9
          have D9 := hide hk9
          have Z9 := hide hz9
          clear t9 k9 LU3 RU3 TV hk9 hz9
          obtain ⟨V, hV⟩ : ∃ V, Hid (u4.alloc (.cells #[.int .i64 4, .string n, .string ⟨#[]⟩, .slice a9 k c9, .slice none 0 0] 25) = V) := ⟨_, rfl⟩
          have KV : Hid (Below u4.heap.size u4 V) := by rw [← hV.out]; exact (Below.refl _ _).alloc (Nat.le_refl _) _
          have BV : Hid (BoxM V u4.heap.size ⟨4, n, ⟨#[]⟩, a9, k, c9, none, 0, 0⟩) := by rw [← hV.out]; exact boxM_new u4 ⟨4, n, ⟨#[]⟩, a9, k, c9, none, 0, 0⟩
          have L5 := hide (bel_to L4.out (Nat.le_refl _) KV.out)
          have R5 := hide (R4.out.below KV.out (Nat.le_refl _))
          have S5 : Hid (SeeM (fun b => u3.heap.size ≤ b) V (.mk 4 n .empty vs []) ⟨4, n, ⟨#[]⟩, a9, k, c9, none, 0, 0⟩) := valsB_see (by decide) HN.out (by decide) (T9.out.below KV.out) D9.out Z9.out
          have TZ := hide (HT.out.below L5.out)
          clear KV L4 R4 T9 D9 Z9
          go_upto_region 10 with fail
          rw [hV.out]
          clear hV
          have TC := hide (refchkM_any (fun b => u3.heap.size ≤ b) (.mk 4 n .empty vs []) ⟨4, n, ⟨#[]⟩, a9, k, c9, none, 0, 0⟩ V S5.out)
          dsimp only at TC
          obtain ⟨b0, b1, b2, b3, b4, _⟩ := BV.out.all
          dsimp only at b0 b1 b2 b3 b4
          go_wp2_with fail
          with_reducible refine TC.out.mono ?_
          rintro e u6 ⟨rfl, k6⟩
          have L6 := hide (bel_to L5.out (Nat.le_refl _) k6)
          have R6 := hide (R5.out.below k6 (Nat.le_refl _))
          have S6 := hide (S5.out.below k6)
          have B6 := hide (BV.out.block (k6.block _ BV.out.lt))
          have T6 := hide (TZ.out.below k6)
          clear TC k6 b0 b1 b2 b3 b4 L5 R5 S5 BV TZ
          obtain ⟨b0, b1, b2, b3, b4, _⟩ := B6.out.all
          dsimp only at b0 b1 b2 b3 b4
          cases hcm : chkM (.mk 4 n .empty vs []) with
          | false =>
            go_wp2_with fail
            with_reducible refine (AW.out _).mono ?_
            rintro e vz ⟨rfl, kz⟩
            have LZ := hide (bel_to L6.out (Nat.le_refl _) kz)
            clear kz
            go_wp2
            go_ret
            exact ⟨rfl, LZ.out⟩
          | true =>
            have TE := hide (evalT_any [(n, v)] (fun b => u3.heap.size ≤ b) (.mk 4 n .empty vs []) ⟨4, n, ⟨#[]⟩, a9, k, c9, none, 0, 0⟩ (some ⟨w.heap.size, 0, none⟩) 1 1 u6 S6.out hcm R6.out)
            rw [eval_among, val_own] at TE
            dsimp only at TE
            go_wp2
            go_loopw [14, 15] (fun x i wr => ∃ j : Nat, j ≤ k ∧ i = .int .i64 j ∧ Hid (wr = u6) ∧ x = .bool ((vs.take j).any fun y => decide (y = v))) (fun _ i _ => k - (intOf i).toNat)
            case atStart => exact ⟨0, by omega, rfl, rfl, by rw [List.take_zero]; rfl⟩
            case round =>
              obtain ⟨j, hj, rfl, HW, rfl⟩ := hrel
              have hW := HW.out
              subst hW
              clear HW
              by_cases hlt : j < k
              · obtain ⟨b, off, y, rfl, hy, hysz, _, hcell⟩ := T6.out.at' hlt
                have i1 : (0 : Int) ≤ (j : Int) := by omega
                have i2 : (j : Int) < (k : Int) := by omega
                have AT := hide (any_texts (p := fun y => decide (y = v)) hy)
                have ey : (y.toList == v.toList) = decide (y = v) := ba_eq
                clear hy
                cases hb : (vs.take j).any fun y => decide (y = v) with
                | true =>
                  rw [hb, Bool.true_or] at AT
                  clear hb
                  go_wp2
                  go_roundw
                  case rel => exact ⟨j + 1, by omega, by go_num, trivial, by rw [AT.out]⟩
                  case measure => simp [intOf]; omega
                | false =>
                  rw [hb, Bool.false_or] at AT
                  clear hb
                  go_wp2
                  go_roundw
                  case rel => exact ⟨j + 1, by omega, by go_num, trivial, by rw [AT.out, ← ey]⟩
                  case measure => simp [intOf]; omega
              · have AL : Hid (vs.take j = vs) := List.take_of_length_le (by rw [HT.out.1]; omega)
                rw [AL.out]
                generalize (vs.any fun y => decide (y = v)) = ans at *
                have ea : (ans == ans) = true := by simp
                clear AL
                go_wp2_with fail
                with_reducible refine TE.out.mono ?_
                rintro e u7 ⟨rfl, k7⟩
                have L7 := hide (bel_to L6.out (Nat.le_refl _) k7)
                clear TE k7 b0 b1 b2 b3 b4
                go_wp2_with fail
                with_reducible refine (AW.out _).mono ?_
                rintro e vz ⟨rfl, kz⟩
                have LZ := hide (bel_to L7.out (Nat.le_refl _) kz)
                clear kz
                go_wp2
                go_ret
                exact ⟨rfl, LZ.out⟩
        · have i1 : ¬ (x.size : Int) ≤ (v.size : Int) := by omega
          obtain rfl := GN.out hle
          clear GO GN hmin
          go_upto_region 9 with fail
          have TV := hide (HT.out.below LU3.out)
          go_wp2_with (at_builtin; refine wpList_copy_texts _ rfl _ _ 22 rfl i0 Try.underlying22 hi hz0 hz1 hz2 rfl (fun _ => True) a k c vs rfl TV.out hz ?_)
          intro a9 c9 u4 t9 hk9 hz9 k9
          have L4 := hide (bel_to LU3.out (Nat.le_refl _) k9)
          have R4 := hide (RU3.out.below k9 (Nat.le_refl _))
          have T9 := hide t9
          have D9 := hide hk9
          have Z9 := hide hz9
          clear t9 k9 LU3 RU3 TV hk9 hz9
          obtain ⟨V, hV⟩ : ∃ V, Hid (u4.alloc (.cells #[.int .i64 4, .string n, .string ⟨#[]⟩, .slice a9 k c9, .slice none 0 0] 25) = V) := ⟨_, rfl⟩
          have KV : Hid (Below u4.heap.size u4 V) := by rw [← hV.out]; exact (Below.refl _ _).alloc (Nat.le_refl _) _
          have BV : Hid (BoxM V u4.heap.size ⟨4, n, ⟨#[]⟩, a9, k, c9, none, 0, 0⟩) := by rw [← hV.out]; exact boxM_new u4 ⟨4, n, ⟨#[]⟩, a9, k, c9, none, 0, 0⟩
          have L5 := hide (bel_to L4.out (Nat.le_refl _) KV.out)
          have R5 := hide (R4.out.below KV.out (Nat.le_refl _))
          have S5 : Hid (SeeM (fun b => u3.heap.size ≤ b) V (.mk 4 n .empty vs []) ⟨4, n, ⟨#[]⟩, a9, k, c9, none, 0, 0⟩) := valsB_see (by decide) HN.out (by decide) (T9.out.below KV.out) D9.out Z9.out
          have TZ := hide (HT.out.below L5.out)
          clear KV L4 R4 T9 D9 Z9
          go_upto_region 10 with fail
          rw [hV.out]
          clear hV
          have TC := hide (refchkM_any (fun b => u3.heap.size ≤ b) (.mk 4 n .empty vs []) ⟨4, n, ⟨#[]⟩, a9, k, c9, none, 0, 0⟩ V S5.out)
          dsimp only at TC
          obtain ⟨b0, b1, b2, b3, b4, _⟩ := BV.out.all
          dsimp only at b0 b1 b2 b3 b4
          go_wp2_with fail
          with_reducible refine TC.out.mono ?_
          rintro e u6 ⟨rfl, k6⟩
          have L6 := hide (bel_to L5.out (Nat.le_refl _) k6)
          have R6 := hide (R5.out.below k6 (Nat.le_refl _))
          have S6 := hide (S5.out.below k6)
          have B6 := hide (BV.out.block (k6.block _ BV.out.lt))
          have T6 := hide (TZ.out.below k6)
          clear TC k6 b0 b1 b2 b3 b4 L5 R5 S5 BV TZ
          obtain ⟨b0, b1, b2, b3, b4, _⟩ := B6.out.all
          dsimp only at b0 b1 b2 b3 b4
          cases hcm : chkM (.mk 4 n .empty vs []) with
          | false =>
            go_wp2_with fail
            with_reducible refine (AW.out _).mono ?_
            rintro e vz ⟨rfl, kz⟩
            have LZ := hide (bel_to L6.out (Nat.le_refl _) kz)
            clear kz
            go_wp2
            go_ret
            exact ⟨rfl, LZ.out⟩
          | true =>
            have TE := hide (evalT_any [(n, v)] (fun b => u3.heap.size ≤ b) (.mk 4 n .empty vs []) ⟨4, n, ⟨#[]⟩, a9, k, c9, none, 0, 0⟩ (some ⟨w.heap.size, 0, none⟩) 1 1 u6 S6.out hcm R6.out)
            rw [eval_among, val_own] at TE
            dsimp only at TE
            go_wp2
            go_loopw [14, 15] (fun x i wr => ∃ j : Nat, j ≤ k ∧ i = .int .i64 j ∧ Hid (wr = u6) ∧ x = .bool ((vs.take j).any fun y => decide (y = v))) (fun _ i _ => k - (intOf i).toNat)
            case atStart => exact ⟨0, by omega, rfl, rfl, by rw [List.take_zero]; rfl⟩
            case round =>
              obtain ⟨j, hj, rfl, HW, rfl⟩ := hrel
              have hW := HW.out
              subst hW
              clear HW
              by_cases hlt : j < k
              · obtain ⟨b, off, y, rfl, hy, hysz, _, hcell⟩ := T6.out.at' hlt
                have i1 : (0 : Int) ≤ (j : Int) := by omega
                have i2 : (j : Int) < (k : Int) := by omega
                have AT := hide (any_texts (p := fun y => decide (y = v)) hy)
                have ey : (y.toList == v.toList) = decide (y = v) := ba_eq
                clear hy
                cases hb : (vs.take j).any fun y => decide (y = v) with
                | true =>
                  rw [hb, Bool.true_or] at AT
                  clear hb
                  go_wp2
                  go_roundw
                  case rel => exact ⟨j + 1, by omega, by go_num, trivial, by rw [AT.out]⟩
                  case measure => simp [intOf]; omega
                | false =>
                  rw [hb, Bool.false_or] at AT
                  clear hb
                  go_wp2
                  go_roundw
                  case rel => exact ⟨j + 1, by omega, by go_num, trivial, by rw [AT.out, ← ey]⟩
                  case measure => simp [intOf]; omega
              · have AL : Hid (vs.take j = vs) := List.take_of_length_le (by rw [HT.out.1]; omega)
                rw [AL.out]
                generalize (vs.any fun y => decide (y = v)) = ans at *
                have ea : (ans == ans) = true := by simp
                clear AL
                go_wp2_with fail
                with_reducible refine TE.out.mono ?_
                rintro e u7 ⟨rfl, k7⟩
                have L7 := hide (bel_to L6.out (Nat.le_refl _) k7)
                clear TE k7 b0 b1 b2 b3 b4
                go_wp2_with fail
                with_reducible refine (AW.out _).mono ?_
                rintro e vz ⟨rfl, kz⟩
                have LZ := hide (bel_to L7.out (Nat.le_refl _) kz)
                clear kz
                go_wp2
                go_ret
                exact ⟨rfl, LZ.out⟩
end Go.Proofs.Ythebcmkainplnab
