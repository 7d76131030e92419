/-
  The law of layer 8 on fewer than 1024 unlike things, of any layer that keeps its contracts: the walk.
  Conditions: the contracts.
-/
import Derived.Test.YtlhiikibbppodaaKmvF
namespace Go.Proofs.Ytlhiikibbppodaa
open Go.RowKit Go.ChangeShapes

theorem mem_take_succ {h : Int} {M : List Int} {j : Nat} (hj : j < M.length) : h ∈ M.take (j + 1) ↔ h ∈ M.take j ∨ M.getD j 0 = h := by
  rw [take_num hj, List.mem_append, List.mem_singleton]
  exact ⟨fun x => x.elim Or.inl (fun e => Or.inr e.symm), fun x => x.elim Or.inl (fun e => Or.inr e.symm)⟩

set_option maxRecDepth 20000 in
set_option maxHeartbeats 8000000 in
theorem few_of {At : World → Nat → (Nat → Prop) → List Int → Prop} (I : KmvI At) (a0 : Option Addr) (n0 c0 : Nat) (ss : List ByteArray) (a1 : Option Addr) (n1 c1 : Nat) (zs : List Int) (w : World) (hf : IsTextsZ w a0 n0 c0 ss) (hg : IsRow .i64 w a1 n1 c1 zs) :
    Calls Try.prog 5 #[.slice a0 n0 c0, .slice a1 n1 c1] w fun e w' => e = .returned (.bool true) ∧ Below w.heap.size w w' := by
  obtain ⟨i0, hi0⟩ := info_parts Try.infoU
  have HII := hide hi0
  obtain ⟨_, _, _, RG⟩ := row_of hg
  have RX := textsF_of hf.1
  have HSZ : Hid (∀ i, i < n0 → ((ss.take n0).getD i ByteArray.empty).size ≤ 9223372036854775807) := by
    intro i hi
    have hm : ∀ s ∈ ss.take n0, s.size ≤ 9223372036854775807 := fun s hs => Nat.le_trans (hf.2 s (List.mem_of_mem_take hs)) (by decide)
    exact getD_text hm (by rw [RX.1]; exact hi)
  clear hf hg hi0
  generalize zs.take n1 = gz at RG
  generalize ss.take n0 = ts at RX HSZ
  have HX := hide RX
  have HG := hide RG
  have AW := hide (fun W (bl : Below w.heap.size w W) => (awakeK_any I W).mono (fun e W' (h : e = .returned (.bool true) ∧ Below W.heap.size W W') => (⟨h.1, bl.trans (h.2.mono bl.size)⟩ : e = .returned (.bool true) ∧ Below w.heap.size w W')))
  have N0 := hide ((PoolK.nil (At := At) (Below.refl w.heap.size w)).new I)
  have HI := hide I
  clear RX RG I
  by_cases hbig : n0 ≤ 300 ∧ n1 ≤ 300
  case neg =>
    go_enter Try.func5, Try.ntmps5
    go_wp2_with fail
    refine N0.out.mono ?_
    rintro e W1 ⟨g, rfl, p1⟩
    have A := hide (AW.out W1 p1.low)
    clear p1 N0
    by_cases h0 : n0 ≤ 300
    · have q0 : ¬ (300 : Int) < (n0 : Int) := by omega
      have q1 : (300 : Int) < (n1 : Int) := by omega
      go_wp2_with fail
      refine A.out.mono ?_
      rintro e W2 ⟨rfl, bl⟩
      have BL := hide bl
      clear bl A
      go_wp2
      go_ret
      exact ⟨rfl, BL.out⟩
    · have q0 : (300 : Int) < (n0 : Int) := by omega
      go_wp2_with fail
      refine A.out.mono ?_
      rintro e W2 ⟨rfl, bl⟩
      have BL := hide bl
      clear bl A
      go_wp2
      go_ret
      exact ⟨rfl, BL.out⟩
  obtain ⟨l0, l1⟩ := hbig
  have q0 : ¬ (300 : Int) < (n0 : Int) := by omega
  have q1 : ¬ (300 : Int) < (n1 : Int) := by omega
  go_enter Try.func5, Try.ntmps5
  go_wp2_with fail
  refine N0.out.mono ?_
  rintro e W1 ⟨g, rfl, p1⟩
  have P1 : Hid (FwK At w W1 g [] none 0 0 []) := by
    obtain ⟨S, s1, s2⟩ := p1.has (q1 := []) (q2 := [])
    exact ⟨p1.low, ⟨S, s1, s2, by simp⟩, own_nil _ _ _ _⟩
  have E1 : Hid (SameK [] []) := ⟨up_nil, by simp, by simp, by simp⟩
  clear p1 N0
  go_wp2
  go_loopw [6, 7] (fun x6 x7 wr => ∃ (sa : Option Addr) (sn sc i : Nat) (L M : List Int), x6 = .slice sa sn sc ∧ x7 = .int .i64 i ∧ i ≤ n0 + n1 ∧ sn ≤ i ∧ Hid (FwK At w wr g L sa sn sc M) ∧ Hid (SameK L M)) (fun _ x7 _ => n0 + n1 - (intOf x7).toNat)
  case atStart => exact ⟨none, 0, 0, 0, [], [], rfl, rfl, by omega, by omega, P1, E1⟩
  case round =>
    obtain ⟨sa, sn, sc, i, L, M, rfl, rfl, hi, hsn, HP, HE⟩ := hrel
    by_cases hgo : i < n0 + n1 ∧ 0 < n0
    · obtain ⟨hlt, hpos⟩ := hgo
      obtain ⟨tb, toff, rfl, tc⟩ : ∃ b off, a0 = some ⟨b, off, none⟩ ∧ ∀ j, j < n0 → wr.cell? ⟨b, off + j, none⟩ = some (.string (ts.getD j ByteArray.empty)) := by
        obtain ⟨_, _, h | h⟩ := HX.out.below HP.out.low (Nat.le_refl _)
        · omega
        · exact h
      have t0 : wr.cell? ⟨tb, toff, none⟩ = some (.string (ts.getD 0 ByteArray.empty)) := tc 0 hpos
      generalize ts.getD 0 ByteArray.empty = s0 at t0
      have u1 : (i : Int) < (n0 : Int) + (n1 : Int) := by omega
      have u2 : (0 : Int) < (n0 : Int) := by omega
      have u3 : (0 : Int) ≤ (i : Int) := by omega
      have hML : M.length = sn := HP.out.own.len
      by_cases hin : i < n0
      · have ti := tc i hin
        have hs := HSZ.out i hin
        have v1 : (i : Int) < (n0 : Int) := by omega
        clear tc
        generalize ts.getD i ByteArray.empty = s at *
        have AD := hide (HP.out.add HI.out s hs)
        clear HP
        go_wp2_with fail
        refine AD.out.mono ?_
        rintro e W3 ⟨rfl, p3⟩
        have Q3 := hide p3
        have OF := hide (refOf_any s W3 hs)
        have hw := fnvOf_word (numsOf s)
        have HRW := hide (OwnU.rowU p3.own (by omega) HE.out.words)
        clear p3 AD
        obtain ⟨h, HH⟩ : ∃ h, Hid (fnvOf (numsOf s) = h) := ⟨_, rfl⟩
        rw [HH.out] at Q3 OF hw
        have HWW := hide hw
        clear HH hw
        go_wp2_with fail
        refine OF.out.mono ?_
        rintro e W4 ⟨rfl, rfl⟩
        clear OF
        go_wp2
        go_loop [10, 11] (fun x10 x11 => ∃ j : Nat, j ≤ sn ∧ x11 = .int .i64 j ∧ x10 = .bool (decide (h ∈ M.take j))) (fun _ x11 => sn - (intOf x11).toNat)
        case atStart => exact ⟨0, by omega, rfl, by simp⟩
        case round =>
          obtain ⟨j, hj, rfl, rfl⟩ := hrel
          by_cases hjn : j < sn
          · obtain ⟨mb, moff, rfl, mc⟩ := row_at HRW.out (j := j) hjn
            have mj := mc j hjn W4 (Below.refl _ _)
            have w1 : (j : Int) < (sn : Int) := by omega
            have w2 : (0 : Int) ≤ (j : Int) := by omega
            have HTS := hide (mem_take_succ (h := h) (M := M) (j := j) (by omega))
            clear mc
            by_cases hk : h ∈ M.take j
            · have HN : Hid (decide (h ∈ M.take (j + 1)) = true) := decide_eq_true (HTS.out.2 (Or.inl hk))
              rw [decide_eq_true hk]
              clear hk HTS
              go_wp2
              exact ⟨⟨j + 1, by omega, by go_num, by rw [HN.out]⟩, by simp [intOf]; omega⟩
            · rw [decide_eq_false hk]
              by_cases he : M.getD j 0 = h
              · have HN : Hid (decide (h ∈ M.take (j + 1)) = true) := decide_eq_true (HTS.out.2 (Or.inr he))
                rw [he] at mj
                clear hk HTS he
                go_wp2
                exact ⟨⟨j + 1, by omega, by go_num, by rw [HN.out]⟩, by simp [intOf]; omega⟩
              · have HN : Hid (decide (h ∈ M.take (j + 1)) = false) := decide_eq_false (fun x => (HTS.out.1 x).elim hk he)
                have hb : (M.getD j 0 == h) = false := by simpa using he
                clear hk HTS he
                generalize M.getD j 0 = mm at *
                go_wp2
                exact ⟨⟨j + 1, by omega, by go_num, by rw [HN.out]⟩, by simp [intOf]; omega⟩
          · have w1 : ¬ (j : Int) < (sn : Int) := by omega
            rw [List.take_of_length_le (by omega)]
            by_cases hk : h ∈ M
            · rw [decide_eq_true hk]
              have HEN := hide (HE.out.old hk (by omega))
              clear hk
              go_wp2
              go_roundw
              case rel => exact ⟨sa, sn, sc, i + 1, _, M, rfl, by go_num, by omega, by omega, Q3, HEN⟩
              case measure => simp [intOf]; omega
            · rw [decide_eq_false hk]
              have HEN := hide (HE.out.more hk HWW.out (by omega))
              clear hk
              go_wp2_with (at_builtin; go_must (refine wpList_push _ rfl _ _ 22 rfl w.heap.size 31 i0 (.int .u64 0) 8 Try.underlying22 HII.out.1 HII.out.2.1 HII.out.2.2.1 HII.out.2.2.2 rfl sa sn sc (M.map (Value.int .u64)) rfl (Own.alloc Q3.out.own _) ⟨W4.heap.size, 0, none⟩ 1 (.int .u64 h) rfl (one_wordcell W4 h _) rfl (by unfold maxLen; omega) (by omega) (by have := Q3.out.low.size; simp; omega) ?_))
              intro g' cap' W5 h1 h2 h3
              have Q5 := hide (Q3.out.push HI.out h1 h2 (h3.imp id (fun h => by simpa using h)))
              clear h1 h2 h3
              go_wp2
              go_roundw
              case rel => exact ⟨_, sn + 1, cap', i + 1, _, M ++ [h], rfl, by go_num, by omega, by omega, Q5, HEN⟩
              case measure => simp [intOf]; omega
      · obtain ⟨gb, goff, rfl, gc⟩ := row_at HG.out (j := i - n0) (by omega)
        have gi := gc (i - n0) (by omega) wr HP.out.low
        have v1 : ¬ (i : Int) < (n0 : Int) := by omega
        have v2 : (i : Int) - (n0 : Int) = ((i - n0 : Nat) : Int) := by omega
        have v3 : ((i - n0 : Nat) : Int) < (n1 : Int) := by omega
        generalize gz.getD (i - n0) 0 = z at *
        have z0 := Int.emod_nonneg z (b := (n0 : Int)) (by omega)
        have z1 := Int.emod_lt_of_pos z (b := (n0 : Int)) (by omega)
        have PC := hide (fun W => place_any z n0 (by omega) (by omega) W)
        obtain ⟨r, hr⟩ := Int.eq_ofNat_of_zero_le z0
        rw [hr] at PC z0 z1
        have tr := tc r (by omega)
        have hs := HSZ.out r (by omega)
        clear tc gc hr
        generalize ts.getD r ByteArray.empty = s at *
        have AD := hide (HP.out.add HI.out s hs)
        clear HP
        obtain ⟨d, hd⟩ : ∃ d : Nat, i - n0 = d := ⟨_, rfl⟩
        rw [hd] at gi v2 v3
        have v4 : (0 : Int) ≤ (d : Int) := by omega
        go_wp2_with fail
        refine (PC.out _).mono ?_
        rintro e W2 ⟨rfl, rfl⟩
        go_wp2_with fail
        refine AD.out.mono ?_
        rintro e W3 ⟨rfl, p3⟩
        have Q3 := hide p3
        have OF := hide (refOf_any s W3 hs)
        have hw := fnvOf_word (numsOf s)
        have HRW := hide (OwnU.rowU p3.own (by omega) HE.out.words)
        clear p3 AD
        obtain ⟨h, HH⟩ : ∃ h, Hid (fnvOf (numsOf s) = h) := ⟨_, rfl⟩
        rw [HH.out] at Q3 OF hw
        have HWW := hide hw
        clear HH hw
        go_wp2_with fail
        refine OF.out.mono ?_
        rintro e W4 ⟨rfl, rfl⟩
        clear OF
        go_wp2
        go_loop [10, 11] (fun x10 x11 => ∃ j : Nat, j ≤ sn ∧ x11 = .int .i64 j ∧ x10 = .bool (decide (h ∈ M.take j))) (fun _ x11 => sn - (intOf x11).toNat)
        case atStart => exact ⟨0, by omega, rfl, by simp⟩
        case round =>
          obtain ⟨j, hj, rfl, rfl⟩ := hrel
          by_cases hjn : j < sn
          · obtain ⟨mb, moff, rfl, mc⟩ := row_at HRW.out (j := j) hjn
            have mj := mc j hjn W4 (Below.refl _ _)
            have w1 : (j : Int) < (sn : Int) := by omega
            have w2 : (0 : Int) ≤ (j : Int) := by omega
            have HTS := hide (mem_take_succ (h := h) (M := M) (j := j) (by omega))
            clear mc
            by_cases hk : h ∈ M.take j
            · have HN : Hid (decide (h ∈ M.take (j + 1)) = true) := decide_eq_true (HTS.out.2 (Or.inl hk))
              rw [decide_eq_true hk]
              clear hk HTS
              go_wp2
              exact ⟨⟨j + 1, by omega, by go_num, by rw [HN.out]⟩, by simp [intOf]; omega⟩
            · rw [decide_eq_false hk]
              by_cases he : M.getD j 0 = h
              · have HN : Hid (decide (h ∈ M.take (j + 1)) = true) := decide_eq_true (HTS.out.2 (Or.inr he))
                rw [he] at mj
                clear hk HTS he
                go_wp2
                exact ⟨⟨j + 1, by omega, by go_num, by rw [HN.out]⟩, by simp [intOf]; omega⟩
              · have HN : Hid (decide (h ∈ M.take (j + 1)) = false) := decide_eq_false (fun x => (HTS.out.1 x).elim hk he)
                have hb : (M.getD j 0 == h) = false := by simpa using he
                clear hk HTS he
                generalize M.getD j 0 = mm at *
                go_wp2
                exact ⟨⟨j + 1, by omega, by go_num, by rw [HN.out]⟩, by simp [intOf]; omega⟩
          · have w1 : ¬ (j : Int) < (sn : Int) := by omega
            rw [List.take_of_length_le (by omega)]
            by_cases hk : h ∈ M
            · rw [decide_eq_true hk]
              have HEN := hide (HE.out.old hk (by omega))
              clear hk
              go_wp2
              go_roundw
              case rel => exact ⟨sa, sn, sc, i + 1, _, M, rfl, by go_num, by omega, by omega, Q3, HEN⟩
              case measure => simp [intOf]; omega
            · rw [decide_eq_false hk]
              have HEN := hide (HE.out.more hk HWW.out (by omega))
              clear hk
              go_wp2_with (at_builtin; go_must (refine wpList_push _ rfl _ _ 22 rfl w.heap.size 31 i0 (.int .u64 0) 8 Try.underlying22 HII.out.1 HII.out.2.1 HII.out.2.2.1 HII.out.2.2.2 rfl sa sn sc (M.map (Value.int .u64)) rfl (Own.alloc Q3.out.own _) ⟨W4.heap.size, 0, none⟩ 1 (.int .u64 h) rfl (one_wordcell W4 h _) rfl (by unfold maxLen; omega) (by omega) (by have := Q3.out.low.size; simp; omega) ?_))
              intro g' cap' W5 h1 h2 h3
              have Q5 := hide (Q3.out.push HI.out h1 h2 (h3.imp id (fun h => by simpa using h)))
              clear h1 h2 h3
              go_wp2
              go_roundw
              case rel => exact ⟨_, sn + 1, cap', i + 1, _, M ++ [h], rfl, by go_num, by omega, by omega, Q5, HEN⟩
              case measure => simp [intOf]; omega
    · have D0 := hide (HP.out.pool.distinct HI.out [] [])
      have hML : M.length = sn := HP.out.own.len
      rw [HE.out.dist (by rw [hML]; omega), hML] at D0
      have m4 : IntKind.u64.wrap (sn : Int) = sn := by rw [IntKind.wrap_u64]; omega
      by_cases hgo1 : i < n0 + n1
      · have u1 : (i : Int) < (n0 : Int) + (n1 : Int) := by omega
        have u2 : ¬ (0 : Int) < (n0 : Int) := by omega
        go_wp2_with fail
        refine D0.out.mono ?_
        rintro e W5 ⟨rfl, -, p5⟩
        have A5 := hide (AW.out W5 p5.low)
        clear p5 D0
        try rw [m4]
        go_wp2_with fail
        refine A5.out.mono ?_
        rintro e W6 ⟨rfl, bl6⟩
        have BL := hide bl6
        clear bl6 A5
        go_wp2
        go_ret
        exact ⟨rfl, BL.out⟩
      · have u1 : ¬ (i : Int) < (n0 : Int) + (n1 : Int) := by omega
        go_wp2_with fail
        refine D0.out.mono ?_
        rintro e W5 ⟨rfl, -, p5⟩
        have A5 := hide (AW.out W5 p5.low)
        clear p5 D0
        try rw [m4]
        go_wp2_with fail
        refine A5.out.mono ?_
        rintro e W6 ⟨rfl, bl6⟩
        have BL := hide bl6
        clear bl6 A5
        go_wp2
        go_ret
        exact ⟨rfl, BL.out⟩
end Go.Proofs.Ytlhiikibbppodaa
