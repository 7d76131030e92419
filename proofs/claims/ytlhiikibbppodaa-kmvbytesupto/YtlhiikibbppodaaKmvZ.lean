/-
  Whether hashes may be; a new sketch; what is too many dropped: contracts, for every world.
  Conditions: the slice shows its numbers; the sketch lies in memory.
-/
import Derived.Test.YtlhiikibbppodaaKmvX
import Derived.Test.YtlhiikibbppodaaKmvR
namespace Go.Proofs.Ytlhiikibbppodaa
open Go.RowKit Go.Maps

set_option maxHeartbeats 2000000 in
theorem kchk_any (a : Option Addr) (n cap : Nat) (l : List Int) (w : World) (hr : Row .u64 w a n l) :
    Calls Try.prog 24 #[.slice a n cap] w fun e w' => e = .returned (.bool (chkK l)) ∧ ∃ q, w' = w.drewN q := by
  have HR := hide hr
  have HL := hide hr.1
  have hn := hr.2.1
  have HWd := hide (fun i => hr.word i)
  clear hr
  have HU1 : Hid (upT (-1) (l.take 1) = true) := by
    show _ = _
    cases l with
    | nil => rfl
    | cons x t =>
      have := (HWd.out 0).1
      simp only [List.getD_cons_zero] at this
      simp only [List.take_succ_cons, List.take_zero, upT, Bool.and_true, decide_eq_true_eq]
      omega
  go_enter Try.func24, Try.ntmps24
  go_wp2
  go_loopw [6] (fun i wr => ∃ k : Nat, k ≤ n ∧ i = .int .i64 k ∧ Hid (upT (-1) (l.take k) = true) ∧ Hid (∃ q, wr = w.drewN q)) (fun i _ => n - (intOf i).toNat)
  case atStart => exact ⟨0, by omega, rfl, rfl, ⟨0, rfl⟩⟩
  case round =>
    obtain ⟨k, hk, rfl, HT, HW⟩ := hrel
    obtain ⟨q, hq⟩ := HW.out
    have HQ : Hid (∀ j, ∃ q, wr.drewN j = w.drewN q) := fun j => ⟨q + j, by rw [hq]; simp [World.drewN, Nat.add_assoc]⟩
    by_cases hlt : k < n
    · by_cases hk0 : k = 0
      · subst hk0
        have i1 : (0 : Int) < (n : Int) := by omega
        clear hq
        go_wp2
        go_big_quiet (fail)
        go_wp2
        go_roundw
        case rel => exact ⟨1, by omega, rfl, HU1.out, HQ.out _⟩
        case measure => simp [intOf]; omega
      · obtain ⟨j, HJ⟩ : ∃ j, Hid (k = j + 1) := ⟨k - 1, by show _ = _; omega⟩
        have hj := HJ.out
        obtain ⟨b, off, rfl, hcc⟩ := row_at HR.out (j := j) (by omega)
        have hwr : Below w.heap.size w wr := by rw [hq]; exact ⟨rfl, rfl, rfl, Nat.le_refl _, fun _ _ => rfl⟩
        have f1 := hcc k hlt wr hwr
        have f0 := hcc j (by omega) wr hwr
        have HTK : Hid (upT (-1) (l.take (k + 1)) = decide (l.getD j 0 < l.getD k 0)) := by
          show _ = _
          subst hj
          rw [take_num (by rw [HL.out]; exact hlt), upT_snoc, HT.out, Bool.true_and, take_num (k := j) (by rw [HL.out]; omega), endK_snoc]
        generalize l.getD k 0 = x at *
        generalize l.getD j 0 = y at *
        have i0 : decide (0 < k) = true := decide_eq_true (by omega)
        have i1 : (0 : Int) < (k : Int) := by omega
        have i2 : (k : Int) < (n : Int) := by omega
        have i3 : (j : Int) < (n : Int) := by omega
        have i4 : (0 : Int) ≤ (j : Int) := by omega
        have e1 : (k : Int) - 1 = (j : Int) := by omega
        clear hcc hwr hq hj hk0
        by_cases hxy : x ≤ y
        · have HF : Hid (chkK l = false) := by
            show _ = _
            unfold chkK
            rw [upT_prefix (k + 1) (by rw [HTK.out]; exact decide_eq_false (by omega)), Bool.false_and]
          have d1 : decide (x ≤ y) = true := decide_eq_true hxy
          clear HT HTK
          go_wp2
          go_big_quiet (fail)
          go_wp2
          go_ret
          rw [HF.out]
          exact ⟨rfl, HQ.out _⟩
        · have HN : Hid (upT (-1) (l.take (k + 1)) = true) := by
            show _ = _
            rw [HTK.out]; exact decide_eq_true (by omega)
          have d1 : decide (x ≤ y) = false := decide_eq_false hxy
          clear HT HTK
          go_wp2
          go_big_quiet (fail)
          go_wp2
          go_roundw
          case rel => exact ⟨k + 1, by omega, by go_num, HN, HQ.out _⟩
          case measure => simp [intOf]; omega
    · have HE : Hid (chkK l = decide ((n : Int) ≤ 1024)) := by
        show _ = _
        have h := HT.out
        rw [List.take_of_length_le (by rw [HL.out]; omega)] at h
        unfold chkK
        rw [h, Bool.true_and, HL.out]
        simp only [decide_eq_decide]
        omega
      have i3 : ¬ (k : Int) < (n : Int) := by omega
      clear hq
      go_wp2
      go_ret
      rw [HE.out]
      exact ⟨rfl, HW.out⟩

theorem Row.chU {k : IntKind} {S : Nat → Prop} {w w' : World} {a : Option Addr} {n : Nat} {zs : List Int} (h : Row k w a n zs) (c : Ch S w w') (hn : ∀ x, a = some x → ¬ S x.block) : Row k w' a n zs := by
  obtain ⟨h1, h2, h3, h4⟩ := h
  refine ⟨h1, h2, h3, ?_⟩
  rcases h4 with h4 | ⟨b, off, rfl, hc⟩
  · exact Or.inl h4
  · right
    refine ⟨b, off, rfl, fun i hi => ?_⟩
    have hlt : b < w.heap.size := World.block_lt_of_cell? w _ (hc i hi)
    have hb := c.block b hlt (hn _ rfl)
    have e : ∀ o, w'.cell? ⟨b, o, none⟩ = w.cell? ⟨b, o, none⟩ := fun o => by simp only [World.cell?, hb]
    rw [e]
    exact hc i hi

/-- A new sketch. -/
theorem knew_any (w : World) : Calls Try.prog 26 #[] w fun e w' => ∃ g b D, e = .returned (.pointer (some ⟨g, 0, none⟩)) ∧ KB w' g b D [] 0 ∧ w.heap.size ≤ g ∧ w.heap.size ≤ b ∧ Below w.heap.size w w' := by
  have hmm := @run_makeMap Try.prog
  go_enter Try.func26, Try.ntmps26
  go_wp2
  go_ret
  refine ⟨w.heap.size + 1, w.heap.size, .map [], by simp, ⟨?_, ?_, isSet_nil, by simp⟩, by omega, Nat.le_refl _, (bel_al (bel_al (Below.refl _ _) (Nat.le_refl _) _) (Nat.le_refl _) _)⟩
  · have := World.alloc_heap_new (w.alloc (.map #[] 0)) (.cells #[.map (some w.heap.size), .int .u64 0] 69)
    rwa [World.size_alloc] at this
  · exact ((World.ownsMap_made w Try.prog 31 (unitElem (H := Unit))).mono (Nat.zero_le _)).alloc _

set_option maxRecDepth 20000 in
set_option maxHeartbeats 4000000 in
theorem kdrop_any (g b : Nat) (D : DataW Unit) (l : List Int) (w : World) (H : KB w g b D l (l.getLastD 0)) (hl : l.length ≤ 4096) :
    Calls Try.prog 38 #[.pointer (some ⟨g, 0, none⟩)] w fun e w' => e = .returned (.tuple #[]) ∧ (∃ D', KB w' g b D' (l.take 1024) ((l.take 1024).getLastD 0)) ∧ Ch (KS g b) w w' := by
  have c0 := H.c0
  have HK := hide H
  have HO := hide H.map
  have HS := hide H.set.size
  by_cases hm : l.length ≤ 1024
  · have HE : Hid (l.take 1024 = l) := List.take_of_length_le hm
    rw [HE.out]
    have i1 : (l.length : Int) ≤ 1024 := by omega
    clear H
    go_enter Try.func38, Try.ntmps38
    go_wp2_with (at_len; refine wpList_len_own _ rfl _ 67 rfl 31 74 Try.underlying67 _ b 1048576 D rfl HO.out ?_; rw [HS.out])
    refine bodyPost_ret (results_none rfl _ _ _) rfl ?_
    exact ⟨rfl, ⟨D, HK.out⟩, Ch.refl _ _⟩
  · have i1 : ¬ (l.length : Int) ≤ 1024 := by omega
    have HA := hide (hashes_any g b D l (l.getLastD 0) w H)
    have HWd := hide H.set.words
    have HSl := hide (fun a cap W => slice_fromU a l.length cap 1024 (by omega) W)
    obtain ⟨n, HN⟩ : ∃ n, Hid (l.length = n) := ⟨_, rfl⟩
    obtain ⟨t2, HT2⟩ : ∃ t2, Hid ((l.take 1024).getLastD 0 = t2) := ⟨_, rfl⟩
    have HT3 : Hid (l.getD 1023 0 = t2) := by
      show _ = _
      rw [← HT2.out, last_get (by rw [List.length_take]; omega), List.length_take]
      rw [show min 1024 l.length - 1 = 1023 by omega, List.getD_eq_getElem?_getD, List.getD_eq_getElem?_getD, List.getElem?_take, if_pos (by decide)]
    rw [HN.out] at HS HA HSl hm hl i1
    rw [HT2.out]
    clear H
    go_enter Try.func38, Try.ntmps38
    go_wp2_with (first | (at_len; refine wpList_len_own _ rfl _ 67 rfl 31 74 Try.underlying67 _ b 1048576 D rfl HO.out ?_; rw [HS.out]))
    refine HA.out.mono ?_
    rintro e w1 ⟨a, c, rfl, o1, b1⟩
    rcases own_srow o1 (by omega) with ⟨-, h0, -⟩ | ⟨g1, rfl, hg1, hc1, sr1⟩
    · omega
    have hcn := o1.capped.1
    have R1 := hide (OwnU.rowU o1 (by omega) HWd.out)
    have K1 := hide (HK.out.below b1)
    have HNe : Hid (¬ KS g b g1) := by
      intro e
      have := HK.out.lt
      rcases e with e | e <;> omega
    have C1 : Hid (Ch (KS g b) w w1) := (Ch.of_below b1).more (fun _ _ e => e.elim)
    obtain ⟨m, HM⟩ : ∃ m, Hid (n - 1024 = m) := ⟨_, rfl⟩
    have hm1 := HM.out
    obtain ⟨c2, HC2⟩ : ∃ c2, Hid (c - 1024 = c2) := ⟨_, rfl⟩
    have hsl : ∀ W, (Instr.slice 22 (.slice (some ⟨g1, 0, none⟩) n c) (some (.int .i64 1024)) none none).run Try.prog W = .ok (.slice (some ⟨g1, 1024, none⟩) m c2) W := fun W => by
      have := HSl.out (some ⟨g1, 0, none⟩) c W
      rw [if_neg (by omega), HM.out, HC2.out] at this
      simpa [Addr.add] using this
    clear o1 b1 HA hcn sr1 HSl hc1 HO
    go_wp2
    go_loopw [16] (fun x16 wr => ∃ (k : Nat) (D' : DataW Unit), k ≤ m ∧ x16 = .int .i64 k ∧ Hid (KB wr g b D' (l.take 1024 ++ l.drop (1024 + k)) (l.getLastD 0)) ∧ Hid (Row .u64 wr (some ⟨g1, 0, none⟩) n l) ∧ Hid (Ch (KS g b) w wr)) (fun x16 _ => m - (intOf x16).toNat)
    case atStart => exact ⟨0, D, Nat.zero_le _, rfl, by rw [Nat.add_zero, List.take_append_drop]; exact K1.out, R1.out, C1.out⟩
    case round =>
      obtain ⟨k, D', hk, rfl, HKr, HRr, HCr⟩ := hrel
      have d0 := HKr.out.c0
      by_cases hlt : k < m
      · have i2 : (k : Int) < (m : Int) := by omega
        have i3 : (0 : Int) ≤ (k : Int) := by omega
        obtain ⟨b9, off9, h9, hcc⟩ := row_at HRr.out (j := 0) (by omega)
        simp only [Option.some.injEq, Addr.mk.injEq, and_true] at h9
        obtain ⟨rfl, rfl⟩ := h9
        have f1 := hcc (1024 + k) (by omega) wr (Below.refl _ _)
        rw [Nat.zero_add] at f1
        have HDr : Hid (l.drop (1024 + k) = l.getD (1024 + k) 0 :: l.drop (1024 + k + 1)) := drop_num (by rw [HN.out]; omega)
        have HX : Hid (W64 (l.getD (1024 + k) 0)) := HRr.out.word _
        obtain ⟨x, HXx⟩ : ∃ x, Hid (l.getD (1024 + k) 0 = x) := ⟨_, rfl⟩
        rw [HXx.out] at f1 HDr HX
        rw [HDr.out] at HKr
        have HO := hide HKr.out.map
        clear hcc HDr
        go_wp2_with (at_delete; refine wpList_delete_own _ rfl _ _ 67 31 rfl 74 keyU Try.underlying67 _ b 1048576 D' rfl HO.out _ _ rfl (wfU HX.out) ?_)
        intro w2 hm2 ht2
        have K2 := hide (KB.del HKr.out hm2 ht2.grown)
        have C2 := hide (HCr.out.trans (ch_grownK (g := g) ht2.grown))
        have R2 := hide (HRr.out.chU (ch_grownK (g := g) ht2.grown) (fun x e => by cases e; exact HNe.out))
        clear hm2 ht2 HKr HO
        try go_frame
        go_wp2
        go_roundw
        case rel => exact ⟨k + 1, _, by omega, by go_num, K2.out, R2.out, C2.out⟩
        case measure => simp [intOf]; omega
      · have hkm : k = m := by omega
        have HKe : Hid (KB wr g b D' (l.take 1024) (l.getLastD 0)) := by
          have := HKr.out
          rwa [List.drop_of_length_le (by rw [HN.out]; omega), List.append_nil] at this
        have i2 : ¬ (k : Int) < (m : Int) := by omega
        obtain ⟨b9, off9, h9, hcc⟩ := row_at HRr.out (j := 0) (by omega)
        simp only [Option.some.injEq, Addr.mk.injEq, and_true] at h9
        obtain ⟨rfl, rfl⟩ := h9
        have f1 := hcc 1023 (by omega) wr (Below.refl _ _)
        rw [Nat.zero_add, HT3.out] at f1
        have i4 : (1023 : Int) < (n : Int) := by omega
        have d1 := HKe.out.c1
        have d2 := HKe.out.fz 1
        have HF := hide (HKe.out.setTop t2)
        have HCf := hide (HCr.out.trans (ch_setK wr g b 1 (.int .u64 t2)))
        generalize l.getLastD 0 = tl at *
        clear hcc hkm HKr
        go_wp2
        go_end0
        exact ⟨rfl, ⟨D', HF.out⟩, HCf.out⟩
end Go.Proofs.Ytlhiikibbppodaa
