/-
  The document's own answer of layer 8 (the laws' reference): whether hashes may be, one more hash: contracts, for every world.
  Conditions: the slice shows its numbers; one more hash: of a list that may be.
-/
import Derived.Test.YtadcaonkmncgoaaKmvA
import Derived.Test.YtadcaonkmncgoaaChK
import Derived.Deep.QuietTactic
import Derived.BigQuiet
namespace Go.Proofs.Ytadcaonkmncgoaa
open Go.RowKit
set_option maxRecDepth 20000

theorem row_at {k : IntKind} {w : World} {a : Option Addr} {n : Nat} {zs : List Int} (h : Row k w a n zs) {j : Nat} (hj : j < n) :
    ∃ b off, a = some ⟨b, off, none⟩ ∧ ∀ i, i < n → ∀ W, Below w.heap.size w W → W.cell? ⟨b, off + i, none⟩ = some (.int k (zs.getD i 0)) := by
  obtain ⟨-, -, -, h0 | ⟨b, off, rfl, hc⟩⟩ := id h
  · omega
  · refine ⟨b, off, rfl, fun i hi W hW => ?_⟩
    have hlt : b < w.heap.size := World.block_lt_of_cell? w _ (hc i hi)
    rw [hW.cell (p := ⟨b, off + i, none⟩) hlt]
    exact hc i hi

set_option maxHeartbeats 2000000 in
theorem refchk_any (a : Option Addr) (n cap : Nat) (l : List Int) (w : World) (hr : Row .u64 w a n l) :
    Calls Try.prog 35 #[.slice a n cap] w fun e w' => e = .returned (.bool (chkK l)) ∧ ∃ q, w' = w.drewN q := by
  have HR := hide hr
  have HL := hide hr.1
  have hn := hr.2.1
  have HWd := hide (fun i => hr.word i)
  clear hr
  have HU1 : Hid (upT (-1) (l.take 1) = true) := by
    show _ = _
    cases l with
    | nil => rfl
    | cons x t =>
      have := (HWd.out 0).1
      simp only [List.getD_cons_zero] at this
      simp only [List.take_succ_cons, List.take_zero, upT, Bool.and_true, decide_eq_true_eq]
      omega
  go_enter Try.func35, Try.ntmps35
  go_wp2
  go_loopw [3] (fun i wr => ∃ k : Nat, 1 ≤ k ∧ (k ≤ n ∨ k = 1) ∧ i = .int .i64 k ∧ Hid (upT (-1) (l.take k) = true) ∧ Hid (∃ q, wr = w.drewN q)) (fun i _ => n - (intOf i).toNat)
  case atStart => exact ⟨1, by omega, Or.inr rfl, rfl, HU1, ⟨0, rfl⟩⟩
  case round =>
    obtain ⟨k, k1, hk, rfl, HT, HW⟩ := hrel
    obtain ⟨q, hq⟩ := HW.out
    have HQ : Hid (∀ j, ∃ q, wr.drewN j = w.drewN q) := fun j => ⟨q + j, by rw [hq]; simp [World.drewN, Nat.add_assoc]⟩
    by_cases hlt : k < n
    · obtain ⟨j, rfl⟩ : ∃ j, k = j + 1 := ⟨k - 1, by omega⟩
      obtain ⟨b, off, rfl, hcc⟩ := row_at HR.out (j := j) (by omega)
      have hwr : Below w.heap.size w wr := by rw [hq]; exact ⟨rfl, rfl, rfl, Nat.le_refl _, fun _ _ => rfl⟩
      have f1 := hcc (j + 1) hlt wr hwr
      have f0 := hcc j (by omega) wr hwr
      have HTK : Hid (upT (-1) (l.take (j + 1 + 1)) = decide (l.getD j 0 < l.getD (j + 1) 0)) := by
        show _ = _
        rw [take_num (by rw [HL.out]; exact hlt), upT_snoc, HT.out, Bool.true_and, take_num (k := j) (by rw [HL.out]; omega), endK_snoc]
      clear hcc hwr hq
      generalize l.getD (j + 1) 0 = x at *
      generalize l.getD j 0 = y at *
      have i1 : (0 : Int) ≤ (j : Int) := by omega
      have i2 : (j : Int) < (n : Int) := by omega
      have i3 : (j : Int) + 1 < (n : Int) := by omega
      by_cases hxy : x ≤ y
      · have HF : Hid (chkK l = false) := by
          show _ = _
          unfold chkK
          rw [upT_prefix (j + 1 + 1) (by rw [HTK.out]; exact decide_eq_false (by omega)), Bool.false_and]
        have d1 : decide (x ≤ y) = true := decide_eq_true hxy
        clear HT HTK
        go_wp2
        go_quiet (fail)
        go_wp2
        go_ret
        rw [HF.out]
        exact ⟨rfl, HQ.out _⟩
      · have HN : Hid (upT (-1) (l.take (j + 1 + 1)) = true) := by
          show _ = _
          rw [HTK.out]; exact decide_eq_true (by omega)
        have d1 : decide (x ≤ y) = false := decide_eq_false hxy
        clear HT HTK
        go_wp2
        go_quiet (fail)
        go_wp2
        go_roundw
        case rel => exact ⟨j + 1 + 1, by omega, by omega, by go_num, HN, HQ.out _⟩
        case measure => simp [intOf]; omega
    · have HE : Hid (chkK l = decide ((n : Int) ≤ 1024)) := by
        show _ = _
        have h := HT.out
        rw [List.take_of_length_le (by rw [HL.out]; omega)] at h
        unfold chkK
        rw [h, Bool.true_and, HL.out]
        simp only [decide_eq_decide]
        omega
      have i3 : ¬ (k : Int) < (n : Int) := by omega
      clear hq
      go_wp2
      go_ret
      rw [HE.out]
      exact ⟨rfl, HW.out⟩

set_option maxRecDepth 20000 in
theorem slice_toU (a : Option Addr) (n cap k : Nat) (hk : k ≤ cap) (w : World) :
    (Instr.slice 25 (.slice a n cap) none (some (.int .i64 (k : Int))) none).run Try.prog w = .ok (.slice a k cap) w := by
  rw [run_slice_h (P := Try.prog) w 25 a n cap Try.underlying25 .i64 (k : Int) (by omega) (by omega)]
  have hs : (sizeOf (Try.prog.elem 25)).run Try.prog w = .ok 1 w := by kernel_rfl
  rw [hs]
  simp only [Result.andThen, sliced, Int.toNat_natCast, Nat.zero_mul, Nat.sub_zero]
  cases a with
  | none => simp
  | some x => simp [Addr.add]
set_option maxRecDepth 20000 in
theorem slice_fromU (a : Option Addr) (n cap k : Nat) (hk : k ≤ n) (w : World) :
    (Instr.slice 25 (.slice a n cap) (some (.int .i64 (k : Int))) none none).run Try.prog w = .ok (.slice (if cap = k then a else a.map (·.add k)) (n - k) (cap - k)) w := by
  rw [run_slice_l (P := Try.prog) w 25 a n cap Try.underlying25 .i64 (k : Int) (by omega) (by omega)]
  have hs : (sizeOf (Try.prog.elem 25)).run Try.prog w = .ok 1 w := by kernel_rfl
  rw [hs]
  simp only [Result.andThen, sliced, Int.toNat_natCast, Nat.mul_one]

/-- Where a row of the call's own lies. -/
theorem own_lies {e : TypeId} {k : IntKind} {w : World} {base n cap : Nat} {a : Option Addr} {zs : List Int} (h : Own e k w base a n cap zs) {x : Addr} (hx : a = some x) : base ≤ x.block ∧ x.block < w.heap.size := by
  have := row_cells h (g := x.block) (by rw [hx]; rfl)
  exact ⟨this.2, this.1.lt⟩
/-- A list of words that a call hands back: the one that it was given, or one in new memory. -/
def BackU (w w' : World) (e : Ending) (a : Option Addr) (l : List Int) : Prop := ∃ a' c', e = .returned (.slice a' l.length c') ∧ Row .u64 w' a' l.length l ∧ l.length ≤ c' ∧ (a' = none → c' = 0) ∧ Below w.heap.size w w' ∧ (a' = a ∨ ∀ x, a' = some x → w.heap.size ≤ x.block ∧ x.block < w'.heap.size)

set_option maxRecDepth 20000 in
set_option maxHeartbeats 4000000 in
theorem refhash_any (a : Option Addr) (n cap : Nat) (l : List Int) (h : Int) (w : World) (hr : Row .u64 w a n l) (hup : Up l) (hn : n ≤ 1024) (hc : n ≤ cap) (hnil : a = none → cap = 0) (hh : W64 h) :
    Calls Try.prog 51 #[.slice a n cap, .int .u64 h] w fun e w' => BackU w w' e a (hashK 1024 l h) := by
  obtain ⟨i0, hi0⟩ := info_parts Try.infoU
  have HI := hide hi0
  have HR := hide hr
  have HL := hide hr.1
  have HWd := hide (fun i => hr.word i)
  have HWs := hide hr.words
  have HUp := hide hup
  have HHW := hide hh
  obtain ⟨h0, h1⟩ := hh
  clear hr hup hi0
  go_enter Try.func51, Try.ntmps51
  go_wp2
  go_loop [5] (fun i => ∃ k : Nat, k ≤ n ∧ i = .int .i64 k ∧ Hid (∀ x ∈ l.take k, x < h)) (fun i => n - (intOf i).toNat)
  case atStart => exact ⟨0, by omega, rfl, fun x hx => by simp at hx⟩
  case round =>
    obtain ⟨k, hk, rfl, HT⟩ := hrel
    by_cases hlt : k < n
    · obtain ⟨b, off, rfl, hcc⟩ := row_at HR.out hlt
      have f0 := hcc k hlt w (Below.refl _ _)
      have hy := HWd.out k
      have HTK := hide (take_num (l := l) (k := k) (by rw [HL.out]; exact hlt))
      have HDR := hide (drop_num (l := l) (k := k) (by rw [HL.out]; exact hlt))
      have HGT : Hid (l.getD k 0 = l.getD k 0) := rfl
      clear hcc
      obtain ⟨y, HYE⟩ : ∃ y, Hid (l.getD k 0 = y) := ⟨_, rfl⟩
      rw [HYE.out] at f0 hy HTK
      obtain ⟨y0, y1⟩ := hy
      have i1 : (0 : Int) ≤ (k : Int) := by omega
      have i2 : (k : Int) < (n : Int) := by omega
      by_cases hyh : y < h
      · have HN : Hid (∀ x ∈ l.take (k + 1), x < h) := by
          intro x hx
          rw [HTK.out] at hx
          rcases List.mem_append.1 hx with hx | hx
          · exact HT.out x hx
          · simp only [List.mem_singleton] at hx; subst hx; exact hyh
        have d1 : decide (y < h) = true := decide_eq_true hyh
        clear HT
        go_wp2
        exact ⟨⟨k + 1, by omega, by go_num, HN⟩, by simp [intOf]; omega⟩
      · have d1 : decide (y < h) = false := decide_eq_false hyh
        by_cases hye : y = h
        · have d2 : (y == h) = true := by simpa using hye
          have HE : Hid (hashK 1024 l h = l) := by
            show _ = _
            have hm : h ∈ l := by
              rw [← hye, ← HYE.out, List.getD_eq_getElem?_getD, List.getElem?_eq_getElem (by rw [HL.out]; exact hlt)]
              exact List.getElem_mem _
            unfold hashK
            rw [insK_there HUp.out hm, List.take_of_length_le (by rw [HL.out]; exact hn)]
          clear hye HYE hyh
          go_wp2
          go_ret
          rw [HE.out]
          exact ⟨_, cap, by rw [HL.out]; rfl, by rw [HL.out]; exact HR.out, by rw [HL.out]; exact hc, hnil, Below.refl _ _, Or.inl rfl⟩
        · have d2 : (y == h) = false := by simpa using hye
          have hk2 : k < 1024 := by omega
          have HIA : Hid (insK h l = l.take k ++ h :: l.drop k) := insK_at HT.out (Or.inr ⟨by rw [HL.out]; exact hlt, by rw [HYE.out]; omega⟩)
          clear hye HYE hyh HT
          have f1 := slice_toU (some ⟨b, off, none⟩) n cap k (by omega)
          have f2 := slice_fromU (some ⟨b, off, none⟩) n cap k (by omega)
          generalize hD : (if cap = k then (some (⟨b, off, none⟩ : Addr)) else Option.map (·.add k) (some (⟨b, off, none⟩ : Addr))) = D at f2
          have RT := hide (HR.out.to k (by omega))
          have RF : Hid (Row .u64 w D (n - k) (l.drop k)) := by rw [← hD]; exact HR.out.from k (by omega) hc
          have HDN : Hid (D = none → cap - k = 0) := by
            rw [← hD]
            intro hdn
            by_cases hck : cap = k
            · omega
            · rw [if_neg hck] at hdn; cases hdn
          clear hD
          go_wp2_with (at_builtin; refine wpList_append_words _ rfl _ _ 25 rfl w.heap.size 26 i0 Try.underlying25 HI.out.1 HI.out.2.1 HI.out.2.2.1 HI.out.2.2.2 none 0 0 [] rfl (own_nil _ _ _ _) (some ⟨b, off, none⟩) k cap (l.take k) rfl RT.out (fun e => by cases e) (by omega) (Nat.le_refl _) ?_)
          intro a2 c2 w2 o2 b2
          try rw [Nat.zero_add] at o2
          try rw [List.nil_append] at o2
          try rw [Nat.zero_add]
          have O2 := hide o2
          have B2 := hide b2
          have HBW : Hid (w.heap.size ≤ w2.heap.size) := b2.size
          clear o2 b2
          go_wp2_with (at_builtin; refine wpList_append_words _ rfl _ _ 25 rfl w.heap.size 26 i0 Try.underlying25 HI.out.1 HI.out.2.1 HI.out.2.2.1 HI.out.2.2.2 a2 k c2 (l.take k) rfl (O2.out.alloc _) (some ⟨w2.heap.size, 0, none⟩) 1 1 [h] rfl (one_row w2 h (wf_of_u64 HHW.out) _ _) (fun e => by cases e) (by omega) (by have := HBW.out; simp; omega) ?_)
          intro a3 c3 w3 o3 b3
          have O3 := hide o3
          have B3 : Hid (Below w.heap.size w w3) := (bel_al B2.out (Nat.le_refl _) _).trans b3
          have HBW3 : Hid (w.heap.size ≤ w3.heap.size) := B3.out.size
          clear o3 b3 O2 B2 HBW
          go_wp2_with (at_builtin; refine wpList_append_words _ rfl _ _ 25 rfl w.heap.size 26 i0 Try.underlying25 HI.out.1 HI.out.2.1 HI.out.2.2.1 HI.out.2.2.2 a3 (k + 1) c3 (l.take k ++ [h]) rfl O3.out D (n - k) (cap - k) (l.drop k) rfl (RF.out.below B3.out (Nat.le_refl _)) HDN.out (by omega) HBW3.out ?_)
          intro a4 c4 w4 o4 b4
          rw [← HIA.out, show k + 1 + (n - k) = n + 1 by omega] at o4
          rw [show k + 1 + (n - k) = n + 1 by omega]
          have O4 := hide o4
          have B4 : Hid (Below w.heap.size w w4) := B3.out.trans b4
          have hcap4 := o4.capped
          have HNW : Hid (∀ x, a4 = some x → w.heap.size ≤ x.block ∧ x.block < w4.heap.size) := fun x hx => own_lies o4 hx
          have R4 := hide (OwnU.rowU o4 (by omega) (words_insK HHW.out HWs.out))
          have f3 := slice_toU a4 (n + 1) c4 1024
          clear o4 b4 O3 B3 HBW3 f1 f2 RT RF HDN HIA
          by_cases hm : n = 1024
          · have d3 : (1024 : Int) < (n : Int) + 1 := by omega
            have HE : Hid (hashK 1024 l h = (insK h l).take 1024) := rfl
            have hlen : ((insK h l).take 1024).length = 1024 := by rw [List.length_take, O4.out.len]; omega
            have f4 := f3 (by omega)
            have HLen := hide hlen
            clear hlen f3
            go_wp2
            go_ret
            rw [HE.out]
            exact ⟨a4, c4, by rw [HLen.out]; rfl, by rw [HLen.out]; exact R4.out.to 1024 (by omega), by rw [HLen.out]; omega, hcap4.2, B4.out, Or.inr HNW.out⟩
          · have d3 : ¬ (1024 : Int) < (n : Int) + 1 := by omega
            have HE : Hid (hashK 1024 l h = insK h l) := by
              show _ = _
              unfold hashK
              exact List.take_of_length_le (by rw [O4.out.len]; omega)
            have HLen := hide O4.out.len
            clear f3
            go_wp2
            go_ret
            rw [HE.out]
            exact ⟨a4, c4, by rw [HLen.out]; rfl, by rw [HLen.out]; exact R4.out, by rw [HLen.out]; exact hcap4.1, hcap4.2, B4.out, Or.inr HNW.out⟩
    · have hkn : k = n := by omega
      by_cases hbig : 1024 ≤ n
      · have HE : Hid (hashK 1024 l h = l) := by
          show _ = _
          have e : n = 1024 := by omega
          unfold hashK
          rw [insK_at HT.out (Or.inl (by rw [HL.out]; exact hkn)), List.take_append_of_le_length (by rw [List.length_take, HL.out]; omega), List.take_take, List.take_of_length_le (by rw [HL.out]; omega)]
        have i3 : ¬ (k : Int) < (n : Int) := by omega
        have i4 : (1024 : Int) ≤ (k : Int) := by omega
        clear HT
        go_wp2
        go_ret
        rw [HE.out]
        exact ⟨_, cap, by rw [HL.out]; rfl, by rw [HL.out]; exact HR.out, by rw [HL.out]; exact hc, hnil, Below.refl _ _, Or.inl rfl⟩
      · have HIA : Hid (insK h l = l.take k ++ h :: l.drop k) := insK_at HT.out (Or.inl (by rw [HL.out]; exact hkn))
        have hk2 : k < 1024 := by omega
        have i3 : ¬ (k : Int) < (n : Int) := by omega
        have i4 : ¬ (1024 : Int) ≤ (k : Int) := by omega
        clear HT hkn
        have f1 := slice_toU a n cap k (by omega)
        have f2 := slice_fromU a n cap k (by omega)
        generalize hD : (if cap = k then a else Option.map (·.add k) a) = D at f2
        have RT := hide (HR.out.to k (by omega))
        have RF : Hid (Row .u64 w D (n - k) (l.drop k)) := by rw [← hD]; exact HR.out.from k (by omega) hc
        have HDN : Hid (D = none → cap - k = 0) := by
          rw [← hD]
          intro hdn
          cases a with
          | none => have := hnil rfl; omega
          | some x =>
            by_cases hck : cap = k
            · omega
            · rw [if_neg hck] at hdn; cases hdn
        clear hD
        go_wp2_with (at_builtin; go_must (refine wpList_append_words _ rfl _ _ 25 rfl w.heap.size 26 i0 Try.underlying25 HI.out.1 HI.out.2.1 HI.out.2.2.1 HI.out.2.2.2 none 0 0 [] rfl (own_nil _ _ _ _) a k cap (l.take k) rfl RT.out hnil (by omega) (Nat.le_refl _) ?_))
        intro a2 c2 w2 o2 b2
        try rw [Nat.zero_add] at o2
        try rw [List.nil_append] at o2
        try rw [Nat.zero_add]
        have O2 := hide o2
        have B2 := hide b2
        have HBW : Hid (w.heap.size ≤ w2.heap.size) := b2.size
        clear o2 b2
        go_wp2_with (at_builtin; refine wpList_append_words _ rfl _ _ 25 rfl w.heap.size 26 i0 Try.underlying25 HI.out.1 HI.out.2.1 HI.out.2.2.1 HI.out.2.2.2 a2 k c2 (l.take k) rfl (O2.out.alloc _) (some ⟨w2.heap.size, 0, none⟩) 1 1 [h] rfl (one_row w2 h (wf_of_u64 HHW.out) _ _) (fun e => by cases e) (by omega) (by have := HBW.out; simp; omega) ?_)
        intro a3 c3 w3 o3 b3
        have O3 := hide o3
        have B3 : Hid (Below w.heap.size w w3) := (bel_al B2.out (Nat.le_refl _) _).trans b3
        have HBW3 : Hid (w.heap.size ≤ w3.heap.size) := B3.out.size
        clear o3 b3 O2 B2 HBW
        go_wp2_with (at_builtin; refine wpList_append_words _ rfl _ _ 25 rfl w.heap.size 26 i0 Try.underlying25 HI.out.1 HI.out.2.1 HI.out.2.2.1 HI.out.2.2.2 a3 (k + 1) c3 (l.take k ++ [h]) rfl O3.out D (n - k) (cap - k) (l.drop k) rfl (RF.out.below B3.out (Nat.le_refl _)) HDN.out (by omega) HBW3.out ?_)
        intro a4 c4 w4 o4 b4
        rw [← HIA.out, show k + 1 + (n - k) = n + 1 by omega] at o4
        rw [show k + 1 + (n - k) = n + 1 by omega]
        have O4 := hide o4
        have B4 : Hid (Below w.heap.size w w4) := B3.out.trans b4
        have hcap4 := o4.capped
        have HNW : Hid (∀ x, a4 = some x → w.heap.size ≤ x.block ∧ x.block < w4.heap.size) := fun x hx => own_lies o4 hx
        have R4 := hide (OwnU.rowU o4 (by omega) (words_insK HHW.out HWs.out))
        have f3 := slice_toU a4 (n + 1) c4 1024
        clear o4 b4 O3 B3 HBW3 f1 f2 RT RF HDN HIA
        by_cases hm : n = 1024
        · have d3 : (1024 : Int) < (n : Int) + 1 := by omega
          have HE : Hid (hashK 1024 l h = (insK h l).take 1024) := rfl
          have hlen : ((insK h l).take 1024).length = 1024 := by rw [List.length_take, O4.out.len]; omega
          have f4 := f3 (by omega)
          have HLen := hide hlen
          clear hlen f3
          go_wp2
          go_ret
          rw [HE.out]
          exact ⟨a4, c4, by rw [HLen.out]; rfl, by rw [HLen.out]; exact R4.out.to 1024 (by omega), by rw [HLen.out]; omega, hcap4.2, B4.out, Or.inr HNW.out⟩
        · have d3 : ¬ (1024 : Int) < (n : Int) + 1 := by omega
          have HE : Hid (hashK 1024 l h = insK h l) := by
            show _ = _
            unfold hashK
            exact List.take_of_length_le (by rw [O4.out.len]; omega)
          have HLen := hide O4.out.len
          clear f3
          go_wp2
          go_ret
          rw [HE.out]
          exact ⟨a4, c4, by rw [HLen.out]; rfl, by rw [HLen.out]; exact R4.out, by rw [HLen.out]; exact hcap4.1, hcap4.2, B4.out, Or.inr HNW.out⟩
end Go.Proofs.Ytadcaonkmncgoaa
