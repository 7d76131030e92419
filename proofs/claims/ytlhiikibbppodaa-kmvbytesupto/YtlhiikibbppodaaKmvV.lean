/-
  The sketch's small functions: isBeyond, take, findGreatest, Hashes: contracts, for every world. The greatest word of a sketch, found by a walk over all: a contract, for every world.
  Conditions: the sketch lies in memory; words are words of 64 bits; the sketch lies in memory.
-/
import Derived.Test.YtlhiikibbppodaaKmvN
namespace Go.Proofs.Ytlhiikibbppodaa
open Go.RowKit Go.Maps

theorem beyond_any (g b : Nat) (D : DataW Unit) (l : List Int) (top h : Int) (w : World) (H : KB w g b D l top) :
    Calls Try.prog 35 #[.pointer (some ⟨g, 0, none⟩), .int .u64 h] w fun e w' => e = .returned (.bool (decide (1024 ≤ l.length) && decide (top ≤ h))) ∧ w' = w := by
  have c0 := H.c0
  have c1 := H.c1
  have HO := hide H.map
  have HS := hide H.set.size
  clear H
  by_cases hl : 1024 ≤ l.length
  · have i1 : (1024 : Int) ≤ (l.length : Int) := by omega
    rw [decide_eq_true hl, Bool.true_and]
    go_enter Try.func35, Try.ntmps35
    go_wp2_with (at_len; refine wpList_len_own _ rfl _ 67 rfl 31 74 Try.underlying67 _ b 1048576 D rfl HO.out ?_; rw [HS.out])
    go_ret
    exact ⟨rfl, rfl⟩
  · have i1 : ¬ (1024 : Int) ≤ (l.length : Int) := by omega
    have i2 : decide ((1024 : Int) ≤ (l.length : Int)) = false := decide_eq_false i1
    rw [decide_eq_false hl, Bool.false_and]
    go_enter Try.func35, Try.ntmps35
    go_wp2_with (at_len; refine wpList_len_own _ rfl _ 67 rfl 31 74 Try.underlying67 _ b 1048576 D rfl HO.out ?_; rw [HS.out])
    go_ret
    exact ⟨rfl, rfl⟩

set_option maxHeartbeats 1000000 in
theorem take_any (g b : Nat) (D : DataW Unit) (l : List Int) (top h : Int) (w : World) (H : KB w g b D l top) (hh : W64 h) (hl : (insK h l).length ≤ 100000) :
    Calls Try.prog 36 #[.pointer (some ⟨g, 0, none⟩), .int .u64 h] w fun e w' => e = .returned (.tuple #[]) ∧ (∃ D', KB w' g b D' (insK h l) (max top h)) ∧ Ch (KS g b) w w' := by
  have c0 := H.c0
  have HK := hide H
  have HL := hide hl
  have HW := hide hh
  clear H hl
  go_enter Try.func36, Try.ntmps36
  go_wp2_with (at_mapUpdate; refine wpList_mapUpdate_own _ rfl _ _ _ 67 rfl 31 74 keyU Try.underlying67 _ b 1048576 D rfl HK.out.map (by decide) _ _ _ rfl rfl (wfU HW.out) _ _ unitElem_mk ?_)
  intro w1 hm1 hg1
  have K1 := hide (HK.out.put HW.out HL.out hm1 hg1)
  have C1 := hide (ch_grownK (g := g) hg1)
  have d1 := K1.out.c1
  have d2 := K1.out.fz 1
  clear hm1 hg1 HK
  go_wp2
  go_end0
  exact ⟨rfl, ⟨_, K1.out.setTop _⟩, C1.out.trans (ch_setK _ g b 1 _)⟩

theorem hashes_any (g b : Nat) (D : DataW Unit) (l : List Int) (top : Int) (w : World) (H : KB w g b D l top) :
    Calls Try.prog 21 #[.pointer (some ⟨g, 0, none⟩)] w fun e w' => ∃ a c, e = .returned (.slice a l.length c) ∧ OwnU w' w.heap.size a l.length c l ∧ Below w.heap.size w w' := by
  have c0 := H.c0
  have KE := hide (keys_any b w)
  have hb1 : Boxed (w.alloc (.cells #[.map (some b)] 67)) w.heap.size 67 (.map (some b)) := Boxed.new w _ _
  have SO := hide (sorted_any w.heap.size b 1048576 D l _ H.set (by have := H.len; omega) hb1 (H.map.alloc _))
  clear H hb1
  go_enter Try.func21, Try.ntmps21
  go_wp2_with fail
  refine KE.out.mono ?_
  rintro e w1 ⟨rfl, rfl⟩
  go_wp2_with fail
  refine SO.out.mono ?_
  rintro e w2 ⟨a, c, rfl, o2, b2⟩
  have O2 := hide (o2.mono (base' := w.heap.size) (by simp))
  have B2 : Hid (Below w.heap.size w w2) := (bel_al (Below.refl _ _) (Nat.le_refl _) _).trans (b2.mono (by simp))
  clear o2 b2 SO KE
  go_wp2
  go_ret
  exact ⟨a, c, rfl, O2.out, B2.out⟩
end Go.Proofs.Ytlhiikibbppodaa

namespace Go.Proofs.Ytlhiikibbppodaa
open Go.RowKit Go.Maps

/-- The greatest of what was met. -/
structure Met (D : DataW Unit) (left : Lit → Bool) (T : Int) : Prop where
  pos : 0 ≤ T
  most : ∀ x, W64 x → Maps.has D (.int .u64 x) = true → left (.int .u64 x) = false → x ≤ T
  isIn : T = 0 ∨ (W64 T ∧ Maps.has D (.int .u64 T) = true)
theorem Met.start (D : DataW Unit) : Met D (Maps.has D) 0 := ⟨Int.le_refl _, fun _ _ h1 h2 => Bool.noConfusion (h1.symm.trans h2), Or.inl rfl⟩
theorem Met.low {D : DataW Unit} {left : Lit → Bool} {T x : Int} (h : Met D left T) (hx : x ≤ T) : Met D (fun z => left z && !z.sameKey (.int .u64 x)) T := by
  refine ⟨h.pos, fun y hy h1 h2 => ?_, h.isIn⟩
  by_cases e : y = x
  · omega
  · refine h.most y hy h1 ?_
    simpa [sameU, e] using h2
theorem Met.high {D : DataW Unit} {left : Lit → Bool} {T x : Int} (h : Met D left T) (hx : W64 x) (hh : Maps.has D (.int .u64 x) = true) (hlt : T < x) : Met D (fun z => left z && !z.sameKey (.int .u64 x)) x := by
  refine ⟨hx.1, fun y hy h1 h2 => ?_, Or.inr ⟨hx, hh⟩⟩
  by_cases e : y = x
  · omega
  · have := h.most y hy h1 (by simpa [sameU, e] using h2)
    omega
theorem Met.done {D : DataW Unit} {left : Lit → Bool} {T : Int} {l : List Int} (h : Met D left T) (hl : ∀ k, left k = false) (hs : IsSetU D l) : T = l.getLastD 0 := by
  by_cases e : l = []
  · subst e
    rcases h.isIn with h1 | ⟨h1, h2⟩
    · exact h1
    · have := (hs.mem T h1).2 h2
      cases this
  · have hm := last_mem e
    have hw := hs.words _ hm
    have h1 := h.most _ hw ((hs.mem _ hw).1 hm) (hl _)
    rcases h.isIn with h2 | ⟨h2, h3⟩
    · have := hw.1
      omega
    · have := up_last hs.up ((hs.mem T h2).2 h3)
      omega

theorem noGoto_ret {Q : Exit → Act → World → Prop} {a : Act} {w : World} : Exit.noGoto Q .ret a w = Q .ret a w := rfl

set_option maxHeartbeats 2000000 in
theorem greatest_any (g b : Nat) (D : DataW Unit) (l : List Int) (top : Int) (w : World) (H : KB w g b D l top) :
    Calls Try.prog 37 #[.pointer (some ⟨g, 0, none⟩)] w fun e w' => e = .returned (.int .u64 (l.getLastD 0)) ∧ Below w.heap.size w w' := by
  have c0 := H.c0
  have HM := hide H.map
  have HS := hide H.set
  clear H
  go_enter Try.func37, Try.ntmps37
  go_wp2
  go_step3
  go_wp2
  go_step3
  go_wp2_with (at_range; refine wpList_range_own _ rfl _ 67 rfl 31 74 keyU Try.underlying67 _ b 1048576 _ rfl HM.out ?_; intro w0 hrg0 hg0 hs0)
  have HB0 : Hid (Below w.heap.size w w0) := (Below.refl _ _).grown hg0 (Nat.le_refl _) (fun k e => by cases e)
  clear hg0 hs0
  try go_frame
  go_loopw [3] (fun x3 wr => ∃ (left : Lit → Bool) (cnt : Nat) (T : Int), x3 = .int .u64 T ∧ wr.ranges Try.prog 31 (unitElem (H := Unit)) b w.heap.size 1048576 D left cnt ∧ Hid (Met D left T) ∧ Hid (Below w.heap.size w wr)) (fun _ wr => wr.rangeLeft b w.heap.size)
  case atStart => exact ⟨_, _, 0, rfl, hrg0, Met.start D, HB0.out⟩
  case round =>
    obtain ⟨left, cnt, T, rfl, hrg, HT, HB⟩ := hrel
    go_wp2_with (at_next; refine wpList_next_ranges _ rfl _ rfl 31 keyU (unitElem (H := Unit)) (Value.int .u64) id (fun key kl hk => by obtain ⟨x, hx, _⟩ := Maps.keyOf_int_inv Try.underlying31 hk; exact ⟨x, hx⟩) (fun v _ _ => ⟨v, rfl⟩) b w.heap.size 1048576 _ _ _ rfl hrg ?_ ?_)
    · intro hc0 hl0
      have HE := hide (HT.out.done hl0 HS.out)
      clear hc0 hl0
      go_wp2
      rw [noGoto_ret]
      go_ret
      exact ⟨by rw [HE.out]; rfl, HB.out⟩
    · intro x c kl yd yp w2 cnt2 hkey hlk hv hat hrg2 hlt hg2 hs2 hen
      obtain ⟨x', ex, rfl, hwx⟩ := Maps.keyOf_int_inv Try.underlying31 hkey
      cases ex
      have HB2 : Hid (Below w.heap.size w w2) := HB.out.grown hg2 HB.out.size (fun k e => by cases e; exact Nat.le_refl _)
      have HX := hide (u64_of_wf hwx)
      have HA := hide (Maps.has_true_of_atKey hat)
      have HLt := hide hlt
      clear hs2 hg2 hkey hlk hv hat hlt hwx
      by_cases hle : x ≤ T
      · have HT2 := hide (HT.out.low hle)
        go_wp2
        go_roundw
        case rel => exact ⟨_, cnt2, T, rfl, hrg2, HT2.out, HB2.out⟩
        case measure => rw [hrg2.left_eq, hrg.left_eq]; exact HLt.out
      · have HT2 := hide (HT.out.high HX.out HA.out (by omega))
        go_wp2
        go_roundw
        case rel => exact ⟨_, cnt2, x, rfl, hrg2, HT2.out, HB2.out⟩
        case measure => rw [hrg2.left_eq, hrg.left_eq]; exact HLt.out
end Go.Proofs.Ytlhiikibbppodaa
