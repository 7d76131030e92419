/-
  A sketch in memory: a map that reads as a rising list, and its greatest word beside it; what one word more, one word less make of both. The sketch's small functions: isBeyond, take, findGreatest, Hashes: contracts, for every world. The greatest word of a sketch, found by a walk over all: a contract, for every world. How many unlike things a sketch tells; one hash more: contracts, for every world. One hash more: its contract, for every world. Whether hashes may be; a new sketch; what is too many dropped: contracts, for every world. A sketch that takes hashes, one that is made of hashes, one that takes a thing; how many unlike things a list stands for: contracts, for every world. One text more into a sketch of hashes: a contract, for every world.
  Conditions: as each theorem says; the sketch lies in memory; words are words of 64 bits; the sketch lies in memory; the sketch lies in memory; words are words of 64 bits; the sketch lies in memory and has at most 1024; the hash is a word of 64 bits; the slice shows its numbers; the sketch lies in memory; the slice shows its numbers and lies elsewhere than the sketch; the sketch lies in memory; the sketch lies in memory; it has at most 1024 hashes.
-/
import Derived.Test.YtadcaonkmncgoaaGreatSortZ
import Derived.Test.YtadcaonkmncgoaaGreatKmvD
import Derived.Test.YtadcaonkmncgoaaGreatVintR
import Derived.Test.YtadcaonkmncgoaaGreatWideZ
import Derived.Test.YtadcaonkmncgoaaGreatKmvAz
import Derived.Test.YtadcaonkmncgoaaGreatFnvA
namespace Go.Proofs.YtadcaonkmncgoaaGreat
open Go.RowKit Go.Maps
set_option maxRecDepth 20000

theorem last_mem {l : List Int} (h : l ≠ []) : l.getLastD 0 ∈ l := by
  rw [List.getLastD_eq_getLast?, List.getLast?_eq_some_getLast h]
  exact List.getLast_mem h
theorem insK_ne {h : Int} {l : List Int} : insK h l ≠ [] := fun e => by
  have : h ∈ insK h l := mem_insK.2 (Or.inl rfl)
  rw [e] at this
  cases this
theorem last_insK {h : Int} {l : List Int} (hl : Up l) (h0 : 0 ≤ h) : (insK h l).getLastD 0 = max (l.getLastD 0) h := by
  have hm := last_mem (insK_ne (h := h) (l := l))
  have h1 := up_last (up_insK (h := h) hl) (mem_insK.2 (Or.inl rfl))
  by_cases e : l = []
  · subst e
    simp [insK]
    omega
  · have h2 := up_last (up_insK (h := h) hl) (mem_insK.2 (Or.inr (last_mem e)))
    rcases mem_insK.1 hm with h3 | h3
    · omega
    · have h4 := up_last hl h3
      omega
theorem insK_above {h : Int} {l : List Int} (ha : ∀ x ∈ l, x < h) : insK h l = l ++ [h] := by
  induction l with
  | nil => rfl
  | cons x t ih =>
    have hx := ha x (List.mem_cons_self ..)
    rw [insK, if_neg (by omega), if_neg (by omega), ih (fun y hy => ha y (List.mem_cons_of_mem _ hy)), List.cons_append]
/-- A word that is not below the last of n changes nothing. -/
theorem hashK_beyond {n : Nat} {h : Int} {l : List Int} (hl : Up l) (hn : l.length = n) (hp : 0 < n) (hh : l.getLastD 0 ≤ h) : hashK n l h = l := by
  unfold hashK
  have hne : l ≠ [] := fun e => by subst e; simp at hn; omega
  by_cases e : h = l.getLastD 0
  · rw [insK_there hl (e ▸ last_mem hne), ← hn, List.take_length]
  · rw [insK_above (fun x hx => by have := up_last hl hx; omega), ← hn, List.take_left']
    rfl
theorem hashAll_beyond {n : Nat} {l m : List Int} (hl : Up l) (hn : l.length = n) (hp : 0 < n) (hm : ∀ x ∈ m, l.getLastD 0 ≤ x) : hashAll n l m = l := by
  unfold hashAll
  induction m with
  | nil => rfl
  | cons x t ih => rw [List.foldl_cons, hashK_beyond hl hn hp (hm x (List.mem_cons_self ..))]; exact ih (fun y hy => hm y (List.mem_cons_of_mem _ hy))
theorem hashAll_append (n : Nat) (l a b : List Int) : hashAll n l (a ++ b) = hashAll n (hashAll n l a) b := by
  unfold hashAll
  rw [List.foldl_append]
theorem last_take {l : List Int} (hl : Up l) {n : Nat} (hn : 0 < n) (hne : l ≠ []) : (l.take n).getLastD 0 ≤ l.getLastD 0 := by
  have hne2 : l.take n ≠ [] := fun e => by
    have h1 : (l.take n).length = 0 := by rw [e]; rfl
    rw [List.length_take] at h1
    have : 0 < l.length := List.length_pos_iff.2 hne
    omega
  exact up_last hl (List.mem_of_mem_take (last_mem hne2))
theorem last_split {l : List Int} {n : Nat} (h : l.length = n + 1) : l = l.take n ++ [l.getLastD 0] := by
  have hne : l ≠ [] := fun e => by subst e; simp at h
  rw [drop_last h]
  rw [List.getLastD_eq_getLast?, List.getLast?_eq_some_getLast hne]
  exact (List.dropLast_concat_getLast hne).symm
theorem last_get {l : List Int} (h : 0 < l.length) : l.getLastD 0 = l.getD (l.length - 1) 0 := by
  have hne : l ≠ [] := List.length_pos_iff.1 h
  rw [List.getLastD_eq_getLast?, List.getLast?_eq_getElem?, List.getD_eq_getElem?_getD]

theorem wfU {x : Int} (h : W64 x) : keyOf Tryz.prog 24 (.int .u64 x) = some (.int .u64 x) := keyOf_int_mk Tryz.underlying24 (wf_of_u64 h)
theorem litne {x y : Int} (h : x ≠ y) : Lit.int .u64 x ≠ Lit.int .u64 y := fun e => h (by cases e; rfl)
theorem IsSetU.put {D : DataW Unit} {l : List Int} (h : IsSetU D l) (ht : Tidy D) {x : Int} (hx : W64 x) (d : DataW Unit) : IsSetU (D.put (.int .u64 x) d) (insK x l) := by
  have hm : IsMap D := by obtain ⟨es, rfl, _⟩ := ht; exact ⟨es, rfl⟩
  refine ⟨up_insK h.up, words_insK hx h.words, fun y hy => ?_, ?_⟩
  · rw [mem_insK]
    by_cases e : y = x
    · subst e
      rw [has_put_same (k := .int .u64 y) hm trivial]
      simp
    · rw [has_put_other (litne e), ← h.mem y hy]
      simp [e]
  · rw [size_put ht, insK_len h.up, h.size]
    by_cases e : x ∈ l
    · rw [if_pos e, if_pos ((h.mem x hx).1 e)]
    · rw [if_neg e, if_neg (fun e' => e ((h.mem x hx).2 e'))]
theorem IsSetU.del {D : DataW Unit} {p s : List Int} {x : Int} (h : IsSetU D (p ++ x :: s)) (ht : Tidy D) : IsSetU (D.del (.int .u64 x)) (p ++ s) := by
  have hup := h.up
  have hx : W64 x := h.words x (by simp)
  have hnp : ∀ y ∈ p, y < x := fun y hy => by
    unfold Up at hup
    exact (List.pairwise_append.1 hup).2.2 y hy x (List.mem_cons_self ..)
  have hns : ∀ y ∈ s, x < y := fun y hy => by
    unfold Up at hup
    exact (List.pairwise_cons.1 (List.pairwise_append.1 hup).2.1).1 y hy
  refine ⟨?_, fun y hy => h.words y ?_, fun y hy => ?_, ?_⟩
  · unfold Up at hup ⊢
    have h1 := List.pairwise_append.1 hup
    exact List.pairwise_append.2 ⟨h1.1, (List.pairwise_cons.1 h1.2.1).2, fun a ha b hb => h1.2.2 a ha b (List.mem_cons_of_mem _ hb)⟩
  · rcases List.mem_append.1 hy with h1 | h1
    · exact List.mem_append.2 (Or.inl h1)
    · exact List.mem_append.2 (Or.inr (List.mem_cons_of_mem _ h1))
  · by_cases e : y = x
    · subst e
      rw [has_del_same]
      refine ⟨fun hy' => ?_, fun e => Bool.noConfusion e⟩
      rcases List.mem_append.1 hy' with h1 | h1
      · have := hnp y h1; omega
      · have := hns y h1; omega
    · rw [has_del_other (litne e), ← h.mem y hy]
      simp [e]
  · have := size_del (k := .int .u64 x) ht
    rw [if_pos ((h.mem x hx).1 (by simp)), h.size] at this
    simp only [List.length_append, List.length_cons] at this ⊢
    omega
theorem isSet_nil : IsSetU (.map []) [] := ⟨List.Pairwise.nil, by simp, fun x _ => by simp [Maps.has], rfl⟩

/-- A map's bound may be brought down to how many there are. -/
theorem mapU_low {w : World} {b n : Nat} {D : DataW Unit} (h : MapU w b n D) {m : Nat} (hm : Maps.size D ≤ m) : MapU w b m D := by
  obtain ⟨es, clock, hb, F, hs, hD⟩ := h
  refine ⟨es, clock, hb, F, ?_, hD⟩
  have e : Maps.size D = es.size := by rw [hD]; simp [Maps.size, length_sorted]
  omega

/-- A sketch at block g, its map at block b; 'top' stands beside. -/
structure KB (w : World) (g b : Nat) (D : DataW Unit) (l : List Int) (top : Int) : Prop where
  str : w.heap[g]? = some (.cells #[.map (some b), .int .u64 top] 116 (0, 0))
  map : MapU w b 1048576 D
  set : IsSetU D l
  len : l.length ≤ 100000
section
variable {w w' : World} {g b : Nat} {D : DataW Unit} {l : List Int} {top : Int}
theorem KB.lt (h : KB w g b D l top) : g < w.heap.size ∧ b < w.heap.size := ⟨(Array.getElem?_eq_some_iff.1 h.str).1, h.map.lt⟩
theorem KB.ne (h : KB w g b D l top) : g ≠ b := by
  rintro rfl
  obtain ⟨es, clock, hb, _⟩ := h.map
  rw [h.str] at hb
  simp at hb
theorem KB.c0 (h : KB w g b D l top) : w.cell? ⟨g, 0, none⟩ = some (.map (some b)) := by
  rw [cell_of_row w g 0 _ _ (0, 0) h.str]; rfl
theorem KB.c1 (h : KB w g b D l top) : w.cell? ⟨g, 1, none⟩ = some (.int .u64 top) := by
  rw [cell_of_row w g 1 _ _ (0, 0) h.str]; rfl
theorem KB.fz (h : KB w g b D l top) (i : Nat) : w.frozen? ⟨g, i, none⟩ = false := frozen_of_row w g i _ _ h.str
theorem KB.ch {S : Nat → Prop} (h : KB w g b D l top) (k : Ch S w w') (h1 : ¬ S g) (h2 : ¬ S b) : KB w' g b D l top := by
  obtain ⟨es, clock, hb, r⟩ := h.map
  exact ⟨(k.block g h.lt.1 h1).trans h.str, ⟨es, clock, (k.block b h.lt.2 h2).trans hb, r⟩, h.set, h.len⟩
theorem KB.below (h : KB w g b D l top) (k : Below w.heap.size w w') : KB w' g b D l top := h.ch (Ch.of_below k) (fun e => e) (fun e => e)
theorem KB.drewN (h : KB w g b D l top) (q : Nat) : KB (w.drewN q) g b D l top := ⟨h.str, h.map, h.set, h.len⟩
theorem KB.setTop (h : KB w g b D l top) (t : Int) : KB (w.setCell ⟨g, 1, none⟩ (.int .u64 t)) g b D l t := by
  refine ⟨?_, h.map.setCell (fun e => h.ne e.symm) _, h.set, h.len⟩
  rw [heap_setCell_same w g 1 _ _ _ h.str]
  rfl
theorem KB.tidy (h : KB w g b D l top) : Tidy D := h.map.tidy keyU
theorem KB.put (h : KB w g b D l top) {x : Int} (hx : W64 x) (hl : (insK x l).length ≤ 100000) {d : DataW Unit} (hm : MapU w' b (1048576 + 1) (D.put (.int .u64 x) d)) (hg : w.grownBy w' (some b)) : KB w' g b (D.put (.int .u64 x) d) (insK x l) top := by
  have hs := h.set.put h.tidy hx d
  refine ⟨(hg.block g h.lt.1 (fun e => h.ne (by cases e; rfl))).trans h.str, mapU_low hm (by rw [hs.size]; omega), hs, hl⟩
theorem KB.del {p s : List Int} {x : Int} (h : KB w g b D (p ++ x :: s) top) (hm : MapU w' b 1048576 (D.del (.int .u64 x))) (hg : w.grownBy w' (some b)) : KB w' g b (D.del (.int .u64 x)) (p ++ s) top := by
  have hl := h.len
  refine ⟨(hg.block g h.lt.1 (fun e => h.ne (by cases e; rfl))).trans h.str, hm, h.set.del h.tidy, ?_⟩
  simp only [List.length_append, List.length_cons] at hl ⊢
  omega
end
/-- The blocks of a sketch. -/
def KS (g b : Nat) : Nat → Prop := fun k => k = g ∨ k = b
/-- A sketch that shows a list. -/
def AtK (w : World) (g : Nat) (S : Nat → Prop) (l : List Int) : Prop := ∃ b D, S = KS g b ∧ KB w g b D l (l.getLastD 0) ∧ l.length ≤ 1024
theorem ch_grownK {w w' : World} {g b : Nat} (h : w.grownBy w' (some b)) : Ch (KS g b) w w' := (Ch.grown h).more (fun _ _ e => Or.inr (by cases e; rfl))
theorem ch_setK (w : World) (g b i : Nat) (v : Value) : Ch (KS g b) w (w.setCell ⟨g, i, none⟩ v) := (ch_set w g i v).more (fun _ _ e => Or.inl e)
end Go.Proofs.YtadcaonkmncgoaaGreat

namespace Go.Proofs.YtadcaonkmncgoaaGreat
open Go.RowKit Go.Maps

theorem beyond_any (g b : Nat) (D : DataW Unit) (l : List Int) (top h : Int) (w : World) (H : KB w g b D l top) :
    Calls Tryz.prog 92 #[.pointer (some ⟨g, 0, none⟩), .int .u64 h] w fun e w' => e = .returned (.bool (decide (1024 ≤ l.length) && decide (top ≤ h))) ∧ w' = w := by
  have c0 := H.c0
  have c1 := H.c1
  have HO := hide H.map
  have HS := hide H.set.size
  clear H
  by_cases hl : 1024 ≤ l.length
  · have i1 : (1024 : Int) ≤ (l.length : Int) := by omega
    rw [decide_eq_true hl, Bool.true_and]
    go_enter Tryz.func92, Tryz.ntmps92
    go_wp2_with (at_len; refine wpList_len_own _ rfl _ 114 rfl 24 126 Tryz.underlying114 _ b 1048576 D rfl HO.out ?_; rw [HS.out])
    go_ret
    exact ⟨rfl, rfl⟩
  · have i1 : ¬ (1024 : Int) ≤ (l.length : Int) := by omega
    have i2 : decide ((1024 : Int) ≤ (l.length : Int)) = false := decide_eq_false i1
    rw [decide_eq_false hl, Bool.false_and]
    go_enter Tryz.func92, Tryz.ntmps92
    go_wp2_with (at_len; refine wpList_len_own _ rfl _ 114 rfl 24 126 Tryz.underlying114 _ b 1048576 D rfl HO.out ?_; rw [HS.out])
    go_ret
    exact ⟨rfl, rfl⟩

set_option maxHeartbeats 1000000 in
theorem take_any (g b : Nat) (D : DataW Unit) (l : List Int) (top h : Int) (w : World) (H : KB w g b D l top) (hh : W64 h) (hl : (insK h l).length ≤ 100000) :
    Calls Tryz.prog 93 #[.pointer (some ⟨g, 0, none⟩), .int .u64 h] w fun e w' => e = .returned (.tuple #[]) ∧ (∃ D', KB w' g b D' (insK h l) (max top h)) ∧ Ch (KS g b) w w' := by
  have c0 := H.c0
  have HK := hide H
  have HL := hide hl
  have HW := hide hh
  clear H hl
  go_enter Tryz.func93, Tryz.ntmps93
  go_wp2_with (at_mapUpdate; refine wpList_mapUpdate_own _ rfl _ _ _ 114 rfl 24 126 keyU Tryz.underlying114 _ b 1048576 D rfl HK.out.map (by decide) _ _ _ rfl rfl (wfU HW.out) _ _ unitElem_mk ?_)
  intro w1 hm1 hg1
  have K1 := hide (HK.out.put HW.out HL.out hm1 hg1)
  have C1 := hide (ch_grownK (g := g) hg1)
  have d1 := K1.out.c1
  have d2 := K1.out.fz 1
  clear hm1 hg1 HK
  go_wp2
  go_end0
  exact ⟨rfl, ⟨_, K1.out.setTop _⟩, C1.out.trans (ch_setK _ g b 1 _)⟩

theorem hashes_any (g b : Nat) (D : DataW Unit) (l : List Int) (top : Int) (w : World) (H : KB w g b D l top) :
    Calls Tryz.prog 78 #[.pointer (some ⟨g, 0, none⟩)] w fun e w' => ∃ a c, e = .returned (.slice a l.length c) ∧ OwnU w' w.heap.size a l.length c l ∧ Below w.heap.size w w' := by
  have c0 := H.c0
  have KE := hide (keys_any b w)
  have hb1 : Boxed (w.alloc (.cells #[.map (some b)] 114)) w.heap.size 114 (.map (some b)) := Boxed.new w _ _
  have SO := hide (sorted_any w.heap.size b 1048576 D l _ H.set (by have := H.len; omega) hb1 (H.map.alloc _))
  clear H hb1
  go_enter Tryz.func78, Tryz.ntmps78
  go_wp2_with fail
  refine KE.out.mono ?_
  rintro e w1 ⟨rfl, rfl⟩
  go_wp2_with fail
  refine SO.out.mono ?_
  rintro e w2 ⟨a, c, rfl, o2, b2⟩
  have O2 := hide (o2.mono (base' := w.heap.size) (by simp))
  have B2 : Hid (Below w.heap.size w w2) := (bel_al (Below.refl _ _) (Nat.le_refl _) _).trans (b2.mono (by simp))
  clear o2 b2 SO KE
  go_wp2
  go_ret
  exact ⟨a, c, rfl, O2.out, B2.out⟩
end Go.Proofs.YtadcaonkmncgoaaGreat

namespace Go.Proofs.YtadcaonkmncgoaaGreat
open Go.RowKit Go.Maps

/-- The greatest of what was met. -/
structure Met (D : DataW Unit) (left : Lit → Bool) (T : Int) : Prop where
  pos : 0 ≤ T
  most : ∀ x, W64 x → Maps.has D (.int .u64 x) = true → left (.int .u64 x) = false → x ≤ T
  isIn : T = 0 ∨ (W64 T ∧ Maps.has D (.int .u64 T) = true)
theorem Met.start (D : DataW Unit) : Met D (Maps.has D) 0 := ⟨Int.le_refl _, fun _ _ h1 h2 => Bool.noConfusion (h1.symm.trans h2), Or.inl rfl⟩
theorem Met.low {D : DataW Unit} {left : Lit → Bool} {T x : Int} (h : Met D left T) (hx : x ≤ T) : Met D (fun z => left z && !z.sameKey (.int .u64 x)) T := by
  refine ⟨h.pos, fun y hy h1 h2 => ?_, h.isIn⟩
  by_cases e : y = x
  · omega
  · refine h.most y hy h1 ?_
    simpa [sameU, e] using h2
theorem Met.high {D : DataW Unit} {left : Lit → Bool} {T x : Int} (h : Met D left T) (hx : W64 x) (hh : Maps.has D (.int .u64 x) = true) (hlt : T < x) : Met D (fun z => left z && !z.sameKey (.int .u64 x)) x := by
  refine ⟨hx.1, fun y hy h1 h2 => ?_, Or.inr ⟨hx, hh⟩⟩
  by_cases e : y = x
  · omega
  · have := h.most y hy h1 (by simpa [sameU, e] using h2)
    omega
theorem Met.done {D : DataW Unit} {left : Lit → Bool} {T : Int} {l : List Int} (h : Met D left T) (hl : ∀ k, left k = false) (hs : IsSetU D l) : T = l.getLastD 0 := by
  by_cases e : l = []
  · subst e
    rcases h.isIn with h1 | ⟨h1, h2⟩
    · exact h1
    · have := (hs.mem T h1).2 h2
      cases this
  · have hm := last_mem e
    have hw := hs.words _ hm
    have h1 := h.most _ hw ((hs.mem _ hw).1 hm) (hl _)
    rcases h.isIn with h2 | ⟨h2, h3⟩
    · have := hw.1
      omega
    · have := up_last hs.up ((hs.mem T h2).2 h3)
      omega

theorem noGoto_ret {Q : Exit → Act → World → Prop} {a : Act} {w : World} : Exit.noGoto Q .ret a w = Q .ret a w := rfl

set_option maxHeartbeats 2000000 in
theorem greatest_any (g b : Nat) (D : DataW Unit) (l : List Int) (top : Int) (w : World) (H : KB w g b D l top) :
    Calls Tryz.prog 94 #[.pointer (some ⟨g, 0, none⟩)] w fun e w' => e = .returned (.int .u64 (l.getLastD 0)) ∧ Below w.heap.size w w' := by
  have c0 := H.c0
  have HM := hide H.map
  have HS := hide H.set
  clear H
  go_enter Tryz.func94, Tryz.ntmps94
  go_wp2
  go_step3
  go_wp2
  go_step3
  go_wp2_with (at_range; refine wpList_range_own _ rfl _ 114 rfl 24 126 keyU Tryz.underlying114 _ b 1048576 _ rfl HM.out ?_; intro w0 hrg0 hg0 hs0)
  have HB0 : Hid (Below w.heap.size w w0) := (Below.refl _ _).grown hg0 (Nat.le_refl _) (fun k e => by cases e)
  clear hg0 hs0
  try go_frame
  go_loopw [3] (fun x3 wr => ∃ (left : Lit → Bool) (cnt : Nat) (T : Int), x3 = .int .u64 T ∧ wr.ranges Tryz.prog 24 (unitElem (H := Unit)) b w.heap.size 1048576 D left cnt ∧ Hid (Met D left T) ∧ Hid (Below w.heap.size w wr)) (fun _ wr => wr.rangeLeft b w.heap.size)
  case atStart => exact ⟨_, _, 0, rfl, hrg0, Met.start D, HB0.out⟩
  case round =>
    obtain ⟨left, cnt, T, rfl, hrg, HT, HB⟩ := hrel
    go_wp2_with (at_next; refine wpList_next_ranges _ rfl _ rfl 24 keyU (unitElem (H := Unit)) (Value.int .u64) id (fun key kl hk => by obtain ⟨x, hx, _⟩ := Maps.keyOf_int_inv Tryz.underlying24 hk; exact ⟨x, hx⟩) (fun v _ _ => ⟨v, rfl⟩) b w.heap.size 1048576 _ _ _ rfl hrg ?_ ?_)
    · intro hc0 hl0
      have HE := hide (HT.out.done hl0 HS.out)
      clear hc0 hl0
      go_wp2
      rw [noGoto_ret]
      go_ret
      exact ⟨by rw [HE.out]; rfl, HB.out⟩
    · intro x c kl yd yp w2 cnt2 hkey hlk hv hat hrg2 hlt hg2 hs2 hen
      obtain ⟨x', ex, rfl, hwx⟩ := Maps.keyOf_int_inv Tryz.underlying24 hkey
      cases ex
      have HB2 : Hid (Below w.heap.size w w2) := HB.out.grown hg2 HB.out.size (fun k e => by cases e; exact Nat.le_refl _)
      have HX := hide (u64_of_wf hwx)
      have HA := hide (Maps.has_true_of_atKey hat)
      have HLt := hide hlt
      clear hs2 hg2 hkey hlk hv hat hlt hwx
      by_cases hle : x ≤ T
      · have HT2 := hide (HT.out.low hle)
        go_wp2
        go_roundw
        case rel => exact ⟨_, cnt2, T, rfl, hrg2, HT2.out, HB2.out⟩
        case measure => rw [hrg2.left_eq, hrg.left_eq]; exact HLt.out
      · have HT2 := hide (HT.out.high HX.out HA.out (by omega))
        go_wp2
        go_roundw
        case rel => exact ⟨_, cnt2, x, rfl, hrg2, HT2.out, HB2.out⟩
        case measure => rw [hrg2.left_eq, hrg.left_eq]; exact HLt.out
end Go.Proofs.YtadcaonkmncgoaaGreat

namespace Go.Proofs.YtadcaonkmncgoaaGreat
open Go.RowKit Go.Maps

/-- How many unlike things n hashes up to 'top' tell. -/
def distN (n : Nat) (top : Int) : Int := if n < 1024 then n else if top = 18446744073709551615 then 1023 else 1023 * 18446744073709551616 / (top + 1)

/-- What a list says is what its length and its last word say. -/
theorem distK_N {l : List Int} (hu : Up l) (hw : ∀ x ∈ l, W64 x) (hl : l.length ≤ 1024) : distK l = distN l.length (l.getLastD 0) := by
  unfold distK distN
  rw [up_chk hu hl hw, if_pos rfl]
  by_cases h : l.length < 1024
  · rw [if_pos h, if_pos h]
  · rw [if_neg h, if_neg h, last_get (by omega), show l.length - 1 = 1023 by omega]
theorem last_great {l : List Int} (hu : Up l) (hw : ∀ x ∈ l, W64 x) (hl : 1024 ≤ l.length) : 1023 ≤ l.getLastD 0 := by
  have := up_place hu hw (l.length - 1) (by omega)
  rw [last_get (by omega)]
  omega
theorem last_word {l : List Int} (hw : ∀ x ∈ l, W64 x) : W64 (l.getLastD 0) := by
  by_cases e : l = []
  · subst e; exact ⟨by decide, by decide⟩
  · exact hw _ (last_mem e)

/-- What a walk reads of a sketch. -/
def SeenK (g b : Nat) (n : Nat) (top : Int) (W : World) : Prop := W.cell? ⟨g, 0, none⟩ = some (.map (some b)) ∧ W.cell? ⟨g, 1, none⟩ = some (.int .u64 top) ∧ ∀ ty, (Builtin.len_ #[114] ty #[.map (some b)]).run Tryz.prog W = .ok (.int .i64 (n : Nat)) W
theorem KB.seen {w : World} {g b : Nat} {D : DataW Unit} {l : List Int} {top : Int} (H : KB w g b D l top) : SeenK g b l.length top w := ⟨H.c0, H.c1, fun ty => by
  have := H.map.len Tryz.underlying114 ty
  rwa [H.set.size] at this⟩

end Go.Proofs.YtadcaonkmncgoaaGreat

namespace Go.Proofs.YtadcaonkmncgoaaGreat
open Go.RowKit Go.Maps

theorem insK_small {h : Int} {l : List Int} (hu : Up l) : (insK h l).length ≤ l.length + 1 := by
  rw [insK_len hu]
  split <;> omega
theorem hashK_few {n : Nat} {h : Int} {l : List Int} (hl : (insK h l).length ≤ n) : hashK n l h = insK h l := by
  unfold hashK
  exact List.take_of_length_le hl

set_option maxRecDepth 20000 in
set_option maxHeartbeats 4000000 in
theorem khash_any (g b : Nat) (D : DataW Unit) (l : List Int) (h : Int) (w : World) (H : KB w g b D l (l.getLastD 0)) (hl : l.length ≤ 1024) (hh : W64 h) :
    Calls Tryz.prog 84 #[.pointer (some ⟨g, 0, none⟩), .int .u64 h] w fun e w' => e = .returned (.tuple #[]) ∧ (∃ D', KB w' g b D' (hashK 1024 l h) ((hashK 1024 l h).getLastD 0)) ∧ Ch (KS g b) w w' := by
  have BY := hide (beyond_any g b D l (l.getLastD 0) h w H)
  have hil := insK_small (h := h) H.set.up
  have TK := hide (take_any g b D l (l.getLastD 0) h w H hh (by omega))
  rw [← last_insK H.set.up hh.1] at TK
  have HK := hide H
  have HU := hide H.set.up
  obtain ⟨B, HB⟩ : ∃ B, Hid ((decide (1024 ≤ l.length) && decide (l.getLastD 0 ≤ h)) = B) := ⟨_, rfl⟩
  rw [HB.out] at BY
  clear H
  cases B with
  | true =>
    have hb : 1024 ≤ l.length ∧ l.getLastD 0 ≤ h := by have := HB.out; simpa using this
    have HE : Hid (hashK 1024 l h = l) := hashK_beyond HU.out (by omega) (by decide) hb.2
    rw [HE.out]
    clear hb hil TK HB
    go_enter Tryz.func84, Tryz.ntmps84
    go_wp2_with fail
    refine BY.out.mono ?_
    rintro e w1 ⟨rfl, rfl⟩
    go_wp2
    refine bodyPost_ret (results_none rfl _ _ _) rfl ?_
    exact ⟨rfl, ⟨D, HK.out⟩, Ch.refl _ _⟩
  | false =>
    obtain ⟨L, HLL⟩ : ∃ L, Hid (insK h l = L) := ⟨_, rfl⟩
    rw [HLL.out] at TK hil
    by_cases hm : L.length ≤ 1024
    · have HE : Hid (hashK 1024 l h = L) := by
        show _ = _
        rw [← HLL.out]
        exact hashK_few (by rw [HLL.out]; exact hm)
      rw [HE.out]
      have i1 : ¬ (1024 : Int) < (L.length : Int) := by omega
      clear hil HB
      go_enter Tryz.func84, Tryz.ntmps84
      go_wp2_with fail
      refine BY.out.mono ?_
      rintro e w1 ⟨rfl, hw1⟩
      subst hw1
      go_wp2_with fail
      refine TK.out.mono ?_
      rintro e w2 ⟨rfl, ⟨D', K2⟩, C2⟩
      have HK2 := hide K2
      have HC2 := hide C2
      have c0 := K2.c0
      have HO := hide K2.map
      have HS := hide K2.set.size
      clear K2 C2 TK BY
      go_wp2_with (at_len; refine wpList_len_own _ rfl _ 114 rfl 24 126 Tryz.underlying114 _ b 1048576 D' rfl HO.out ?_; rw [HS.out])
      go_end0
      exact ⟨rfl, ⟨D', HK2.out⟩, HC2.out⟩
    · have hL : L.length = 1025 := by omega
      have HE : Hid (hashK 1024 l h = L.take 1024) := by
        show _ = _
        rw [← HLL.out]
        rfl
      rw [HE.out]
      have i1 : (1024 : Int) < (L.length : Int) := by omega
      have HSp := hide (last_split (l := L) (n := 1024) hL)
      clear hil HB
      go_enter Tryz.func84, Tryz.ntmps84
      go_wp2_with fail
      refine BY.out.mono ?_
      rintro e w1 ⟨rfl, hw1⟩
      subst hw1
      go_wp2_with fail
      refine TK.out.mono ?_
      rintro e w2 ⟨rfl, ⟨D', K2⟩, C2⟩
      have HK2 := hide K2
      have HC2 := hide C2
      have c0 := K2.c0
      have HO := hide K2.map
      have HS := hide K2.set.size
      have HX : Hid (W64 (L.getLastD 0)) := last_word K2.set.words
      have SN : Hid (SeenK g b L.length (L.getLastD 0) w2.drew) := (K2.drewN 1).seen
      obtain ⟨t, HT⟩ : ∃ t, Hid (L.getLastD 0 = t) := ⟨_, rfl⟩
      rw [HT.out] at HX SN HK2 HSp
      obtain ⟨w3, hrun, hm3, ht3⟩ := (HK2.out.map.drew).drop keyU Tryz.underlying114 (wfU HX.out) 0
      have K3 : Hid (KB w3 g b (D'.del (.int .u64 t)) (L.take 1024) t) := by
        have h1 := HK2.out.drewN 1
        rw [HSp.out] at h1
        have h2 := KB.del (s := []) h1 hm3 ht3.grown
        rwa [List.append_nil] at h2
      have C3 : Hid (Ch (KS g b) w1 w3) := (HC2.out.drewN 1).trans (ch_grownK ht3.grown)
      have GR := hide (greatest_any g b _ _ t w3 K3.out)
      obtain ⟨t2, HT2⟩ : ∃ t2, Hid ((L.take 1024).getLastD 0 = t2) := ⟨_, rfl⟩
      rw [HT2.out] at GR
      clear hm3 ht3
      clear K2 C2 TK BY
      go_upto_region 3 with (at_len; refine wpList_len_own _ rfl _ 114 rfl 24 126 Tryz.underlying114 _ b 1048576 D' rfl HO.out ?_; rw [HS.out])
      have s0 := SN.out.1
      have s1 := SN.out.2.1
      refine wp_region_held_drew (S := fun W => W.cell? ⟨g, 0, none⟩ = some (.map (some b)) ∧ W.cell? ⟨g, 1, none⟩ = some (.int .u64 t)) (by kernel_rfl) ⟨s0, s1⟩ (fun hHeld => ?_)
      refine held_take (i := 0) (d := (some 16)) (v := ?_) rfl rfl (by kernel_rfl) (by kernel_rfl) (by kernel_rfl) (fun _ _ _ h => h) (Or.inl ⟨by rfl, ?_⟩) (by first | assumption | rfl | trivial) ?_
      rotate_left 1
      · (intro w hSw; (try dsimp only at hSw); (try subst hSw); go_simp; try with_reducible rfl)
      simp only [Act.put, List.setIfInBounds_toArray, List.set_cons_zero, List.set_cons_succ]
      refine held_take (i := 1) (d := (some 17)) (v := ?_) rfl rfl (by kernel_rfl) (by kernel_rfl) (by kernel_rfl) (fun _ _ _ h => h) (Or.inl ⟨by rfl, ?_⟩) (by first | assumption | rfl | trivial) ?_
      rotate_left 1
      · (intro w hSw; (try dsimp only at hSw); (try subst hSw); go_simp; try with_reducible rfl)
      simp only [Act.put, List.setIfInBounds_toArray, List.set_cons_zero, List.set_cons_succ]
      refine held_take (i := 2) (d := (some 18)) (v := ?_) rfl rfl (by kernel_rfl) (by kernel_rfl) (by kernel_rfl) (fun _ _ _ h => h) (Or.inl ⟨by rfl, ?_⟩) (by first | assumption | rfl | trivial) ?_
      rotate_left 1
      · (intro w hSw; (try dsimp only at hSw); (try subst hSw); go_simp; try with_reducible rfl)
      simp only [Act.put, List.setIfInBounds_toArray, List.set_cons_zero, List.set_cons_succ]
      refine held_take (i := 3) (d := (some 19)) (v := ?_) rfl rfl (by kernel_rfl) (by kernel_rfl) (by kernel_rfl) (fun _ _ _ h => h) (Or.inl ⟨by rfl, ?_⟩) (by first | assumption | rfl | trivial) ?_
      rotate_left 1
      · (intro w hSw; (try dsimp only at hSw); (try subst hSw); go_simp; try with_reducible rfl)
      simp only [Act.put, List.setIfInBounds_toArray, List.set_cons_zero, List.set_cons_succ]
      refine held_take (i := 4) (d := (some 20)) (v := ?_) rfl rfl (by kernel_rfl) (by kernel_rfl) (by kernel_rfl) (fun _ _ _ h => h) (Or.inl ⟨by rfl, ?_⟩) (by first | assumption | rfl | trivial) ?_
      rotate_left 1
      · (intro w hSw; (try dsimp only at hSw); (try subst hSw); go_simp; try with_reducible rfl)
      simp only [Act.put, List.setIfInBounds_toArray, List.set_cons_zero, List.set_cons_succ]
      refine held_take (i := 5) (d := (some 21)) (v := ?_) rfl rfl (by kernel_rfl) (by kernel_rfl) (by kernel_rfl) (fun _ _ _ h => h) (Or.inl ⟨by rfl, ?_⟩) (by first | assumption | rfl | trivial) ?_
      rotate_left 1
      · (intro w hSw; (try dsimp only at hSw); (try subst hSw); go_simp; try with_reducible rfl)
      simp only [Act.put, List.setIfInBounds_toArray, List.set_cons_zero, List.set_cons_succ]
      refine held_take (i := 6) (d := (some 22)) (v := ?_) rfl rfl (by kernel_rfl) (by kernel_rfl) (by kernel_rfl) (fun _ _ _ h => h) (Or.inl ⟨by rfl, ?_⟩) (by first | assumption | rfl | trivial) ?_
      rotate_left 1
      · (intro w hSw; (try dsimp only at hSw); (try subst hSw); go_simp; try with_reducible rfl)
      simp only [Act.put, List.setIfInBounds_toArray, List.set_cons_zero, List.set_cons_succ]
      refine held_take (i := 7) (d := (some 23)) (v := ?_) rfl rfl (by kernel_rfl) (by kernel_rfl) (by kernel_rfl) (fun _ _ _ h => h) (Or.inl ⟨by rfl, ?_⟩) (by first | assumption | rfl | trivial) ?_
      rotate_left 1
      · (intro w hSw; (try dsimp only at hSw); (try subst hSw); go_simp; try with_reducible rfl)
      simp only [Act.put, List.setIfInBounds_toArray, List.set_cons_zero, List.set_cons_succ]
      refine held_next (i := 8) (by kernel_rfl) rfl (by rfl) (fun K hK => ?_)
      go_simp
      refine hK.out _ _ ⟨K3.out.c0, K3.out.c1⟩ ?_
      clear hK
      refine wpAnyH_done (by kernel_rfl) ?_ _
      clear hHeld hrun s0 s1
      go_wp2_with fail
      refine GR.out.mono ?_
      rintro e w4 ⟨rfl, b4⟩
      have K4 := hide (K3.out.below b4)
      have C4 := hide (C3.out.trans ((Ch.of_below b4).more (fun _ _ e => e.elim)))
      have d1 := K4.out.c1
      have d2 := K4.out.fz 1
      clear b4 GR
      go_wp2
      go_end0
      exact ⟨rfl, ⟨_, by rw [HT2.out]; exact K4.out.setTop _⟩, C4.out.trans (ch_setK _ g b 1 _)⟩
end Go.Proofs.YtadcaonkmncgoaaGreat

namespace Go.Proofs.YtadcaonkmncgoaaGreat
open Go.RowKit Go.Maps

theorem Row.chU {k : IntKind} {S : Nat → Prop} {w w' : World} {a : Option Addr} {n : Nat} {zs : List Int} (h : Row k w a n zs) (c : Ch S w w') (hn : ∀ x, a = some x → ¬ S x.block) : Row k w' a n zs := by
  obtain ⟨h1, h2, h3, h4⟩ := h
  refine ⟨h1, h2, h3, ?_⟩
  rcases h4 with h4 | ⟨b, off, rfl, hc⟩
  · exact Or.inl h4
  · right
    refine ⟨b, off, rfl, fun i hi => ?_⟩
    have hlt : b < w.heap.size := World.block_lt_of_cell? w _ (hc i hi)
    have hb := c.block b hlt (hn _ rfl)
    have e : ∀ o, w'.cell? ⟨b, o, none⟩ = w.cell? ⟨b, o, none⟩ := fun o => by simp only [World.cell?, hb]
    rw [e]
    exact hc i hi

/-- A new sketch. -/
theorem knew_any (w : World) : Calls Tryz.prog 73 #[] w fun e w' => ∃ g b D, e = .returned (.pointer (some ⟨g, 0, none⟩)) ∧ KB w' g b D [] 0 ∧ w.heap.size ≤ g ∧ w.heap.size ≤ b ∧ Below w.heap.size w w' := by
  have hmm := @run_makeMap Tryz.prog
  go_enter Tryz.func73, Tryz.ntmps73
  go_wp2
  go_ret
  refine ⟨w.heap.size + 1, w.heap.size, .map [], by simp, ⟨?_, ?_, isSet_nil, by simp⟩, by omega, Nat.le_refl _, (bel_al (bel_al (Below.refl _ _) (Nat.le_refl _) _) (Nat.le_refl _) _)⟩
  · have := World.alloc_heap_new (w.alloc (.map #[] 0)) (.cells #[.map (some w.heap.size), .int .u64 0] 116)
    rwa [World.size_alloc] at this
  · exact ((World.ownsMap_made w Tryz.prog 24 (unitElem (H := Unit))).mono (Nat.zero_le _)).alloc _

end Go.Proofs.YtadcaonkmncgoaaGreat

namespace Go.Proofs.YtadcaonkmncgoaaGreat
open Go.RowKit Go.Maps

theorem uni_snoc (l m : List Int) (h : Int) : uni l (m ++ [h]) = insK h (uni l m) := by
  induction m generalizing l with
  | nil => rfl
  | cons x t ih => rw [List.cons_append, uni, uni, ih]
theorem uni_small {l m : List Int} (hl : Up l) : (uni l m).length ≤ l.length + m.length := by
  induction m generalizing l with
  | nil => exact Nat.le_refl _
  | cons x t ih =>
    rw [uni, List.length_cons]
    have h1 := ih (up_insK (h := x) hl)
    have h2 := insK_small (h := x) hl
    omega
theorem uni_words {l m : List Int} (hl : ∀ x ∈ l, W64 x) (hm : ∀ x ∈ m, W64 x) : ∀ x ∈ uni l m, W64 x := fun x hx => (mem_uni.1 hx).elim (hl x) (hm x)
theorem uni_nil {m : List Int} (hm : Up m) : uni [] m = m := up_ext (up_uni List.Pairwise.nil) hm (fun x => by rw [mem_uni]; simp)
theorem merge_all {l m : List Int} (hl : l.length ≤ 1024) : (uni l m).take 1024 = hashAll 1024 l m := (hashAll_uni hl).symm
theorem merge_break {l m : List Int} (hu : Up l) (hl : l.length ≤ 1024) (hm : Up m) {k : Nat} (hk : k < m.length) (h1 : 1024 ≤ (uni l (m.take k)).length) (h2 : (uni l (m.take k)).getLastD 0 ≤ m.getD k 0) : (uni l (m.take k)).take 1024 = hashAll 1024 l m := by
  have e : hashAll 1024 l m = hashAll 1024 ((uni l (m.take k)).take 1024) (m.drop k) := by
    rw [← hashAll_uni hl, ← hashAll_append, List.take_append_drop]
  have hup : Up (uni l (m.take k)) := up_uni hu
  rw [e]
  refine (hashAll_beyond (up_take hup 1024) (by rw [List.length_take]; omega) (by decide) (fun x hx => ?_)).symm
  have h3 := last_take hup (n := 1024) (by decide) (fun e => by rw [e] at h1; simp at h1)
  have h4 : m.getD k 0 ≤ x := by
    rw [drop_num hk] at hx
    rcases List.mem_cons.1 hx with rfl | hx
    · exact Int.le_refl _
    · have hd : Up (m.drop k) := List.Pairwise.sublist (List.drop_sublist k m) hm
      rw [drop_num hk] at hd
      have := (List.pairwise_cons.1 hd).1 x hx
      omega
  omega

end Go.Proofs.YtadcaonkmncgoaaGreat

namespace Go.Proofs.YtadcaonkmncgoaaGreat
open Go.RowKit Go.Maps

theorem atK_of {w : World} {g b : Nat} {D : DataW Unit} {l : List Int} (h : KB w g b D l (l.getLastD 0)) (hl : l.length ≤ 1024) : AtK w g (KS g b) l := ⟨b, D, rfl, h, hl⟩
theorem stepK_of {w w' : World} {g b : Nat} {l : List Int} (h : ∃ D, KB w' g b D l (l.getLastD 0)) (hl : l.length ≤ 1024) (c : Ch (KS g b) w w') : StepK AtK w w' g (KS g b) l := by
  obtain ⟨D, h⟩ := h
  exact ⟨KS g b, atK_of h hl, fun _ hk => Or.inl hk, c⟩

theorem kadd_any (g b : Nat) (D : DataW Unit) (l : List Int) (s : ByteArray) (w : World) (H : KB w g b D l (l.getLastD 0)) (hl : l.length ≤ 1024) (hs : s.size ≤ 9223372036854775807) :
    Calls Tryz.prog 75 #[.pointer (some ⟨g, 0, none⟩), .string s] w fun e w' => e = .returned (.tuple #[]) ∧ StepK AtK w w' g (KS g b) (hashK 1024 l (fnvOf (numsOf s))) := by
  have OF := hide (fnvOf_any s w hs)
  have HA := hide (khash_any g b D l (fnvOf (numsOf s)) w H hl (fnvOf_word _))
  clear H
  generalize fnvOf (numsOf s) = h at *
  go_enter Tryz.func75, Tryz.ntmps75
  go_wp2_with fail
  refine OF.out.mono ?_
  rintro e w1 ⟨rfl, hw1⟩
  subst hw1
  go_wp2_with fail
  refine HA.out.mono ?_
  rintro e w2 ⟨rfl, K2, C2⟩
  have HK2 := hide K2
  have HC2 := hide C2
  clear K2 C2 HA OF
  go_wp2
  go_end0
  exact ⟨rfl, stepK_of HK2.out (hashK_len _ _ _) HC2.out⟩
end Go.Proofs.YtadcaonkmncgoaaGreat
