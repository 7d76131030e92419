/-
  The laws' own copy of lists of numbers (lists): a contract, for every world.
  Conditions: the slices show their numbers.
-/
import Derived.Test.YthmcliapdnbdjaaPosL
namespace Go.Proofs.Ythmcliapdnbdjaa
open Go.RowKit
set_option maxRecDepth 20000

theorem Try.infoII : (Try.prog.info? 22).map (fun i => (i.zero, i.size, i.bytes)) = some (some (.slice none 0 0), 1, 24) := by kernel_rfl
theorem SlI.ch {C : Nat → Prop} {w w' : World} {a : Option Addr} {n cap : Nat} {zs : List Int} (h : SlI w a n cap zs) (c : Ch C w w') (hn : ∀ b off, a = some ⟨b, off, none⟩ → ¬ C b) : SlI w' a n cap zs := by
  obtain ⟨⟨h1, h2, h3, h4⟩, h5⟩ := h
  refine ⟨⟨h1, h2, h3, ?_⟩, h5⟩
  rcases h4 with h4 | ⟨b, off, rfl, hc⟩
  · exact Or.inl h4
  · by_cases h0 : n = 0
    · exact Or.inl h0
    · refine Or.inr ⟨b, off, rfl, fun i hi => ?_⟩
      have := hc i hi
      have hlt : b < w.heap.size := World.block_lt_of_cell? w _ this
      simp only [World.cell?] at this ⊢
      rw [c.block b hlt (hn b off rfl)]
      exact this
abbrev Sl3 := Option Addr × Nat × Nat
def cellII (h : Sl3) : Value := .slice h.1 h.2.1 h.2.2
/-- Lists copied so far: the row of the call's own, and the lists, apart from it. -/
structure LiS (wr : World) (base : Nat) (a : Option Addr) (k c : Nat) (hs : List Sl3) (ls : List (List Int)) : Prop where
  own : wr.ownsRow base 22 1 (.slice a k c) k (hs.map cellII)
  len : ls.length = k
  each : ∀ (i : Nat) (h : Sl3) (l : List Int), hs[i]? = some h → ls[i]? = some l → SlI wr h.1 h.2.1 h.2.2 l ∧ ∀ b off, h.1 = some ⟨b, off, none⟩ → (Value.slice a k c).ownBlock ≠ some b ∧ b < wr.heap.size
theorem LiS.hlen {wr : World} {base k c : Nat} {a : Option Addr} {hs : List Sl3} {ls : List (List Int)} (h : LiS wr base a k c hs ls) : hs.length = k := by have := h.own.1; simpa using this
theorem LiS.bel {wr v : World} {base k c : Nat} {a : Option Addr} {hs : List Sl3} {ls : List (List Int)} (h : LiS wr base a k c hs ls) (b : Below wr.heap.size wr v) : LiS v base a k c hs ls :=
  ⟨row_ch h.own (Ch.of_below b) (fun _ _ => id), h.len, fun i x l h1 h2 => ⟨(h.each i x l h1 h2).1.below b (Nat.le_refl _), fun bb off e => ⟨((h.each i x l h1 h2).2 bb off e).1, Nat.lt_of_lt_of_le ((h.each i x l h1 h2).2 bb off e).2 b.size⟩⟩⟩
theorem one_slcell (w : World) (h : Sl3) (e : TypeId) (j : Nat) (u : Value) (hj : [cellII h][j]? = some u) : (w.alloc (.cells #[cellII h] e)).cell? ((⟨w.heap.size, 0, none⟩ : Addr).add j) = some u := by
  match j, hj with
  | 0, hj => simp at hj; subst hj; rw [Addr.add_lit, World.cell?_alloc_mark]; rfl
/-- One more. -/
theorem LiS.push {v v4 : World} {base k c g' c' : Nat} {a : Option Addr} {hs : List Sl3} {ls : List (List Int)} {x : Sl3} {l : List Int} (h : LiS v base a k c hs ls) (q : SlI v x.1 x.2.1 x.2.2 l)
    (hx : ∀ b off, x.1 = some ⟨b, off, none⟩ → (Value.slice a k c).ownBlock ≠ some b ∧ b < v.heap.size)
    (o : v4.ownsRow base 22 1 (.slice (some ⟨g', 0, none⟩) (k + 1) c') (k + 1) (hs.map cellII ++ [cellII x])) (c4 : Ch (fun b => (Value.slice a k c).ownBlock = some b) (v.alloc (.cells #[cellII x] 22)) v4)
    (hg : (Value.slice a k c).ownBlock = some g' ∨ (v.alloc (.cells #[cellII x] 22)).heap.size ≤ g') : LiS v4 base (some ⟨g', 0, none⟩) (k + 1) c' (hs ++ [x]) (ls ++ [l]) := by
  have hl := h.hlen
  have hk := h.len
  have bl : Below v.heap.size v (v.alloc (.cells #[cellII x] 22)) := (Below.refl _ _).alloc (Nat.le_refl _) _
  have key : ∀ (y : Sl3) (m : List Int), SlI v y.1 y.2.1 y.2.2 m → (∀ b off, y.1 = some ⟨b, off, none⟩ → (Value.slice a k c).ownBlock ≠ some b ∧ b < v.heap.size) → SlI v4 y.1 y.2.1 y.2.2 m ∧ ∀ b off, y.1 = some ⟨b, off, none⟩ → (Value.slice (some ⟨g', 0, none⟩) (k + 1) c').ownBlock ≠ some b ∧ b < v4.heap.size := by
    intro y m q1 q2
    refine ⟨(q1.below bl (Nat.le_refl _)).ch c4 (fun b off e => (q2 b off e).1), fun b off e => ⟨?_, ?_⟩⟩
    · simp only [Value.ownBlock, ne_eq, Option.some.injEq]
      intro e2
      subst e2
      rcases hg with hg | hg
      · exact (q2 g' off e).1 hg
      · have := (q2 g' off e).2
        simp at hg
        omega
    · have h1 := (q2 b off e).2
      have h2 := bl.size
      have h3 := c4.size
      omega
  refine ⟨by rw [List.map_append]; exact o, by simp [hk], fun i y m h1 h2 => ?_⟩
  by_cases hi : i < k
  · rw [List.getElem?_append_left (by omega)] at h1 h2
    exact key y m (h.each i y m h1 h2).1 (h.each i y m h1 h2).2
  · have hi2 : i < (hs ++ [x]).length := (List.getElem?_eq_some_iff.1 h1).1
    simp only [List.length_append, List.length_cons, List.length_nil] at hi2
    have : i = k := by omega
    subst this
    rw [List.getElem?_append_right (by omega), hl] at h1
    rw [List.getElem?_append_right (by omega), hk] at h2
    simp at h1 h2
    subst h1 h2
    exact key x l q hx
theorem LiS.fin {wr : World} {base k c : Nat} {a : Option Addr} {hs : List Sl3} {ls : List (List Int)} (h : LiS wr base a k c hs ls) (hk : k ≤ 10) : RowII wr a k ls ∧ k ≤ c ∧ (a = none → c = 0) := by
  have hl := h.hlen
  have hkl := h.len
  rcases id h.own.2 with ⟨h1, h2⟩ | ⟨b, c', cur, h1, h2, _, h4, _⟩
  · simp only [Value.slice.injEq] at h1
    exact ⟨⟨hkl, by omega, Or.inl h2⟩, by omega, fun _ => h1.2.2⟩
  · simp only [Value.slice.injEq, true_and] at h1
    obtain ⟨rfl, rfl⟩ := h1
    refine ⟨⟨hkl, by omega, Or.inr ⟨b, 0, rfl, fun i hi => ?_⟩⟩, h4, fun e => by cases e⟩
    have e1 : hs[i]? = some hs[i] := List.getElem?_eq_getElem (by omega)
    have e2 : ls[i]? = some ls[i] := List.getElem?_eq_getElem (by omega)
    refine ⟨hs[i].1, hs[i].2.1, hs[i].2.2, ?_, ?_⟩
    · rw [Nat.zero_add, h.own.cellAt i (by omega), List.getElem?_map, e1]
      rfl
    · rw [List.getD_eq_getElem?_getD, e2]
      exact (h.each i _ _ e1 e2).1
/-- What lists tells. -/
def LiP (n : Nat) (ls : List (List Int)) (w : World) (e : Ending) (w' : World) : Prop := Below w.heap.size w w' ∧
  (((n ≤ 10 ∧ ∀ l ∈ ls, l.length ≤ 100) ∧ ∃ a' c', e = .returned (.tuple #[.slice a' n c', .bool true]) ∧ RowII w' a' n ls ∧ n ≤ c' ∧ (a' = none → c' = 0)) ∨
   (¬ (n ≤ 10 ∧ ∀ l ∈ ls, l.length ≤ 100) ∧ e = .returned (.tuple #[.slice none 0 0, .bool false])))

set_option maxHeartbeats 8000000 in
theorem listsL_any (a : Option Addr) (n cap : Nat) (ls : List (List Int)) (w : World) (hs : RowII w a n ls) :
    Calls Try.prog 20 #[.slice a n cap] w fun e w' => LiP n ls w e w' := by
  obtain ⟨i0, hi, hz0, hz1, hz2⟩ := info_parts Try.infoII
  have HS := hide hs
  have HL := hide hs.1
  have hn24 := hs.2.1
  clear hs
  go_enter Try.func20, Try.ntmps20
  go_wp2
  go_loopw [4, 5] (fun x i wr => ∃ (k : Nat) (ar : Option Addr) (cr : Nat) (hh : List Sl3), k ≤ n ∧ k ≤ 10 ∧ i = .int .i64 k ∧ x = .slice ar k cr ∧ Hid (LiS wr w.heap.size ar k cr hh (ls.take k)) ∧ Hid (∀ l ∈ ls.take k, l.length ≤ 100) ∧ Hid (Below w.heap.size w wr)) (fun _ i _ => n - (intOf i).toNat)
  case atStart =>
    refine ⟨0, none, 0, [], by omega, by omega, rfl, rfl, ⟨World.ownsRow_nil _ _ _ _, rfl, fun i h l h1 _ => by simp at h1⟩, ?_, Below.refl _ _⟩
    show ∀ l ∈ _, _
    intro l hl
    simp at hl
  case round =>
    obtain ⟨k, ar, cr, hh, hk, hk10, rfl, rfl, LS, HU, BW⟩ := hrel
    obtain ⟨u, rfl⟩ : ∃ u, u = wr := ⟨wr, rfl⟩
    by_cases hlt : k < n
    · obtain ⟨b, off, a1, n1, c1, e, g0, q1⟩ := (HS.out.below BW.out (Nat.le_refl _)).at' hlt
      subst e
      have i1 : (0 : Int) ≤ (k : Int) := by omega
      have i2 : (k : Int) < (n : Int) := by omega
      by_cases h10 : 10 ≤ k
      · have t1 : (10 : Int) ≤ (k : Int) := by omega
        have HN : Hid (¬ (n ≤ 10 ∧ ∀ l ∈ ls, l.length ≤ 100)) := fun h => by have := h.1; omega
        go_wp2
        exact bodyPost_ret (v := .tuple #[.slice none 0 0, .bool false]) (by simp [results, Try.results20, go_sem]) rfl ⟨BW.out, Or.inr ⟨HN.out, rfl⟩⟩
      · have t1 : ¬ (10 : Int) ≤ (k : Int) := by omega
        have hlk : k < ls.length := by rw [HL.out]; exact hlt
        have hq := q1.len
        have hn1 := q1.1.2.1
        by_cases h100 : 100 < n1
        · have t2 : (100 : Int) < (n1 : Int) := by omega
          have HN : Hid (¬ (n ≤ 10 ∧ ∀ l ∈ ls, l.length ≤ 100)) := fun h => by
            have := h.2 _ (getL_mem hlk)
            omega
          clear q1 hq
          go_wp2
          exact bodyPost_ret (v := .tuple #[.slice none 0 0, .bool false]) (by simp [results, Try.results20, go_sem]) rfl ⟨BW.out, Or.inr ⟨HN.out, rfl⟩⟩
        · have t2 : ¬ (100 : Int) < (n1 : Int) := by omega
          have TG := hide (takeL_get hlk)
          have HU1 : Hid (∀ l ∈ ls.take (k + 1), l.length ≤ 100) := by
            show ∀ l ∈ _, _
            rw [TG.out]
            intro l hl
            rcases List.mem_append.1 hl with h | h
            · exact HU.out l h
            · rw [List.mem_singleton] at h
              rw [h]
              omega
          have CI := hide (ints_any a1 n1 c1 _ u q1 (by omega))
          have Q1 := hide q1.wf
          clear q1 hq hlk
          go_wp2_with fail
          with_reducible refine CI.out.mono ?_
          rintro e u2 ⟨a2, c2, rfl, o2, b2⟩
          have S2 : Hid (SlI u2 a2 n1 c2 (ls.getD k [])) := MineI.sl o2 (by omega) Q1.out
          have B2 := hide (bel_to BW.out (Nat.le_refl _) b2)
          have L2 := hide (LS.out.bel b2)
          have HX : Hid (∀ b off, a2 = some ⟨b, off, none⟩ → (Value.slice ar k cr).ownBlock ≠ some b ∧ b < u2.heap.size) := by
            intro bb off2 e
            rcases o2.2 with ⟨h1, _⟩ | ⟨g, c', cur, h1, h2, h3, _⟩
            · simp only [Value.slice.injEq] at h1
              rw [h1.1] at e
              cases e
            · simp only [Value.slice.injEq] at h1
              rw [h1.1] at e
              simp only [Option.some.injEq, Addr.mk.injEq] at e
              obtain ⟨rfl, -⟩ := e
              refine ⟨fun e2 => ?_, (Array.getElem?_eq_some_iff.1 h3).1⟩
              have := (row_cells LS.out.own e2).1.lt
              omega
          have O6 : Hid ((u2.alloc (.cells #[cellII (a2, n1, c2)] 22)).ownsRow w.heap.size 22 1 (.slice ar k cr) k (hh.map cellII)) := row_ch L2.out.own ((Ch.refl (fun _ => False) u2).alloc _) (fun _ _ => id)
          have HBS : Hid (w.heap.size ≤ (u2.alloc (.cells #[cellII (a2, n1, c2)] 22)).heap.size) := by
            have := B2.out.size
            show _ ≤ _
            simp
            omega
          clear o2 b2 CI LS BW g0 Q1
          go_wp2_with (at_builtin; refine wpList_push _ rfl _ _ 31 rfl w.heap.size 22 i0 (.slice none 0 0) 24 Try.underlying31 hi hz0 hz1 hz2 rfl ar k cr (hh.map cellII) rfl O6.out ⟨u2.heap.size, 0, none⟩ 1 (cellII (a2, n1, c2)) rfl (one_slcell u2 (a2, n1, c2) _) rfl (by unfold maxLen; omega) (by omega) HBS.out ?_)
          intro g' c' w4 o4 gr4 wh4
          have L7 := hide (L2.out.push (x := (a2, n1, c2)) S2.out HX.out o4 (Ch.grown gr4) (wh4.imp id (fun h => by simp; omega)))
          rw [← TG.out] at L7
          have B7 : Hid (Below w.heap.size w w4) := (bel_al B2.out (Nat.le_refl _) _).trans ((Ch.grown gr4).below (by have := B2.out.size; simp; omega) (fun b hb e => by have := (row_cells O6.out e).2; omega))
          clear o4 gr4 wh4 O6 HBS HX S2 L2 B2 TG
          go_wp2
          go_roundw
          case rel => exact ⟨k + 1, _, c', _, by omega, by omega, by go_num, rfl, L7, HU1, B7⟩
          case measure => simp [intOf]; omega
    · have i2 : ¬ (k : Int) < (n : Int) := by omega
      obtain rfl : k = n := by omega
      have hkv : ls.take k = ls := List.take_of_length_le (by rw [HL.out]; exact Nat.le_refl _)
      rw [hkv] at LS HU
      have F := hide (LS.out.fin hk10)
      go_wp2
      exact bodyPost_ret (v := .tuple #[.slice ar k cr, .bool true]) (by simp [results, Try.results20, go_sem]) rfl ⟨BW.out, Or.inl ⟨⟨hk10, HU.out⟩, ar, cr, rfl, F.out⟩⟩
end Go.Proofs.Ythmcliapdnbdjaa
