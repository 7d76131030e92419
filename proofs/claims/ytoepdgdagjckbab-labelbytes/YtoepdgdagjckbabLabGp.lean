/-
  A set's bytes put: the program's own Put and the document's: contracts, for every world: the bytes lie in new memory.
  Conditions: at most eight labels, names of at most 32 bytes, values of at most 64; at most 2^47 bytes ahead.
-/
import Derived.Test.YtoepdgdagjckbabLabG
import Derived.Test.YtoepdgdagjckbabLabM
import Derived.Test.YtoepdgdagjckbabChK
import Derived.Test.YtoepdgdagjckbabCatK
import Derived.Test.YtoepdgdagjckbabTxtB
namespace Go.Proofs.Ytoepdgdagjckbab
open Go.RowKit
set_option maxRecDepth 20000

/-- A set whose bytes are few. -/
def SmL (l : List Lb) : Prop := l.length ≤ 8 ∧ ∀ x ∈ l, x.1.size ≤ 32 ∧ x.2.size ≤ 64
theorem putT_len {s : ByteArray} : 1 ≤ (putT (numsOf s)).length ∧ (putT (numsOf s)).length ≤ 10 + s.size := by
  have := putS_len (((numsOf s).length : Nat) : Int)
  unfold putT
  rw [List.length_append, numsOf_len]
  rw [numsOf_len] at this
  omega
theorem putT_byte {s : ByteArray} (h : s.size ≤ 64) : Bytes8 (putT (numsOf s)) := Bytes8.append (putS_byte (w64_len (by rw [numsOf_len]; omega))) (fun z hz => u8_of_wf (numsOf_wf s z hz))
theorem bodyL_fit : ∀ {l : List Lb}, (∀ x ∈ l, x.1.size ≤ 32 ∧ x.2.size ≤ 64) → (bodyL l).length ≤ 116 * l.length ∧ Bytes8 (bodyL l)
  | [], _ => ⟨by simp [bodyL], by intro z hz; simp [bodyL] at hz⟩
  | x :: l, h => by
    have hx := h x (by simp)
    obtain ⟨i1, i2⟩ := bodyL_fit (l := l) (fun y hy => h y (by simp [hy]))
    have p1 := putT_len (s := x.1)
    have p2 := putT_len (s := x.2)
    rw [bodyL_cons]
    refine ⟨?_, Bytes8.append (putT_byte (by omega)) (Bytes8.append (putT_byte hx.2) i2)⟩
    simp only [List.length_append, List.length_cons]
    omega
theorem putL_fit {l : List Lb} (h : SmL l) : 1 ≤ (putL l).length ∧ (putL l).length ≤ 938 ∧ Bytes8 (putL l) := by
  have i := bodyL_fit h.2
  have h1 := h.1
  have p := putS_len ((l.length : Nat) : Int)
  unfold putL
  refine ⟨?_, ?_, Bytes8.append (putS_byte (w64_len (by omega))) i.2⟩
  · rw [List.length_append]; omega
  · rw [List.length_append]; omega
theorem take_lab {l : List Lb} {k : Nat} {x : Lb} (h : l[k]? = some x) : l.take (k + 1) = l.take k ++ [x] := by
  rw [List.take_add_one, h]
  rfl
theorem bodyL_one (x : Lb) : bodyL [x] = putT (numsOf x.1) ++ putT (numsOf x.2) := by simp [bodyL]

/-- The append of a row's bytes behind bytes of the call's own: these alone turn. -/
theorem wpList_append_rowC {P : Program} (w : World) {ops : Array Oper} {rest : List Oper} {o : Oper} {a : Act} {Q : Exit → Act → World → Prop} (hgd : o.guard = none) (s x : Operand) (t : TypeId)
    (ho : o.op = .call { callee := .builtin .append, args := #[s, x], argTypes := #[t, t] })
    (base : Nat) (e : TypeId) (i : TypeInfo) (ht : P.underlying t = some (.slice e)) (hi : P.info? e = some i) (hz : i.zero = some (.int .u8 0)) (hsize : i.size = 1) (hby : i.bytes = 1)
    (ao : Option Addr) (n cap : Nat) (zs : List Int) (hs : a.eval s = .slice ao n cap) (hown : Own e .u8 w base ao n cap zs)
    (bo : Option Addr) (m c : Nat) (news : List Int) (hx : a.eval x = .slice bo m c) (hrow : Row .u8 w bo m news) (hbo : bo = none → c = 0)
    (hbytes : n + m ≤ 140737488355328) (hbase : base ≤ w.heap.size)
    (h : ∀ a' cap' w', Own e .u8 w' base a' (n + m) cap' (zs ++ news) → Below base w w' → Ch (fun k => (Value.slice ao n cap).ownBlock = some k) w w' → wpList P ops Q rest (a.put o.dst (.slice a' (n + m) cap')) w') : wpList P ops Q (o :: rest) a w := by
  cases bo with
  | none =>
    have h0 := hrow.nz rfl
    subst h0
    obtain rfl := hbo rfl
    have hz : news = [] := List.length_eq_zero_iff.1 hrow.1
    subst hz
    refine wpList_append_own_none hgd s x t ho base e i 1 ht hi _ n (zs.map (Value.int .u8)) hs hown hx ?_
    have := h ao cap w (by rw [List.append_nil]; exact hown) (Below.refl _ _) (Ch.refl _ _)
    exact this
  | some ad =>
    refine wpList_append_own w hgd s x t ho base e i (.int .u8 0) 1 1 ht hi hz hsize hby rfl (by decide) _ n (zs.map (Value.int .u8)) hs hown ad m c (news.map (Value.int .u8)) hx (by simp [hrow.1]) hrow.cells (one_cell .u8 news) (by unfold maxLen; omega) (by omega) hbase ?_
    intro v' w' h1 h2 _
    rw [← List.map_append] at h1
    obtain ⟨a', cap', rfl, h3⟩ := own_form h1
    exact h a' cap' w' h3 ((Below.refl _ _).grown h2 hbase (own_block hown)) (Ch.grown h2)

/-- A text put behind none. -/
theorem puttext0 (s : ByteArray) (hs : s.size ≤ 64) (w : World) :
    Calls Try.prog 26 #[.slice none 0 0, .string s] w fun e w' => ∃ a' m cap', e = .returned (.slice a' m cap') ∧ m ≤ 10 + s.size ∧ Mine w' w.heap.size a' m cap' (putT (numsOf s)) ∧ Row .u8 w' a' m (putT (numsOf s)) ∧ (a' = none → cap' = 0) ∧ Below w.heap.size w w' := by
  have h := puttext_any s none 0 0 [] w (by omega) (Nat.le_refl _) (nil_row _ _ _)
  rw [List.nil_append, Nat.zero_add] at h
  have hl := putT_len (s := s)
  refine h.mono ?_
  rintro e w' ⟨a', c', rfl, o, b⟩
  exact ⟨a', _, c', rfl, hl.2, o, o.row (by omega) (fits_wf (putT_byte hs)), o.capped.2, b⟩
theorem put0 (v : Int) (hv : W64 v) (w : World) :
    Calls Try.prog 25 #[.slice none 0 0, .int .u64 v] w fun e w' => ∃ a' m cap', e = .returned (.slice a' m cap') ∧ m ≤ 10 ∧ Mine w' w.heap.size a' m cap' (putS v) ∧ Below w.heap.size w w' := by
  have h := put_any v none 0 0 [] w hv (by omega) (Nat.le_refl _) (nil_row _ _ _)
  rw [List.nil_append, Nat.zero_add] at h
  refine h.mono ?_
  rintro e w' ⟨a', c', rfl, o, b⟩
  exact ⟨a', _, c', rfl, (putS_len v).2, o, b⟩

set_option maxHeartbeats 2000000 in
theorem lput_any (a : Option Addr) (n cap : Nat) (zs : List Int) (b : Option Addr) (m capb : Nat) (l : List Lb) (w : World) (hn : n ≤ 140737488355328) (hr : Row .u8 w a n zs) (hl : RowL w b m l) (hs : SmL l) :
    Calls Try.prog 9 #[.slice a n cap, .slice b m capb] w fun e w' => ∃ a' cap', e = .returned (.slice a' (n + (putL l).length) cap') ∧ Mine w' w.heap.size a' (n + (putL l).length) cap' (zs ++ putL l) ∧ Below w.heap.size w w' := by
  obtain ⟨i0, hi, hz0, hz1, hz2⟩ := info_parts Try.info5
  have HM := hide hl.1
  have hm8 : m ≤ 8 := by rw [← hl.1]; exact hs.1
  have P0 := hide (put0 (m : Int) (w64_len (by omega)))
  have HR := hide hl
  have HS := hide hs
  have HF := hide (putL_fit hs)
  have HPL : Hid (putL l = putS (m : Int) ++ bodyL l) := by show _ = _; unfold putL; rw [HM.out]
  have CT : Hid (∀ (W : World) (a1 : Option Addr) (L c1 base : Nat), L ≤ 938 → Below w.heap.size w W → Mine W base a1 L c1 (putL l) → Calls Try.prog 27 #[.slice (some ⟨W.heap.size, 0, none⟩) 2 2] (W.alloc (.cells #[.slice a n cap, .slice a1 L c1] 23)) fun e w' => ∃ a' cap', e = .returned (.slice a' (n + L) cap') ∧ Mine w' W.heap.size a' (n + L) cap' (zs ++ putL l) ∧ Below W.heap.size W w') := fun W a1 L c1 base hL hW o =>
    concat_two a n cap zs a1 L c1 _ W (hr.below hW (Nat.le_refl _)) (o.row (by omega) (fits_wf HF.out.2.2)) (by have := HF.out.1; rw [o.len] at this; omega) (by omega)
  clear hr hl hs
  go_enter Try.func9, Try.ntmps9
  go_wp2_with fail
  refine (P0.out _).mono ?_
  rintro e w1 ⟨a1, L1, c1, rfl, hL1, o1, b1⟩
  have O1 := hide o1
  have B1 := hide b1
  clear o1 b1 P0
  go_wp2
  go_loopw [5, 14] (fun x i wr => ∃ (k : Nat) (ar : Option Addr) (L cr : Nat), k ≤ m ∧ i = .int .i64 k ∧ x = .slice ar L cr ∧ L ≤ 10 + 116 * k ∧ Hid (Mine wr w.heap.size ar L cr (putS (m : Int) ++ bodyL (l.take k))) ∧ Hid (Below w.heap.size w wr)) (fun _ i _ => m - (intOf i).toNat)
  case atStart =>
    refine ⟨0, a1, L1, c1, by omega, rfl, rfl, by omega, ?_, B1⟩
    rw [List.take_zero, bodyL_nil, List.append_nil]
    exact O1
  case round =>
    obtain ⟨k, ar, L, cr, hk, rfl, rfl, hL, O, BW⟩ := hrel
    obtain ⟨u, rfl⟩ : ∃ u, u = wr := ⟨wr, rfl⟩
    clear O1 B1
    by_cases hlt : k < m
    · obtain ⟨b1, o1, x, rfl, hx, _, hc1⟩ := HR.out.at' hlt
      obtain ⟨f0, f1⟩ := hc1 u BW.out
      have HX := hide hx
      have i1 : (0 : Int) ≤ (k : Int) := by omega
      have i2 : (k : Int) < (m : Int) := by omega
      have hxs := HS.out.2 x (List.mem_of_getElem? hx)
      have T1 := hide (puttext0 x.1 (by omega))
      have T2 := hide (puttext0 x.2 (by omega))
      have BA := hide (bel_al BW.out (Nat.le_refl _))
      have OA := hide (O.out.alloc)
      have OL : Hid (∀ g, (Value.slice ar L cr).ownBlock = some g → g < u.heap.size) := fun g hg => (row_cells O.out hg).1.lt
      clear hc1 hx BW O
      go_wp2_with fail
      refine (T1.out _).mono ?_
      rintro e w2 ⟨a2, m2, c2, rfl, hm2, o2, r2, n2, b2⟩
      have B2 := hide (bel_to (BA.out _) (Nat.le_refl _) b2)
      have O2 := hide ((OA.out _).below b2 (Nat.le_refl _))
      have c0 : w2.cell? ⟨u.heap.size, 1, none⟩ = some (.string x.2) := by
        rw [b2.cell (p := ⟨u.heap.size, 1, none⟩) (by simp)]
        simp [go_sem]
      have R2 := hide r2
      have N2 := hide n2
      have HU : Hid (u.heap.size < w2.heap.size) := Nat.lt_of_lt_of_le (by simp) b2.size
      clear o2 r2 n2 b2 BA OA T1
      go_wp2_with (at_builtin; refine wpList_append_rowC _ rfl _ _ 23 rfl w.heap.size 5 i0 Try.underlying23 hi hz0 hz1 hz2 ar L cr _ rfl O2.out a2 m2 c2 _ rfl R2.out N2.out (by omega) B2.out.size ?_)
      intro a3 c3 w3 o3 b3 ch3
      have B3 := hide (B2.out.trans b3)
      have O3 := hide o3
      have c1 : w3.cell? ⟨u.heap.size, 1, none⟩ = some (.string x.2) := by
        have e := ch3.block u.heap.size HU.out (fun h => absurd (OL.out _ h) (Nat.lt_irrefl _))
        simp only [World.cell?] at c0 ⊢
        rw [e]
        exact c0
      clear o3 b3 ch3 B2 O2 R2 N2 HU OL c0
      go_wp2_with fail
      refine (T2.out _).mono ?_
      rintro e w4 ⟨a4, m4, c4, rfl, hm4, o4, r4, n4, b4⟩
      have B4 := hide (bel_to B3.out (Nat.le_refl _) b4)
      have O4 := hide (O3.out.below b4 (Nat.le_refl _))
      have R4 := hide r4
      have N4 := hide n4
      clear o4 r4 n4 b4 B3 O3 T2
      go_wp2_with (at_builtin; refine wpList_append_rowC _ rfl _ _ 23 rfl w.heap.size 5 i0 Try.underlying23 hi hz0 hz1 hz2 a3 (L + m2) c3 _ rfl O4.out a4 m4 c4 _ rfl R4.out N4.out (by omega) B4.out.size ?_)
      intro a5 c5 w5 o5 b5 _
      have B5 := hide (B4.out.trans b5)
      have O5 : Hid (Mine w5 w.heap.size a5 (L + m2 + m4) c5 (putS (m : Int) ++ bodyL (l.take (k + 1)))) := by
        rw [take_lab HX.out, bodyL_append, bodyL_one]
        exact o5
      clear o5 b5 B4 O4 R4 N4
      go_wp2
      go_roundw
      case rel => exact ⟨k + 1, a5, L + m2 + m4, c5, by omega, by go_num, rfl, by omega, O5, B5⟩
      case measure => simp [intOf]; omega
    · have : k = m := by omega
      subst this
      have O6 : Hid (Mine u w.heap.size ar L cr (putL l)) := by
        have := O.out
        rw [show l.take k = l from by rw [← HM.out]; exact List.take_length .., ← HPL.out] at this
        exact this
      have hLL : Hid ((putL l).length = L) := O6.out.len
      clear O
      go_wp2_with fail
      refine (CT.out _ _ _ _ _ (by omega) BW.out O6.out).mono ?_
      rintro e w2 ⟨a2, c2, rfl, o2, b2⟩
      have B2 := hide (bel_to BW.out (Nat.le_refl _) b2)
      have O2 := hide (o2.mono BW.out.size)
      clear o2 b2 CT
      go_wp2
      go_ret
      refine ⟨a2, c2, ?_, ?_, B2.out⟩
      · rw [hLL.out]; rfl
      · rw [hLL.out]; exact O2.out
set_option maxHeartbeats 2000000 in
theorem reflput_any (b : Option Addr) (m capb : Nat) (l : List Lb) (w : World) (hl : RowL w b m l) (hs : SmL l) :
    Calls Try.prog 13 #[.slice b m capb] w fun e w' => ∃ a' cap', e = .returned (.slice a' (putL l).length cap') ∧ Mine w' w.heap.size a' (putL l).length cap' (putL l) ∧ Below w.heap.size w w' := by
  obtain ⟨i0, hi, hz0, hz1, hz2⟩ := info_parts Try.info5
  have HM := hide hl.1
  have hm8 : m ≤ 8 := by rw [← hl.1]; exact hs.1
  have P0 := hide (refput_any (m : Int) w (w64_len (by omega)))
  have HR := hide hl
  have HS := hide hs
  have HPL : Hid (putL l = putS (m : Int) ++ bodyL l) := by show _ = _; unfold putL; rw [HM.out]
  have hp := (putS_len (m : Int)).2
  clear hl hs
  go_enter Try.func13, Try.ntmps13
  go_wp2_with fail
  refine P0.out.mono ?_
  rintro e w1 ⟨a1, c1, rfl, o1, b1⟩
  have O1 := hide o1
  have B1 := hide b1
  clear o1 b1 P0
  generalize hLL : (putS (m : Int)).length = L1 at *
  clear hLL
  go_wp2
  go_loopw [3, 4] (fun x i wr => ∃ (k : Nat) (ar : Option Addr) (L cr : Nat), k ≤ m ∧ i = .int .i64 k ∧ x = .slice ar L cr ∧ L ≤ 10 + 116 * k ∧ Hid (Mine wr w.heap.size ar L cr (putS (m : Int) ++ bodyL (l.take k))) ∧ Hid (Below w.heap.size w wr)) (fun _ i _ => m - (intOf i).toNat)
  case atStart =>
    refine ⟨0, a1, L1, c1, by omega, rfl, rfl, by omega, ?_, B1⟩
    rw [List.take_zero, bodyL_nil, List.append_nil]
    exact O1
  case round =>
    obtain ⟨k, ar, L, cr, hk, rfl, rfl, hL, O, BW⟩ := hrel
    obtain ⟨u, rfl⟩ : ∃ u, u = wr := ⟨wr, rfl⟩
    clear O1 B1
    by_cases hlt : k < m
    · obtain ⟨b1, o1, x, rfl, hx, _, hc1⟩ := HR.out.at' hlt
      have HC := hide hc1
      obtain ⟨f0, f1⟩ := hc1 u BW.out
      have HX := hide hx
      have i1 : (0 : Int) ≤ (k : Int) := by omega
      have i2 : (k : Int) < (m : Int) := by omega
      have hxs := HS.out.2 x (List.mem_of_getElem? hx)
      have T1 := hide (fun W => reftext_mine x.1 W (by omega))
      have T2 := hide (fun W => reftext_mine x.2 W (by omega))
      have hp1 := (putT_len (s := x.1)).2
      have hp2 := (putT_len (s := x.2)).2
      have HB1 := hide (fits_wf (putT_byte (s := x.1) (by omega)))
      have HB2 := hide (fits_wf (putT_byte (s := x.2) (by omega)))
      have HG1 : Hid (∃ z, (putT (numsOf x.1)).length = z) := ⟨_, rfl⟩
      obtain ⟨z1, hz1'⟩ := HG1
      obtain ⟨z2, hz2'⟩ : ∃ z, (putT (numsOf x.2)).length = z := ⟨_, rfl⟩
      rw [hz1'] at T1 hp1
      rw [hz2'] at T2 hp2
      clear hc1 hx hz1' hz2'
      go_wp2_with fail
      refine (T1.out _).mono ?_
      rintro e w2 ⟨a2, c2, rfl, o2, b2⟩
      have B2 := hide (bel_to BW.out (Nat.le_refl _) b2)
      have O2 := hide (O.out.below b2 (Nat.le_refl _))
      have R2 := hide (o2.row (by omega) HB1.out)
      have N2 := hide o2.capped.2
      clear o2 b2 T1 BW O f0 f1 HB1
      go_wp2_with (at_builtin; refine wpList_append_rowC _ rfl _ _ 23 rfl w.heap.size 5 i0 Try.underlying23 hi hz0 hz1 hz2 ar L cr _ rfl O2.out a2 z1 c2 _ rfl R2.out N2.out (by omega) B2.out.size ?_)
      intro a3 c3 w3 o3 b3 _
      have B3 := hide (B2.out.trans b3)
      have O3 := hide o3
      obtain ⟨f0, f1⟩ := HC.out w3 B3.out
      clear o3 b3 B2 O2 R2 N2
      go_wp2_with fail
      refine (T2.out _).mono ?_
      rintro e w4 ⟨a4, c4, rfl, o4, b4⟩
      have B4 := hide (bel_to B3.out (Nat.le_refl _) b4)
      have O4 := hide (O3.out.below b4 (Nat.le_refl _))
      have R4 := hide (o4.row (by omega) HB2.out)
      have N4 := hide o4.capped.2
      clear o4 b4 B3 O3 T2 f0 f1 HB2
      go_wp2_with (at_builtin; refine wpList_append_rowC _ rfl _ _ 23 rfl w.heap.size 5 i0 Try.underlying23 hi hz0 hz1 hz2 a3 (L + z1) c3 _ rfl O4.out a4 z2 c4 _ rfl R4.out N4.out (by omega) B4.out.size ?_)
      intro a5 c5 w5 o5 b5 _
      have B5 := hide (B4.out.trans b5)
      have O5 : Hid (Mine w5 w.heap.size a5 (L + z1 + z2) c5 (putS (m : Int) ++ bodyL (l.take (k + 1)))) := by
        rw [take_lab HX.out, bodyL_append, bodyL_one]
        exact o5
      clear o5 b5 B4 O4 R4 N4
      go_wp2
      go_roundw
      case rel => exact ⟨k + 1, a5, L + z1 + z2, c5, by omega, by go_num, rfl, by omega, O5, B5⟩
      case measure => simp [intOf]; omega
    · have : k = m := by omega
      subst this
      have O6 : Hid (Mine u w.heap.size ar L cr (putL l)) := by
        have := O.out
        rw [show l.take k = l from by rw [← HM.out]; exact List.take_length .., ← HPL.out] at this
        exact this
      have hLL : Hid ((putL l).length = L) := O6.out.len
      clear O
      go_wp2
      go_ret
      refine ⟨ar, cr, ?_, ?_, BW.out⟩
      · rw [hLL.out]; rfl
      · rw [hLL.out]; exact O6.out
end Go.Proofs.Ytoepdgdagjckbab
