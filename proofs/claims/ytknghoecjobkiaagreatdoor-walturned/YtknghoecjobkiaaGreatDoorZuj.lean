/-
  A set's bytes put: the program's own Put and the document's: contracts, for every world: the bytes lie in new memory. A set's bytes got: the program's own Get: a contract, for every world. The laws' own Tiny; the document's bare and its count of bytes: contracts, for every world (written by gen/matu.gen.py). The program's own Check of a matcher (takes, by what room is left): contracts, for every world: the room alone turns. Out of MatTa MatTb MatTc MatTd MatTe MatTf MatTg MatTh MatTi MatTj: what others lean on. The program's reader of matchers' bytes (more, number, text, value): contracts, for every world: the reader's block alone turns; what may not be leaves by a panic of the reader's own kind. A record read from bytes: what the landed getRow, getTomb, GetRec come to: contracts, for every world. A record read from all of the bytes: what the landed GetRec comes to: a contract, for every world. A record read from all of the bytes: the ways of GetRec where it is a write. What slices.Clone, slices.Equal and frame.sumBytes come to at bytes: contracts, for every world. What frame.find and frame.Get come to: contracts, for every world.
  Conditions: as each theorem says.
-/
import Derived.Test.YtknghoecjobkiaaGreatDoorZua
import Derived.Test.YtknghoecjobkiaaGreatDoorZuc
import Derived.Test.YtknghoecjobkiaaGreatDoorZug
import Derived.Test.YtknghoecjobkiaaGreatDoorZui
import Derived.Deep.QuietTactic
import Derived.Deep.RegionHeld3
import Derived.Test.YtknghoecjobkiaaGreatDoorZub
import Derived.Test.YtknghoecjobkiaaGreatDoorZuSh
import Derived.Lib.FrozenHead2
import Derived.Lib.OthersKept
import Derived.Lib.SmallJoins
import Derived.WalkMore
import Derived.ScopeJumps
import Derived.WalkLawsBesides
import Derived.Deep.RegionWith
import Derived.Defers
import Derived.Recover
import Derived.Laws.AppendOwnNone
import Derived.Lib.SliceRun
import Derived.Deep.LoopGhost
import Derived.Deep.Draws
import Derived.Shelf.RegionOpenPlain
import Derived.Deep.Cut
namespace Go.Proofs.YtknghoecjobkiaaGreatDoor
open Go.RowKit
set_option maxRecDepth 20000
/-- A set whose bytes are few. -/
def SmL (l : List Lb) : Prop := l.length ≤ 8 ∧ ∀ x ∈ l, x.1.size ≤ 32 ∧ x.2.size ≤ 64
theorem putT_len {s : ByteArray} : 1 ≤ (putT (numsOf s)).length ∧ (putT (numsOf s)).length ≤ 10 + s.size := by
  have := putS_len (((numsOf s).length : Nat) : Int)
  unfold putT
  rw [List.length_append, numsOf_len]
  rw [numsOf_len] at this
  omega
theorem putT_byte {s : ByteArray} (h : s.size ≤ 64) : Bytes8 (putT (numsOf s)) := Bytes8.append (putS_byte (w64_len (by rw [numsOf_len]; omega))) (fun z hz => u8_of_wf (numsOf_wf s z hz))
theorem bodyL_fit : ∀ {l : List Lb}, (∀ x ∈ l, x.1.size ≤ 32 ∧ x.2.size ≤ 64) → (bodyL l).length ≤ 116 * l.length ∧ Bytes8 (bodyL l)
  | [], _ => ⟨by simp [bodyL], by intro z hz; simp [bodyL] at hz⟩
  | x :: l, h => by
    have hx := h x (by simp)
    obtain ⟨i1, i2⟩ := bodyL_fit (l := l) (fun y hy => h y (by simp [hy]))
    have p1 := putT_len (s := x.1)
    have p2 := putT_len (s := x.2)
    rw [bodyL_cons]
    refine ⟨?_, Bytes8.append (putT_byte (by omega)) (Bytes8.append (putT_byte hx.2) i2)⟩
    simp only [List.length_append, List.length_cons]
    omega
theorem putL_fit {l : List Lb} (h : SmL l) : 1 ≤ (putL l).length ∧ (putL l).length ≤ 938 ∧ Bytes8 (putL l) := by
  have i := bodyL_fit h.2
  have h1 := h.1
  have p := putS_len ((l.length : Nat) : Int)
  unfold putL
  refine ⟨?_, ?_, Bytes8.append (putS_byte (w64_len (by omega))) i.2⟩
  · rw [List.length_append]; omega
  · rw [List.length_append]; omega
theorem take_lab {l : List Lb} {k : Nat} {x : Lb} (h : l[k]? = some x) : l.take (k + 1) = l.take k ++ [x] := by
  rw [List.take_add_one, h]
  rfl
theorem bodyL_one (x : Lb) : bodyL [x] = putT (numsOf x.1) ++ putT (numsOf x.2) := by simp [bodyL]

/-- The append of a row's bytes behind bytes of the call's own: these alone turn. -/
theorem wpList_append_rowC {P : Program} (w : World) {ops : Array Oper} {rest : List Oper} {o : Oper} {a : Act} {Q : Exit → Act → World → Prop} (hgd : o.guard = none) (s x : Operand) (t : TypeId)
    (ho : o.op = .call { callee := .builtin .append, args := #[s, x], argTypes := #[t, t] })
    (base : Nat) (e : TypeId) (i : TypeInfo) (ht : P.underlying t = some (.slice e)) (hi : P.info? e = some i) (hz : i.zero = some (.int .u8 0)) (hsize : i.size = 1) (hby : i.bytes = 1)
    (ao : Option Addr) (n cap : Nat) (zs : List Int) (hs : a.eval s = .slice ao n cap) (hown : Own e .u8 w base ao n cap zs)
    (bo : Option Addr) (m c : Nat) (news : List Int) (hx : a.eval x = .slice bo m c) (hrow : Row .u8 w bo m news) (hbo : bo = none → c = 0)
    (hbytes : n + m ≤ 140737488355328) (hbase : base ≤ w.heap.size)
    (h : ∀ a' cap' w', Own e .u8 w' base a' (n + m) cap' (zs ++ news) → Below base w w' → Ch (fun k => (Value.slice ao n cap).ownBlock = some k) w w' → wpList P ops Q rest (a.put o.dst (.slice a' (n + m) cap')) w') : wpList P ops Q (o :: rest) a w := by
  cases bo with
  | none =>
    have h0 := hrow.nz rfl
    subst h0
    obtain rfl := hbo rfl
    have hz : news = [] := List.length_eq_zero_iff.1 hrow.1
    subst hz
    refine wpList_append_own_none hgd s x t ho base e i 1 ht hi _ n (zs.map (Value.int .u8)) hs hown hx ?_
    have := h ao cap w (by rw [List.append_nil]; exact hown) (Below.refl _ _) (Ch.refl _ _)
    exact this
  | some ad =>
    refine wpList_append_own w hgd s x t ho base e i (.int .u8 0) 1 1 ht hi hz hsize hby rfl (by decide) _ n (zs.map (Value.int .u8)) hs hown ad m c (news.map (Value.int .u8)) hx (by simp [hrow.1]) hrow.cells (one_cell .u8 news) (by unfold maxLen; omega) (by omega) hbase ?_
    intro v' w' h1 h2 _
    rw [← List.map_append] at h1
    obtain ⟨a', cap', rfl, h3⟩ := own_form h1
    exact h a' cap' w' h3 ((Below.refl _ _).grown h2 hbase (own_block hown)) (Ch.grown h2)

/-- A text put behind none. -/
theorem puttext0 (s : ByteArray) (hs : s.size ≤ 64) (w : World) :
    Calls Tryz.prog 190 #[.slice none 0 0, .string s] w fun e w' => ∃ a' m cap', e = .returned (.slice a' m cap') ∧ m ≤ 10 + s.size ∧ Mine w' w.heap.size a' m cap' (putT (numsOf s)) ∧ Row .u8 w' a' m (putT (numsOf s)) ∧ (a' = none → cap' = 0) ∧ Below w.heap.size w w' := by
  have h := puttext_any s none 0 0 [] w (by omega) (Nat.le_refl _) (nil_row _ _ _)
  rw [List.nil_append, Nat.zero_add] at h
  have hl := putT_len (s := s)
  refine h.mono ?_
  rintro e w' ⟨a', c', rfl, o, b⟩
  exact ⟨a', _, c', rfl, hl.2, o, o.row (by omega) (fits_wf (putT_byte hs)), o.capped.2, b⟩
theorem put0 (v : Int) (hv : W64 v) (w : World) :
    Calls Tryz.prog 46 #[.slice none 0 0, .int .u64 v] w fun e w' => ∃ a' m cap', e = .returned (.slice a' m cap') ∧ m ≤ 10 ∧ Mine w' w.heap.size a' m cap' (putS v) ∧ Below w.heap.size w w' := by
  have h := put_any v none 0 0 [] w hv (by omega) (Nat.le_refl _) (nil_row _ _ _)
  rw [List.nil_append, Nat.zero_add] at h
  refine h.mono ?_
  rintro e w' ⟨a', c', rfl, o, b⟩
  exact ⟨a', _, c', rfl, (putS_len v).2, o, b⟩

set_option maxHeartbeats 2000000 in
theorem lput_any (a : Option Addr) (n cap : Nat) (zs : List Int) (b : Option Addr) (m capb : Nat) (l : List Lb) (w : World) (hn : n ≤ 140737488355328) (hr : Row .u8 w a n zs) (hl : RowL w b m l) (hs : SmL l) :
    Calls Tryz.prog 120 #[.slice a n cap, .slice b m capb] w fun e w' => ∃ a' cap', e = .returned (.slice a' (n + (putL l).length) cap') ∧ Mine w' w.heap.size a' (n + (putL l).length) cap' (zs ++ putL l) ∧ Below w.heap.size w w' := by
  obtain ⟨i0, hi, hz0, hz1, hz2⟩ := info_parts Tryz.info5
  have HM := hide hl.1
  have hm8 : m ≤ 8 := by rw [← hl.1]; exact hs.1
  have P0 := hide (put0 (m : Int) (w64_len (by omega)))
  have HR := hide hl
  have HS := hide hs
  have HF := hide (putL_fit hs)
  have HPL : Hid (putL l = putS (m : Int) ++ bodyL l) := by show _ = _; unfold putL; rw [HM.out]
  have CT : Hid (∀ (W : World) (a1 : Option Addr) (L c1 base : Nat), L ≤ 938 → Below w.heap.size w W → Mine W base a1 L c1 (putL l) → Calls Tryz.prog 50 #[.slice (some ⟨W.heap.size, 0, none⟩) 2 2] (W.alloc (.cells #[.slice a n cap, .slice a1 L c1] 40)) fun e w' => ∃ a' cap', e = .returned (.slice a' (n + L) cap') ∧ Mine w' W.heap.size a' (n + L) cap' (zs ++ putL l) ∧ Below W.heap.size W w') := fun W a1 L c1 base hL hW o =>
    concat_two a n cap zs a1 L c1 _ W (hr.below hW (Nat.le_refl _)) (o.row (by omega) (fits_wf HF.out.2.2)) (by have := HF.out.1; rw [o.len] at this; omega) (by omega)
  clear hr hl hs
  go_enter Tryz.func120, Tryz.ntmps120
  go_wp2_with fail
  refine (P0.out _).mono ?_
  rintro e w1 ⟨a1, L1, c1, rfl, hL1, o1, b1⟩
  have O1 := hide o1
  have B1 := hide b1
  clear o1 b1 P0
  go_wp2
  go_loopw [5, 14] (fun x i wr => ∃ (k : Nat) (ar : Option Addr) (L cr : Nat), k ≤ m ∧ i = .int .i64 k ∧ x = .slice ar L cr ∧ L ≤ 10 + 116 * k ∧ Hid (Mine wr w.heap.size ar L cr (putS (m : Int) ++ bodyL (l.take k))) ∧ Hid (Below w.heap.size w wr)) (fun _ i _ => m - (intOf i).toNat)
  case atStart =>
    refine ⟨0, a1, L1, c1, by omega, rfl, rfl, by omega, ?_, B1⟩
    rw [List.take_zero, bodyL_nil, List.append_nil]
    exact O1
  case round =>
    obtain ⟨k, ar, L, cr, hk, rfl, rfl, hL, O, BW⟩ := hrel
    obtain ⟨u, rfl⟩ : ∃ u, u = wr := ⟨wr, rfl⟩
    clear O1 B1
    by_cases hlt : k < m
    · obtain ⟨b1, o1, x, rfl, hx, _, hc1⟩ := HR.out.at' hlt
      obtain ⟨f0, f1⟩ := hc1 u BW.out
      have HX := hide hx
      have i1 : (0 : Int) ≤ (k : Int) := by omega
      have i2 : (k : Int) < (m : Int) := by omega
      have hxs := HS.out.2 x (List.mem_of_getElem? hx)
      have T1 := hide (puttext0 x.1 (by omega))
      have T2 := hide (puttext0 x.2 (by omega))
      have BA := hide (bel_al BW.out (Nat.le_refl _))
      have OA := hide (O.out.alloc)
      have OL : Hid (∀ g, (Value.slice ar L cr).ownBlock = some g → g < u.heap.size) := fun g hg => (row_cells O.out hg).1.lt
      clear hc1 hx BW O
      go_wp2_with fail
      refine (T1.out _).mono ?_
      rintro e w2 ⟨a2, m2, c2, rfl, hm2, o2, r2, n2, b2⟩
      have B2 := hide (bel_to (BA.out _) (Nat.le_refl _) b2)
      have O2 := hide ((OA.out _).below b2 (Nat.le_refl _))
      have c0 : w2.cell? ⟨u.heap.size, 1, none⟩ = some (.string x.2) := by
        rw [b2.cell (p := ⟨u.heap.size, 1, none⟩) (by simp)]
        simp [go_sem]
      have R2 := hide r2
      have N2 := hide n2
      have HU : Hid (u.heap.size < w2.heap.size) := Nat.lt_of_lt_of_le (by simp) b2.size
      clear o2 r2 n2 b2 BA OA T1
      go_wp2_with (at_builtin; refine wpList_append_rowC _ rfl _ _ 40 rfl w.heap.size 5 i0 Tryz.underlying40 hi hz0 hz1 hz2 ar L cr _ rfl O2.out a2 m2 c2 _ rfl R2.out N2.out (by omega) B2.out.size ?_)
      intro a3 c3 w3 o3 b3 ch3
      have B3 := hide (B2.out.trans b3)
      have O3 := hide o3
      have c1 : w3.cell? ⟨u.heap.size, 1, none⟩ = some (.string x.2) := by
        have e := ch3.block u.heap.size HU.out (fun h => absurd (OL.out _ h) (Nat.lt_irrefl _))
        simp only [World.cell?] at c0 ⊢
        rw [e]
        exact c0
      clear o3 b3 ch3 B2 O2 R2 N2 HU OL c0
      go_wp2_with fail
      refine (T2.out _).mono ?_
      rintro e w4 ⟨a4, m4, c4, rfl, hm4, o4, r4, n4, b4⟩
      have B4 := hide (bel_to B3.out (Nat.le_refl _) b4)
      have O4 := hide (O3.out.below b4 (Nat.le_refl _))
      have R4 := hide r4
      have N4 := hide n4
      clear o4 r4 n4 b4 B3 O3 T2
      go_wp2_with (at_builtin; refine wpList_append_rowC _ rfl _ _ 40 rfl w.heap.size 5 i0 Tryz.underlying40 hi hz0 hz1 hz2 a3 (L + m2) c3 _ rfl O4.out a4 m4 c4 _ rfl R4.out N4.out (by omega) B4.out.size ?_)
      intro a5 c5 w5 o5 b5 _
      have B5 := hide (B4.out.trans b5)
      have O5 : Hid (Mine w5 w.heap.size a5 (L + m2 + m4) c5 (putS (m : Int) ++ bodyL (l.take (k + 1)))) := by
        rw [take_lab HX.out, bodyL_append, bodyL_one]
        exact o5
      clear o5 b5 B4 O4 R4 N4
      go_wp2
      go_roundw
      case rel => exact ⟨k + 1, a5, L + m2 + m4, c5, by omega, by go_num, rfl, by omega, O5, B5⟩
      case measure => simp [intOf]; omega
    · have : k = m := by omega
      subst this
      have O6 : Hid (Mine u w.heap.size ar L cr (putL l)) := by
        have := O.out
        rw [show l.take k = l from by rw [← HM.out]; exact List.take_length .., ← HPL.out] at this
        exact this
      have hLL : Hid ((putL l).length = L) := O6.out.len
      clear O
      go_wp2_with fail
      refine (CT.out _ _ _ _ _ (by omega) BW.out O6.out).mono ?_
      rintro e w2 ⟨a2, c2, rfl, o2, b2⟩
      have B2 := hide (bel_to BW.out (Nat.le_refl _) b2)
      have O2 := hide (o2.mono BW.out.size)
      clear o2 b2 CT
      go_wp2
      go_ret
      refine ⟨a2, c2, ?_, ?_, B2.out⟩
      · rw [hLL.out]; rfl
      · rw [hLL.out]; exact O2.out
set_option maxHeartbeats 2000000 in
theorem reflput_any (b : Option Addr) (m capb : Nat) (l : List Lb) (w : World) (hl : RowL w b m l) (hs : SmL l) :
    Calls Tryz.prog 59 #[.slice b m capb] w fun e w' => ∃ a' cap', e = .returned (.slice a' (putL l).length cap') ∧ Mine w' w.heap.size a' (putL l).length cap' (putL l) ∧ Below w.heap.size w w' := by
  obtain ⟨i0, hi, hz0, hz1, hz2⟩ := info_parts Tryz.info5
  have HM := hide hl.1
  have hm8 : m ≤ 8 := by rw [← hl.1]; exact hs.1
  have P0 := hide (refput_any (m : Int) w (w64_len (by omega)))
  have HR := hide hl
  have HS := hide hs
  have HPL : Hid (putL l = putS (m : Int) ++ bodyL l) := by show _ = _; unfold putL; rw [HM.out]
  have hp := (putS_len (m : Int)).2
  clear hl hs
  go_enter Tryz.func59, Tryz.ntmps59
  go_wp2_with fail
  refine P0.out.mono ?_
  rintro e w1 ⟨a1, c1, rfl, o1, b1⟩
  have O1 := hide o1
  have B1 := hide b1
  clear o1 b1 P0
  generalize hLL : (putS (m : Int)).length = L1 at *
  clear hLL
  go_wp2
  go_loopw [3, 4] (fun x i wr => ∃ (k : Nat) (ar : Option Addr) (L cr : Nat), k ≤ m ∧ i = .int .i64 k ∧ x = .slice ar L cr ∧ L ≤ 10 + 116 * k ∧ Hid (Mine wr w.heap.size ar L cr (putS (m : Int) ++ bodyL (l.take k))) ∧ Hid (Below w.heap.size w wr)) (fun _ i _ => m - (intOf i).toNat)
  case atStart =>
    refine ⟨0, a1, L1, c1, by omega, rfl, rfl, by omega, ?_, B1⟩
    rw [List.take_zero, bodyL_nil, List.append_nil]
    exact O1
  case round =>
    obtain ⟨k, ar, L, cr, hk, rfl, rfl, hL, O, BW⟩ := hrel
    obtain ⟨u, rfl⟩ : ∃ u, u = wr := ⟨wr, rfl⟩
    clear O1 B1
    by_cases hlt : k < m
    · obtain ⟨b1, o1, x, rfl, hx, _, hc1⟩ := HR.out.at' hlt
      have HC := hide hc1
      obtain ⟨f0, f1⟩ := hc1 u BW.out
      have HX := hide hx
      have i1 : (0 : Int) ≤ (k : Int) := by omega
      have i2 : (k : Int) < (m : Int) := by omega
      have hxs := HS.out.2 x (List.mem_of_getElem? hx)
      have T1 := hide (fun W => reftext_mine x.1 W (by omega))
      have T2 := hide (fun W => reftext_mine x.2 W (by omega))
      have hp1 := (putT_len (s := x.1)).2
      have hp2 := (putT_len (s := x.2)).2
      have HB1 := hide (fits_wf (putT_byte (s := x.1) (by omega)))
      have HB2 := hide (fits_wf (putT_byte (s := x.2) (by omega)))
      have HG1 : Hid (∃ z, (putT (numsOf x.1)).length = z) := ⟨_, rfl⟩
      obtain ⟨z1, hz1'⟩ := HG1
      obtain ⟨z2, hz2'⟩ : ∃ z, (putT (numsOf x.2)).length = z := ⟨_, rfl⟩
      rw [hz1'] at T1 hp1
      rw [hz2'] at T2 hp2
      clear hc1 hx hz1' hz2'
      go_wp2_with fail
      refine (T1.out _).mono ?_
      rintro e w2 ⟨a2, c2, rfl, o2, b2⟩
      have B2 := hide (bel_to BW.out (Nat.le_refl _) b2)
      have O2 := hide (O.out.below b2 (Nat.le_refl _))
      have R2 := hide (o2.row (by omega) HB1.out)
      have N2 := hide o2.capped.2
      clear o2 b2 T1 BW O f0 f1 HB1
      go_wp2_with (at_builtin; refine wpList_append_rowC _ rfl _ _ 40 rfl w.heap.size 5 i0 Tryz.underlying40 hi hz0 hz1 hz2 ar L cr _ rfl O2.out a2 z1 c2 _ rfl R2.out N2.out (by omega) B2.out.size ?_)
      intro a3 c3 w3 o3 b3 _
      have B3 := hide (B2.out.trans b3)
      have O3 := hide o3
      obtain ⟨f0, f1⟩ := HC.out w3 B3.out
      clear o3 b3 B2 O2 R2 N2
      go_wp2_with fail
      refine (T2.out _).mono ?_
      rintro e w4 ⟨a4, c4, rfl, o4, b4⟩
      have B4 := hide (bel_to B3.out (Nat.le_refl _) b4)
      have O4 := hide (O3.out.below b4 (Nat.le_refl _))
      have R4 := hide (o4.row (by omega) HB2.out)
      have N4 := hide o4.capped.2
      clear o4 b4 B3 O3 T2 f0 f1 HB2
      go_wp2_with (at_builtin; refine wpList_append_rowC _ rfl _ _ 40 rfl w.heap.size 5 i0 Tryz.underlying40 hi hz0 hz1 hz2 a3 (L + z1) c3 _ rfl O4.out a4 z2 c4 _ rfl R4.out N4.out (by omega) B4.out.size ?_)
      intro a5 c5 w5 o5 b5 _
      have B5 := hide (B4.out.trans b5)
      have O5 : Hid (Mine w5 w.heap.size a5 (L + z1 + z2) c5 (putS (m : Int) ++ bodyL (l.take (k + 1)))) := by
        rw [take_lab HX.out, bodyL_append, bodyL_one]
        exact o5
      clear o5 b5 B4 O4 R4 N4
      go_wp2
      go_roundw
      case rel => exact ⟨k + 1, a5, L + z1 + z2, c5, by omega, by go_num, rfl, by omega, O5, B5⟩
      case measure => simp [intOf]; omega
    · have : k = m := by omega
      subst this
      have O6 : Hid (Mine u w.heap.size ar L cr (putL l)) := by
        have := O.out
        rw [show l.take k = l from by rw [← HM.out]; exact List.take_length .., ← HPL.out] at this
        exact this
      have hLL : Hid ((putL l).length = L) := O6.out.len
      clear O
      go_wp2
      go_ret
      refine ⟨ar, cr, ?_, ?_, BW.out⟩
      · rw [hLL.out]; rfl
      · rw [hLL.out]; exact O6.out
/-- What Get tells. -/
def GotLb (r : Option (List Lb × Int)) (w w' : World) (e : Ending) : Prop :=
  Below w.heap.size w w' ∧ match r with
  | none => e = .returned (.tuple #[.slice none 0 0, .int .i64 0, .bool false])
  | some q => ∃ a c, e = .returned (.tuple #[.slice a q.1.length c, .int .i64 q.2, .bool true]) ∧ RowL w' a q.1.length q.1 ∧ (a = none → c = 0)

/-- .. and where the labels lie. -/
def GotLa (r : Option (List Lb × Int)) (w w' : World) (e : Ending) : Prop :=
  Below w.heap.size w w' ∧ match r with
  | none => e = .returned (.tuple #[.slice none 0 0, .int .i64 0, .bool false])
  | some q => ∃ a c, e = .returned (.tuple #[.slice a q.1.length c, .int .i64 q.2, .bool true]) ∧ RowL w' a q.1.length q.1 ∧ (a = none → c = 0) ∧ q.1.length ≤ c ∧ ∀ p, a = some p → w.heap.size ≤ p.block

def zL (pre : List Lb) (m : Nat) : List Lb := pre ++ List.replicate (m - pre.length) (.empty, .empty)
theorem made_labs {m : Nat} (h : m ≤ 8) : (madeCells #[Value.string .empty, .string .empty] (m * 2)).toList = flatL (zL [] m) := by
  unfold madeCells
  rw [Array.toList_map, Array.toList_range]
  match m, h with
  | 0, _ => rfl
  | 1, _ => rfl
  | 2, _ => rfl
  | 3, _ => rfl
  | 4, _ => rfl
  | 5, _ => rfl
  | 6, _ => rfl
  | 7, _ => rfl
  | 8, _ => rfl
theorem zL_split {pre : List Lb} {m : Nat} (h : pre.length < m) : zL pre m = pre ++ ((.empty, .empty) :: List.replicate (m - (pre.length + 1)) (.empty, .empty)) := by
  unfold zL
  rw [show m - pre.length = (m - (pre.length + 1)) + 1 from by omega, List.replicate_succ]
theorem flatL_set0 (pre t : List Lb) (x : Lb) (s : ByteArray) : (flatL (pre ++ x :: t)).set (pre.length * 2) (.string s) = flatL (pre ++ (s, x.2) :: t) := by
  rw [flatL_append, flatL_append, List.set_append_right _ _ (by rw [flatL_len]; exact Nat.le_refl _), flatL_len, Nat.sub_self, flatL_cons, flatL_cons]
  rfl
theorem flatL_set1 (pre t : List Lb) (x : Lb) (s : ByteArray) : (flatL (pre ++ x :: t)).set (pre.length * 2 + 1) (.string s) = flatL (pre ++ (x.1, s) :: t) := by
  rw [flatL_append, flatL_append, List.set_append_right _ _ (by rw [flatL_len]; omega), flatL_len, show pre.length * 2 + 1 - pre.length * 2 = 1 by omega, flatL_cons, flatL_cons]
  rfl
theorem OwnL.set0 {w : World} {base g n cap : Nat} {pre t : List Lb} {x : Lb} (h : OwnL w base (some ⟨g, 0, none⟩) n cap (pre ++ x :: t)) (s : ByteArray) :
    OwnL (w.setCell ⟨g, pre.length * 2, none⟩ (.string s)) base (some ⟨g, 0, none⟩) n cap (pre ++ (s, x.2) :: t) := by
  unfold OwnL at *
  have := (World.ownsRow.stored h (pre.length * 2) (.string s)).1
  rwa [flatL_set0] at this
theorem OwnL.set1 {w : World} {base g n cap : Nat} {pre t : List Lb} {x : Lb} (h : OwnL w base (some ⟨g, 0, none⟩) n cap (pre ++ x :: t)) (s : ByteArray) :
    OwnL (w.setCell ⟨g, pre.length * 2 + 1, none⟩ (.string s)) base (some ⟨g, 0, none⟩) n cap (pre ++ (x.1, s) :: t) := by
  unfold OwnL at *
  have := (World.ownsRow.stored h (pre.length * 2 + 1) (.string s)).1
  rwa [flatL_set1] at this
theorem OwnL.cellAt {w : World} {base g n cap : Nat} {l : List Lb} (h : OwnL w base (some ⟨g, 0, none⟩) n cap l) {j : Nat} (hj : j < n * 2) : ∃ old, w.cell? ⟨g, j, none⟩ = some old := by
  have e := World.ownsRow.cellAt h j hj
  have hl := h.1
  rw [List.getElem?_eq_getElem (by omega)] at e
  exact ⟨_, e⟩

theorem rdL_more {zs : List Int} {m k : Nat} {p q e : Int} {s t : List Int} {pre : List Lb} {r : Option (List Lb × Int)} (hk : k < m) (h : r = (rdL zs (m - k) p).map fun x => (pre ++ x.1, x.2)) (h1 : textS zs p 32 = some (s, q)) (h2 : textS zs q 64 = some (t, e)) :
    r = (rdL zs (m - (k + 1)) e).map fun x => ((pre ++ [(strOfNums s, strOfNums t)]) ++ x.1, x.2) := by
  obtain ⟨c, hc⟩ : ∃ c, m - k = c + 1 := ⟨m - k - 1, by omega⟩
  rw [h, hc, rdL_step h1 h2, show m - (k + 1) = c from by omega]
  cases rdL zs c e <;> simp
theorem rdL_stop1 {zs : List Int} {m k : Nat} {p : Int} {pre : List Lb} {r : Option (List Lb × Int)} (hk : k < m) (h : r = (rdL zs (m - k) p).map fun x => (pre ++ x.1, x.2)) (h1 : textS zs p 32 = none) : r = none := by
  obtain ⟨c, hc⟩ : ∃ c, m - k = c + 1 := ⟨m - k - 1, by omega⟩
  rw [h, hc, rdL_no1 h1]
  rfl
theorem rdL_stop2 {zs : List Int} {m k : Nat} {p q : Int} {s : List Int} {pre : List Lb} {r : Option (List Lb × Int)} (hk : k < m) (h : r = (rdL zs (m - k) p).map fun x => (pre ++ x.1, x.2)) (h1 : textS zs p 32 = some (s, q)) (h2 : textS zs q 64 = none) : r = none := by
  obtain ⟨c, hc⟩ : ∃ c, m - k = c + 1 := ⟨m - k - 1, by omega⟩
  rw [h, hc, rdL_no2 h1 h2]
  rfl
theorem textS_fit {zs : List Int} {p most e : Int} {s : List Int} (hz : Bytes8 zs) (h : textS zs p most = some (s, e)) : 0 ≤ e ∧ e ≤ zs.length ∧ (strOfNums s).size ≤ zs.length := by
  obtain ⟨k, _, h1, h2, t, ht, he⟩ := textS_back hz h
  refine ⟨by omega, h2, ?_⟩
  rw [strOfNums_size]
  have := congrArg List.length ht
  unfold putT at this
  simp only [List.length_append, List.length_drop] at this
  omega

set_option maxHeartbeats 4000000 in
theorem lget_at (C : LaC) (at' : Int) (a : Option Addr) (n cap : Nat) (zs : List Int) (w : World) (ha : (Lit.int .i64 at').wf = true) (hc : n ≤ cap) (hr : Row .u8 w a n zs) :
    Calls Tryz.prog 126 #[.slice a n cap, .int .i64 at'] w fun e w' => GotLa (getL zs at') w w' e := by
  have G := hide (get_any at' a n cap zs w ha hc hr)
  have HR := hide hr
  have hn := hr.2.1
  have HLN := hide hr.1
  have HZ := hide hr.bytes
  obtain ⟨i0, hi, hz0, hz1, hz2⟩ := info_parts Tryz.infoL
  clear ha hr
  cases hg : getS zs at' with
  | none =>
    have HE : Hid (getL zs at' = none) := by show _ = _; unfold getL; rw [hg]
    rw [hg] at G
    simp only [gotE] at G
    clear hg hi hz0 hz1 hz2
    go_enter Tryz.func126, Tryz.ntmps126
    go_wp2_with fail
    with_reducible refine G.out.mono ?_
    rintro e w' ⟨rfl, rfl⟩
    go_wp2
    go_ret3
    rw [HE.out]
    exact ⟨Below.refl _ _, rfl⟩
  | some q =>
    obtain ⟨v, fr⟩ := q
    obtain ⟨hw, k0, -, -, hfr, hle, -⟩ := getS_some HZ.out hg
    have v0 := hw.1
    have v1 := hw.2
    have f0 : 0 ≤ fr := by omega
    have f1 : fr ≤ n := by rw [HLN.out] at hle; omega
    have HE : Hid (getL zs at' = if 8 < v then none else finL (rdL zs v.toNat fr)) := by show _ = _; unfold getL; rw [hg]
    rw [hg] at G
    simp only [gotE] at G
    clear hg hfr hle hw
    by_cases h8 : 8 < v
    · rw [if_pos h8] at HE
      clear hi hz0 hz1 hz2
      go_enter Tryz.func126, Tryz.ntmps126
      go_wp2_with fail
      with_reducible refine G.out.mono ?_
      rintro e w' ⟨rfl, rfl⟩
      go_wp2
      go_ret3
      rw [HE.out]
      exact ⟨Below.refl _ _, rfl⟩
    · rw [if_neg h8] at HE
      obtain ⟨m, rfl⟩ := Int.eq_ofNat_of_zero_le v0
      have hm8 : m ≤ 8 := by omega
      obtain ⟨R, hR⟩ : ∃ R, Hid (rdL zs m fr = R) := ⟨_, rfl⟩
      have HE2 : Hid (getL zs at' = finL R) := by
        show _ = _
        rw [← hR.out, HE.out, Int.toNat_natCast]
      have T1 := hide (fun nx W (h0 : 0 ≤ nx) (h1 : nx ≤ (n : Int)) (q : Row .u8 W a n zs) => gettext_any nx 32 a n cap zs W (i64_wf (by omega) (by omega)) (by decide) hc q)
      have T2 := hide (fun nx W (h0 : 0 ≤ nx) (h1 : nx ≤ (n : Int)) (q : Row .u8 W a n zs) => gettext_any nx 64 a n cap zs W (i64_wf (by omega) (by omega)) (by decide) hc q)
      clear HE v0 v1
      go_enter Tryz.func126, Tryz.ntmps126
      go_wp2_with fail
      with_reducible refine G.out.mono ?_
      rintro e w' ⟨rfl, rfl⟩
      go_wp2_with (at_make; refine wpList_make_full _ rfl _ _ 22 rfl w'.heap.size 191 i0 (.agg #[.string .empty, .string .empty]) 2 Tryz.underlying22 hi hz0 hz1 .u64 .u64 (m : Int) (m : Int) m rfl rfl rfl rfl (by rw [hz2]; omega) (by unfold maxLen; omega) (Nat.le_refl _) ?_)
      intro W ho hg
      rw [made_labs hm8] at ho
      have HB : Hid (Below w'.heap.size w' W) := (Below.refl _ _).grown hg (Nat.le_refl _) (fun k hk => by simp at hk)
      have HO : Hid (OwnL W w'.heap.size (some ⟨w'.heap.size, 0, none⟩) m m (zL [] m)) := ho
      clear hg hi hz0 hz1 hz2 G ho h8
      go_wp2
      go_loopw [8, 29] (fun x i wr => ∃ (k : Nat) (nx : Int) (pre : List Lb), k ≤ m ∧ i = .int .i64 k ∧ x = .int .i64 nx ∧ 0 ≤ nx ∧ nx ≤ n ∧
        Hid (pre.length = k) ∧ Hid (∀ x ∈ pre, LbW x) ∧ Hid (R = (rdL zs (m - k) nx).map fun r => (pre ++ r.1, r.2)) ∧
        Hid (OwnL wr w'.heap.size (some ⟨w'.heap.size, 0, none⟩) m m (zL pre m)) ∧ Hid (Below w'.heap.size w' wr)) (fun _ i _ => m - (intOf i).toNat)
      case atStart =>
        refine ⟨0, fr, [], by omega, rfl, rfl, f0, f1, rfl, fun x hx => by simp at hx, ?_, HO, HB⟩
        show _ = _
        rw [Nat.sub_zero, hR.out]
        cases R <;> simp
      case round =>
        obtain ⟨k, nx, pre, hk, rfl, rfl, x0, x1, HPL, HPW, HP, ho, hb⟩ := hrel
        obtain ⟨u, rfl⟩ : ∃ u, u = wr := ⟨wr, rfl⟩
        clear HO HB hR
        by_cases hlt : k < m
        · have Q := hide (HR.out.below hb.out (Nat.le_refl _))
          have HSP : Hid (zL pre m = pre ++ ((.empty, .empty) :: List.replicate (m - (k + 1)) (.empty, .empty))) := by
            have := zL_split (pre := pre) (m := m) (by rw [HPL.out]; exact hlt)
            rw [HPL.out] at this
            exact this
          rw [HSP.out] at ho
          have i1 : (0 : Int) ≤ (k : Int) := by omega
          have i5 : (k : Int) < (m : Int) := by omega
          obtain ⟨old, hold⟩ := ho.out.cellAt (j := k * 2) (by omega)
          have hfz := World.ownsRow.frozenAt ho.out (k * 2)
          cases h1 : textS zs nx 32 with
          | none =>
            have HN := hide (rdL_stop1 hlt HP.out h1)
            have T := hide (T1.out nx u x0 x1 Q.out)
            rw [h1] at T
            simp only [textE] at T
            rw [HN.out] at HE2
            have HB2 := hide (hb.out.setCell (p := ⟨w'.heap.size, k * 2, none⟩) (Nat.le_refl _) (.string .empty))
            clear T1 T2 h1
            go_wp2_with fail
            with_reducible refine T.out.mono ?_
            rintro e w2 ⟨rfl, rfl⟩
            go_wp2
            go_ret3
            rw [HE2.out]
            exact ⟨HB2.out, rfl⟩
          | some r =>
            obtain ⟨s, nx2⟩ := r
            obtain ⟨y0, y1, ys⟩ := textS_fit HZ.out h1
            rw [HLN.out] at y1
            have T := hide (T1.out nx u x0 x1 Q.out)
            rw [h1] at T
            simp only [textE] at T
            have H1 := hide h1
            have O2 : Hid (OwnL (u.setCell ⟨w'.heap.size, k * 2, none⟩ (.string (strOfNums s))) w'.heap.size (some ⟨w'.heap.size, 0, none⟩) m m (pre ++ ((strOfNums s, .empty) :: List.replicate (m - (k + 1)) (.empty, .empty)))) := by
              have := ho.out.set0 (strOfNums s)
              rw [HPL.out] at this
              exact this
            have B2 := hide (hb.out.setCell (p := ⟨w'.heap.size, k * 2, none⟩) (Nat.le_refl _) (.string (strOfNums s)))
            obtain ⟨u2, hu2⟩ : ∃ u2, Hid (u.setCell ⟨w'.heap.size, k * 2, none⟩ (.string (strOfNums s)) = u2) := ⟨_, rfl⟩
            rw [hu2.out] at O2 B2
            have Q2 := hide (HR.out.below B2.out (Nat.le_refl _))
            have TT := hide (T2.out nx2 u2 y0 y1 Q2.out)
            obtain ⟨old2, hold2⟩ := O2.out.cellAt (j := k * 2 + 1) (by omega)
            have hfz2 := World.ownsRow.frozenAt O2.out (k * 2 + 1)
            have B3 := hide (fun v => B2.out.setCell (p := ⟨w'.heap.size, k * 2 + 1, none⟩) (Nat.le_refl _) v)
            cases h2 : textS zs nx2 64 with
            | none =>
              have HN := hide (rdL_stop2 hlt HP.out H1.out h2)
              rw [HN.out] at HE2
              rw [h2] at TT
              simp only [textE] at TT
              clear T1 T2 h1 h2 ho hb Q HN HP
              go_wp2_with fail
              with_reducible refine T.out.mono ?_
              rintro e w2 ⟨rfl, rfl⟩
              go_wp2_with fail
              rw [hu2.out]
              with_reducible refine TT.out.mono ?_
              rintro e w3 ⟨rfl, rfl⟩
              clear hold hfz
              go_wp2
              go_ret3
              rw [HE2.out]
              exact ⟨B3.out _, rfl⟩
            | some r =>
              obtain ⟨t, nx3⟩ := r
              obtain ⟨z0, z1, zt⟩ := textS_fit HZ.out h2
              rw [HLN.out] at z1 zt ys
              rw [h2] at TT
              simp only [textE] at TT
              have HP2 := hide (rdL_more hlt HP.out H1.out h2)
              have O3 : Hid (OwnL (u2.setCell ⟨w'.heap.size, k * 2 + 1, none⟩ (.string (strOfNums t))) w'.heap.size (some ⟨w'.heap.size, 0, none⟩) m m (zL (pre ++ [(strOfNums s, strOfNums t)]) m)) := by
                have := O2.out.set1 (strOfNums t)
                rw [HPL.out] at this
                unfold zL
                rw [List.length_append, HPL.out, List.append_assoc]
                exact this
              have HPL2 : Hid ((pre ++ [(strOfNums s, strOfNums t)]).length = k + 1) := by
                show _ = _
                rw [List.length_append, HPL.out]
                rfl
              have HPW2 : Hid (∀ x ∈ pre ++ [(strOfNums s, strOfNums t)], LbW x) := by
                intro x hx
                rcases List.mem_append.1 hx with hx | hx
                · exact HPW.out x hx
                · simp only [List.mem_singleton] at hx
                  subst hx
                  exact ⟨by show (strOfNums s).size ≤ _; omega, by show (strOfNums t).size ≤ _; omega⟩
              clear T1 T2 h1 h2 ho hb Q HP HPL HPW ys zt O2
              go_wp2_with fail
              with_reducible refine T.out.mono ?_
              rintro e w2 ⟨rfl, rfl⟩
              go_wp2_with fail
              rw [hu2.out]
              with_reducible refine TT.out.mono ?_
              rintro e w3 ⟨rfl, rfl⟩
              clear hold hfz
              go_wp2
              go_roundw
              case rel => exact ⟨k + 1, nx3, _, by omega, by go_num, rfl, z0, z1, HPL2, HPW2, HP2, O3, B3.out _⟩
              case measure => simp [intOf]; omega
        · have : k = m := by omega
          subst this
          have HRR : Hid (R = some (pre, nx)) := by
            show _ = _
            rw [HP.out, Nat.sub_self, rdL]
            simp
          rw [HRR.out] at HE2
          have HZZ : Hid (zL pre k = pre) := by
            show _ = _
            unfold zL
            rw [HPL.out, Nat.sub_self]
            simp
          rw [HZZ.out] at ho
          have RW := hide (ho.out.row (by omega) HPW.out)
          have CC := hide (C.chk (some ⟨w'.heap.size, 0, none⟩) k k pre u RW.out)
          clear ho T1 T2 HP HPW HRR HZZ
          cases hck : chkL pre with
          | false =>
            rw [hck] at CC
            have HE3 : Hid (getL zs at' = none) := by
              show _ = _
              rw [HE2.out, finL]
              simp only [hck]
              rfl
            clear HE2 hck
            go_wp2_with fail
            with_reducible refine CC.out.mono ?_
            rintro e w2 ⟨rfl, b2⟩
            have B2 := hide (bel_to hb.out (Nat.le_refl _) b2)
            clear b2 CC
            go_wp2
            go_ret3
            rw [HE3.out]
            exact ⟨B2.out, rfl⟩
          | true =>
            rw [hck] at CC
            have HE3 : Hid (getL zs at' = some (pre, nx)) := by
              show _ = _
              rw [HE2.out, finL]
              simp only [hck]
              rfl
            clear HE2 hck
            go_wp2_with fail
            with_reducible refine CC.out.mono ?_
            rintro e w2 ⟨rfl, b2⟩
            have B2 := hide (bel_to hb.out (Nat.le_refl _) b2)
            have R2 := hide (RW.out.below b2 (Nat.le_refl _))
            clear b2 CC
            go_wp2
            go_ret3
            rw [HE3.out]
            refine ⟨B2.out, some ⟨w'.heap.size, 0, none⟩, k, ?_, ?_, (fun e => by simp at e), ?_, fun p e => ?_⟩
            · rw [HPL.out]; rfl
            · rw [HPL.out]; exact R2.out
            · show pre.length ≤ k
              rw [HPL.out]
              exact Nat.le_refl _
            · obtain rfl := Option.some.inj e
              exact Nat.le_refl _
/-- The document's count: parts, bytes, whether something is wrong. -/
def SZ (w : World) (g : Nat) (n b : Int) (bad : Bool) : Prop := w.heap[g]? = some (.cells #[.int .i64 n, .int .i64 b, .bool bad] 199 (0, 0))
/-- The room that is left, in memory. -/
def RM (w : World) (g : Nat) (n t : Int) : Prop := w.heap[g]? = some (.cells #[.int .i64 n, .int .i64 t] 328 (0, 0))
section
variable {w w' : World} {g n k : Nat} {s : ByteArray}
end
/-! ### out of MatTe -/

/-! ### out of MatTf -/

/-! ### out of MatTg -/

/-- A yes or no in memory. -/
def BB (w : World) (g : Nat) (b : Bool) : Prop := w.heap[g]? = some (.cells #[.bool b] 4 (0, 0))
/-! ### out of MatTh -/

/-- The two boxes, and what was there before. -/
structure Two (w u : World) (g : Nat) (h : Hm) (b : Bool) : Prop where
  box : BoxM u w.heap.size h
  ok : BB u (w.heap.size + 1) b
  ch : Ch (fun k => k = g) w u
/-- The reader of bytes, as a block of memory. -/
def BR (w : World) (g n : Nat) (a : Option Addr) (N c : Nat) (p : Int) : Prop :=
  w.heap[g]? = some (.cells #[.int .i64 (n : Int), .slice a N c, .int .i64 p] 291 (0, 0))
section
variable {w w' : World} {g n N c : Nat} {a : Option Addr} {p : Int}
end
/-- The reader, and its bytes. -/
structure BD (w : World) (g n : Nat) (a : Option Addr) (N c : Nat) (zs : List Int) (p : Int) : Prop where
  br : BR w g n a N c p
  row : ∃ w0 : World, Row .u8 w0 a N zs ∧ w0.heap.size ≤ g ∧ Below w0.heap.size w0 w
  cap : N ≤ c
  wf : (Lit.int .i64 p).wf = true
section
variable {w w' : World} {g n N c : Nat} {a : Option Addr} {zs : List Int} {p : Int}
end
theorem getS_wf {zs : List Int} {p v q : Int} {w : World} {a : Option Addr} {N : Nat} (hr : Row .u8 w a N zs) (h : getS zs p = some (v, q)) : 0 ≤ q ∧ q ≤ N ∧ (Lit.int .i64 q).wf = true := by
  have h1 := getS_lt hr.bytes h
  have h2 := hr.2.1
  rw [hr.1] at h1
  exact ⟨by omega, by omega, i64_wf (by omega) (by omega)⟩
/-- What is held through the reader's own reads. -/
def HB (w : World) (g n : Nat) (a : Option Addr) (N c : Nat) (zs : List Int) (p : Int) (v : World) : Prop :=
  v.cell? ⟨g, 1, none⟩ = some (.slice a N c) ∧ v.cell? ⟨g, 2, none⟩ = some (.int .i64 p) ∧ Hid (BD v g n a N c zs p ∧ Ch (fun b => b = g) w v)
set_option linter.unusedVariables false
/-- A row read from p on. -/
def getRowS (zs : List Int) (p : Int) : Option (List Lb × Int × Sp × Int) := match getL zs p with
  | none => none
  | some (l, p) => match getIS zs p with
    | none => none
    | some (a, p) => match getP zs p with
      | none => none
      | some (sk, p) => some (l, a, sk, p)
/-- A deletion read from p on. -/
def getTombS (D : Bool) (zs : List Int) (p : Int) : Option (Mt × Int × Int × Int) := match getZ zs D p with
  | none => none
  | some (m, p) => match getIS zs p with
    | none => none
    | some (f, p) => match getIS zs p with
      | none => none
      | some (t, p) => some (m, f, t, p)
theorem getWr_eq (zs : List Int) (s p : Int) : getWr zs s p = (getRowS zs p).bind fun q => if q.2.2.2 = zs.length then some ⟨s, .write q.1 q.2.1 q.2.2.1⟩ else none := by
  unfold getWr getRowS
  cases getL zs p with
  | none => rfl
  | some x =>
    dsimp only
    cases getIS zs x.2 with
    | none => rfl
    | some y =>
      dsimp only
      cases getP zs y.2 <;> rfl
theorem getDe_eq (D : Bool) (zs : List Int) (s p : Int) : getDe D zs s p = (getTombS D zs p).bind fun q => if q.2.2.2 = zs.length then some ⟨s, .del q.1 q.2.1 q.2.2.1⟩ else none := by
  unfold getDe getTombS
  cases getZ zs D p with
  | none => rfl
  | some x =>
    dsimp only
    cases getIS zs x.2 with
    | none => rfl
    | some y =>
      dsimp only
      cases getIS zs y.2 <;> rfl

/-- What reading a row tells. -/
def GotW (r : Option (List Lb × Int × Sp × Int)) (w : World) (e : Ending) (w' : World) : Prop :=
  Below w.heap.size w w' ∧ match r with
  | none => e = .returned (.tuple #[(Value.agg #[.slice (RecH.la rh0) (RecH.ln rh0) (RecH.lc rh0), .int .i64 (RecX.at9 rx0), .slice (Hd.a (RecH.sk rh0)) (Hd.n (RecH.sk rh0)) (Hd.c (RecH.sk rh0)), .slice (Hd.k (RecH.sk rh0)) (Hd.m (RecH.sk rh0)) (Hd.d (RecH.sk rh0)), .int .u64 (Gz.n (Sp.g (RecX.sk rx0))), .int .u64 (Gz.nans (Sp.g (RecX.sk rx0))), .int .u64 (Gz.lo (Sp.g (RecX.sk rx0))), .int .u64 (Gz.hi (Sp.g (RecX.sk rx0)))]), .int .i64 0, .bool false])
  | some q => ∃ h : RecH, e = .returned (.tuple #[(Value.agg #[.slice (RecH.la h) (RecH.ln h) (RecH.lc h), .int .i64 (RecX.at9 ((⟨0, 0, q.1, q.2.1, q.2.2.1, 0, mt0, 0, 0⟩ : RecX))), .slice (Hd.a (RecH.sk h)) (Hd.n (RecH.sk h)) (Hd.c (RecH.sk h)), .slice (Hd.k (RecH.sk h)) (Hd.m (RecH.sk h)) (Hd.d (RecH.sk h)), .int .u64 (Gz.n (Sp.g (RecX.sk ((⟨0, 0, q.1, q.2.1, q.2.2.1, 0, mt0, 0, 0⟩ : RecX))))), .int .u64 (Gz.nans (Sp.g (RecX.sk ((⟨0, 0, q.1, q.2.1, q.2.2.1, 0, mt0, 0, 0⟩ : RecX))))), .int .u64 (Gz.lo (Sp.g (RecX.sk ((⟨0, 0, q.1, q.2.1, q.2.2.1, 0, mt0, 0, 0⟩ : RecX))))), .int .u64 (Gz.hi (Sp.g (RecX.sk ((⟨0, 0, q.1, q.2.1, q.2.2.1, 0, mt0, 0, 0⟩ : RecX)))))]), .int .i64 q.2.2.2, .bool true]) ∧ SeeW (fun b => w.heap.size ≤ b) w' ⟨0, 0, q.1, q.2.1, q.2.2.1, 0, mt0, 0, 0⟩ h
theorem getL_in {zs : List Int} (hz : Bytes8 zs) {p e : Int} {l : List Lb} (h : getL zs p = some (l, e)) : 0 ≤ e ∧ e ≤ zs.length := by
  unfold getL at h
  cases hg : getS zs p with
  | none => rw [hg] at h; cases h
  | some q =>
    obtain ⟨v, r⟩ := q
    rw [hg] at h
    dsimp only at h
    obtain ⟨hv, h1, h2, h3⟩ := getS_lt hz hg
    split at h
    · cases h
    · unfold finL at h
      cases hd : rdL zs v.toNat r with
      | none => rw [hd] at h; cases h
      | some y =>
        obtain ⟨l2, e2⟩ := y
        rw [hd] at h
        dsimp only at h
        split at h
        · obtain ⟨-, hs, h0⟩ := rdL_size hz _ _ _ _ hd
          simp only [Option.some.injEq, Prod.mk.injEq] at h
          obtain ⟨-, rfl⟩ := h
          rcases hs with hs | hs
          · have := h0 hs; omega
          · omega
        · cases h
theorem getS_word {zs : List Int} (hz : Bytes8 zs) {p v e : Int} (h : getS zs p = some (v, e)) : W64 v := (getS_some hz h).1
theorem zag_wf {v : Int} (h : W64 v) : (Lit.int .i64 (zag v)).wf = true := by
  obtain ⟨h0, h1⟩ := zag_int h
  exact i64_wf h0 h1
theorem made_in {w : World} {base : Nat} {h : Hd} {s : Sp} (q : MadeP w base h s) : inBl (fun b => base ≤ b) h.n h.a ∧ inBl (fun b => base ≤ b) h.m h.k :=
  ⟨Or.inr fun p e => q.oh.block p.block (by rw [e]; rfl), Or.inr fun p e => (row_cells q.ok (by rw [e]; rfl)).2⟩

set_option maxHeartbeats 8000000 in
theorem getRow_any (p : Int) (a : Option Addr) (n cap : Nat) (zs : List Int) (w : World) (hp : (Lit.int .i64 p).wf = true) (hc : n ≤ cap) (hr : Row .u8 w a n zs) :
    Calls Tryz.prog 55 #[.slice a n cap, .int .i64 p] w fun e w' => GotW (getRowS zs p) w e w' := by
  have HZ : Hid (Bytes8 zs) := hr.bytes
  have HN : Hid (zs.length = n ∧ n ≤ 281474976710656) := ⟨hr.1, hr.2.1⟩
  obtain ⟨w0, hw0⟩ : ∃ w0, Hid (w.alloc (.cells #[.slice none 0 0, .int .i64 0, .slice none 0 0, .slice none 0 0, .int .u64 0, .int .u64 0, .int .u64 0, .int .u64 0] 31) = w0) := ⟨_, rfl⟩
  obtain ⟨x, hx⟩ : ∃ x, Hid (w.heap.size = x) := ⟨_, rfl⟩
  have A0 : Hid (BoxV w0 x 31 [.slice none 0 0, .int .i64 0, .slice none 0 0, .slice none 0 0, .int .u64 0, .int .u64 0, .int .u64 0, .int .u64 0]) := by rw [← hw0.out, ← hx.out]; exact BoxV.new _ _ _
  have L0 : Hid (Below w.heap.size w w0) := by rw [← hw0.out]; exact (Below.refl _ _).alloc (Nat.le_refl _) _
  have HX : Hid (w.heap.size ≤ x) := by rw [hx.out]; exact Nat.le_refl _
  have ZR : Hid (∀ W, BoxV W x 31 [.slice none 0 0, .int .i64 0, .slice none 0 0, .slice none 0 0, .int .u64 0, .int .u64 0, .int .u64 0, .int .u64 0] → Below w.heap.size w W → BoxV (setL W x 0 [.slice none 0 0, .int .i64 0, .slice none 0 0, .slice none 0 0, .int .u64 0, .int .u64 0, .int .u64 0, .int .u64 0]) x 31 [.slice none 0 0, .int .i64 0, .slice none 0 0, .slice none 0 0, .int .u64 0, .int .u64 0, .int .u64 0, .int .u64 0] ∧ Below w.heap.size w (setL W x 0 [.slice none 0 0, .int .i64 0, .slice none 0 0, .slice none 0 0, .int .u64 0, .int .u64 0, .int .u64 0, .int .u64 0])) :=
    fun W q b => ⟨BoxV.setL _ W 0 _ q (by simp), below_setL HX.out _ _ _ b⟩
  simp only [setL, Nat.zero_add, Nat.reduceAdd] at ZR
  have RR := hide (fun W (b : Below w.heap.size w W) => hr.below b (Nat.le_refl _))
  have C1 := hide (lget_at laC p a n cap zs w0 hp hc (RR.out _ L0.out))
  have C2 := hide (fun q (hq : (Lit.int .i64 q).wf = true) W (b : Below w.heap.size w W) => getint_any q a n cap zs W hq hc (RR.out _ b))
  have C3 := hide (fun q (hq : (Lit.int .i64 q).wf = true) W (b : Below w.heap.size w W) => pget_made q a n cap zs W hq hc (RR.out _ b))
  clear hp
  cases h1 : getL zs p with
  | none =>
    rw [show getRowS zs p = none by unfold getRowS; rw [h1]]
    rw [h1] at C1
    simp only [GotLa] at C1
    clear h1 C2 C3 RR hr
    go_enter Tryz.func55, Tryz.ntmps55
    go_upto_region 1 with fail
    rw [hw0.out, hx.out]
    clear hw0 hx
    go_wp2_with fail
    with_reducible refine C1.out.mono ?_
    rintro e u1 ⟨b1, rfl⟩
    have L1 := hide (bel_to L0.out (Nat.le_refl _) b1)
    have A1 := hide (A0.out.below b1 A0.out.lt)
    clear b1 C1
    have F := hide (ZR.out _ A1.out L1.out)
    have d0 := A1.out.cell (i := 0) rfl
    have d1 := A1.out.cell (i := 1) rfl
    have d2 := A1.out.cell (i := 2) rfl
    have d3 := A1.out.cell (i := 3) rfl
    have d4 := A1.out.cell (i := 4) rfl
    have d5 := A1.out.cell (i := 5) rfl
    have d6 := A1.out.cell (i := 6) rfl
    have d7 := A1.out.cell (i := 7) rfl
    have f0 := A1.out.free 0
    have f1 := A1.out.free 1
    have f2 := A1.out.free 2
    have f3 := A1.out.free 3
    have f4 := A1.out.free 4
    have f5 := A1.out.free 5
    have f6 := A1.out.free 6
    have f7 := A1.out.free 7
    go_wp2
    have e0 := F.out.1.cell (i := 0) rfl
    have e1 := F.out.1.cell (i := 1) rfl
    have e2 := F.out.1.cell (i := 2) rfl
    have e3 := F.out.1.cell (i := 3) rfl
    have e4 := F.out.1.cell (i := 4) rfl
    have e5 := F.out.1.cell (i := 5) rfl
    have e6 := F.out.1.cell (i := 6) rfl
    have e7 := F.out.1.cell (i := 7) rfl
    exact bodyPost_ret (v := .tuple #[.agg #[.slice none 0 0, .int .i64 0, .slice none 0 0, .slice none 0 0, .int .u64 0, .int .u64 0, .int .u64 0, .int .u64 0], .int .i64 0, .bool false]) (by simp [results, Tryz.results55, go_sem, e0, e1, e2, e3, e4, e5, e6, e7]) rfl ⟨F.out.2, rfl⟩
  | some q1 =>
    obtain ⟨l, p1⟩ := q1
    have hq1 := getL_in HZ.out h1
    have W1 : Hid ((Lit.int .i64 p1).wf = true) := i64_wf (by omega) (by have := HN.out; omega)
    rw [h1] at C1
    simp only [GotLa] at C1
    have D2 := hide (C2.out p1 W1.out)
    clear C2 hq1
    cases h2 : getS zs p1 with
    | none =>
      rw [show getRowS zs p = none by unfold getRowS getIS; rw [h1]; dsimp only; rw [h2]; rfl]
      rw [h2] at D2
      simp only [gotI] at D2
      clear h1 h2 C3 RR hr
      go_enter Tryz.func55, Tryz.ntmps55
      go_upto_region 1 with fail
      rw [hw0.out, hx.out]
      clear hw0 hx
      go_wp2_with fail
      with_reducible refine C1.out.mono ?_
      rintro e u1 ⟨b1, a1, c1, rfl, r1, z1, y1, s1⟩
      have L1 := hide (bel_to L0.out (Nat.le_refl _) b1)
      have A1 := hide (A0.out.below b1 A0.out.lt)
      have R1 := hide r1
      have Z1 := hide z1
      have Y1 := hide y1
      have S1 := hide s1
      have ZL := hide b1.size
      have E2 := hide (D2.out _ L1.out)
      clear b1 C1 D2 r1 z1 y1 s1
      go_wp2_with fail
      with_reducible refine E2.out.mono ?_
      rintro e u2 ⟨rfl, rfl⟩
      clear E2
      have F := hide (ZR.out _ A1.out L1.out)
      have d0 := A1.out.cell (i := 0) rfl
      have d1 := A1.out.cell (i := 1) rfl
      have d2 := A1.out.cell (i := 2) rfl
      have d3 := A1.out.cell (i := 3) rfl
      have d4 := A1.out.cell (i := 4) rfl
      have d5 := A1.out.cell (i := 5) rfl
      have d6 := A1.out.cell (i := 6) rfl
      have d7 := A1.out.cell (i := 7) rfl
      have f0 := A1.out.free 0
      have f1 := A1.out.free 1
      have f2 := A1.out.free 2
      have f3 := A1.out.free 3
      have f4 := A1.out.free 4
      have f5 := A1.out.free 5
      have f6 := A1.out.free 6
      have f7 := A1.out.free 7
      go_wp2
      have e0 := F.out.1.cell (i := 0) rfl
      have e1 := F.out.1.cell (i := 1) rfl
      have e2 := F.out.1.cell (i := 2) rfl
      have e3 := F.out.1.cell (i := 3) rfl
      have e4 := F.out.1.cell (i := 4) rfl
      have e5 := F.out.1.cell (i := 5) rfl
      have e6 := F.out.1.cell (i := 6) rfl
      have e7 := F.out.1.cell (i := 7) rfl
      exact bodyPost_ret (v := .tuple #[.agg #[.slice none 0 0, .int .i64 0, .slice none 0 0, .slice none 0 0, .int .u64 0, .int .u64 0, .int .u64 0, .int .u64 0], .int .i64 0, .bool false]) (by simp [results, Tryz.results55, go_sem, e0, e1, e2, e3, e4, e5, e6, e7]) rfl ⟨F.out.2, rfl⟩
    | some q2 =>
      obtain ⟨v, p2⟩ := q2
      obtain ⟨hq0, hq1, W2⟩ := getS_wf hr h2
      have VW : Hid ((Lit.int .i64 (zag v)).wf = true) := zag_wf (getS_word HZ.out h2)
      rw [h2] at D2
      simp only [gotI] at D2
      have D3 := hide (C3.out p2 W2)
      clear C3 hq0 hq1 W2
      obtain ⟨y, hy⟩ : ∃ y, Hid (zag v = y) := ⟨_, rfl⟩
      rw [hy.out] at D2 VW
      cases h3 : getP zs p2 with
      | none =>
        rw [show getRowS zs p = none by unfold getRowS getIS; rw [h1]; dsimp only; rw [h2]; dsimp only [Option.map_some]; rw [h3]]
        rw [h3] at D3
        simp only [GotSm] at D3
        clear h1 h2 h3 RR hr hy
        go_enter Tryz.func55, Tryz.ntmps55
        go_upto_region 1 with fail
        rw [hw0.out, hx.out]
        clear hw0 hx
        go_wp2_with fail
        with_reducible refine C1.out.mono ?_
        rintro e u1 ⟨b1, a1, c1, rfl, r1, z1, y1, s1⟩
        have L1 := hide (bel_to L0.out (Nat.le_refl _) b1)
        have A1 := hide (A0.out.below b1 A0.out.lt)
        have R1 := hide r1
        have Z1 := hide z1
        have Y1 := hide y1
        have S1 := hide s1
        have ZL := hide b1.size
        have E2 := hide (D2.out _ L1.out)
        clear b1 C1 D2 r1 z1 y1 s1
        go_wp2_with fail
        with_reducible refine E2.out.mono ?_
        rintro e u2 ⟨rfl, rfl⟩
        have E3 := hide (D3.out _ L1.out)
        clear E2 D3
        go_wp2_with fail
        with_reducible refine E3.out.mono ?_
        rintro e u3 ⟨rfl, b3⟩
        have B3 := hide b3
        have L3 := hide (bel_to L1.out (Nat.le_refl _) b3)
        have A3 := hide (A1.out.below b3 A1.out.lt)
        obtain ⟨u4, hu4⟩ : ∃ u4, Hid (u3.alloc (.cells #[.slice none 0 0, .slice none 0 0, .int .u64 0, .int .u64 0, .int .u64 0, .int .u64 0] 29) = u4) := ⟨_, rfl⟩
        have X4 : Hid (BoxV u4 u3.heap.size 29 [.slice none 0 0, .slice none 0 0, .int .u64 0, .int .u64 0, .int .u64 0, .int .u64 0]) := by rw [← hu4.out]; exact BoxV.new u3 _ [.slice none 0 0, .slice none 0 0, .int .u64 0, .int .u64 0, .int .u64 0, .int .u64 0]
        have B4 : Hid (Below u3.heap.size u3 u4) := by rw [← hu4.out]; exact (Below.refl _ _).alloc (Nat.le_refl _) _
        have A4 := hide (A3.out.below B4.out A3.out.lt)
        have L4 := hide (bel_to L3.out (Nat.le_refl _) B4.out)
        clear b3 E3 A1
        have fz0 : (u3.alloc (.cells #[.slice none 0 0, .slice none 0 0, .int .u64 0, .int .u64 0, .int .u64 0, .int .u64 0] 29)).frozen? ⟨u3.heap.size, 0, none⟩ = false := by simp [go_sem]
        go_upto_region 8 with fail
        rw [hu4.out]
        clear hu4 fz0
        clear A3 L3 B3 B4 X4
        have F := hide (ZR.out _ A4.out L4.out)
        have d0 := A4.out.cell (i := 0) rfl
        have d1 := A4.out.cell (i := 1) rfl
        have d2 := A4.out.cell (i := 2) rfl
        have d3 := A4.out.cell (i := 3) rfl
        have d4 := A4.out.cell (i := 4) rfl
        have d5 := A4.out.cell (i := 5) rfl
        have d6 := A4.out.cell (i := 6) rfl
        have d7 := A4.out.cell (i := 7) rfl
        have f0 := A4.out.free 0
        have f1 := A4.out.free 1
        have f2 := A4.out.free 2
        have f3 := A4.out.free 3
        have f4 := A4.out.free 4
        have f5 := A4.out.free 5
        have f6 := A4.out.free 6
        have f7 := A4.out.free 7
        go_wp2
        have e0 := F.out.1.cell (i := 0) rfl
        have e1 := F.out.1.cell (i := 1) rfl
        have e2 := F.out.1.cell (i := 2) rfl
        have e3 := F.out.1.cell (i := 3) rfl
        have e4 := F.out.1.cell (i := 4) rfl
        have e5 := F.out.1.cell (i := 5) rfl
        have e6 := F.out.1.cell (i := 6) rfl
        have e7 := F.out.1.cell (i := 7) rfl
        exact bodyPost_ret (v := .tuple #[.agg #[.slice none 0 0, .int .i64 0, .slice none 0 0, .slice none 0 0, .int .u64 0, .int .u64 0, .int .u64 0, .int .u64 0], .int .i64 0, .bool false]) (by simp [results, Tryz.results55, go_sem, e0, e1, e2, e3, e4, e5, e6, e7]) rfl ⟨F.out.2, rfl⟩
      | some q3 =>
        obtain ⟨sk, p3⟩ := q3
        have HG : Hid (getRowS zs p = some (l, y, sk, p3)) := by show _ = _; unfold getRowS getIS; rw [h1]; dsimp only; rw [h2]; dsimp only [Option.map_some]; rw [h3, hy.out]
        rw [HG.out]
        rw [h3] at D3
        simp only [GotSm] at D3
        clear h1 h2 h3 RR hr hy HG
        go_enter Tryz.func55, Tryz.ntmps55
        go_upto_region 1 with fail
        rw [hw0.out, hx.out]
        clear hw0 hx
        go_wp2_with fail
        with_reducible refine C1.out.mono ?_
        rintro e u1 ⟨b1, a1, c1, rfl, r1, z1, y1, s1⟩
        have L1 := hide (bel_to L0.out (Nat.le_refl _) b1)
        have A1 := hide (A0.out.below b1 A0.out.lt)
        have R1 := hide r1
        have Z1 := hide z1
        have Y1 := hide y1
        have S1 := hide s1
        have ZL := hide b1.size
        have E2 := hide (D2.out _ L1.out)
        clear b1 C1 D2 r1 z1 y1 s1
        go_wp2_with fail
        with_reducible refine E2.out.mono ?_
        rintro e u2 ⟨rfl, rfl⟩
        have E3 := hide (D3.out _ L1.out)
        clear E2 D3
        go_wp2_with fail
        with_reducible refine E3.out.mono ?_
        rintro e u3 ⟨⟨h, rfl, s3⟩, b3⟩
        have S3 := hide s3
        clear s3
        have B3 := hide b3
        have L3 := hide (bel_to L1.out (Nat.le_refl _) b3)
        have A3 := hide (A1.out.below b3 A1.out.lt)
        obtain ⟨u4, hu4⟩ : ∃ u4, Hid (u3.alloc (.cells #[.slice h.a h.n h.c, .slice h.k h.m h.d, .int .u64 sk.g.n, .int .u64 sk.g.nans, .int .u64 sk.g.lo, .int .u64 sk.g.hi] 29) = u4) := ⟨_, rfl⟩
        have X4 : Hid (BoxV u4 u3.heap.size 29 [.slice h.a h.n h.c, .slice h.k h.m h.d, .int .u64 sk.g.n, .int .u64 sk.g.nans, .int .u64 sk.g.lo, .int .u64 sk.g.hi]) := by rw [← hu4.out]; exact BoxV.new u3 _ [.slice h.a h.n h.c, .slice h.k h.m h.d, .int .u64 sk.g.n, .int .u64 sk.g.nans, .int .u64 sk.g.lo, .int .u64 sk.g.hi]
        have B4 : Hid (Below u3.heap.size u3 u4) := by rw [← hu4.out]; exact (Below.refl _ _).alloc (Nat.le_refl _) _
        have A4 := hide (A3.out.below B4.out A3.out.lt)
        have L4 := hide (bel_to L3.out (Nat.le_refl _) B4.out)
        clear b3 E3 A1
        have fz0 : (u3.alloc (.cells #[.slice none 0 0, .slice none 0 0, .int .u64 0, .int .u64 0, .int .u64 0, .int .u64 0] 29)).frozen? ⟨u3.heap.size, 0, none⟩ = false := by simp [go_sem]
        go_upto_region 8 with fail
        rw [hu4.out]
        clear hu4 fz0
        have LT : Hid (x < w0.heap.size) := A0.out.lt
        have SW : Hid (SeeW (fun b => w0.heap.size ≤ b) u4 (⟨0, 0, l, y, sk, 0, mt0, 0, 0⟩ : RecX) (⟨a1, l.length, c1, h, hm0⟩ : RecH)) := ⟨R1.out.below (bel_to B3.out (Nat.le_refl _) B4.out) (Nat.le_refl _), Y1.out, Z1.out, Or.inr S1.out, VW.out, (S3.out.see).below B4.out (Nat.le_refl _), (made_in S3.out).1.mono (fun k hk => Nat.le_trans ZL.out hk), (made_in S3.out).2.mono (fun k hk => Nat.le_trans ZL.out hk)⟩
        have SF : Hid (SeeW (fun b => w.heap.size ≤ b) (setL u4 x 0 [.slice a1 l.length c1, .int .i64 y, .slice h.a h.n h.c, .slice h.k h.m h.d, .int .u64 sk.g.n, .int .u64 sk.g.nans, .int .u64 sk.g.lo, .int .u64 sk.g.hi]) (⟨0, 0, l, y, sk, 0, mt0, 0, 0⟩ : RecX) (⟨a1, l.length, c1, h, hm0⟩ : RecH)) := (SW.out.ch (ch_setL _ u4 0) (fun k hk e => by have := LT.out; omega)).mono (fun k hk => Nat.le_trans L0.out.size hk)
        have F : Hid (BoxV (setL u4 x 0 [.slice a1 l.length c1, .int .i64 y, .slice h.a h.n h.c, .slice h.k h.m h.d, .int .u64 sk.g.n, .int .u64 sk.g.nans, .int .u64 sk.g.lo, .int .u64 sk.g.hi]) x 31 [.slice a1 l.length c1, .int .i64 y, .slice h.a h.n h.c, .slice h.k h.m h.d, .int .u64 sk.g.n, .int .u64 sk.g.nans, .int .u64 sk.g.lo, .int .u64 sk.g.hi] ∧ Below w.heap.size w (setL u4 x 0 [.slice a1 l.length c1, .int .i64 y, .slice h.a h.n h.c, .slice h.k h.m h.d, .int .u64 sk.g.n, .int .u64 sk.g.nans, .int .u64 sk.g.lo, .int .u64 sk.g.hi])) := ⟨BoxV.setL _ u4 0 _ A4.out (by simp), below_setL HX.out _ _ _ L4.out⟩
        simp only [setL, Nat.zero_add, Nat.reduceAdd] at F SF
        have d0 := A4.out.cell (i := 0) rfl
        have d1 := A4.out.cell (i := 1) rfl
        have d2 := A4.out.cell (i := 2) rfl
        have d3 := A4.out.cell (i := 3) rfl
        have d4 := A4.out.cell (i := 4) rfl
        have d5 := A4.out.cell (i := 5) rfl
        have d6 := A4.out.cell (i := 6) rfl
        have d7 := A4.out.cell (i := 7) rfl
        have f0 := A4.out.free 0
        have f1 := A4.out.free 1
        have f2 := A4.out.free 2
        have f3 := A4.out.free 3
        have f4 := A4.out.free 4
        have f5 := A4.out.free 5
        have f6 := A4.out.free 6
        have f7 := A4.out.free 7
        have x0 := X4.out.cell (i := 0) rfl
        have x1 := X4.out.cell (i := 1) rfl
        have x2 := X4.out.cell (i := 2) rfl
        have x3 := X4.out.cell (i := 3) rfl
        have x4 := X4.out.cell (i := 4) rfl
        have x5 := X4.out.cell (i := 5) rfl
        clear A3 L3 B3 B4 X4 A4 SW R1 S3 S1 Y1 Z1
        go_wp2
        have e0 := F.out.1.cell (i := 0) rfl
        have e1 := F.out.1.cell (i := 1) rfl
        have e2 := F.out.1.cell (i := 2) rfl
        have e3 := F.out.1.cell (i := 3) rfl
        have e4 := F.out.1.cell (i := 4) rfl
        have e5 := F.out.1.cell (i := 5) rfl
        have e6 := F.out.1.cell (i := 6) rfl
        have e7 := F.out.1.cell (i := 7) rfl
        exact bodyPost_ret (v := .tuple #[.agg #[.slice a1 l.length c1, .int .i64 y, .slice h.a h.n h.c, .slice h.k h.m h.d, .int .u64 sk.g.n, .int .u64 sk.g.nans, .int .u64 sk.g.lo, .int .u64 sk.g.hi], .int .i64 p3, .bool true]) (by simp [results, Tryz.results55, go_sem, e0, e1, e2, e3, e4, e5, e6, e7]) rfl ⟨F.out.2, (⟨a1, l.length, c1, h, hm0⟩ : RecH), rfl, SF.out⟩

/-- What reading a record tells. -/
def GotRc (r : Option Rc) (w : World) (e : Ending) (w' : World) : Prop :=
  Below w.heap.size w w' ∧ match r with
  | none => e = .returned (.tuple #[(Value.agg #[.int .i64 (RecX.seq rx0), .int .i64 (RecX.kind rx0), .slice (RecH.la rh0) (RecH.ln rh0) (RecH.lc rh0), .int .i64 (RecX.at9 rx0), .slice (Hd.a (RecH.sk rh0)) (Hd.n (RecH.sk rh0)) (Hd.c (RecH.sk rh0)), .slice (Hd.k (RecH.sk rh0)) (Hd.m (RecH.sk rh0)) (Hd.d (RecH.sk rh0)), .int .u64 (Gz.n (Sp.g (RecX.sk rx0))), .int .u64 (Gz.nans (Sp.g (RecX.sk rx0))), .int .u64 (Gz.lo (Sp.g (RecX.sk rx0))), .int .u64 (Gz.hi (Sp.g (RecX.sk rx0))), .int .i64 (RecX.tseq rx0), .int .i64 (Hm.op (RecH.m rh0)), .string (Hm.nm (RecH.m rh0)), .string (Hm.vl (RecH.m rh0)), .slice (Hm.va (RecH.m rh0)) (Hm.vn (RecH.m rh0)) (Hm.vc (RecH.m rh0)), .slice (Hm.ka (RecH.m rh0)) (Hm.kn (RecH.m rh0)) (Hm.kc (RecH.m rh0)), .int .i64 (RecX.frm rx0), .int .i64 (RecX.till rx0)]), .bool false])
  | some q => ∃ h : RecH, e = .returned (.tuple #[(Value.agg #[.int .i64 (RecX.seq ((ofRc q))), .int .i64 (RecX.kind ((ofRc q))), .slice (RecH.la h) (RecH.ln h) (RecH.lc h), .int .i64 (RecX.at9 ((ofRc q))), .slice (Hd.a (RecH.sk h)) (Hd.n (RecH.sk h)) (Hd.c (RecH.sk h)), .slice (Hd.k (RecH.sk h)) (Hd.m (RecH.sk h)) (Hd.d (RecH.sk h)), .int .u64 (Gz.n (Sp.g (RecX.sk ((ofRc q))))), .int .u64 (Gz.nans (Sp.g (RecX.sk ((ofRc q))))), .int .u64 (Gz.lo (Sp.g (RecX.sk ((ofRc q))))), .int .u64 (Gz.hi (Sp.g (RecX.sk ((ofRc q))))), .int .i64 (RecX.tseq ((ofRc q))), .int .i64 (Hm.op (RecH.m h)), .string (Hm.nm (RecH.m h)), .string (Hm.vl (RecH.m h)), .slice (Hm.va (RecH.m h)) (Hm.vn (RecH.m h)) (Hm.vc (RecH.m h)), .slice (Hm.ka (RecH.m h)) (Hm.kn (RecH.m h)) (Hm.kc (RecH.m h)), .int .i64 (RecX.frm ((ofRc q))), .int .i64 (RecX.till ((ofRc q)))]), .bool true]) ∧ SeeR (fun b => w.heap.size ≤ b) w' (ofRc q) h
theorem getRc_no1 {D : Bool} {zs : List Int} (h : getS zs 0 = none) : getRc D zs = none := by unfold getRc getIS; rw [h]; rfl
theorem getRc_no2 {D : Bool} {zs : List Int} {v p : Int} (h : getS zs 0 = some (v, p)) (h2 : getS zs p = none) : getRc D zs = none := by unfold getRc getIS; rw [h]; dsimp only [Option.map_some]; rw [h2]
theorem getRc_kind {D : Bool} {zs : List Int} {v p k q : Int} (h : getS zs 0 = some (v, p)) (h2 : getS zs p = some (k, q)) : getRc D zs = if k = 1 then getWr zs (zag v) q else if k = 2 then getDe D zs (zag v) q else none := by
  unfold getRc getIS
  rw [h]
  dsimp only [Option.map_some]
  rw [h2]
def recZ : List Value := [.int .i64 0, .int .i64 0, .slice none 0 0, .int .i64 0, .slice none 0 0, .slice none 0 0, .int .u64 0, .int .u64 0, .int .u64 0, .int .u64 0, .int .i64 0, .int .i64 0, .string ⟨#[]⟩, .string ⟨#[]⟩, .slice none 0 0, .slice none 0 0, .int .i64 0, .int .i64 0]
theorem fail_post {W w : World} {x : Nat} {cs : List Value} (A : BoxV W x 39 cs) (h : cs.length = 18) (L : Below w.heap.size w W) (HX : w.heap.size ≤ x) : Below w.heap.size w (W.setCells x 0 recZ) ∧ (W.setCells x 0 recZ).rangeAt x 0 recZ :=
  ⟨below_sc HX L 0 recZ, World.rangeAt_setCells_same _ _ _ _ (A.there 0 18 (by omega))⟩
set_option maxHeartbeats 16000000 in
theorem getRec_r0 (a : Option Addr) (n cap : Nat) (zs : List Int) (w : World) (hc : n ≤ cap) (hr : Row .u8 w a n zs) (v1 p1 p2 : Int) (h1 : getS zs 0 = some (v1, p1)) (h2 : getS zs p1 = some (1, p2)) (h3 : getRowS zs p2 = none) :
    Calls Tryz.prog 12 #[.slice a n cap] w fun e w' => GotRc none w e w' := by
  have HZ : Hid (Bytes8 zs) := hr.bytes
  have HN : Hid (zs.length = n ∧ n ≤ 281474976710656) := ⟨hr.1, hr.2.1⟩
  obtain ⟨w0, hw0⟩ : ∃ w0, Hid (w.alloc (.cells #[.int .i64 0, .int .i64 0, .slice none 0 0, .int .i64 0, .slice none 0 0, .slice none 0 0, .int .u64 0, .int .u64 0, .int .u64 0, .int .u64 0, .int .i64 0, .int .i64 0, .string ⟨#[]⟩, .string ⟨#[]⟩, .slice none 0 0, .slice none 0 0, .int .i64 0, .int .i64 0] 39) = w0) := ⟨_, rfl⟩
  obtain ⟨x, hx⟩ : ∃ x, Hid (w.heap.size = x) := ⟨_, rfl⟩
  have A0 : Hid (BoxV w0 x 39 recZ) := by rw [← hw0.out, ← hx.out]; exact BoxV.new w _ recZ
  have L0 : Hid (Below w.heap.size w w0) := by rw [← hw0.out]; exact (Below.refl _ _).alloc (Nat.le_refl _) _
  have HX : Hid (w.heap.size ≤ x) := by rw [hx.out]; exact Nat.le_refl _
  have RR := hide (fun W (b : Below w.heap.size w W) => hr.below b (Nat.le_refl _))
  have C1 := hide (getint_any 0 a n cap zs w0 (by decide) hc (RR.out _ L0.out))
  obtain ⟨-, -, W2⟩ := getS_wf hr h2
  obtain ⟨-, -, W1⟩ := getS_wf hr h1
  have VS : Hid ((Lit.int .i64 (zag v1)).wf = true) := zag_wf (getS_word HZ.out h1)
  have D2 := hide (get_any p1 a n cap zs w0 W1 hc (RR.out _ L0.out))
  first | rw [h2] at D2 | skip
  simp only [gotE] at D2
  rw [h1] at C1
  simp only [gotI] at C1
  obtain ⟨s, hs⟩ : ∃ s, zag v1 = s := ⟨_, rfl⟩
  rw [hs] at C1 VS
  try rw [hs]
  obtain ⟨y, hy⟩ : ∃ y, Hid (w0.heap.size = y) := ⟨_, rfl⟩
  have XY : Hid (x < y) := by rw [← hy.out]; exact A0.out.lt
  have TF : Hid ((w0.alloc (.cells #[.int .i64 0, .int .i64 0, .slice none 0 0, .int .i64 0, .slice none 0 0, .slice none 0 0, .int .u64 0, .int .u64 0, .int .u64 0, .int .u64 0, .int .i64 0, .int .i64 0, .string ⟨#[]⟩, .string ⟨#[]⟩, .slice none 0 0, .slice none 0 0, .int .i64 0, .int .i64 0] 39)).there w0.heap.size 0 18) := there_fresh w0 39 recZ
  obtain ⟨u1, hu1⟩ : ∃ u1, Hid ((w0.alloc (.cells #[.int .i64 0, .int .i64 0, .slice none 0 0, .int .i64 0, .slice none 0 0, .slice none 0 0, .int .u64 0, .int .u64 0, .int .u64 0, .int .u64 0, .int .i64 0, .int .i64 0, .string ⟨#[]⟩, .string ⟨#[]⟩, .slice none 0 0, .slice none 0 0, .int .i64 0, .int .i64 0] 39)).setCells w0.heap.size 0 [.int .i64 s, .int .i64 1, .slice none 0 0, .int .i64 0, .slice none 0 0, .slice none 0 0, .int .u64 0, .int .u64 0, .int .u64 0, .int .u64 0, .int .i64 0, .int .i64 0, .string ⟨#[]⟩, .string ⟨#[]⟩, .slice none 0 0, .slice none 0 0, .int .i64 0, .int .i64 0] = u1) := ⟨_, rfl⟩
  have Y1 : Hid (BoxV u1 y 39 [.int .i64 s, .int .i64 1, .slice none 0 0, .int .i64 0, .slice none 0 0, .slice none 0 0, .int .u64 0, .int .u64 0, .int .u64 0, .int .u64 0, .int .i64 0, .int .i64 0, .string ⟨#[]⟩, .string ⟨#[]⟩, .slice none 0 0, .slice none 0 0, .int .i64 0, .int .i64 0]) := by rw [← hu1.out, ← hy.out]; exact BoxV.fresh w0 _ recZ _ rfl
  have B1 : Hid (Below w0.heap.size w0 u1) := by rw [← hu1.out]; exact below_fresh w0 _ recZ 0 _
  have A1 := hide (A0.out.below B1.out A0.out.lt)
  have L1 := hide (bel_to L0.out (Nat.le_refl _) B1.out)
  have D3 := hide (getRow_any p2 a n cap zs u1 W2 hc (RR.out u1 L1.out))
  rw [h3] at D3
  simp only [GotW] at D3
  try dsimp only [rx0, rh0, zeroP, g0, hd0, hm0] at D3
  clear h1 h2 h3 RR hr hs W1 W2
  go_enter Tryz.func12, Tryz.ntmps12
  go_upto_region 1 with fail
  rw [hw0.out, hx.out]
  clear hw0 hx
  go_wp2_with fail
  with_reducible refine C1.out.mono ?_
  rintro e u9 ⟨rfl, hu9⟩
  obtain rfl := hu9.symm
  clear C1
  go_wp2_with fail
  with_reducible refine D2.out.mono ?_
  rintro e u9 ⟨rfl, hu9⟩
  obtain rfl := hu9.symm
  clear D2
  go_upto_region 8 with ((with_reducible show wpList _ _ _ (Oper.mk _ (Op.store 39 _ _) _ _ _ _ :: _) _ _); refine wpStore rfl 39 _ _ rfl w0.heap.size 0 [.int .i64 s, .int .i64 1, .slice none 0 0, .int .i64 0, .slice none 0 0, .slice none 0 0, .int .u64 0, .int .u64 0, .int .u64 0, .int .u64 0, .int .i64 0, .int .i64 0, .string ⟨#[]⟩, .string ⟨#[]⟩, .slice none 0 0, .slice none 0 0, .int .i64 0, .int .i64 0] rfl rfl TF.out info_rec rfl ?_)
  rw [hu1.out, hy.out]
  clear hu1 hy TF
  go_wp2_with fail
  with_reducible refine D3.out.mono ?_
  rintro e u3 ⟨b3, rfl⟩
  have Y3 := hide (Y1.out.below b3 Y1.out.lt)
  have A3 := hide (A1.out.below b3 A1.out.lt)
  have L3 := hide (bel_to L1.out (Nat.le_refl _) b3)
  clear b3 D3
  have TY := hide (Y3.out.there 2 8 (Nat.le_of_ble_eq_true rfl))
  obtain ⟨u4, hu4⟩ : ∃ u4, Hid (u3.setCells y 2 [.slice none 0 0, .int .i64 0, .slice none 0 0, .slice none 0 0, .int .u64 0, .int .u64 0, .int .u64 0, .int .u64 0] = u4) := ⟨_, rfl⟩
  have B4 : Hid (Ch (fun k => k = y) u3 u4) := by rw [← hu4.out]; exact ch_sc _ _ _ _
  have L4 : Hid (Below w.heap.size w u4) := by rw [← hu4.out]; exact below_sc (Nat.le_trans HX.out (Nat.le_of_lt XY.out)) L3.out _ _
  have A4 := hide (A3.out.ch B4.out (fun e => by have := XY.out; omega))
  have Y4 : Hid (BoxV u4 y 39 [.int .i64 s, .int .i64 1, .slice none 0 0, .int .i64 0, .slice none 0 0, .slice none 0 0, .int .u64 0, .int .u64 0, .int .u64 0, .int .u64 0, .int .i64 0, .int .i64 0, .string ⟨#[]⟩, .string ⟨#[]⟩, .slice none 0 0, .slice none 0 0, .int .i64 0, .int .i64 0]) := by rw [← hu4.out]; exact Y3.out.cells 2 (Nat.le_of_ble_eq_true rfl)
  go_upto_region 15 with ((with_reducible show wpList _ _ _ (Oper.mk _ (Op.store 31 _ _) _ _ _ _ :: _) _ _); refine wpStore rfl 31 _ _ rfl y 2 [.slice none 0 0, .int .i64 0, .slice none 0 0, .slice none 0 0, .int .u64 0, .int .u64 0, .int .u64 0, .int .u64 0] rfl rfl TY.out info_row rfl ?_)
  rw [hu4.out]
  clear hu4 TY
  have TX := hide (A4.out.there 0 18 (Nat.le_of_ble_eq_true rfl))
  have RG := hide (fail_post A4.out rfl L4.out HX.out)
  go_wp2_with (((with_reducible show wpList _ _ _ (Oper.mk _ (Op.store 39 _ _) _ _ _ _ :: _) _ _); refine wpStore rfl 39 _ _ rfl x 0 recZ rfl rfl TX.out info_rec rfl ?_))
  exact ret_box rfl rfl rfl RG.out.2 Tryz.underlying39 rfl info_rec rfl ⟨RG.out.1, rfl⟩
set_option maxHeartbeats 16000000 in
theorem getRec_r2 (a : Option Addr) (n cap : Nat) (zs : List Int) (w : World) (hc : n ≤ cap) (hr : Row .u8 w a n zs) (v1 p1 p2 : Int) (h1 : getS zs 0 = some (v1, p1)) (h2 : getS zs p1 = some (1, p2)) (l : List Lb) (a9 : Int) (sk : Sp) (p3 : Int) (h3 : getRowS zs p2 = some (l, a9, sk, p3)) (hp3 : p3 = (n : Int)) :
    Calls Tryz.prog 12 #[.slice a n cap] w fun e w' => GotRc (some ⟨zag v1, .write l a9 sk⟩) w e w' := by
  have HZ : Hid (Bytes8 zs) := hr.bytes
  have HN : Hid (zs.length = n ∧ n ≤ 281474976710656) := ⟨hr.1, hr.2.1⟩
  obtain ⟨w0, hw0⟩ : ∃ w0, Hid (w.alloc (.cells #[.int .i64 0, .int .i64 0, .slice none 0 0, .int .i64 0, .slice none 0 0, .slice none 0 0, .int .u64 0, .int .u64 0, .int .u64 0, .int .u64 0, .int .i64 0, .int .i64 0, .string ⟨#[]⟩, .string ⟨#[]⟩, .slice none 0 0, .slice none 0 0, .int .i64 0, .int .i64 0] 39) = w0) := ⟨_, rfl⟩
  obtain ⟨x, hx⟩ : ∃ x, Hid (w.heap.size = x) := ⟨_, rfl⟩
  have A0 : Hid (BoxV w0 x 39 recZ) := by rw [← hw0.out, ← hx.out]; exact BoxV.new w _ recZ
  have L0 : Hid (Below w.heap.size w w0) := by rw [← hw0.out]; exact (Below.refl _ _).alloc (Nat.le_refl _) _
  have HX : Hid (w.heap.size ≤ x) := by rw [hx.out]; exact Nat.le_refl _
  have RR := hide (fun W (b : Below w.heap.size w W) => hr.below b (Nat.le_refl _))
  have C1 := hide (getint_any 0 a n cap zs w0 (by decide) hc (RR.out _ L0.out))
  subst hp3
  obtain ⟨-, -, W2⟩ := getS_wf hr h2
  obtain ⟨-, -, W1⟩ := getS_wf hr h1
  have VS : Hid ((Lit.int .i64 (zag v1)).wf = true) := zag_wf (getS_word HZ.out h1)
  have D2 := hide (get_any p1 a n cap zs w0 W1 hc (RR.out _ L0.out))
  first | rw [h2] at D2 | skip
  simp only [gotE] at D2
  rw [h1] at C1
  simp only [gotI] at C1
  obtain ⟨s, hs⟩ : ∃ s, zag v1 = s := ⟨_, rfl⟩
  rw [hs] at C1 VS
  try rw [hs]
  obtain ⟨y, hy⟩ : ∃ y, Hid (w0.heap.size = y) := ⟨_, rfl⟩
  have XY : Hid (x < y) := by rw [← hy.out]; exact A0.out.lt
  have TF : Hid ((w0.alloc (.cells #[.int .i64 0, .int .i64 0, .slice none 0 0, .int .i64 0, .slice none 0 0, .slice none 0 0, .int .u64 0, .int .u64 0, .int .u64 0, .int .u64 0, .int .i64 0, .int .i64 0, .string ⟨#[]⟩, .string ⟨#[]⟩, .slice none 0 0, .slice none 0 0, .int .i64 0, .int .i64 0] 39)).there w0.heap.size 0 18) := there_fresh w0 39 recZ
  obtain ⟨u1, hu1⟩ : ∃ u1, Hid ((w0.alloc (.cells #[.int .i64 0, .int .i64 0, .slice none 0 0, .int .i64 0, .slice none 0 0, .slice none 0 0, .int .u64 0, .int .u64 0, .int .u64 0, .int .u64 0, .int .i64 0, .int .i64 0, .string ⟨#[]⟩, .string ⟨#[]⟩, .slice none 0 0, .slice none 0 0, .int .i64 0, .int .i64 0] 39)).setCells w0.heap.size 0 [.int .i64 s, .int .i64 1, .slice none 0 0, .int .i64 0, .slice none 0 0, .slice none 0 0, .int .u64 0, .int .u64 0, .int .u64 0, .int .u64 0, .int .i64 0, .int .i64 0, .string ⟨#[]⟩, .string ⟨#[]⟩, .slice none 0 0, .slice none 0 0, .int .i64 0, .int .i64 0] = u1) := ⟨_, rfl⟩
  have Y1 : Hid (BoxV u1 y 39 [.int .i64 s, .int .i64 1, .slice none 0 0, .int .i64 0, .slice none 0 0, .slice none 0 0, .int .u64 0, .int .u64 0, .int .u64 0, .int .u64 0, .int .i64 0, .int .i64 0, .string ⟨#[]⟩, .string ⟨#[]⟩, .slice none 0 0, .slice none 0 0, .int .i64 0, .int .i64 0]) := by rw [← hu1.out, ← hy.out]; exact BoxV.fresh w0 _ recZ _ rfl
  have B1 : Hid (Below w0.heap.size w0 u1) := by rw [← hu1.out]; exact below_fresh w0 _ recZ 0 _
  have A1 := hide (A0.out.below B1.out A0.out.lt)
  have L1 := hide (bel_to L0.out (Nat.le_refl _) B1.out)
  have D3 := hide (getRow_any p2 a n cap zs u1 W2 hc (RR.out u1 L1.out))
  rw [h3] at D3
  simp only [GotW] at D3
  try dsimp only [rx0, rh0, zeroP, g0, hd0, hm0] at D3
  clear h1 h2 h3 RR hr hs W1 W2
  go_enter Tryz.func12, Tryz.ntmps12
  go_upto_region 1 with fail
  rw [hw0.out, hx.out]
  clear hw0 hx
  go_wp2_with fail
  with_reducible refine C1.out.mono ?_
  rintro e u9 ⟨rfl, hu9⟩
  obtain rfl := hu9.symm
  clear C1
  go_wp2_with fail
  with_reducible refine D2.out.mono ?_
  rintro e u9 ⟨rfl, hu9⟩
  obtain rfl := hu9.symm
  clear D2
  go_upto_region 8 with ((with_reducible show wpList _ _ _ (Oper.mk _ (Op.store 39 _ _) _ _ _ _ :: _) _ _); refine wpStore rfl 39 _ _ rfl w0.heap.size 0 [.int .i64 s, .int .i64 1, .slice none 0 0, .int .i64 0, .slice none 0 0, .slice none 0 0, .int .u64 0, .int .u64 0, .int .u64 0, .int .u64 0, .int .i64 0, .int .i64 0, .string ⟨#[]⟩, .string ⟨#[]⟩, .slice none 0 0, .slice none 0 0, .int .i64 0, .int .i64 0] rfl rfl TF.out info_rec rfl ?_)
  rw [hu1.out, hy.out]
  clear hu1 hy TF
  go_wp2_with fail
  with_reducible refine D3.out.mono ?_
  rintro e u3 ⟨b3, h, rfl, s3⟩
  have S3 := hide s3
  clear s3
  have Y3 := hide (Y1.out.below b3 Y1.out.lt)
  have A3 := hide (A1.out.below b3 A1.out.lt)
  have L3 := hide (bel_to L1.out (Nat.le_refl _) b3)
  clear b3 D3
  have TY := hide (Y3.out.there 2 8 (Nat.le_of_ble_eq_true rfl))
  obtain ⟨u4, hu4⟩ : ∃ u4, Hid (u3.setCells y 2 [.slice (RecH.la h) (RecH.ln h) (RecH.lc h), .int .i64 a9, .slice (Hd.a (RecH.sk h)) (Hd.n (RecH.sk h)) (Hd.c (RecH.sk h)), .slice (Hd.k (RecH.sk h)) (Hd.m (RecH.sk h)) (Hd.d (RecH.sk h)), .int .u64 sk.g.n, .int .u64 sk.g.nans, .int .u64 sk.g.lo, .int .u64 sk.g.hi] = u4) := ⟨_, rfl⟩
  have B4 : Hid (Ch (fun k => k = y) u3 u4) := by rw [← hu4.out]; exact ch_sc _ _ _ _
  have L4 : Hid (Below w.heap.size w u4) := by rw [← hu4.out]; exact below_sc (Nat.le_trans HX.out (Nat.le_of_lt XY.out)) L3.out _ _
  have A4 := hide (A3.out.ch B4.out (fun e => by have := XY.out; omega))
  have Y4 : Hid (BoxV u4 y 39 [.int .i64 s, .int .i64 1, .slice (RecH.la h) (RecH.ln h) (RecH.lc h), .int .i64 a9, .slice (Hd.a (RecH.sk h)) (Hd.n (RecH.sk h)) (Hd.c (RecH.sk h)), .slice (Hd.k (RecH.sk h)) (Hd.m (RecH.sk h)) (Hd.d (RecH.sk h)), .int .u64 sk.g.n, .int .u64 sk.g.nans, .int .u64 sk.g.lo, .int .u64 sk.g.hi, .int .i64 0, .int .i64 0, .string ⟨#[]⟩, .string ⟨#[]⟩, .slice none 0 0, .slice none 0 0, .int .i64 0, .int .i64 0]) := by rw [← hu4.out]; exact Y3.out.cells 2 (Nat.le_of_ble_eq_true rfl)
  go_upto_region 15 with ((with_reducible show wpList _ _ _ (Oper.mk _ (Op.store 31 _ _) _ _ _ _ :: _) _ _); refine wpStore rfl 31 _ _ rfl y 2 [.slice (RecH.la h) (RecH.ln h) (RecH.lc h), .int .i64 a9, .slice (Hd.a (RecH.sk h)) (Hd.n (RecH.sk h)) (Hd.c (RecH.sk h)), .slice (Hd.k (RecH.sk h)) (Hd.m (RecH.sk h)) (Hd.d (RecH.sk h)), .int .u64 sk.g.n, .int .u64 sk.g.nans, .int .u64 sk.g.lo, .int .u64 sk.g.hi] rfl rfl TY.out info_row rfl ?_)
  rw [hu4.out]
  clear hu4 TY
  have TX := hide (A4.out.there 0 18 (Nat.le_of_ble_eq_true rfl))
  have RGY := hide Y4.out.range
  have RG : Hid (Below w.heap.size w (u4.setCells x 0 [.int .i64 s, .int .i64 1, .slice (RecH.la h) (RecH.ln h) (RecH.lc h), .int .i64 a9, .slice (Hd.a (RecH.sk h)) (Hd.n (RecH.sk h)) (Hd.c (RecH.sk h)), .slice (Hd.k (RecH.sk h)) (Hd.m (RecH.sk h)) (Hd.d (RecH.sk h)), .int .u64 sk.g.n, .int .u64 sk.g.nans, .int .u64 sk.g.lo, .int .u64 sk.g.hi, .int .i64 0, .int .i64 0, .string ⟨#[]⟩, .string ⟨#[]⟩, .slice none 0 0, .slice none 0 0, .int .i64 0, .int .i64 0]) ∧ (u4.setCells x 0 [.int .i64 s, .int .i64 1, .slice (RecH.la h) (RecH.ln h) (RecH.lc h), .int .i64 a9, .slice (Hd.a (RecH.sk h)) (Hd.n (RecH.sk h)) (Hd.c (RecH.sk h)), .slice (Hd.k (RecH.sk h)) (Hd.m (RecH.sk h)) (Hd.d (RecH.sk h)), .int .u64 sk.g.n, .int .u64 sk.g.nans, .int .u64 sk.g.lo, .int .u64 sk.g.hi, .int .i64 0, .int .i64 0, .string ⟨#[]⟩, .string ⟨#[]⟩, .slice none 0 0, .slice none 0 0, .int .i64 0, .int .i64 0]).rangeAt x 0 [.int .i64 s, .int .i64 1, .slice (RecH.la h) (RecH.ln h) (RecH.lc h), .int .i64 a9, .slice (Hd.a (RecH.sk h)) (Hd.n (RecH.sk h)) (Hd.c (RecH.sk h)), .slice (Hd.k (RecH.sk h)) (Hd.m (RecH.sk h)) (Hd.d (RecH.sk h)), .int .u64 sk.g.n, .int .u64 sk.g.nans, .int .u64 sk.g.lo, .int .u64 sk.g.hi, .int .i64 0, .int .i64 0, .string ⟨#[]⟩, .string ⟨#[]⟩, .slice none 0 0, .slice none 0 0, .int .i64 0, .int .i64 0]) := ⟨below_sc HX.out L4.out 0 _, World.rangeAt_setCells_same _ _ _ _ (A4.out.there 0 18 (Nat.le_of_ble_eq_true rfl))⟩
  have SR : Hid (SeeR (fun b => w.heap.size ≤ b) (u4.setCells x 0 [.int .i64 s, .int .i64 1, .slice (RecH.la h) (RecH.ln h) (RecH.lc h), .int .i64 a9, .slice (Hd.a (RecH.sk h)) (Hd.n (RecH.sk h)) (Hd.c (RecH.sk h)), .slice (Hd.k (RecH.sk h)) (Hd.m (RecH.sk h)) (Hd.d (RecH.sk h)), .int .u64 sk.g.n, .int .u64 sk.g.nans, .int .u64 sk.g.lo, .int .u64 sk.g.hi, .int .i64 0, .int .i64 0, .string ⟨#[]⟩, .string ⟨#[]⟩, .slice none 0 0, .slice none 0 0, .int .i64 0, .int .i64 0]) (ofRc ⟨s, .write l a9 sk⟩) (⟨h.la, h.ln, h.lc, h.sk, hm0⟩ : RecH)) := by
    have q := ((S3.out.ch B4.out (fun k hk e => by have := Y1.out.lt; have := XY.out; omega)).ch (ch_sc _ x 0 [.int .i64 s, .int .i64 1, .slice (RecH.la h) (RecH.ln h) (RecH.lc h), .int .i64 a9, .slice (Hd.a (RecH.sk h)) (Hd.n (RecH.sk h)) (Hd.c (RecH.sk h)), .slice (Hd.k (RecH.sk h)) (Hd.m (RecH.sk h)) (Hd.d (RecH.sk h)), .int .u64 sk.g.n, .int .u64 sk.g.nans, .int .u64 sk.g.lo, .int .u64 sk.g.hi, .int .i64 0, .int .i64 0, .string ⟨#[]⟩, .string ⟨#[]⟩, .slice none 0 0, .slice none 0 0, .int .i64 0, .int .i64 0]) (fun k hk e => by have := Y1.out.lt; have := XY.out; omega)).mono (fun k hk => Nat.le_trans L1.out.size hk)
    exact ⟨VS.out, by show (Lit.int .i64 1).wf = true; decide, ⟨q.rl, q.lc, q.lz, q.il, q.wat, q.sk, q.ih, q.ik⟩, seeD_zero _ _ _ _ rfl rfl rfl rfl rfl⟩
  go_wp2_with (first | ((with_reducible show wpList _ _ _ (Oper.mk _ (Op.load 39 _) _ _ _ _ :: _) _ _); refine wpLoad rfl 39 _ rfl y 0 rfl [.int .i64 s, .int .i64 1, .slice (RecH.la h) (RecH.ln h) (RecH.lc h), .int .i64 a9, .slice (Hd.a (RecH.sk h)) (Hd.n (RecH.sk h)) (Hd.c (RecH.sk h)), .slice (Hd.k (RecH.sk h)) (Hd.m (RecH.sk h)) (Hd.d (RecH.sk h)), .int .u64 sk.g.n, .int .u64 sk.g.nans, .int .u64 sk.g.lo, .int .u64 sk.g.hi, .int .i64 0, .int .i64 0, .string ⟨#[]⟩, .string ⟨#[]⟩, .slice none 0 0, .slice none 0 0, .int .i64 0, .int .i64 0] _ RGY.out Tryz.underlying39 rfl info_rec ?_) | ((with_reducible show wpList _ _ _ (Oper.mk _ (Op.store 39 _ _) _ _ _ _ :: _) _ _); refine wpStore rfl 39 _ _ rfl x 0 [.int .i64 s, .int .i64 1, .slice (RecH.la h) (RecH.ln h) (RecH.lc h), .int .i64 a9, .slice (Hd.a (RecH.sk h)) (Hd.n (RecH.sk h)) (Hd.c (RecH.sk h)), .slice (Hd.k (RecH.sk h)) (Hd.m (RecH.sk h)) (Hd.d (RecH.sk h)), .int .u64 sk.g.n, .int .u64 sk.g.nans, .int .u64 sk.g.lo, .int .u64 sk.g.hi, .int .i64 0, .int .i64 0, .string ⟨#[]⟩, .string ⟨#[]⟩, .slice none 0 0, .slice none 0 0, .int .i64 0, .int .i64 0] rfl rfl TX.out info_rec rfl ?_))
  exact ret_box rfl rfl rfl RG.out.2 Tryz.underlying39 rfl info_rec rfl ⟨RG.out.1, (⟨h.la, h.ln, h.lc, h.sk, hm0⟩ : RecH), rfl, SR.out⟩
/-- GetRec answers of these bytes as it should. -/
def GrT (zs : List Int) : Prop := ∀ (a : Option Addr) (n cap : Nat) (w : World), n ≤ cap → Row .u8 w a n zs →
    Calls Tryz.prog 12 #[.slice a n cap] w fun e w' => GotRc (getRc false zs) w e w'
/-- Of a write that lies there: it is read. -/
theorem getRec_one {zs : List Int} {s : Int} {l : List Lb} {a9 : Int} {sk : Sp} (h : getRc false zs = some ⟨s, .write l a9 sk⟩) : GrT zs := by
  intro a n cap w hc hr
  have hl := hr.1
  cases h1 : getS zs 0 with
  | none => rw [getRc_no1 h1] at h; cases h
  | some q1 =>
    obtain ⟨v1, p1⟩ := q1
    cases h2 : getS zs p1 with
    | none => rw [getRc_no2 h1 h2] at h; cases h
    | some q2 =>
      obtain ⟨k, p2⟩ := q2
      rw [getRc_kind h1 h2] at h ⊢
      by_cases hk1 : k = 1
      · subst hk1
        rw [if_pos rfl, getWr_eq] at h ⊢
        cases h3 : getRowS zs p2 with
        | none => rw [h3] at h; cases h
        | some q3 =>
          obtain ⟨l, a9, sk, p3⟩ := q3
          rw [h3] at h
          dsimp only [Option.bind_some] at h ⊢
          by_cases hp : p3 = zs.length
          · rw [if_pos hp]
            exact getRec_r2 a n cap zs w hc hr v1 p1 p2 h1 h2 l a9 sk p3 h3 (by rw [hp, hl])
          · rw [if_neg hp] at h
            cases h
      · rw [if_neg hk1] at h
        by_cases hk2 : k = 2
        · rw [if_pos hk2, getDe_eq] at h
          cases h3 : getTombS false zs p2 with
          | none => rw [h3] at h; cases h
          | some q3 =>
            obtain ⟨m, f, t, p3⟩ := q3
            rw [h3] at h
            dsimp only [Option.bind_some] at h
            split at h
            · cases h
            · cases h
        · rw [if_neg hk2] at h
          cases h
end Go.Proofs.YtknghoecjobkiaaGreatDoor

namespace Go.Proofs.YtknghoecjobkiaaGreatDoor
open Go.RowKit Go.Shelf
set_option maxRecDepth 20000
theorem eql_nil (w : World) (a : Option Addr) (n c n' c' : Nat) : (binOp .eql 40 (.slice a n c) (.slice none n' c')).run Tryz.prog w = .ok (.bool a.isNone) w :=
  Lib.run_eql_slice_nil w _ _ a n c n' c' Tryz.underlying40

set_option maxHeartbeats 400000 in
theorem clone_any (a : Option Addr) (n cap : Nat) (zs : List Int) (w : World) (hr : Row .u8 w a n zs) (hn : n ≤ 140737488355328) :
    Calls Tryz.prog 94 #[.slice a n cap] w fun e w' => ∃ a' cap', e = .returned (.slice a' n cap') ∧ Mine w' w.heap.size a' n cap' zs ∧ Below w.heap.size w w' := by
  obtain ⟨i0, hi, hz0, hz1, hz2⟩ := info_parts Tryz.info5
  have hq := eql_nil
  have hl := hr.1
  cases a with
  | none =>
    have h0 := hr.nz rfl
    subst h0
    have hz : zs = [] := List.length_eq_zero_iff.1 hl
    subst hz
    go_enter Tryz.func94, Tryz.ntmps94
    go_wp2
    go_ret
    exact ⟨none, 0, rfl, own_nil _ _ _ _, Below.refl _ _⟩
  | some ad =>
    have HR := hide (fun o => (hr.alloc o).cells)
    clear hr
    go_enter Tryz.func94, Tryz.ntmps94
    go_wp2_with (at_builtin; refine wpList_append_own _ rfl _ _ 40 rfl w.heap.size 5 i0 (.int .u8 0) 1 1 Tryz.underlying40 hi hz0 hz1 hz2 rfl (by decide) _ _ _ rfl (World.ownsRow_made w #[] 0 (Nat.le_refl _) (Nat.zero_le _) rfl) ad n cap (zs.map (Value.int .u8)) rfl (by simp [hl]) (HR.out _) (one_cell .u8 zs) (by unfold maxLen; omega) (by omega) (by simp) ?_)
    intro v' w' h1 h2 _
    obtain ⟨a', cap', rfl, h3⟩ := own_form h1
    have H3 := hide h3
    have H4 : Hid (Below w.heap.size w w') := ((Below.refl _ w).alloc (Nat.le_refl _) _).grown h2 (by simp) (by intro k hk; simp [Value.ownBlock] at hk; omega)
    clear h1 h2 h3 HR
    go_wp2
    go_ret
    exact ⟨a', cap', rfl, H3, H4⟩

theorem ends_list {xs ys : List Int} {n : Nat} (hx : xs.length = n) (hy : ys.length = n) (h : ∀ j, j < n → xs.getD j 0 = ys.getD j 0) : xs = ys := by
  refine List.ext_getElem (by omega) fun i h1 h2 => ?_
  have := h i (by omega)
  rw [List.getD_eq_getElem?_getD, List.getD_eq_getElem?_getD, List.getElem?_eq_getElem h1, List.getElem?_eq_getElem h2] at this
  simpa using this

set_option maxHeartbeats 2000000 in
set_option maxRecDepth 100000 in
theorem equal_any (a : Option Addr) (n cap : Nat) (xs : List Int) (b : Option Addr) (capb : Nat) (ys : List Int) (w : World) (hr : Row .u8 w a n xs) (hs : Row .u8 w b n ys) :
    Calls Tryz.prog 271 #[.slice a n cap, .slice b n capb] w fun e w' => e = .returned (.bool (decide (xs = ys))) ∧ ∃ q, w' = w.drewN q := by
  have mixed : Tryz.prog.follows .mixedOrders = true := by kernel_rfl
  have hn := hr.2.1
  have HX := hide hr
  have HY := hide hs
  clear hr hs
  go_enter Tryz.func271, Tryz.ntmps271
  go_wp2
  go_loopg [13] n (fun g s13 wr => ∃ k q : Nat, k ≤ n ∧ n - k ≤ g ∧ s13 = .int .i64 k ∧ wr = w.drewN q ∧ Hid (∀ j, j < k → xs.getD j 0 = ys.getD j 0))
  case atStart => exact ⟨0, 0, Nat.zero_le _, by omega, rfl, rfl, fun j hj => absurd hj (Nat.not_lt_zero _)⟩
  case round =>
    obtain ⟨k, q, hk, hg, rfl, rfl, A⟩ := hrel
    by_cases hlt : k < n
    · obtain ⟨_, _, _, h0 | ⟨b1, o1, rfl, hc1⟩⟩ := HX.out
      · omega
      obtain ⟨_, _, _, h0 | ⟨b2, o2, rfl, hc2⟩⟩ := HY.out
      · omega
      have g1 := hc1 k hlt
      have g2 := hc2 k hlt
      clear hc1 hc2
      generalize hxk : xs.getD k 0 = x at g1
      generalize hyk : ys.getD k 0 = y at g2
      have B : Hid (xs.getD k 0 = x ∧ ys.getD k 0 = y) := ⟨hxk, hyk⟩
      clear hxk hyk
      by_cases hxy : x = y
      · subst hxy
        go_wp2_with fail
        go_region_o
        go_wp2
        go_roundg (n - (k + 1))
        case measure => omega
        case rel =>
          refine ⟨k + 1, q + 1, by omega, by omega, by go_num, rfl, fun j hj => ?_⟩
          by_cases e : j = k
          · subst e
            rw [B.out.1, B.out.2]
          · exact A.out j (by omega)
      · go_wp2_with fail
        go_region_o
        go_wp2
        go_ret
        refine ⟨?_, q + 1, rfl⟩
        rw [decide_eq_false (fun e => hxy (by rw [← B.out.1, ← B.out.2, e]))]; rfl
    · have : k = n := by omega
      subst this
      go_wp2
      go_ret
      refine ⟨?_, q, rfl⟩
      rw [decide_eq_true (ends_list HX.out.1 HY.out.1 A.out)]; rfl

/-- The four bytes of a sum, in a block of their own. -/
def four_ (s : Int) : Obj := .cells #[.int .u8 (s % 256), .int .u8 (s / 256 % 256), .int .u8 (s / 65536 % 256), .int .u8 (s / 16777216 % 256)] 5
theorem four_row (w : World) (s : Int) : Row .u8 (w.alloc (four_ s)) (some ⟨w.heap.size, 0, none⟩) 4 (quad s) := by
  refine ⟨rfl, by omega, fun z hz => wf_of_u8 (quad_byte s z hz).1 (quad_byte s z hz).2, Or.inr ⟨w.heap.size, 0, rfl, fun i hi => ?_⟩⟩
  unfold four_
  rw [World.cell?_alloc_mark, Nat.zero_add]
  match i, hi with
  | 0, _ => rfl
  | 1, _ => rfl
  | 2, _ => rfl
  | 3, _ => rfl
  | n + 4, h => omega

set_option maxHeartbeats 400000 in
theorem sumbytes_any (a : Option Addr) (n cap : Nat) (zs : List Int) (w : World) (hr : Row .u8 w a n zs) :
    Calls Tryz.prog 173 #[.slice a n cap] w fun e w' => e = .returned (.slice (some ⟨w.heap.size + 1, 0, none⟩) 4 4) ∧ w' = (w.alloc tbl).alloc (four_ (moreS 0 zs)) := by
  have M := hide (sof_any a n cap zs w hr)
  have hw := moreS_word (s := 0) (by decide) hr.bytes
  clear hr
  generalize moreS 0 zs = s at *
  obtain ⟨s0, s1⟩ := hw
  go_enter Tryz.func173, Tryz.ntmps173
  go_wp2_with fail
  refine M.out.mono ?_
  rintro e w' ⟨rfl, rfl⟩
  go_wp2
  go_ret
  exact ⟨rfl, by unfold four_; rw [show s / 16777216 % 256 = s / 16777216 from by omega]⟩
end Go.Proofs.YtknghoecjobkiaaGreatDoor

namespace Go.Proofs.YtknghoecjobkiaaGreatDoor
open Go.RowKit
set_option maxRecDepth 20000
/-- What find answers. -/
def findE (a : Option Addr) (cap : Nat) (r : Option (Nat × Nat)) : Ending :=
  match r with
  | none => .returned (.tuple #[.slice none 0 0, .int .i64 0, .bool false])
  | some p => .returned (.tuple #[.slice (a.map (·.add p.1)) p.2 (cap - p.1), .int .i64 ((p.1 + p.2 : Nat) : Int), .bool true])

theorem Row.mid {k : IntKind} {w : World} {a : Option Addr} {n cap : Nat} {zs : List Int} (h : Row k w a n zs) (hc : n ≤ cap) (l m : Nat) (hm : 1 ≤ m) (hl : l + m ≤ n) : Row k w (a.map (·.add l)) m ((zs.drop l).take m) := by
  have h1 := (h.from (cap := cap) l (by omega) hc).to m (by omega)
  rwa [if_neg (by omega)] at h1

set_option maxHeartbeats 2000000 in
set_option maxRecDepth 100000 in
theorem find_any (at' : Int) (a : Option Addr) (n cap : Nat) (zs : List Int) (w : World) (ha : (Lit.int .i64 at').wf = true) (hc : n ≤ cap) (hr : Row .u8 w a n zs) :
    Calls Tryz.prog 226 #[.slice a n cap, .int .i64 at'] w fun e w' => e = findE a cap (findS zs at') ∧ Below w.heap.size w w' := by
  have G := hide (get_any at' a n cap zs w ha hc hr)
  have hl := hr.1
  have hn := hr.2.1
  have HZ : Hid (Bytes8 zs) := hr.bytes
  have HR := hide hr
  clear hr ha
  cases hg : getS zs at' with
  | none =>
    have hE : Hid (findE a cap (findS zs at') = .returned (.tuple #[.slice none 0 0, .int .i64 0, .bool false])) := by
      show _ = _
      unfold findS
      rw [hg]; rfl
    rw [hg] at G
    simp only [gotE] at G
    clear hg
    go_enter Tryz.func226, Tryz.ntmps226
    go_wp2_with fail
    refine G.out.mono ?_
    rintro e w' ⟨rfl, rfl⟩
    go_wp2
    go_ret3
    exact ⟨hE.out.symm, Below.refl _ _⟩
  | some p =>
    obtain ⟨v, fr⟩ := p
    rw [hg] at G
    simp only [gotE] at G
    obtain ⟨hw, k, hk, hkn, hfr, hfl, _, _⟩ := getS_some HZ.out hg
    rw [hl] at hkn hfl
    have HS : Hid (findS zs at' = if v < 1 ∨ 1048576 < v ∨ (n : Int) - fr < 4 + v then none else if (zs.drop fr.toNat).take 4 = sumB ((zs.drop (fr.toNat + 4)).take v.toNat) then some (fr.toNat + 4, v.toNat) else none) := by
      show _ = _
      unfold findS
      rw [hg, hl]
    obtain ⟨f, hf⟩ : ∃ f : Nat, fr = f := ⟨_, hfr⟩
    have hfn : f ≤ n := by omega
    obtain ⟨u, hu⟩ := Int.eq_ofNat_of_zero_le hw.1
    subst hf hu
    simp only [Int.toNat_natCast] at HS
    have hu2 : (u : Int) < 18446744073709551616 := hw.2
    clear hg hw hk hkn hfr hfl
    by_cases c1 : u = 0
    · subst c1
      have hE : Hid (findE a cap (findS zs at') = .returned (.tuple #[.slice none 0 0, .int .i64 0, .bool false])) := by
        show _ = _
        rw [HS.out, if_pos (Or.inl (by omega))]; rfl
      clear HS
      go_enter Tryz.func226, Tryz.ntmps226
      go_wp2_with fail
      refine G.out.mono ?_
      rintro e w' ⟨rfl, rfl⟩
      go_wp2
      go_ret3
      exact ⟨hE.out.symm, Below.refl _ _⟩
    by_cases c2 : 1048576 < u
    · have hE : Hid (findE a cap (findS zs at') = .returned (.tuple #[.slice none 0 0, .int .i64 0, .bool false])) := by
        show _ = _
        rw [HS.out, if_pos (Or.inr (Or.inl (by omega)))]; rfl
      clear HS
      have t1 : ((u : Int) == 0) = false := by simp; omega
      have t2 : (1048576 : Int) < u := by omega
      go_enter Tryz.func226, Tryz.ntmps226
      go_wp2_with fail
      refine G.out.mono ?_
      rintro e w' ⟨rfl, rfl⟩
      go_wp2
      go_ret3
      exact ⟨hE.out.symm, Below.refl _ _⟩
    have t1 : ((u : Int) == 0) = false := by simp; omega
    have t2 : ¬ ((1048576 : Int) < u) := by omega
    by_cases c3 : n < f + (4 + u)
    · have hE : Hid (findE a cap (findS zs at') = .returned (.tuple #[.slice none 0 0, .int .i64 0, .bool false])) := by
        show _ = _
        rw [HS.out, if_pos (Or.inr (Or.inr (by omega)))]; rfl
      clear HS
      have t3 : (n : Int) - f < 4 + u := by omega
      have v1 : (1 : Int) ≤ u := by omega
      clear c3 c2 c1 hl HZ HR
      generalize (u : Int) = v at *
      go_enter Tryz.func226, Tryz.ntmps226
      go_wp2_with fail
      refine G.out.mono ?_
      rintro e w' ⟨rfl, rfl⟩
      go_wp2
      go_ret3
      exact ⟨hE.out.symm, Below.refl _ _⟩
    have t3 : ¬ ((n : Int) - f < 4 + u) := by omega
    have RB := hide (HR.out.mid hc (f + 4) u (by omega) (by omega))
    have RQ := hide (HR.out.mid hc f 4 (by omega) (by omega))
    have f1 := slice_mid a n cap (f + 4) (f + 4 + u) (by omega) (by omega)
    have f2 := slice_mid a n cap f (f + 4) (by omega) (by omega)
    rw [if_neg (by omega), show f + 4 + u - (f + 4) = u from by omega] at f1
    rw [if_neg (by omega), show f + 4 - f = 4 from by omega] at f2
    rw [show ((f + 4 + u : Nat) : Int) = (f : Int) + 4 + u from rfl, show ((f + 4 : Nat) : Int) = (f : Int) + 4 from rfl] at f1
    rw [show ((f + 4 : Nat) : Int) = (f : Int) + 4 from rfl] at f2
    rw [if_neg (by omega)] at HS
    unfold sumB at HS
    generalize (zs.drop (f + 4)).take u = bs at *
    generalize (zs.drop f).take 4 = qs at *
    have S := hide (sumbytes_any (a.map (·.add (f + 4))) u (cap - (f + 4)) bs w.drew RB.out.drew)
    have E := hide (equal_any (a.map (·.add f)) 4 (cap - f) qs (some ⟨w.heap.size + 1, 0, none⟩) 4 (quad (moreS 0 bs)) ((w.drew.alloc tbl).alloc (four_ (moreS 0 bs))) ((RQ.out.drew.alloc tbl).alloc _) (by
      have := four_row (w.drew.alloc tbl) (moreS 0 bs)
      rw [World.size_alloc] at this
      exact this))
    have HB : Hid (∀ q, Below w.heap.size w (((w.drew.alloc tbl).alloc (four_ (moreS 0 bs))).drewN q)) := fun q => by
      have h : Below w.heap.size w ((w.drew.alloc tbl).alloc (four_ (moreS 0 bs))) := bel_al (bel_al (Below.refl w.heap.size w).drew (Nat.le_refl _) _) (Nat.le_refl _) _
      exact ⟨h.os, h.tape, h.output, h.size, h.block⟩
    have HQ : Hid (∀ eb, decide (qs = quad (moreS 0 bs)) = eb → findE a cap (findS zs at') = if eb then .returned (.tuple #[.slice (a.map (·.add (f + 4))) u (cap - (f + 4)), .int .i64 ((f : Int) + 4 + u), .bool true]) else .returned (.tuple #[.slice none 0 0, .int .i64 0, .bool false])) := by
      rintro eb rfl
      rw [HS.out]
      by_cases e : qs = quad (moreS 0 bs)
      · rw [if_pos e, decide_eq_true e]; rfl
      · rw [if_neg e, decide_eq_false e]; rfl
    clear HS RB RQ HR HZ
    obtain ⟨eb, heb⟩ : ∃ eb, decide (qs = quad (moreS 0 bs)) = eb := ⟨_, rfl⟩
    rw [heb] at E
    have HE := hide (HQ.out eb heb)
    clear heb HQ
    generalize (a.map (·.add (f + 4))) = ab at *
    generalize (a.map (·.add f)) = aq at *
    obtain ⟨cb, hcb⟩ : ∃ cb, cap - (f + 4) = cb := ⟨_, rfl⟩
    obtain ⟨cq, hcq⟩ : ∃ cq, cap - f = cq := ⟨_, rfl⟩
    rw [hcb] at f1 S HE
    rw [hcq] at f2 E
    clear hcb hcq
    have ht : True := trivial
    have v1 : (1 : Int) ≤ u := by omega
    generalize (u : Int) = v at *
    clear c3 c1 c2 hl hc
    go_enter Tryz.func226, Tryz.ntmps226
    go_wp2_with fail
    refine G.out.mono ?_
    rintro e w' ⟨rfl, rfl⟩
    go_upto_region 10 with fail
    refine wp_region_held_drew (S := fun _ => True) (by kernel_rfl) trivial (fun hHeld => ?_)
    refine held_tk 0 (some 49) rfl rfl ?_
    refine held_tk 1 (some 50) rfl rfl ?_
    refine held_tk 2 (some 51) rfl rfl ?_
    refine held_tk 3 (some 52) rfl rfl ?_
    refine held_tk 4 (some 53) rfl rfl ?_
    refine held_next (i := 5) (by kernel_rfl) rfl (by rfl) (fun K hK => ?_)
    go_simp
    refine S.out.mono ?_
    rintro e x1 ⟨rfl, rfl⟩
    go_wp2_with fail
    refine hK.out _ _ trivial ?_
    clear hK S
    refine held_next (i := 6) (by kernel_rfl) rfl (by rfl) (fun K hK => ?_)
    go_simp
    refine E.out.mono ?_
    rintro e x2 ⟨rfl, q, rfl⟩
    have HBq := hide (HB.out q)
    clear HB E
    generalize ((w'.drew.alloc tbl).alloc (four_ (moreS 0 bs))).drewN q = W at *
    go_wp2_with fail
    refine hK.out _ _ trivial ?_
    clear hK
    refine held_tk 7 (some 56) rfl rfl ?_
    refine wpAnyH_done (by kernel_rfl) ?_ _
    cases eb with
    | true =>
      go_wp2
      go_ret3
      exact ⟨HE.out.symm, HBq⟩
    | false =>
      go_wp2
      go_ret3
      exact ⟨HE.out.symm, HBq⟩

/-- What Get answers, but for the body. -/
def getFP (zs : List Int) (n : Nat) (at' : Int) (base : Nat) (w' : World) (e : Ending) : Prop :=
  if at' < 0 ∨ (n : Int) < at' then e = .returned (.tuple #[.slice none 0 0, .int .i64 0, .int .i64 1])
  else if at' = n then e = .returned (.tuple #[.slice none 0 0, .int .i64 0, .int .i64 3])
  else match findS zs at' with
    | none => e = .returned (.tuple #[.slice none 0 0, .int .i64 0, .int .i64 4])
    | some p => ∃ a' cap', e = .returned (.tuple #[.slice a' p.2 cap', .int .i64 ((p.1 + p.2 : Nat) : Int), .int .i64 0]) ∧ Mine w' base a' p.2 cap' ((zs.drop p.1).take p.2)

set_option maxHeartbeats 2000000 in
set_option maxRecDepth 100000 in
theorem getframe_any (at' : Int) (a : Option Addr) (n cap : Nat) (zs : List Int) (w : World) (ha : (Lit.int .i64 at').wf = true) (hc : n ≤ cap) (hr : Row .u8 w a n zs) :
    Calls Tryz.prog 168 #[.slice a n cap, .int .i64 at'] w fun e w' => getFP zs n at' w.heap.size w' e ∧ Below w.heap.size w w' := by
  have hl := hr.1
  have hn := hr.2.1
  have HZ : Hid (Bytes8 zs) := hr.bytes
  have HR := hide hr
  have F := hide (find_any at' a n cap zs w ha hc hr)
  clear hr ha
  by_cases c1 : at' < 0
  · have HE : Hid (∀ w' e, e = .returned (.tuple #[.slice none 0 0, .int .i64 0, .int .i64 1]) → getFP zs n at' w.heap.size w' e) := by
      rintro w' e rfl; unfold getFP; rw [if_pos (Or.inl c1)]
    go_enter Tryz.func168, Tryz.ntmps168
    go_wp2
    go_ret3
    exact ⟨HE.out _ _ rfl, Below.refl _ _⟩
  by_cases c2 : (n : Int) < at'
  · have HE : Hid (∀ w' e, e = .returned (.tuple #[.slice none 0 0, .int .i64 0, .int .i64 1]) → getFP zs n at' w.heap.size w' e) := by
      rintro w' e rfl; unfold getFP; rw [if_pos (Or.inr c2)]
    go_enter Tryz.func168, Tryz.ntmps168
    go_wp2
    go_ret3
    exact ⟨HE.out _ _ rfl, Below.refl _ _⟩
  by_cases c3 : at' = n
  · have HE : Hid (∀ w' e, e = .returned (.tuple #[.slice none 0 0, .int .i64 0, .int .i64 3]) → getFP zs n at' w.heap.size w' e) := by
      rintro w' e rfl; unfold getFP; rw [if_neg (by omega), if_pos c3]
    have c4 : (at' == (n : Int)) = true := by simp [c3]
    clear c3
    go_enter Tryz.func168, Tryz.ntmps168
    go_wp2
    go_ret3
    exact ⟨HE.out _ _ rfl, Below.refl _ _⟩
  have c4 : (at' == (n : Int)) = false := by simp [c3]
  have HG : Hid (getFP zs n at' = fun base w' e => match findS zs at' with
    | none => e = .returned (.tuple #[.slice none 0 0, .int .i64 0, .int .i64 4])
    | some p => ∃ a' cap', e = .returned (.tuple #[.slice a' p.2 cap', .int .i64 ((p.1 + p.2 : Nat) : Int), .int .i64 0]) ∧ Mine w' base a' p.2 cap' ((zs.drop p.1).take p.2)) := by
    funext base w' e
    unfold getFP; rw [if_neg (by omega), if_neg c3]
  clear c3
  cases hf : findS zs at' with
  | none =>
    rw [hf] at F
    simp only [findE] at F
    have HE : Hid (∀ w' e, e = .returned (.tuple #[.slice none 0 0, .int .i64 0, .int .i64 4]) → getFP zs n at' w.heap.size w' e) := by
      rintro w' e rfl; rw [HG.out]; simp only [hf]
    clear hf HG
    go_enter Tryz.func168, Tryz.ntmps168
    go_wp2_with fail
    refine F.out.mono ?_
    rintro e w1 ⟨rfl, k1⟩
    go_wp2
    go_ret3
    exact ⟨HE.out _ _ rfl, k1⟩
  | some p =>
    obtain ⟨st, v⟩ := p
    obtain ⟨h1, h2, h3, _⟩ := findS_some HZ.out hf
    rw [hl] at h3
    rw [hf] at F
    simp only [findE] at F
    have RB := hide (HR.out.mid hc st v h1 h3)
    have HE : Hid (∀ w' e a' cap', e = .returned (.tuple #[.slice a' v cap', .int .i64 ((st + v : Nat) : Int), .int .i64 0]) → Mine w' w.heap.size a' v cap' ((zs.drop st).take v) → getFP zs n at' w.heap.size w' e) := by
      intro w' e a' cap' he ho; rw [HG.out]; simp only [hf]; exact ⟨a', cap', he, ho⟩
    clear hf HG HR HZ
    generalize (zs.drop st).take v = bs at *
    generalize (a.map (·.add st)) = ab at *
    generalize cap - st = cb at *
    generalize ((st + v : Nat) : Int) = nx at *
    go_enter Tryz.func168, Tryz.ntmps168
    go_wp2_with fail
    refine F.out.mono ?_
    rintro e w1 ⟨rfl, k1⟩
    have C := hide (clone_any ab v cb bs w1 (RB.out.below k1 (Nat.le_refl _)) (by omega))
    have K1 := hide k1
    clear k1 F RB
    go_wp2_with fail
    refine C.out.mono ?_
    rintro e w2 ⟨a2, c2, rfl, o2, k2⟩
    have O2 : Hid (Mine w2 w.heap.size a2 v c2 bs) := o2.mono K1.out.size
    have K2 : Hid (Below w.heap.size w w2) := bel_to K1.out (Nat.le_refl _) k2
    clear o2 k2 C
    go_wp2
    go_ret3
    exact ⟨HE.out _ _ a2 c2 rfl O2, K2⟩

end Go.Proofs.YtknghoecjobkiaaGreatDoor
