/-
  Texts of bytes, sums of texts, which numbers fit. Bytes of a row behind bytes of the call's own; when a list rises, told place by place. The document's own answers (the laws' reference): a number's bytes, and a number got by the reader that keeps its place in memory: contracts, for every world. A new reader. The document's own answers on lists that rise: a list's bytes: a contract, for every world. How many things follow, by the reader: a contract, for every world. A list that rises, by the reader: a contract, for every world. The laws' own copy of bytes in new memory: a contract, for every world.
  Conditions: the lengths are below 2^48; the slices show their bytes and numbers; there is room for them; the number is a word of 64 bits; the reader's bytes lie in memory older than itself; none; there is room for the bytes; the reader's bytes lie in memory older than itself; the reader's bytes lie in memory older than itself, no more than 1048576 of them; the slice shows its bytes, no more than 2^47.
-/
import Derived.Test.YtadcaonkmncgoaaGreatBytA
import Derived.Laws.Concat
import Derived.Laws.AppendOwnNone
import Derived.Test.YtadcaonkmncgoaaGreatVintL
import Derived.BigRegion
import Derived.Deep.RegionHeld3
import Derived.Deep.CutRange
import Derived.WalkLawsBesides
import Derived.Test.YtadcaonkmncgoaaGreatVintR
namespace Go.Proofs.YtadcaonkmncgoaaGreat
open Go.RowKit
set_option maxRecDepth 20000

theorem fits_wf {zs : List Int} (h : Bytes8 zs) : ∀ z ∈ zs, (Lit.int .u8 z).wf = true := fun z hz => wf_of_u8 (h z hz).1 (h z hz).2
theorem words_wf {zs : List Int} (h : ∀ z ∈ zs, W64 z) : ∀ z ∈ zs, (Lit.int .u64 z).wf = true := fun z hz => wf_of_u64 (h z hz)
theorem mine_string {w : World} {base n cap : Nat} {a : Option Addr} {zs : List Int} (h : Mine w base a n cap zs) (hn : n ≤ 281474976710656) (hz : Bytes8 zs) :
    (convert 29 9 (.slice a n cap)).run Tryz.prog w = .ok (.string (strOfNums zs)) w := row_string (h.row hn (fits_wf hz))
theorem Own.row8 {e : TypeId} {w : World} {base n cap : Nat} {a : Option Addr} {zs : List Int} (h : Own e .u8 w base a n cap zs) (hn : n ≤ 281474976710656) (hz : Bytes8 zs) : Row .u8 w a n zs := h.row hn (fits_wf hz)
theorem add_str (xs ys : List Int) (h : xs.length + ys.length ≤ 281474976710656) (w : World) :
    (Op.stringOp .add (strOfNums xs) (strOfNums ys)).run Tryz.prog w = .ok (.string (strOfNums (xs ++ ys))) w := by
  rw [run_string_add_sum (P := Tryz.prog) w _ _ (by rw [strOfNums_size, strOfNums_size]; omega), strOf_append]
end Go.Proofs.YtadcaonkmncgoaaGreat

namespace Go.Proofs.YtadcaonkmncgoaaGreat
open Go.RowKit
set_option maxRecDepth 20000

/-- The append of a row's bytes, of none too, behind bytes of the call's own. -/
theorem wpList_append_row {P : Program} (w : World) {ops : Array Oper} {rest : List Oper} {o : Oper} {a : Act} {Q : Exit → Act → World → Prop} (hgd : o.guard = none) (s x : Operand) (t : TypeId)
    (ho : o.op = .call { callee := .builtin .append, args := #[s, x], argTypes := #[t, t] })
    (base : Nat) (e : TypeId) (i : TypeInfo) (ht : P.underlying t = some (.slice e)) (hi : P.info? e = some i) (hz : i.zero = some (.int .u8 0)) (hsize : i.size = 1) (hby : i.bytes = 1)
    (ao : Option Addr) (n cap : Nat) (zs : List Int) (hs : a.eval s = .slice ao n cap) (hown : Own e .u8 w base ao n cap zs)
    (bo : Option Addr) (m c : Nat) (news : List Int) (hx : a.eval x = .slice bo m c) (hrow : Row .u8 w bo m news) (hbo : bo = none → c = 0)
    (hbytes : n + m ≤ 140737488355328) (hbase : base ≤ w.heap.size)
    (h : ∀ a' cap' w', Own e .u8 w' base a' (n + m) cap' (zs ++ news) → Below base w w' → wpList P ops Q rest (a.put o.dst (.slice a' (n + m) cap')) w') : wpList P ops Q (o :: rest) a w := by
  cases bo with
  | none =>
    have h0 := hrow.nz rfl
    subst h0
    obtain rfl := hbo rfl
    have hz : news = [] := List.length_eq_zero_iff.1 hrow.1
    subst hz
    refine wpList_append_own_none hgd s x t ho base e i 1 ht hi _ n (zs.map (Value.int .u8)) hs hown hx ?_
    have := h ao cap w (by rw [List.append_nil]; exact hown) (Below.refl _ _)
    exact this
  | some ad =>
    refine wpList_append_own w hgd s x t ho base e i (.int .u8 0) 1 1 ht hi hz hsize hby rfl (by decide) _ n (zs.map (Value.int .u8)) hs hown ad m c (news.map (Value.int .u8)) hx (by simp [hrow.1]) hrow.cells (one_cell .u8 news) (by unfold maxLen; omega) (by omega) hbase ?_
    intro v' w' h1 h2 _
    rw [← List.map_append] at h1
    obtain ⟨a', cap', rfl, h3⟩ := own_form h1
    exact h a' cap' w' h3 ((Below.refl _ _).grown h2 hbase (own_block hown))

/-- Up to place k each is above the one ahead. -/
def RisesTo (l : List Int) (k : Nat) : Prop := ∀ j, j + 1 < k → l.getD j 0 < l.getD (j + 1) 0

theorem risesTo_one (l : List Int) : RisesTo l 1 := fun j hj => by omega
theorem risesTo_succ {l : List Int} {k : Nat} : RisesTo l (k + 1 + 1) ↔ RisesTo l (k + 1) ∧ l.getD k 0 < l.getD (k + 1) 0 := by
  constructor
  · intro h
    exact ⟨fun j hj => h j (by omega), h k (by omega)⟩
  · rintro ⟨h, h1⟩ j hj
    by_cases e : j = k
    · subst e; exact h1
    · exact h j (by omega)

theorem rises_tail (p : Int) (l : List Int) : Rises p l ↔ (l = [] ∨ p < l.getD 0 0) ∧ RisesTo l l.length := by
  induction l generalizing p with
  | nil => simp [Rises, RisesTo]
  | cons x t ih =>
    simp only [Rises]
    rw [ih x]
    constructor
    · rintro ⟨h1, h2, h3⟩
      refine ⟨Or.inr (by simpa using h1), ?_⟩
      intro j hj
      cases j with
      | zero =>
        rcases h2 with rfl | h2
        · simp at hj
        · simpa using h2
      | succ j =>
        have := h3 j (by simp at hj; omega)
        simpa using this
    · rintro ⟨h1, h2⟩
      refine ⟨by simpa using h1, ?_, ?_⟩
      · cases t with
        | nil => exact Or.inl rfl
        | cons y t => exact Or.inr (by have := h2 0 (by simp); simpa using this)
      · intro j hj
        have := h2 (j + 1) (by simp; omega)
        simpa using this

theorem rises_iff {l : List Int} (hw : ∀ z ∈ l, W64 z) (k : Nat) (hk : l.length ≤ k) (hk1 : k ≤ l.length ∨ k = 1) : Rises (-1) l ↔ RisesTo l k := by
  rw [rises_tail]
  have h0 : l = [] ∨ (-1 : Int) < l.getD 0 0 := by
    cases l with
    | nil => exact Or.inl rfl
    | cons x t => exact Or.inr (by have := (hw x (by simp)).1; simp; omega)
  constructor
  · rintro ⟨_, h⟩ j hj
    exact h j (by omega)
  · intro h
    exact ⟨h0, fun j hj => h j (by omega)⟩
end Go.Proofs.YtadcaonkmncgoaaGreat

namespace Go.Proofs.YtadcaonkmncgoaaGreat
open Go.RowKit
set_option maxRecDepth 20000

set_option maxHeartbeats 1000000 in
theorem refput_any (v : Int) (w : World) (hv : W64 v) :
    Calls Tryz.prog 51 #[.int .u64 v] w fun e w' => ∃ a' cap', e = .returned (.slice a' (putS v).length cap') ∧ Mine w' w.heap.size a' (putS v).length cap' (putS v) ∧ Below w.heap.size w w' := by
  obtain ⟨i0, hi, hz0, hz1, hz2⟩ := info_parts Tryz.info5
  have HV : Hid (v < 2 * 128 ^ 9) := (w64_two.2 hv).2
  obtain ⟨v0, v1⟩ := hv
  go_enter Tryz.func51, Tryz.ntmps51
  go_wp2
  go_loopw [3, 0] (fun b x wr => ∃ (ar : Option Addr) (nr capr : Nat) (pre : List Int) (f : Nat) (u : Int), b = .slice ar nr capr ∧ x = .int .u64 u ∧ 0 ≤ u ∧ u ≤ 18446744073709551615 ∧ nr ≤ 9 ∧ f ≤ 9 ∧ Hid (nr = pre.length ∧ pre.length + f = 9 ∧ u < 2 * 128 ^ f ∧ putS v = pre ++ putF f u) ∧ Hid (Mine wr w.heap.size ar nr capr pre) ∧ Hid (Below w.heap.size w wr)) (fun _ x _ => (intOf x).toNat)
  case atStart => exact ⟨none, 0, 0, [], 9, v, rfl, rfl, v0, by omega, by omega, by omega, ⟨rfl, rfl, HV.out, rfl⟩, own_nil _ _ _ _, Below.refl _ _⟩
  case round =>
    obtain ⟨ar, nr, capr, pre, f, u, rfl, rfl, u0, u1, hnr, hf, HP, HR, HW⟩ := hrel
    by_cases hu : u < 128
    · have e1 : u % 256 = u := by omega
      have HO := hide (one_row (k := .u8) wr u (wf_of_u8 u0 (by omega)) 5 (0, 0))
      have HSA : Hid (Src 5 .u8 (wr.alloc (.cells #[.int .u8 u] 5)) w.heap.size ar nr capr pre) := Or.inl (HR.out.alloc _)
      have HBW : Hid (w.heap.size ≤ (wr.alloc (.cells #[.int .u8 u] 5)).heap.size) := by
        have := HW.out.size
        show _ ≤ _
        simp; omega
      go_wp2_with (at_builtin; refine wpList_append_one _ rfl _ _ 29 rfl w.heap.size 5 i0 Tryz.underlying29 hi hz0 hz1 hz2 ar nr capr _ rfl HSA.out _ 1 u rfl HO.out (by omega) HBW.out ?_)
      intro a' cap' w' h1 h2
      have HF : Hid (nr + 1 = (putS v).length ∧ pre ++ [u] = putS v ∧ Below w.heap.size w w') := by
        obtain ⟨p1, p2, p3, p4⟩ := HP.out
        refine ⟨?_, ?_, (HW.out.alloc HW.out.size _).trans h2⟩
        · rw [p4, putF_one hu, List.length_append, List.length_singleton]; omega
        · rw [p4, putF_one hu]
      have H1 := hide h1
      clear h1 h2 HP HR HW HSA HO HBW
      go_wp2
      go_ret
      rw [HF.out.1, HF.out.2.1] at H1
      rw [HF.out.1]
      exact ⟨a', cap', rfl, H1, HF.out.2.2⟩
    · have HO := hide (one_row (k := .u8) wr (u % 128 + 128) (wf_of_u8 (by omega) (by omega)) 5 (0, 0))
      have hmod : u % 128 % 256 = u % 128 := by omega
      have HSA : Hid (Src 5 .u8 (wr.alloc (.cells #[.int .u8 (u % 128 + 128)] 5)) w.heap.size ar nr capr pre) := Or.inl (HR.out.alloc _)
      have HBW : Hid (w.heap.size ≤ (wr.alloc (.cells #[.int .u8 (u % 128 + 128)] 5)).heap.size) := by
        have := HW.out.size
        show _ ≤ _
        simp; omega
      go_wp2_with (at_builtin; refine wpList_append_one _ rfl _ _ 29 rfl w.heap.size 5 i0 Tryz.underlying29 hi hz0 hz1 hz2 ar nr capr _ rfl HSA.out _ 1 (u % 128 + 128) rfl HO.out (by omega) HBW.out ?_)
      intro a' cap' w' h1 h2
      have HF : Hid (∃ f', f = f' + 1 ∧ nr + 1 = (pre ++ [u % 128 + 128]).length ∧ (pre ++ [u % 128 + 128]).length + f' = 9 ∧ u / 128 < 2 * 128 ^ f' ∧ putS v = (pre ++ [u % 128 + 128]) ++ putF f' (u / 128) ∧ Below w.heap.size w w') := by
        obtain ⟨p1, p2, p3, p4⟩ := HP.out
        cases f with
        | zero => simp at p3; omega
        | succ f =>
          refine ⟨f, rfl, by simp; omega, by simp; omega, ?_, ?_, (HW.out.alloc HW.out.size _).trans h2⟩
          · rw [pw_succ] at p3; omega
          · rw [p4, putF_more (by omega), List.append_assoc]; rfl
      have H1 := hide h1
      clear h1 h2 HR HW HSA HO HBW
      go_wp2
      go_roundw
      case rel =>
        obtain ⟨f', e1, e2, e3, e4, e5, e6⟩ := HF.out
        refine ⟨a', nr + 1, cap', pre ++ [u % 128 + 128], f', u / 128, rfl, by go_num, by omega, by omega, by omega, by omega, ⟨e2, e3, e4, e5⟩, H1, e6⟩
      case measure => simp [intOf]; omega

/-- The reader, as a block of memory. -/
def RB (w : World) (g : Nat) (a : Option Addr) (n cap : Nat) (p : Int) (bad : Bool) : Prop :=
  w.heap[g]? = some (.cells #[.slice a n cap, .int .i64 p, .bool bad] 40 (0, 0))

/-- One block alone may have turned. -/
structure Only (g : Nat) (w w' : World) : Prop where
  os : w'.os = w.os
  tape : w'.tape = w.tape
  output : w'.output = w.output
  size : w'.heap.size = w.heap.size
  block : ∀ k, k ≠ g → w'.heap[k]? = w.heap[k]?

theorem Only.refl (g : Nat) (w : World) : Only g w w := ⟨rfl, rfl, rfl, rfl, fun _ _ => rfl⟩
theorem Only.drew {g : Nat} {a w : World} (h : Only g a w) : Only g a w.drew := ⟨h.os, h.tape, h.output, h.size, h.block⟩
theorem Only.setCell {g : Nat} {a w : World} (h : Only g a w) (o : Nat) (v : Value) : Only g a (w.setCell ⟨g, o, none⟩ v) :=
  ⟨h.os, h.tape, h.output, by rw [← h.size]; simp [World.setCell], fun k hk => by rw [Below.heap_setCell w _ v k hk]; exact h.block k hk⟩
theorem Only.below {g B : Nat} {w w' : World} (h : Only g w w') (hB : B ≤ g) : Below B w w' :=
  ⟨h.os, h.tape, h.output, by rw [h.size]; exact Nat.le_refl _, fun k hk => h.block k (by omega)⟩

theorem RB.cell {w : World} {g : Nat} {a : Option Addr} {n cap : Nat} {p : Int} {bad : Bool} (h : RB w g a n cap p bad) :
    w.cell? ⟨g, 0, none⟩ = some (.slice a n cap) ∧ w.cell? ⟨g, 1, none⟩ = some (.int .i64 p) ∧ w.cell? ⟨g, 2, none⟩ = some (.bool bad) ∧ ∀ o, w.frozen? ⟨g, o, none⟩ = false := by
  unfold RB at h
  refine ⟨?_, ?_, ?_, fun o => ?_⟩
  · simp [World.cell?, h]
  · simp [World.cell?, h]
  · simp [World.cell?, h]
  · simp [World.frozen?, h]
theorem RB.drew {w : World} {g : Nat} {a : Option Addr} {n cap : Nat} {p : Int} {bad : Bool} (h : RB w g a n cap p bad) : RB w.drew g a n cap p bad := h
theorem RB.place {w : World} {g : Nat} {a : Option Addr} {n cap : Nat} {p : Int} {bad : Bool} (h : RB w g a n cap p bad) (q : Int) : RB (w.setCell ⟨g, 1, none⟩ (.int .i64 q)) g a n cap q bad := by
  unfold RB at *
  simp [World.setCell, Array.getElem?_modify, h]
theorem RB.spoil {w : World} {g : Nat} {a : Option Addr} {n cap : Nat} {p : Int} {bad : Bool} (h : RB w g a n cap p bad) : RB (w.setCell ⟨g, 2, none⟩ (.bool true)) g a n cap p true := by
  unfold RB at *
  simp [World.setCell, Array.getElem?_modify, h]

/-- What the reader's Num leaves. -/
def NumP (g : Nat) (a : Option Addr) (n cap : Nat) (r : Option (Int × Int)) (w w' : World) (e : Ending) : Prop :=
  Only g w w' ∧ match r with
  | none => e = .returned (.int .u64 0) ∧ ∃ p', RB w' g a n cap p' true
  | some q => e = .returned (.int .u64 q.1) ∧ RB w' g a n cap q.2 false

set_option maxRecDepth 100000 in
set_option maxHeartbeats 2000000 in
theorem num_any (p : Int) (g : Nat) (a : Option Addr) (n cap : Nat) (zs : List Int) (w0 w : World) (hp : (Lit.int .i64 p).wf = true) (hr : Row .u8 w0 a n zs) (hg : w0.heap.size ≤ g) (hb : Below w0.heap.size w0 w) (hrb : RB w g a n cap p false) :
    Calls Tryz.prog 53 #[.pointer (some ⟨g, 0, none⟩)] w fun e w' => NumP g a n cap (getS zs p) w w' e := by
  obtain ⟨a0, a1⟩ := i64_of_wf hp
  have hl := hr.1
  have hn := hr.2.1
  clear hp
  by_cases h0 : 0 ≤ p ∧ p < n
  · obtain ⟨k, rfl⟩ := Int.eq_ofNat_of_zero_le h0.1
    have hkn : k < n := by omega
    have hS : Hid (getS zs (k : Int) = (getA 0 0 (zs.drop k)).map fun p => (p.1, (k : Int) + p.2)) := by
      show _ = _
      unfold getS
      rw [if_pos (by omega)]
      rfl
    have HR := hide hr
    have HLN := hide hl
    have HB := hide hb
    have HRB := hide hrb
    clear hr hl hb hrb h0 a0 a1
    go_enter Tryz.func53, Tryz.ntmps53
    go_wp2
    go_loopw [3, 4] (fun x i wr => ∃ (j t : Nat) (V : Int), t = k + j ∧ t ≤ n ∧ j ≤ 9 ∧ i = .int .i64 j ∧ x = .int .u64 V ∧ 0 ≤ V ∧ Hid (V < 2 ^ (7 * j)) ∧ Hid (getA 0 0 (zs.drop k) = getA j V (zs.drop t)) ∧ Hid (RB wr g a n cap (t : Int) false) ∧ Hid (Only g w wr)) (fun _ i _ => 10 - (intOf i).toNat)
    case atStart => exact ⟨0, k, 0, by omega, by omega, by omega, rfl, rfl, by omega, by show _ < _; decide, rfl, HRB, Only.refl _ _⟩
    case round =>
      obtain ⟨j, t, V, htj, htn, hj9, rfl, rfl, V0, V1, HG, HRW, HO⟩ := hrel
      clear HRB
      have HT := hide htj
      obtain ⟨c0, c1, c2, cf⟩ := HRW.out.cell
      have cf1 := cf 1
      have cf2 := cf 2
      clear cf htj
      have hb' : Below w0.heap.size w0 wr := HB.out.trans (HO.out.below hg)
      by_cases hlt : t < n
      · have hrow := HR.out.below hb' (Nat.le_refl _)
        have hz := hrow.byte t
        have HD := hide (show getA 0 0 (zs.drop k) = getA j V (zs.getD t 0 :: zs.drop (t + 1)) by
          rw [HG.out, List.drop_eq_getElem_cons (by rw [HLN.out]; omega), List.getD_eq_getElem?_getD, List.getElem?_eq_getElem (by rw [HLN.out]; omega)]
          rfl)
        obtain ⟨_, _, _, h0 | ⟨b, off, rfl, hcell⟩⟩ := hrow
        · omega
        have hck := hcell t hlt
        clear hcell HG
        generalize zs.getD t 0 = z at *
        obtain ⟨z0, z1⟩ := hz
        have RP := hide ((HRW.out.place ((t : Int) + 1)).drew.drew)
        have OP := hide ((HO.out.setCell 1 (.int .i64 ((t : Int) + 1))).drew.drew)
        have i1 : (0 : Int) ≤ (t : Int) := by omega
        have i2 : (t : Int) < (n : Int) := by omega
        clear HRW HO hb'
        go_wp2
        go_region_held3 (fun w' => w'.cell? ⟨g, 0, none⟩ = some (.slice (some ⟨b, off, none⟩) n cap) ∧ w'.cell? ⟨g, 1, none⟩ = some (.int .i64 (t : Int)) ∧ w'.cell? ⟨g, 2, none⟩ = some (.bool false)) (go_keep) (fail)
        go_wp2
        go_region_held3 (fun w' => w'.cell? ⟨g, 0, none⟩ = some (.slice (some ⟨b, off, none⟩) n cap) ∧ w'.cell? ⟨g, 1, none⟩ = some (.int .i64 (t : Int)) ∧ w'.cell? ⟨b, off + t, none⟩ = some (.int .u8 z)) (go_keep) (fail)
        go_upto_region 10 with fail
        generalize (wr.setCell ⟨g, 1, none⟩ (.int .i64 ((t : Int) + 1))).drew.drew = W at RP OP ⊢
        clear c0 c1 c2 cf1 cf2 hck
        obtain ⟨_, _, c2, cf⟩ := RP.out.cell
        have cf2 := cf 2
        have RS := hide RP.out.spoil
        have OS := hide (OP.out.setCell 2 (.bool true))
        clear cf
        obtain ⟨t9, ht9⟩ : ∃ t9, ((j : Int) == 9) = t9 := ⟨_, rfl⟩
        obtain ⟨tz, htz⟩ : ∃ tz, (z == 0) = tz := ⟨_, rfl⟩
        by_cases q1 : j = 9 ∧ 1 < z
        · have hE : Hid (getS zs (k : Int) = none) := by
            show _ = _
            rw [hS.out, HD.out, getA, if_pos q1]
            rfl
          have h9 : t9 = true := by rw [← ht9]; simp; omega
          subst h9
          have q2 := q1.2
          clear q1 htz V1
          go_wp2
          go_ret
          rw [hE.out]
          exact ⟨OS.out, rfl, _, RS.out⟩
        · obtain ⟨X, x1, x2, x3, x4, x5⟩ := or_step j (by omega) V0 V1.out (c := z % 128) (by omega) (by omega) (by omega)
          have e5 : X = V + z % 128 * 2 ^ (7 * j) := by rw [x5, pw_two]
          have em : 0 ≤ z % 128 * 2 ^ (7 * j) := Int.mul_nonneg (by omega) (Int.le_of_lt (Int.pow_pos (by decide)))
          have hw64 : IntKind.u64.wrap (z % 128 * 2 ^ (7 * j)) = X - V := by
            rw [IntKind.wrap_u64]; omega
          clear e5 em
          have hadd : V + (X - V) = X := by omega
          have xv : 0 ≤ X - V := by
            rw [x5]
            have : 0 ≤ z % 128 * 128 ^ j := Int.mul_nonneg (by omega) (by have := pw_pos j; omega)
            omega
          clear x1
          by_cases q2 : 128 ≤ z
          · have HX : Hid (getA 0 0 (zs.drop k) = getA (j + 1) X (zs.drop (t + 1))) := by
              show _ = _
              rw [HD.out, getA, if_neg q1, if_pos q2, x5]
            have HX4 := hide x4
            have h9 : t9 = false := by rw [← ht9]; simp; omega
            have hj8 : j < 9 := by omega
            subst h9
            clear x5 x4 HD V1 htz RS OS
            go_wp2
            refine ⟨⟨j + 1, t + 1, X, by rw [HT.out]; omega, by omega, by omega, by go_num, rfl, x2, HX4, HX, ?_, OP⟩, by simp [intOf]; omega⟩
            show RB W g _ n cap ((t + 1 : Nat) : Int) false
            rw [Int.natCast_add]
            exact RP.out
          · by_cases q3 : z = 0 ∧ 0 < j
            · have hE : Hid (getS zs (k : Int) = none) := by
                show _ = _
                rw [hS.out, HD.out, getA, if_neg q1, if_neg q2, if_pos q3]
                rfl
              have h0 : tz = true := by rw [← htz]; simp; omega
              have q4 := q3.2
              have q5 : z ≤ 1 := by omega
              subst h0
              clear HD V1 q3 x4 x5
              cases t9
              all_goals
                go_wp2
                go_ret
                rw [hE.out]
                exact ⟨OS.out, rfl, _, RS.out⟩
            · have hE : Hid (getS zs (k : Int) = some (X, (t : Int) + 1)) := by
                show _ = _
                rw [hS.out, HD.out, getA, if_neg q1, if_neg q2, if_neg q3, x5]
                simp only [Option.map_some]
                rw [HT.out]
                congr 2
              have h9 : t9 = true → z ≤ 1 := by
                rintro rfl
                simp at ht9
                omega
              have h0 : tz = true → j ≤ 0 := by
                rintro rfl
                simp at htz
                omega
              clear x5 x4 HD V1 q3
              cases t9
              · clear h9
                cases tz
                · clear h0
                  go_wp2
                  go_ret
                  rw [hE.out]
                  exact ⟨OP.out, rfl, RP.out⟩
                · have h1 := h0 rfl
                  clear h0
                  go_wp2
                  go_ret
                  rw [hE.out]
                  exact ⟨OP.out, rfl, RP.out⟩
              · have q9 := h9 rfl
                clear h9
                cases tz
                · clear h0
                  go_wp2
                  go_ret
                  rw [hE.out]
                  exact ⟨OP.out, rfl, RP.out⟩
                · have h1 := h0 rfl
                  simp at ht9
                  omega
      · have : t = n := by omega
        subst this
        have hE : Hid (getS zs (k : Int) = none) := by
          show _ = _
          rw [hS.out, HG.out, List.drop_eq_nil_of_le (by rw [HLN.out]; omega)]
          rfl
        have RS := hide HRW.out.drew.spoil
        have OS := hide (HO.out.drew.setCell 2 (.bool true))
        have i1 : (0 : Int) ≤ (t : Int) := by omega
        clear hb' HG V1
        go_wp2
        go_region_held3 (fun w' => w'.cell? ⟨g, 0, none⟩ = some (.slice a t cap) ∧ w'.cell? ⟨g, 1, none⟩ = some (.int .i64 (t : Int)) ∧ w'.cell? ⟨g, 2, none⟩ = some (.bool false)) (go_keep) (fail)
        go_wp2
        go_ret
        rw [hE.out]
        exact ⟨OS.out, rfl, _, RS.out⟩
  · have hE : Hid (getS zs p = none) := by
      show _ = _
      unfold getS
      rw [hl, if_neg h0]
    have RS := hide hrb.drew.spoil
    have OS := hide ((Only.refl g w).drew.setCell 2 (.bool true))
    obtain ⟨c0, c1, c2, cf⟩ := hrb.cell
    have cf2 := cf 2
    have h1 : p < 0 ∨ (n : Int) ≤ p := by omega
    clear h0 hr hl hb hrb cf
    rcases h1 with h1 | h1
    · go_enter Tryz.func53, Tryz.ntmps53
      go_wp2
      refine wp_loop_rounds 1 ?_
      rw [rounds_succ]
      go_wp2
      go_region
      go_wp2
      go_ret
      rw [hE.out]
      exact ⟨OS.out, rfl, _, RS.out⟩
    · obtain ⟨k, rfl⟩ := Int.eq_ofNat_of_zero_le (show 0 ≤ p by omega)
      have h2 : n ≤ k := by omega
      go_enter Tryz.func53, Tryz.ntmps53
      go_wp2
      refine wp_loop_rounds 1 ?_
      rw [rounds_succ]
      go_wp2
      go_region_held3 (fun w' => w'.cell? ⟨g, 0, none⟩ = some (.slice a n cap) ∧ w'.cell? ⟨g, 1, none⟩ = some (.int .i64 (k : Int)) ∧ w'.cell? ⟨g, 2, none⟩ = some (.bool false)) (go_keep) (fail)
      go_wp2
      go_ret
      rw [hE.out]
      exact ⟨OS.out, rfl, _, RS.out⟩
end Go.Proofs.YtadcaonkmncgoaaGreat

namespace Go.Proofs.YtadcaonkmncgoaaGreat
open Go.RowKit
set_option maxRecDepth 20000
theorem rb_new (w : World) (a : Option Addr) (n cap : Nat) (p : Int) : RB (w.alloc (.cells #[.slice a n cap, .int .i64 p, .bool false] 40)) w.heap.size a n cap p false := heap_alloc_new w _
end Go.Proofs.YtadcaonkmncgoaaGreat

namespace Go.Proofs.YtadcaonkmncgoaaGreat
open Go.RowKit
set_option maxRecDepth 20000

section
variable {P : Program} {ops : Array Oper} {Q : Exit → Act → World → Prop} {md : Region.Mode} {S : World → Prop}
/-- As held_call, the condition kept as it is. -/
theorem held_step {i : Nat} {o : Oper} {fuel : Nat} {listed : Array Bool} {a : Act} {w : World} (hr : Region.ready md ops listed = [i]) (ho : ops[i]? = some o) (hw : Region.wanted o (yielded ops a.tmps) = true)
    (h : ∀ K' : Act → World → Prop, Shut (∀ a w, S w → (S w → wpAnyH P md ops Q S fuel (listed.setIfInBounds i true) a w) → K' a w) → Oper.wp P o a w K' Q) : wpAnyH P md ops Q S (fuel + 1) listed a w := by
  refine wpAnyH_all hr (by simp) ?_
  intro j hj
  have : j = i := by simpa using hj
  subst this
  unfold wpOp
  simp only [ho]
  rw [if_pos hw]
  refine Or.inl (h _ ?_)
  intro a' w' hS h'
  exact ⟨hS, h' hS⟩
end

set_option maxRecDepth 100000 in
set_option maxHeartbeats 2000000 in
theorem refrise_any (b : Option Addr) (m capb : Nat) (ls : List Int) (w : World) (hm : m ≤ 1048576) (hl : Row .u64 w b m ls) :
    Calls Tryz.prog 26 #[.slice b m capb] w fun e w' => ∃ a' cap', e = .returned (.slice a' (putR ls).length cap') ∧ Mine w' w.heap.size a' (putR ls).length cap' (putR ls) ∧ Below w.heap.size w w' := by
  obtain ⟨i0, hi, hz0, hz1, hz2⟩ := info_parts Tryz.info5
  have B := hide (refput_any (m : Int) w (w64_len (by omega)))
  have HLen := hide hl.1
  have HR := hide hl
  have hp := (putS_len (m : Int)).2
  have hP : Hid (putR ls = putS (m : Int) ++ riseB 18446744073709551615 (ls.drop 0)) := by
    show _ = _
    unfold putR
    rw [hl.1, List.drop_zero]
  clear hl
  go_enter Tryz.func26, Tryz.ntmps26
  go_wp2_with fail
  refine B.out.mono ?_
  rintro e w2 ⟨a2, cap2, rfl, h1, h2⟩
  have H1 := hide h1
  have H2 := hide h2
  clear h1 h2 B
  generalize (putS (m : Int)).length = q at *
  go_wp2
  go_loopw [3, 4] (fun x i wr => ∃ (ar : Option Addr) (nr capr k : Nat) (acc : List Int) (P : Int), k ≤ m ∧ x = .slice ar nr capr ∧ i = .int .i64 k ∧ nr ≤ 10 + 10 * k ∧ Hid ((k = 0 → P = 18446744073709551615) ∧ (0 < k → P = ls.getD (k - 1) 0) ∧ putR ls = acc ++ riseB P (ls.drop k)) ∧ Hid (Mine wr w.heap.size ar nr capr acc) ∧ Hid (Below w.heap.size w wr)) (fun _ i _ => m - (intOf i).toNat)
  case atStart => exact ⟨a2, q, cap2, 0, _, 18446744073709551615, by omega, rfl, rfl, by omega, ⟨fun _ => rfl, fun h => absurd h (by omega), hP.out⟩, H1, H2⟩
  case round =>
    obtain ⟨ar, nr, capr, k, acc, P, hk, rfl, rfl, hnr, HP, HO, HW⟩ := hrel
    clear H1 H2 hP
    by_cases hlt : k < m
    · have hrow := HR.out.below HW.out (Nat.le_refl _)
      have HWd := hide hrow.words
      have hb := hrow.word k
      have HD := hide (drop_step (ls := ls) (k := k) (by rw [HLen.out]; exact hlt))
      obtain ⟨_, _, _, h0 | ⟨bb, off, rfl, hcell⟩⟩ := hrow
      · omega
      have hck := hcell k hlt
      have hsz : w.heap.size ≤ wr.heap.size := HW.out.size
      obtain ⟨z0, z1⟩ := hb
      have HE : Hid (putR ls = (acc ++ putS ((ls.getD k 0 - P - 1) % 18446744073709551616)) ++ riseB (ls.getD k 0) (ls.drop (k + 1))) := by
        show _ = _
        rw [HP.out.2.2, HD.out, riseB, List.append_assoc]
      obtain ⟨z, hz⟩ : ∃ z, ls.getD k 0 = z := ⟨_, rfl⟩
      rw [hz] at z0 z1 hck HE
      have HZ := hide hz
      clear hz HD
      cases k with
      | zero =>
        have hP0 : P = 18446744073709551615 := HP.out.1 rfl
        have hmod : (z - P - 1) % 18446744073709551616 = z := by omega
        rw [hmod] at HE
        have C := hide (refput_any z wr ⟨z0, z1⟩)
        clear HP hcell hP0 hmod
        have hq := putS_len z
        have BZ : Hid (Bytes8 (putS z)) := putS_byte ⟨z0, z1⟩
        have i1 : (0 : Int) < (m : Int) := by omega
        rw [Nat.add_zero] at hck
        go_wp2_with fail
        refine C.out.mono ?_
        rintro e x ⟨a', cap', rfl, h1, h2⟩
        have RX := hide (h1.row (by omega) (fun z hz => wf_of_u8 (BZ.out z hz).1 (BZ.out z hz).2))
        have hcx := h1.capped.2
        have OX := hide (HO.out.below h2 (Nat.le_refl _))
        have hbx : w.heap.size ≤ x.heap.size := Nat.le_trans hsz h2.size
        have KX : Hid (Below w.heap.size w x) := bel_to HW.out (Nat.le_refl _) h2
        clear h1 h2 C hck HO HW
        generalize (putS z).length = r at *
        go_wp2_with (at_builtin; refine wpList_append_row _ rfl _ _ 29 rfl w.heap.size 5 i0 Tryz.underlying29 hi hz0 hz1 hz2 ar nr capr _ rfl OX.out a' r cap' _ rfl RX.out hcx (by omega) hbx ?_)
        intro a3 c3 x3 o3 k3
        have H3 := hide o3
        have K3 : Hid (Below w.heap.size w x3) := KX.out.trans k3
        clear o3 k3 KX RX OX
        go_wp2
        go_roundw
        case rel => exact ⟨a3, nr + r, c3, 1, _, z, by omega, rfl, by go_num, by omega, ⟨fun h => absurd h (by omega), fun _ => HZ.out.symm, HE.out⟩, H3, K3⟩
        case measure => simp [intOf]; omega
      | succ j =>
        have hPj : P = ls.getD j 0 := HP.out.2.1 (by omega)
        have hpw : W64 P := by rw [hPj]; exact getD_all HWd.out ⟨by decide, by decide⟩ j
        have P0 := hpw.1
        have P1 := hpw.2
        have hcj := hcell j (by omega)
        rw [← hPj] at hcj
        have hmod : IntKind.u64.wrap (IntKind.u64.wrap (z - P) - 1) = (z - P - 1) % 18446744073709551616 := by
          rw [IntKind.wrap_u64, IntKind.wrap_u64]; omega
        have hDw := w64_mod (z - P - 1)
        generalize (z - P - 1) % 18446744073709551616 = D at *
        have C := hide (refput_any D wr.drew hDw)
        have hq := putS_len D
        have BZ : Hid (Bytes8 (putS D)) := putS_byte hDw
        have tk : ((j : Int) + 1 == 0) = false := by simp; omega
        have j1 : (0 : Int) ≤ (j : Int) := by omega
        have j5 : (j : Int) < (m : Int) := by omega
        have j6 : (j : Int) + 1 < (m : Int) := by omega
        have j7 : (0 : Int) ≤ (j : Int) + 1 := by omega
        have hlb : Hid (bb < wr.heap.size) := World.block_lt_of_cell? wr _ hck
        have hbw0 : Hid (bb < w.heap.size) := by
          obtain ⟨_, _, _, h0 | ⟨b2, o2, he, hc2⟩⟩ := HR.out
          · omega
          · simp only [Option.some.injEq, Addr.mk.injEq] at he
            have := World.block_lt_of_cell? w _ (hc2 j (by omega))
            rw [← he.1] at this
            exact this
        have hw1 : IntKind.i64.wrap ((j : Int) + 1 - 1) = (j : Int) := by rw [IntKind.wrap_i64]; omega
        have hw2 : IntKind.i64.wrap (j : Int) = (j : Int) := by rw [IntKind.wrap_i64]; omega
        have hn1 : ((j : Int) + 1).toNat = j + 1 := by omega
        clear HP hcell hPj hpw hDw
        go_upto_region 7 with fail
        refine wp_region_held_drew (S := fun w' => w'.cell? ⟨bb, off + j, none⟩ = some (.int .u64 P) ∧ w'.cell? ⟨bb, off + (j + 1), none⟩ = some (.int .u64 z)) (by kernel_rfl) ⟨hcj, hck⟩ (fun hHeld => ?_)
        refine held_take (i := 0) (d := (some 23)) (v := ?_) rfl rfl (by kernel_rfl) (by kernel_rfl) (by kernel_rfl) (fun _ _ _ h => h) (Or.inl ⟨by rfl, ?_⟩) (by first | assumption | rfl | trivial) ?_
        rotate_left 1
        · (intro w hSw; (try dsimp only at hSw); (try subst hSw); go_simp; try with_reducible rfl)
        simp only [Act.put, List.setIfInBounds_toArray, List.set_cons_zero, List.set_cons_succ]
        refine held_take (i := 1) (d := (some 24)) (v := ?_) rfl rfl (by kernel_rfl) (by kernel_rfl) (by kernel_rfl) (fun _ _ _ h => h) (Or.inl ⟨by rfl, ?_⟩) (by first | assumption | rfl | trivial) ?_
        rotate_left 1
        · (intro w hSw; (try dsimp only at hSw); (try subst hSw); go_simp; try with_reducible rfl)
        simp only [Act.put, List.setIfInBounds_toArray, List.set_cons_zero, List.set_cons_succ]
        refine held_take (i := 2) (d := (some 25)) (v := ?_) rfl rfl (by kernel_rfl) (by kernel_rfl) (by kernel_rfl) (fun _ _ _ h => h) (Or.inl ⟨by rfl, ?_⟩) (by first | assumption | rfl | trivial) ?_
        rotate_left 1
        · (intro w hSw; (try dsimp only at hSw); (try subst hSw); go_simp; try with_reducible rfl)
        simp only [Act.put, List.setIfInBounds_toArray, List.set_cons_zero, List.set_cons_succ]
        refine held_take (i := 3) (d := (some 26)) (v := ?_) rfl rfl (by kernel_rfl) (by kernel_rfl) (by kernel_rfl) (fun _ _ _ h => h) (Or.inl ⟨by rfl, ?_⟩) (by first | assumption | rfl | trivial) ?_
        rotate_left 1
        · (intro w hSw; (try dsimp only at hSw); (try subst hSw); go_simp; try with_reducible rfl)
        simp only [Act.put, List.setIfInBounds_toArray, List.set_cons_zero, List.set_cons_succ]
        refine held_take (i := 4) (d := (some 27)) (v := ?_) rfl rfl (by kernel_rfl) (by kernel_rfl) (by kernel_rfl) (fun _ _ _ h => h) (Or.inl ⟨by rfl, ?_⟩) (by first | assumption | rfl | trivial) ?_
        rotate_left 1
        · (intro w hSw; (try dsimp only at hSw); (try subst hSw); go_simp; try with_reducible rfl)
        simp only [Act.put, List.setIfInBounds_toArray, List.set_cons_zero, List.set_cons_succ]
        refine held_take (i := 5) (d := (some 28)) (v := ?_) rfl rfl (by kernel_rfl) (by kernel_rfl) (by kernel_rfl) (fun _ _ _ h => h) (Or.inl ⟨by rfl, ?_⟩) (by first | assumption | rfl | trivial) ?_
        rotate_left 1
        · (intro w hSw; (try dsimp only at hSw); (try subst hSw); go_simp; try with_reducible rfl)
        simp only [Act.put, List.setIfInBounds_toArray, List.set_cons_zero, List.set_cons_succ]
        refine held_take (i := 6) (d := (some 29)) (v := ?_) rfl rfl (by kernel_rfl) (by kernel_rfl) (by kernel_rfl) (fun _ _ _ h => h) (Or.inl ⟨by rfl, ?_⟩) (by first | assumption | rfl | trivial) ?_
        rotate_left 1
        · (intro w hSw; (try dsimp only at hSw); (try subst hSw); go_simp; try with_reducible rfl)
        simp only [Act.put, List.setIfInBounds_toArray, List.set_cons_zero, List.set_cons_succ]
        refine held_take (i := 7) (d := (some 30)) (v := ?_) rfl rfl (by kernel_rfl) (by kernel_rfl) (by kernel_rfl) (fun _ _ _ h => h) (Or.inl ⟨by rfl, ?_⟩) (by first | assumption | rfl | trivial) ?_
        rotate_left 1
        · (intro w hSw; (try dsimp only at hSw); (try subst hSw); go_simp; try with_reducible rfl)
        simp only [Act.put, List.setIfInBounds_toArray, List.set_cons_zero, List.set_cons_succ]
        refine held_take (i := 8) (d := (some 31)) (v := ?_) rfl rfl (by kernel_rfl) (by kernel_rfl) (by kernel_rfl) (fun _ _ _ h => h) (Or.inl ⟨by rfl, ?_⟩) (by first | assumption | rfl | trivial) ?_
        rotate_left 1
        · (intro w hSw; (try dsimp only at hSw); (try subst hSw); go_simp; try with_reducible rfl)
        simp only [Act.put, List.setIfInBounds_toArray, List.set_cons_zero, List.set_cons_succ]
        refine held_take (i := 9) (d := (some 32)) (v := ?_) rfl rfl (by kernel_rfl) (by kernel_rfl) (by kernel_rfl) (fun _ _ _ h => h) (Or.inl ⟨by rfl, ?_⟩) (by first | assumption | rfl | trivial) ?_
        rotate_left 1
        · (intro w hSw; (try dsimp only at hSw); (try subst hSw); go_simp; try with_reducible rfl)
        simp only [Act.put, List.setIfInBounds_toArray, List.set_cons_zero, List.set_cons_succ]
        refine held_take (i := 10) (d := (some 33)) (v := ?_) rfl rfl (by kernel_rfl) (by kernel_rfl) (by kernel_rfl) (fun _ _ _ h => h) (Or.inl ⟨by rfl, ?_⟩) (by first | assumption | rfl | trivial) ?_
        rotate_left 1
        · (intro w hSw; (try dsimp only at hSw); (try subst hSw); go_simp; try with_reducible rfl)
        simp only [Act.put, List.setIfInBounds_toArray, List.set_cons_zero, List.set_cons_succ]
        refine held_take (i := 11) (d := (some 34)) (v := ?_) rfl rfl (by kernel_rfl) (by kernel_rfl) (by kernel_rfl) (fun _ _ _ h => h) (Or.inl ⟨by rfl, ?_⟩) (by first | assumption | rfl | trivial) ?_
        rotate_left 1
        · (intro w hSw; (try dsimp only at hSw); (try subst hSw); go_simp; try with_reducible rfl)
        simp only [Act.put, List.setIfInBounds_toArray, List.set_cons_zero, List.set_cons_succ]
        refine held_step (i := 12) (by kernel_rfl) rfl (by rfl) (fun K hK => ?_)
        go_simp
        refine C.out.mono ?_
        rintro e x ⟨a', cap', rfl, h1, h2⟩
        have RX := hide (h1.row (by omega) (fun z hz => wf_of_u8 (BZ.out z hz).1 (BZ.out z hz).2))
        have HH1 := hide h1
        have hS1 : Hid (x.cell? ⟨bb, off + j, none⟩ = some (.int .u64 P) ∧ x.cell? ⟨bb, off + (j + 1), none⟩ = some (.int .u64 z)) := by
          constructor
          · rw [h2.cell (p := ⟨bb, off + j, none⟩) hlb.out]; exact hcj
          · rw [h2.cell (p := ⟨bb, off + (j + 1), none⟩) hlb.out]; exact hck
        have OX := hide (HO.out.drew.below h2 (Nat.le_refl _))
        have hbx : w.heap.size ≤ x.heap.size := Nat.le_trans hsz h2.size
        have hlx : Hid (bb < x.heap.size) := Nat.lt_of_lt_of_le hlb.out h2.size
        have KX : Hid (Below w.heap.size w x) := bel_to HW.out.drew (Nat.le_refl _) h2
        clear h1 h2 C HO HW hHeld
        go_wp2_with fail
        refine hK.out _ _ hS1.out (fun hHeld => ?_)
        clear hK K hcj hck
        refine held_step (i := 13) (by kernel_rfl) rfl (by rfl) (fun K hK => ?_)
        obtain ⟨ad, rfl⟩ : ∃ ad, a' = some ad := by
          cases a' with
          | none => have := RX.out.nz rfl; omega
          | some ad => exact ⟨ad, rfl⟩
        refine wp_append_own x (Operand.tmp 23) (Operand.tmp 35) 29 rfl w.heap.size 5 i0 (.int .u8 0) 1 1 Tryz.underlying29 hi hz0 hz1 hz2 rfl (by decide) _ nr (acc.map (Value.int .u8)) rfl OX.out ad (putS D).length cap' ((putS D).map (Value.int .u8)) rfl (by simp) RX.out.cells (one_cell .u8 (putS D)) (by unfold maxLen; omega) (by omega) hbx ?_
        intro v' x3 h1 h2 _
        rw [← List.map_append] at h1
        obtain ⟨a3, c3, rfl, o3⟩ := own_form h1
        have k3 : Below w.heap.size x x3 := (Below.refl _ _).grown h2 hbx (own_block OX.out)
        have hS3 : Hid (x3.cell? ⟨bb, off + j, none⟩ = some (.int .u64 P) ∧ x3.cell? ⟨bb, off + (j + 1), none⟩ = some (.int .u64 z)) := by
          have hbw : bb < w.heap.size := hbw0.out
          constructor
          · rw [k3.cell (p := ⟨bb, off + j, none⟩) hbw]; exact hS1.out.1
          · rw [k3.cell (p := ⟨bb, off + (j + 1), none⟩) hbw]; exact hS1.out.2
        have H3 := hide o3
        have K3 : Hid (Below w.heap.size w x3) := KX.out.trans k3
        clear h1 h2 o3 k3 KX RX OX HH1 hHeld
        refine hK.out _ _ hS3.out (fun hHeld => ?_)
        clear hK K
        generalize hr : (putS D).length = r at *
        simp only [Act.put, List.setIfInBounds_toArray]
        refine held_take (i := 14) (d := (some 3)) (v := ?_) rfl rfl (by kernel_rfl) (by kernel_rfl) (by kernel_rfl) (fun _ _ _ h => h) (Or.inl ⟨by rfl, ?_⟩) (by first | assumption | rfl) ?_
        rotate_left 1
        · (intro w hSw; (try dsimp only at hSw); (try subst hSw); go_simp; try with_reducible rfl)
        simp only [Act.put]
        refine wpAnyH_done (by kernel_rfl) ?_ _
        clear hHeld
        go_wp2
        go_roundw
        case rel => exact ⟨a3, nr + r, c3, j + 1 + 1, _, z, by omega, rfl, by go_num, by omega, ⟨fun h => absurd h (by omega), fun _ => HZ.out.symm, HE.out⟩, H3, K3⟩
        case measure => simp [intOf]; omega
    · have : k = m := by omega
      subst this
      have HF : Hid (acc = putR ls ∧ nr = (putR ls).length) := by
        have h1 := HP.out.2.2
        rw [List.drop_eq_nil_of_le (by rw [HLen.out]; omega), riseB, List.append_nil] at h1
        exact ⟨h1.symm, by rw [← HO.out.len, ← h1]⟩
      clear HP
      go_wp2
      go_ret
      obtain ⟨h1, h2⟩ := HF.out
      have HO' := HO.out
      rw [h1, h2] at HO'
      refine ⟨ar, capr, ?_, HO', HW⟩
      show Ending.returned (.slice ar nr capr) = _
      rw [h2]
end Go.Proofs.YtadcaonkmncgoaaGreat

namespace Go.Proofs.YtadcaonkmncgoaaGreat
open Go.RowKit
set_option maxRecDepth 20000

/-- What the reader's Count leaves. -/
def CountP (g : Nat) (a : Option Addr) (n cap : Nat) (r : Option (Int × Int)) (w w' : World) (e : Ending) : Prop :=
  Only g w w' ∧ match r with
  | none => e = .returned (.int .i64 0) ∧ ∃ p', RB w' g a n cap p' true
  | some q => e = .returned (.int .i64 q.1) ∧ RB w' g a n cap q.2 false

set_option maxRecDepth 100000 in
set_option maxHeartbeats 2000000 in
theorem rcount_any (p most : Int) (g : Nat) (a : Option Addr) (n cap : Nat) (zs : List Int) (w0 w : World) (hp : (Lit.int .i64 p).wf = true) (hm : (Lit.int .i64 most).wf = true) (_hc : n ≤ cap) (hr : Row .u8 w0 a n zs) (hg : w0.heap.size ≤ g) (hb : Below w0.heap.size w0 w) (hrb : RB w g a n cap p false) :
    Calls Tryz.prog 54 #[.pointer (some ⟨g, 0, none⟩), .int .i64 most] w fun e w' => CountP g a n cap (sizeS zs p most) w w' e := by
  have N := hide (num_any p g a n cap zs w0 w hp hr hg hb hrb)
  obtain ⟨m0, m1⟩ := i64_of_wf hm
  have HR := hide hr
  have HB := hide hb
  have hl := hr.1
  have hn := hr.2.1
  clear hp hr hb hrb hm
  cases h : getS zs p with
  | none =>
    have HE : Hid (sizeS zs p most = none) := by show _ = _; unfold sizeS; rw [h]
    rw [h] at N
    simp only [NumP] at N
    clear h hl
    go_enter Tryz.func54, Tryz.ntmps54
    go_wp2_with fail
    refine N.out.mono ?_
    rintro e x ⟨k, rfl, p', hrb⟩
    obtain ⟨_, _, d2, df⟩ := hrb.cell
    have df2 := df 2
    have RS := hide hrb.drew.spoil
    have OS := hide (k.drew.setCell 2 (.bool true))
    clear df k hrb N
    go_wp2
    go_region
    go_wp2
    go_ret
    rw [HE.out]
    exact ⟨OS.out, rfl, _, RS.out⟩
  | some q =>
    obtain ⟨u, nx⟩ := q
    obtain ⟨hw, k', _, hk, hnx, hle, _⟩ := getS_some HR.out.bytes h
    have u0 := hw.1
    have u1 := hw.2
    obtain ⟨f, hf⟩ : ∃ f : Nat, nx = f := ⟨_, hnx⟩
    have hfn : f ≤ n := by omega
    subst hf
    have HE : Hid (sizeS zs p most = if most < 0 ∨ most < u ∨ (n : Int) - (f : Int) < u then none else some (u, (f : Int))) := by
      show _ = _
      unfold sizeS
      rw [h]
      simp only
      rw [hl]
    rw [h] at N
    simp only [NumP] at N
    clear h hw hk hnx hle hl
    by_cases q1 : most < 0
    · rw [if_pos (Or.inl q1)] at HE
      go_enter Tryz.func54, Tryz.ntmps54
      go_wp2_with fail
      refine N.out.mono ?_
      rintro e x ⟨k, rfl, hrb⟩
      obtain ⟨_, _, d2, df⟩ := hrb.cell
      have df2 := df 2
      have RS := hide hrb.drew.spoil
      have OS := hide (k.drew.setCell 2 (.bool true))
      clear df k hrb N
      go_wp2
      go_region
      go_wp2
      go_ret
      rw [HE.out]
      exact ⟨OS.out, rfl, _, RS.out⟩
    · obtain ⟨M, rfl⟩ := Int.eq_ofNat_of_zero_le (show 0 ≤ most by omega)
      have q3 : decide ((M : Int) < 0) = false := by simp
      have hM : IntKind.u64.wrap (M : Int) = (M : Int) := by rw [IntKind.wrap_u64]; omega
      clear q1
      by_cases q2 : (M : Int) < u
      · rw [if_pos (Or.inr (Or.inl q2))] at HE
        have q6 : decide ((M : Int) < u) = true := by simpa using q2
        go_enter Tryz.func54, Tryz.ntmps54
        go_wp2_with fail
        refine N.out.mono ?_
        rintro e x ⟨k, rfl, hrb⟩
        obtain ⟨d0, d1, d2, df⟩ := hrb.cell
        have df2 := df 2
        have RS := hide hrb.drew.spoil
        have OS := hide (k.drew.setCell 2 (.bool true))
        clear df k hrb N
        go_upto_region 2 with fail
        refine wp_region_held_drew (S := fun w' => w'.cell? ⟨g, 0, none⟩ = some (.slice a n cap) ∧ w'.cell? ⟨g, 1, none⟩ = some (.int .i64 (f : Int)) ∧ w'.cell? ⟨g, 2, none⟩ = some (.bool false)) (by kernel_rfl) ⟨d0, d1, d2⟩ (fun hHeld => ?_)
        refine held_take (i := 0) (d := (some 8)) (v := ?_) rfl rfl (by kernel_rfl) (by kernel_rfl) (by kernel_rfl) (fun _ _ _ h => h) (Or.inl ⟨by rfl, ?_⟩) (by first | assumption | rfl | trivial) ?_
        rotate_left 1
        · (intro w hSw; (try dsimp only at hSw); (try subst hSw); go_simp; try with_reducible rfl)
        simp only [Act.put, List.setIfInBounds_toArray, List.set_cons_zero, List.set_cons_succ]
        refine held_take (i := 1) (d := (some 9)) (v := ?_) rfl rfl (by kernel_rfl) (by kernel_rfl) (by kernel_rfl) (fun _ _ _ h => h) (Or.inl ⟨by rfl, ?_⟩) (by first | assumption | rfl | trivial) ?_
        rotate_left 1
        · (intro w hSw; (try dsimp only at hSw); (try subst hSw); go_simp; try with_reducible rfl)
        simp only [Act.put, List.setIfInBounds_toArray, List.set_cons_zero, List.set_cons_succ]
        refine held_take (i := 2) (d := (some 10)) (v := ?_) rfl rfl (by kernel_rfl) (by kernel_rfl) (by kernel_rfl) (fun _ _ _ h => h) (Or.inl ⟨by rfl, ?_⟩) (by first | assumption | rfl | trivial) ?_
        rotate_left 1
        · (intro w hSw; (try dsimp only at hSw); (try subst hSw); go_simp; try with_reducible rfl)
        simp only [Act.put, List.setIfInBounds_toArray, List.set_cons_zero, List.set_cons_succ]
        refine held_take (i := 3) (d := (some 11)) (v := ?_) rfl rfl (by kernel_rfl) (by kernel_rfl) (by kernel_rfl) (fun _ _ _ h => h) (Or.inl ⟨by rfl, ?_⟩) (by first | assumption | rfl | trivial) ?_
        rotate_left 1
        · (intro w hSw; (try dsimp only at hSw); (try subst hSw); go_simp; try with_reducible rfl)
        simp only [Act.put, List.setIfInBounds_toArray, List.set_cons_zero, List.set_cons_succ]
        refine held_take (i := 4) (d := (some 12)) (v := ?_) rfl rfl (by kernel_rfl) (by kernel_rfl) (by kernel_rfl) (fun _ _ _ h => h) (Or.inl ⟨by rfl, ?_⟩) (by first | assumption | rfl | trivial) ?_
        rotate_left 1
        · (intro w hSw; (try dsimp only at hSw); (try subst hSw); go_simp; try with_reducible rfl)
        simp only [Act.put, List.setIfInBounds_toArray, List.set_cons_zero, List.set_cons_succ]
        refine held_take (i := 5) (d := (some 13)) (v := ?_) rfl rfl (by kernel_rfl) (by kernel_rfl) (by kernel_rfl) (fun _ _ _ h => h) (Or.inl ⟨by rfl, ?_⟩) (by first | assumption | rfl | trivial) ?_
        rotate_left 1
        · (intro w hSw; (try dsimp only at hSw); (try subst hSw); go_simp; try with_reducible rfl)
        simp only [Act.put, List.setIfInBounds_toArray, List.set_cons_zero, List.set_cons_succ]
        refine held_take (i := 6) (d := (some 14)) (v := ?_) rfl rfl (by kernel_rfl) (by kernel_rfl) (by kernel_rfl) (fun _ _ _ h => h) (Or.inl ⟨by rfl, ?_⟩) (by first | assumption | rfl | trivial) ?_
        rotate_left 1
        · (intro w hSw; (try dsimp only at hSw); (try subst hSw); go_simp; try with_reducible rfl)
        simp only [Act.put, List.setIfInBounds_toArray, List.set_cons_zero, List.set_cons_succ]
        refine held_take (i := 7) (d := (some 15)) (v := ?_) rfl rfl (by kernel_rfl) (by kernel_rfl) (by kernel_rfl) (fun _ _ _ h => h) (Or.inl ⟨by rfl, ?_⟩) (by first | assumption | rfl | trivial) ?_
        rotate_left 1
        · (intro w hSw; (try dsimp only at hSw); (try subst hSw); go_simp; try with_reducible rfl)
        simp only [Act.put, List.setIfInBounds_toArray, List.set_cons_zero, List.set_cons_succ]
        refine held_take (i := 8) (d := (some 16)) (v := ?_) rfl rfl (by kernel_rfl) (by kernel_rfl) (by kernel_rfl) (fun _ _ _ h => h) (Or.inl ⟨by rfl, ?_⟩) (by first | assumption | rfl | trivial) ?_
        rotate_left 1
        · (intro w hSw; (try dsimp only at hSw); (try subst hSw); go_simp; try with_reducible rfl)
        simp only [Act.put, List.setIfInBounds_toArray, List.set_cons_zero, List.set_cons_succ]
        refine held_take (i := 9) (d := (some 17)) (v := ?_) rfl rfl (by kernel_rfl) (by kernel_rfl) (by kernel_rfl) (fun _ _ _ h => h) (Or.inl ⟨by rfl, ?_⟩) (by first | assumption | rfl | trivial) ?_
        rotate_left 1
        · (intro w hSw; (try dsimp only at hSw); (try subst hSw); go_simp; try with_reducible rfl)
        simp only [Act.put, List.setIfInBounds_toArray, List.set_cons_zero, List.set_cons_succ]
        refine held_take (i := 10) (d := (some 18)) (v := ?_) rfl rfl (by kernel_rfl) (by kernel_rfl) (by kernel_rfl) (fun _ _ _ h => h) (Or.inl ⟨by rfl, ?_⟩) (by first | assumption | rfl | trivial) ?_
        rotate_left 1
        · (intro w hSw; (try dsimp only at hSw); (try subst hSw); go_simp; try with_reducible rfl)
        simp only [Act.put, List.setIfInBounds_toArray, List.set_cons_zero, List.set_cons_succ]
        refine held_take (i := 11) (d := (some 19)) (v := ?_) rfl rfl (by kernel_rfl) (by kernel_rfl) (by kernel_rfl) (fun _ _ _ h => h) (Or.inl ⟨by rfl, ?_⟩) (by first | assumption | rfl | trivial) ?_
        rotate_left 1
        · (intro w hSw; (try dsimp only at hSw); (try subst hSw); go_simp; try with_reducible rfl)
        simp only [Act.put, List.setIfInBounds_toArray, List.set_cons_zero, List.set_cons_succ]
        refine held_take (i := 12) (d := (some 20)) (v := ?_) rfl rfl (by kernel_rfl) (by kernel_rfl) (by kernel_rfl) (fun _ _ _ h => h) (Or.inl ⟨by rfl, ?_⟩) (by first | assumption | rfl | trivial) ?_
        rotate_left 1
        · (intro w hSw; (try dsimp only at hSw); (try subst hSw); go_simp; try with_reducible rfl)
        simp only [Act.put, List.setIfInBounds_toArray, List.set_cons_zero, List.set_cons_succ]
        refine held_take (i := 13) (d := (some 21)) (v := ?_) rfl rfl (by kernel_rfl) (by kernel_rfl) (by kernel_rfl) (fun _ _ _ h => h) (Or.inl ⟨by rfl, ?_⟩) (by first | assumption | rfl | trivial) ?_
        rotate_left 1
        · (intro w hSw; (try dsimp only at hSw); (try subst hSw); go_simp; try with_reducible rfl)
        simp only [Act.put, List.setIfInBounds_toArray, List.set_cons_zero, List.set_cons_succ]
        refine held_take (i := 14) (d := (some 22)) (v := ?_) rfl rfl (by kernel_rfl) (by kernel_rfl) (by kernel_rfl) (fun _ _ _ h => h) (Or.inl ⟨by rfl, ?_⟩) (by first | assumption | rfl | trivial) ?_
        rotate_left 1
        · (intro w hSw; (try dsimp only at hSw); (try subst hSw); go_simp; try with_reducible rfl)
        simp only [Act.put, List.setIfInBounds_toArray, List.set_cons_zero, List.set_cons_succ]
        refine held_take (i := 15) (d := (some 23)) (v := undef) rfl rfl (by kernel_rfl) (by kernel_rfl) (by kernel_rfl) (fun _ _ _ h => h) (Or.inr ⟨by rfl, rfl⟩) (by first | assumption | rfl | trivial) ?_
        simp only [Act.put, List.setIfInBounds_toArray, List.set_cons_zero, List.set_cons_succ]
        refine held_take (i := 16) (d := (some 24)) (v := undef) rfl rfl (by kernel_rfl) (by kernel_rfl) (by kernel_rfl) (fun _ _ _ h => h) (Or.inr ⟨by rfl, rfl⟩) (by first | assumption | rfl | trivial) ?_
        simp only [Act.put, List.setIfInBounds_toArray, List.set_cons_zero, List.set_cons_succ]
        refine held_take (i := 17) (d := (some 25)) (v := undef) rfl rfl (by kernel_rfl) (by kernel_rfl) (by kernel_rfl) (fun _ _ _ h => h) (Or.inr ⟨by rfl, rfl⟩) (by first | assumption | rfl | trivial) ?_
        simp only [Act.put, List.setIfInBounds_toArray, List.set_cons_zero, List.set_cons_succ]
        refine held_take (i := 18) (d := (some 26)) (v := undef) rfl rfl (by kernel_rfl) (by kernel_rfl) (by kernel_rfl) (fun _ _ _ h => h) (Or.inr ⟨by rfl, rfl⟩) (by first | assumption | rfl | trivial) ?_
        simp only [Act.put, List.setIfInBounds_toArray, List.set_cons_zero, List.set_cons_succ]
        refine held_take (i := 19) (d := (some 27)) (v := undef) rfl rfl (by kernel_rfl) (by kernel_rfl) (by kernel_rfl) (fun _ _ _ h => h) (Or.inr ⟨by rfl, rfl⟩) (by first | assumption | rfl | trivial) ?_
        simp only [Act.put, List.setIfInBounds_toArray, List.set_cons_zero, List.set_cons_succ]
        refine held_take (i := 20) (d := (some 28)) (v := undef) rfl rfl (by kernel_rfl) (by kernel_rfl) (by kernel_rfl) (fun _ _ _ h => h) (Or.inr ⟨by rfl, rfl⟩) (by first | assumption | rfl | trivial) ?_
        simp only [Act.put, List.setIfInBounds_toArray, List.set_cons_zero, List.set_cons_succ]
        refine held_take (i := 21) (d := (some 29)) (v := undef) rfl rfl (by kernel_rfl) (by kernel_rfl) (by kernel_rfl) (fun _ _ _ h => h) (Or.inr ⟨by rfl, rfl⟩) (by first | assumption | rfl | trivial) ?_
        simp only [Act.put, List.setIfInBounds_toArray, List.set_cons_zero, List.set_cons_succ]
        refine held_take (i := 22) (d := (some 30)) (v := undef) rfl rfl (by kernel_rfl) (by kernel_rfl) (by kernel_rfl) (fun _ _ _ h => h) (Or.inr ⟨by rfl, rfl⟩) (by first | assumption | rfl | trivial) ?_
        simp only [Act.put, List.setIfInBounds_toArray, List.set_cons_zero, List.set_cons_succ]
        refine held_take (i := 23) (d := (some 31)) (v := undef) rfl rfl (by kernel_rfl) (by kernel_rfl) (by kernel_rfl) (fun _ _ _ h => h) (Or.inr ⟨by rfl, rfl⟩) (by first | assumption | rfl | trivial) ?_
        simp only [Act.put, List.setIfInBounds_toArray, List.set_cons_zero, List.set_cons_succ]
        refine held_take (i := 24) (d := (some 32)) (v := undef) rfl rfl (by kernel_rfl) (by kernel_rfl) (by kernel_rfl) (fun _ _ _ h => h) (Or.inr ⟨by rfl, rfl⟩) (by first | assumption | rfl | trivial) ?_
        simp only [Act.put, List.setIfInBounds_toArray, List.set_cons_zero, List.set_cons_succ]
        refine held_take (i := 25) (d := (some 33)) (v := undef) rfl rfl (by kernel_rfl) (by kernel_rfl) (by kernel_rfl) (fun _ _ _ h => h) (Or.inr ⟨by rfl, rfl⟩) (by first | assumption | rfl | trivial) ?_
        simp only [Act.put, List.setIfInBounds_toArray, List.set_cons_zero, List.set_cons_succ]
        refine held_take (i := 26) (d := (some 34)) (v := undef) rfl rfl (by kernel_rfl) (by kernel_rfl) (by kernel_rfl) (fun _ _ _ h => h) (Or.inr ⟨by rfl, rfl⟩) (by first | assumption | rfl | trivial) ?_
        simp only [Act.put, List.setIfInBounds_toArray, List.set_cons_zero, List.set_cons_succ]
        refine held_take (i := 27) (d := (some 35)) (v := undef) rfl rfl (by kernel_rfl) (by kernel_rfl) (by kernel_rfl) (fun _ _ _ h => h) (Or.inr ⟨by rfl, rfl⟩) (by first | assumption | rfl | trivial) ?_
        simp only [Act.put, List.setIfInBounds_toArray, List.set_cons_zero, List.set_cons_succ]
        refine held_take (i := 28) (d := (some 36)) (v := ?_) rfl rfl (by kernel_rfl) (by kernel_rfl) (by kernel_rfl) (fun _ _ _ h => h) (Or.inl ⟨by rfl, ?_⟩) (by first | assumption | rfl | trivial) ?_
        rotate_left 1
        · (intro w hSw; (try dsimp only at hSw); (try subst hSw); go_simp; try with_reducible rfl)
        simp only [Act.put, List.setIfInBounds_toArray, List.set_cons_zero, List.set_cons_succ]
        refine wpAnyH_done (by kernel_rfl) ?_ _
        go_wp2
        go_ret
        rw [HE.out]
        exact ⟨OS.out, rfl, _, RS.out⟩
      · have q5 : decide ((M : Int) < u) = false := by simpa using q2
        have hsub : IntKind.i64.wrap ((n : Int) - (f : Int)) = (n : Int) - (f : Int) := by rw [IntKind.wrap_i64]; omega
        have hcv : IntKind.u64.wrap ((n : Int) - (f : Int)) = (n : Int) - (f : Int) := by rw [IntKind.wrap_u64]; omega
        by_cases q4 : (n : Int) - (f : Int) < u
        · rw [if_pos (Or.inr (Or.inr q4))] at HE
          have q7 : decide ((n : Int) - (f : Int) < u) = true := by simpa using q4
          go_enter Tryz.func54, Tryz.ntmps54
          go_wp2_with fail
          refine N.out.mono ?_
          rintro e x ⟨k, rfl, hrb⟩
          obtain ⟨d0, d1, d2, df⟩ := hrb.cell
          have df2 := df 2
          have RS := hide hrb.drew.spoil
          have OS := hide (k.drew.setCell 2 (.bool true))
          clear df k hrb N
          go_upto_region 2 with fail
          refine wp_region_held_drew (S := fun w' => w'.cell? ⟨g, 0, none⟩ = some (.slice a n cap) ∧ w'.cell? ⟨g, 1, none⟩ = some (.int .i64 (f : Int)) ∧ w'.cell? ⟨g, 2, none⟩ = some (.bool false)) (by kernel_rfl) ⟨d0, d1, d2⟩ (fun hHeld => ?_)
          refine held_take (i := 0) (d := (some 8)) (v := ?_) rfl rfl (by kernel_rfl) (by kernel_rfl) (by kernel_rfl) (fun _ _ _ h => h) (Or.inl ⟨by rfl, ?_⟩) (by first | assumption | rfl | trivial) ?_
          rotate_left 1
          · (intro w hSw; (try dsimp only at hSw); (try subst hSw); go_simp; try with_reducible rfl)
          simp only [Act.put, List.setIfInBounds_toArray, List.set_cons_zero, List.set_cons_succ]
          refine held_take (i := 1) (d := (some 9)) (v := ?_) rfl rfl (by kernel_rfl) (by kernel_rfl) (by kernel_rfl) (fun _ _ _ h => h) (Or.inl ⟨by rfl, ?_⟩) (by first | assumption | rfl | trivial) ?_
          rotate_left 1
          · (intro w hSw; (try dsimp only at hSw); (try subst hSw); go_simp; try with_reducible rfl)
          simp only [Act.put, List.setIfInBounds_toArray, List.set_cons_zero, List.set_cons_succ]
          refine held_take (i := 2) (d := (some 10)) (v := ?_) rfl rfl (by kernel_rfl) (by kernel_rfl) (by kernel_rfl) (fun _ _ _ h => h) (Or.inl ⟨by rfl, ?_⟩) (by first | assumption | rfl | trivial) ?_
          rotate_left 1
          · (intro w hSw; (try dsimp only at hSw); (try subst hSw); go_simp; try with_reducible rfl)
          simp only [Act.put, List.setIfInBounds_toArray, List.set_cons_zero, List.set_cons_succ]
          refine held_take (i := 3) (d := (some 11)) (v := ?_) rfl rfl (by kernel_rfl) (by kernel_rfl) (by kernel_rfl) (fun _ _ _ h => h) (Or.inl ⟨by rfl, ?_⟩) (by first | assumption | rfl | trivial) ?_
          rotate_left 1
          · (intro w hSw; (try dsimp only at hSw); (try subst hSw); go_simp; try with_reducible rfl)
          simp only [Act.put, List.setIfInBounds_toArray, List.set_cons_zero, List.set_cons_succ]
          refine held_take (i := 4) (d := (some 12)) (v := ?_) rfl rfl (by kernel_rfl) (by kernel_rfl) (by kernel_rfl) (fun _ _ _ h => h) (Or.inl ⟨by rfl, ?_⟩) (by first | assumption | rfl | trivial) ?_
          rotate_left 1
          · (intro w hSw; (try dsimp only at hSw); (try subst hSw); go_simp; try with_reducible rfl)
          simp only [Act.put, List.setIfInBounds_toArray, List.set_cons_zero, List.set_cons_succ]
          refine held_take (i := 5) (d := (some 13)) (v := ?_) rfl rfl (by kernel_rfl) (by kernel_rfl) (by kernel_rfl) (fun _ _ _ h => h) (Or.inl ⟨by rfl, ?_⟩) (by first | assumption | rfl | trivial) ?_
          rotate_left 1
          · (intro w hSw; (try dsimp only at hSw); (try subst hSw); go_simp; try with_reducible rfl)
          simp only [Act.put, List.setIfInBounds_toArray, List.set_cons_zero, List.set_cons_succ]
          refine held_take (i := 6) (d := (some 14)) (v := ?_) rfl rfl (by kernel_rfl) (by kernel_rfl) (by kernel_rfl) (fun _ _ _ h => h) (Or.inl ⟨by rfl, ?_⟩) (by first | assumption | rfl | trivial) ?_
          rotate_left 1
          · (intro w hSw; (try dsimp only at hSw); (try subst hSw); go_simp; try with_reducible rfl)
          simp only [Act.put, List.setIfInBounds_toArray, List.set_cons_zero, List.set_cons_succ]
          refine held_take (i := 7) (d := (some 15)) (v := ?_) rfl rfl (by kernel_rfl) (by kernel_rfl) (by kernel_rfl) (fun _ _ _ h => h) (Or.inl ⟨by rfl, ?_⟩) (by first | assumption | rfl | trivial) ?_
          rotate_left 1
          · (intro w hSw; (try dsimp only at hSw); (try subst hSw); go_simp; try with_reducible rfl)
          simp only [Act.put, List.setIfInBounds_toArray, List.set_cons_zero, List.set_cons_succ]
          refine held_take (i := 8) (d := (some 16)) (v := ?_) rfl rfl (by kernel_rfl) (by kernel_rfl) (by kernel_rfl) (fun _ _ _ h => h) (Or.inl ⟨by rfl, ?_⟩) (by first | assumption | rfl | trivial) ?_
          rotate_left 1
          · (intro w hSw; (try dsimp only at hSw); (try subst hSw); go_simp; try with_reducible rfl)
          simp only [Act.put, List.setIfInBounds_toArray, List.set_cons_zero, List.set_cons_succ]
          refine held_take (i := 9) (d := (some 17)) (v := ?_) rfl rfl (by kernel_rfl) (by kernel_rfl) (by kernel_rfl) (fun _ _ _ h => h) (Or.inl ⟨by rfl, ?_⟩) (by first | assumption | rfl | trivial) ?_
          rotate_left 1
          · (intro w hSw; (try dsimp only at hSw); (try subst hSw); go_simp; try with_reducible rfl)
          simp only [Act.put, List.setIfInBounds_toArray, List.set_cons_zero, List.set_cons_succ]
          refine held_take (i := 10) (d := (some 18)) (v := ?_) rfl rfl (by kernel_rfl) (by kernel_rfl) (by kernel_rfl) (fun _ _ _ h => h) (Or.inl ⟨by rfl, ?_⟩) (by first | assumption | rfl | trivial) ?_
          rotate_left 1
          · (intro w hSw; (try dsimp only at hSw); (try subst hSw); go_simp; try with_reducible rfl)
          simp only [Act.put, List.setIfInBounds_toArray, List.set_cons_zero, List.set_cons_succ]
          refine held_take (i := 11) (d := (some 19)) (v := ?_) rfl rfl (by kernel_rfl) (by kernel_rfl) (by kernel_rfl) (fun _ _ _ h => h) (Or.inl ⟨by rfl, ?_⟩) (by first | assumption | rfl | trivial) ?_
          rotate_left 1
          · (intro w hSw; (try dsimp only at hSw); (try subst hSw); go_simp; try with_reducible rfl)
          simp only [Act.put, List.setIfInBounds_toArray, List.set_cons_zero, List.set_cons_succ]
          refine held_take (i := 12) (d := (some 20)) (v := ?_) rfl rfl (by kernel_rfl) (by kernel_rfl) (by kernel_rfl) (fun _ _ _ h => h) (Or.inl ⟨by rfl, ?_⟩) (by first | assumption | rfl | trivial) ?_
          rotate_left 1
          · (intro w hSw; (try dsimp only at hSw); (try subst hSw); go_simp; try with_reducible rfl)
          simp only [Act.put, List.setIfInBounds_toArray, List.set_cons_zero, List.set_cons_succ]
          refine held_take (i := 13) (d := (some 21)) (v := ?_) rfl rfl (by kernel_rfl) (by kernel_rfl) (by kernel_rfl) (fun _ _ _ h => h) (Or.inl ⟨by rfl, ?_⟩) (by first | assumption | rfl | trivial) ?_
          rotate_left 1
          · (intro w hSw; (try dsimp only at hSw); (try subst hSw); go_simp; try with_reducible rfl)
          simp only [Act.put, List.setIfInBounds_toArray, List.set_cons_zero, List.set_cons_succ]
          refine held_take (i := 14) (d := (some 22)) (v := ?_) rfl rfl (by kernel_rfl) (by kernel_rfl) (by kernel_rfl) (fun _ _ _ h => h) (Or.inl ⟨by rfl, ?_⟩) (by first | assumption | rfl | trivial) ?_
          rotate_left 1
          · (intro w hSw; (try dsimp only at hSw); (try subst hSw); go_simp; try with_reducible rfl)
          simp only [Act.put, List.setIfInBounds_toArray, List.set_cons_zero, List.set_cons_succ]
          refine held_take (i := 15) (d := (some 23)) (v := ?_) rfl rfl (by kernel_rfl) (by kernel_rfl) (by kernel_rfl) (fun _ _ _ h => h) (Or.inl ⟨by rfl, ?_⟩) (by first | assumption | rfl | trivial) ?_
          rotate_left 1
          · (intro w hSw; (try dsimp only at hSw); (try subst hSw); go_simp; try with_reducible rfl)
          simp only [Act.put, List.setIfInBounds_toArray, List.set_cons_zero, List.set_cons_succ]
          refine held_take (i := 16) (d := (some 24)) (v := ?_) rfl rfl (by kernel_rfl) (by kernel_rfl) (by kernel_rfl) (fun _ _ _ h => h) (Or.inl ⟨by rfl, ?_⟩) (by first | assumption | rfl | trivial) ?_
          rotate_left 1
          · (intro w hSw; (try dsimp only at hSw); (try subst hSw); go_simp; try with_reducible rfl)
          simp only [Act.put, List.setIfInBounds_toArray, List.set_cons_zero, List.set_cons_succ]
          refine held_take (i := 17) (d := (some 25)) (v := ?_) rfl rfl (by kernel_rfl) (by kernel_rfl) (by kernel_rfl) (fun _ _ _ h => h) (Or.inl ⟨by rfl, ?_⟩) (by first | assumption | rfl | trivial) ?_
          rotate_left 1
          · (intro w hSw; (try dsimp only at hSw); (try subst hSw); go_simp; try with_reducible rfl)
          simp only [Act.put, List.setIfInBounds_toArray, List.set_cons_zero, List.set_cons_succ]
          refine held_take (i := 18) (d := (some 26)) (v := ?_) rfl rfl (by kernel_rfl) (by kernel_rfl) (by kernel_rfl) (fun _ _ _ h => h) (Or.inl ⟨by rfl, ?_⟩) (by first | assumption | rfl | trivial) ?_
          rotate_left 1
          · (intro w hSw; (try dsimp only at hSw); (try subst hSw); go_simp; try with_reducible rfl)
          simp only [Act.put, List.setIfInBounds_toArray, List.set_cons_zero, List.set_cons_succ]
          refine held_take (i := 19) (d := (some 27)) (v := ?_) rfl rfl (by kernel_rfl) (by kernel_rfl) (by kernel_rfl) (fun _ _ _ h => h) (Or.inl ⟨by rfl, ?_⟩) (by first | assumption | rfl | trivial) ?_
          rotate_left 1
          · (intro w hSw; (try dsimp only at hSw); (try subst hSw); go_simp; try with_reducible rfl)
          simp only [Act.put, List.setIfInBounds_toArray, List.set_cons_zero, List.set_cons_succ]
          refine held_take (i := 20) (d := (some 28)) (v := ?_) rfl rfl (by kernel_rfl) (by kernel_rfl) (by kernel_rfl) (fun _ _ _ h => h) (Or.inl ⟨by rfl, ?_⟩) (by first | assumption | rfl | trivial) ?_
          rotate_left 1
          · (intro w hSw; (try dsimp only at hSw); (try subst hSw); go_simp; try with_reducible rfl)
          simp only [Act.put, List.setIfInBounds_toArray, List.set_cons_zero, List.set_cons_succ]
          refine held_take (i := 21) (d := (some 29)) (v := ?_) rfl rfl (by kernel_rfl) (by kernel_rfl) (by kernel_rfl) (fun _ _ _ h => h) (Or.inl ⟨by rfl, ?_⟩) (by first | assumption | rfl | trivial) ?_
          rotate_left 1
          · (intro w hSw; (try dsimp only at hSw); (try subst hSw); go_simp; try with_reducible rfl)
          simp only [Act.put, List.setIfInBounds_toArray, List.set_cons_zero, List.set_cons_succ]
          refine held_take (i := 22) (d := (some 30)) (v := ?_) rfl rfl (by kernel_rfl) (by kernel_rfl) (by kernel_rfl) (fun _ _ _ h => h) (Or.inl ⟨by rfl, ?_⟩) (by first | assumption | rfl | trivial) ?_
          rotate_left 1
          · (intro w hSw; (try dsimp only at hSw); (try subst hSw); go_simp; try with_reducible rfl)
          simp only [Act.put, List.setIfInBounds_toArray, List.set_cons_zero, List.set_cons_succ]
          refine held_take (i := 23) (d := (some 31)) (v := ?_) rfl rfl (by kernel_rfl) (by kernel_rfl) (by kernel_rfl) (fun _ _ _ h => h) (Or.inl ⟨by rfl, ?_⟩) (by first | assumption | rfl | trivial) ?_
          rotate_left 1
          · (intro w hSw; (try dsimp only at hSw); (try subst hSw); go_simp; try with_reducible rfl)
          simp only [Act.put, List.setIfInBounds_toArray, List.set_cons_zero, List.set_cons_succ]
          refine held_take (i := 24) (d := (some 32)) (v := ?_) rfl rfl (by kernel_rfl) (by kernel_rfl) (by kernel_rfl) (fun _ _ _ h => h) (Or.inl ⟨by rfl, ?_⟩) (by first | assumption | rfl | trivial) ?_
          rotate_left 1
          · (intro w hSw; (try dsimp only at hSw); (try subst hSw); go_simp; try with_reducible rfl)
          simp only [Act.put, List.setIfInBounds_toArray, List.set_cons_zero, List.set_cons_succ]
          refine held_take (i := 25) (d := (some 33)) (v := ?_) rfl rfl (by kernel_rfl) (by kernel_rfl) (by kernel_rfl) (fun _ _ _ h => h) (Or.inl ⟨by rfl, ?_⟩) (by first | assumption | rfl | trivial) ?_
          rotate_left 1
          · (intro w hSw; (try dsimp only at hSw); (try subst hSw); go_simp; try with_reducible rfl)
          simp only [Act.put, List.setIfInBounds_toArray, List.set_cons_zero, List.set_cons_succ]
          refine held_take (i := 26) (d := (some 34)) (v := ?_) rfl rfl (by kernel_rfl) (by kernel_rfl) (by kernel_rfl) (fun _ _ _ h => h) (Or.inl ⟨by rfl, ?_⟩) (by first | assumption | rfl | trivial) ?_
          rotate_left 1
          · (intro w hSw; (try dsimp only at hSw); (try subst hSw); go_simp; try with_reducible rfl)
          simp only [Act.put, List.setIfInBounds_toArray, List.set_cons_zero, List.set_cons_succ]
          refine held_take (i := 27) (d := (some 35)) (v := ?_) rfl rfl (by kernel_rfl) (by kernel_rfl) (by kernel_rfl) (fun _ _ _ h => h) (Or.inl ⟨by rfl, ?_⟩) (by first | assumption | rfl | trivial) ?_
          rotate_left 1
          · (intro w hSw; (try dsimp only at hSw); (try subst hSw); go_simp; try with_reducible rfl)
          simp only [Act.put, List.setIfInBounds_toArray, List.set_cons_zero, List.set_cons_succ]
          refine held_take (i := 28) (d := (some 36)) (v := ?_) rfl rfl (by kernel_rfl) (by kernel_rfl) (by kernel_rfl) (fun _ _ _ h => h) (Or.inl ⟨by rfl, ?_⟩) (by first | assumption | rfl | trivial) ?_
          rotate_left 1
          · (intro w hSw; (try dsimp only at hSw); (try subst hSw); go_simp; try with_reducible rfl)
          simp only [Act.put, List.setIfInBounds_toArray, List.set_cons_zero, List.set_cons_succ]
          refine wpAnyH_done (by kernel_rfl) ?_ _
          go_wp2
          go_ret
          rw [HE.out]
          exact ⟨OS.out, rfl, _, RS.out⟩
        · rw [if_neg (by omega)] at HE
          have q7 : decide ((n : Int) - (f : Int) < u) = false := by simpa using q4
          have hcm : IntKind.i64.wrap u = u := by rw [IntKind.wrap_i64]; omega
          go_enter Tryz.func54, Tryz.ntmps54
          go_wp2_with fail
          refine N.out.mono ?_
          rintro e x ⟨k, rfl, hrb⟩
          obtain ⟨d0, d1, d2, _⟩ := hrb.cell
          have RS := hide hrb.drew
          have OS := hide k.drew
          clear k hrb N
          go_upto_region 2 with fail
          refine wp_region_held_drew (S := fun w' => w'.cell? ⟨g, 0, none⟩ = some (.slice a n cap) ∧ w'.cell? ⟨g, 1, none⟩ = some (.int .i64 (f : Int)) ∧ w'.cell? ⟨g, 2, none⟩ = some (.bool false)) (by kernel_rfl) ⟨d0, d1, d2⟩ (fun hHeld => ?_)
          refine held_take (i := 0) (d := (some 8)) (v := ?_) rfl rfl (by kernel_rfl) (by kernel_rfl) (by kernel_rfl) (fun _ _ _ h => h) (Or.inl ⟨by rfl, ?_⟩) (by first | assumption | rfl | trivial) ?_
          rotate_left 1
          · (intro w hSw; (try dsimp only at hSw); (try subst hSw); go_simp; try with_reducible rfl)
          simp only [Act.put, List.setIfInBounds_toArray, List.set_cons_zero, List.set_cons_succ]
          refine held_take (i := 1) (d := (some 9)) (v := ?_) rfl rfl (by kernel_rfl) (by kernel_rfl) (by kernel_rfl) (fun _ _ _ h => h) (Or.inl ⟨by rfl, ?_⟩) (by first | assumption | rfl | trivial) ?_
          rotate_left 1
          · (intro w hSw; (try dsimp only at hSw); (try subst hSw); go_simp; try with_reducible rfl)
          simp only [Act.put, List.setIfInBounds_toArray, List.set_cons_zero, List.set_cons_succ]
          refine held_take (i := 2) (d := (some 10)) (v := ?_) rfl rfl (by kernel_rfl) (by kernel_rfl) (by kernel_rfl) (fun _ _ _ h => h) (Or.inl ⟨by rfl, ?_⟩) (by first | assumption | rfl | trivial) ?_
          rotate_left 1
          · (intro w hSw; (try dsimp only at hSw); (try subst hSw); go_simp; try with_reducible rfl)
          simp only [Act.put, List.setIfInBounds_toArray, List.set_cons_zero, List.set_cons_succ]
          refine held_take (i := 3) (d := (some 11)) (v := ?_) rfl rfl (by kernel_rfl) (by kernel_rfl) (by kernel_rfl) (fun _ _ _ h => h) (Or.inl ⟨by rfl, ?_⟩) (by first | assumption | rfl | trivial) ?_
          rotate_left 1
          · (intro w hSw; (try dsimp only at hSw); (try subst hSw); go_simp; try with_reducible rfl)
          simp only [Act.put, List.setIfInBounds_toArray, List.set_cons_zero, List.set_cons_succ]
          refine held_take (i := 4) (d := (some 12)) (v := ?_) rfl rfl (by kernel_rfl) (by kernel_rfl) (by kernel_rfl) (fun _ _ _ h => h) (Or.inl ⟨by rfl, ?_⟩) (by first | assumption | rfl | trivial) ?_
          rotate_left 1
          · (intro w hSw; (try dsimp only at hSw); (try subst hSw); go_simp; try with_reducible rfl)
          simp only [Act.put, List.setIfInBounds_toArray, List.set_cons_zero, List.set_cons_succ]
          refine held_take (i := 5) (d := (some 13)) (v := ?_) rfl rfl (by kernel_rfl) (by kernel_rfl) (by kernel_rfl) (fun _ _ _ h => h) (Or.inl ⟨by rfl, ?_⟩) (by first | assumption | rfl | trivial) ?_
          rotate_left 1
          · (intro w hSw; (try dsimp only at hSw); (try subst hSw); go_simp; try with_reducible rfl)
          simp only [Act.put, List.setIfInBounds_toArray, List.set_cons_zero, List.set_cons_succ]
          refine held_take (i := 6) (d := (some 14)) (v := ?_) rfl rfl (by kernel_rfl) (by kernel_rfl) (by kernel_rfl) (fun _ _ _ h => h) (Or.inl ⟨by rfl, ?_⟩) (by first | assumption | rfl | trivial) ?_
          rotate_left 1
          · (intro w hSw; (try dsimp only at hSw); (try subst hSw); go_simp; try with_reducible rfl)
          simp only [Act.put, List.setIfInBounds_toArray, List.set_cons_zero, List.set_cons_succ]
          refine held_take (i := 7) (d := (some 15)) (v := ?_) rfl rfl (by kernel_rfl) (by kernel_rfl) (by kernel_rfl) (fun _ _ _ h => h) (Or.inl ⟨by rfl, ?_⟩) (by first | assumption | rfl | trivial) ?_
          rotate_left 1
          · (intro w hSw; (try dsimp only at hSw); (try subst hSw); go_simp; try with_reducible rfl)
          simp only [Act.put, List.setIfInBounds_toArray, List.set_cons_zero, List.set_cons_succ]
          refine held_take (i := 8) (d := (some 16)) (v := ?_) rfl rfl (by kernel_rfl) (by kernel_rfl) (by kernel_rfl) (fun _ _ _ h => h) (Or.inl ⟨by rfl, ?_⟩) (by first | assumption | rfl | trivial) ?_
          rotate_left 1
          · (intro w hSw; (try dsimp only at hSw); (try subst hSw); go_simp; try with_reducible rfl)
          simp only [Act.put, List.setIfInBounds_toArray, List.set_cons_zero, List.set_cons_succ]
          refine held_take (i := 9) (d := (some 17)) (v := ?_) rfl rfl (by kernel_rfl) (by kernel_rfl) (by kernel_rfl) (fun _ _ _ h => h) (Or.inl ⟨by rfl, ?_⟩) (by first | assumption | rfl | trivial) ?_
          rotate_left 1
          · (intro w hSw; (try dsimp only at hSw); (try subst hSw); go_simp; try with_reducible rfl)
          simp only [Act.put, List.setIfInBounds_toArray, List.set_cons_zero, List.set_cons_succ]
          refine held_take (i := 10) (d := (some 18)) (v := ?_) rfl rfl (by kernel_rfl) (by kernel_rfl) (by kernel_rfl) (fun _ _ _ h => h) (Or.inl ⟨by rfl, ?_⟩) (by first | assumption | rfl | trivial) ?_
          rotate_left 1
          · (intro w hSw; (try dsimp only at hSw); (try subst hSw); go_simp; try with_reducible rfl)
          simp only [Act.put, List.setIfInBounds_toArray, List.set_cons_zero, List.set_cons_succ]
          refine held_take (i := 11) (d := (some 19)) (v := ?_) rfl rfl (by kernel_rfl) (by kernel_rfl) (by kernel_rfl) (fun _ _ _ h => h) (Or.inl ⟨by rfl, ?_⟩) (by first | assumption | rfl | trivial) ?_
          rotate_left 1
          · (intro w hSw; (try dsimp only at hSw); (try subst hSw); go_simp; try with_reducible rfl)
          simp only [Act.put, List.setIfInBounds_toArray, List.set_cons_zero, List.set_cons_succ]
          refine held_take (i := 12) (d := (some 20)) (v := ?_) rfl rfl (by kernel_rfl) (by kernel_rfl) (by kernel_rfl) (fun _ _ _ h => h) (Or.inl ⟨by rfl, ?_⟩) (by first | assumption | rfl | trivial) ?_
          rotate_left 1
          · (intro w hSw; (try dsimp only at hSw); (try subst hSw); go_simp; try with_reducible rfl)
          simp only [Act.put, List.setIfInBounds_toArray, List.set_cons_zero, List.set_cons_succ]
          refine held_take (i := 13) (d := (some 21)) (v := ?_) rfl rfl (by kernel_rfl) (by kernel_rfl) (by kernel_rfl) (fun _ _ _ h => h) (Or.inl ⟨by rfl, ?_⟩) (by first | assumption | rfl | trivial) ?_
          rotate_left 1
          · (intro w hSw; (try dsimp only at hSw); (try subst hSw); go_simp; try with_reducible rfl)
          simp only [Act.put, List.setIfInBounds_toArray, List.set_cons_zero, List.set_cons_succ]
          refine held_take (i := 14) (d := (some 22)) (v := ?_) rfl rfl (by kernel_rfl) (by kernel_rfl) (by kernel_rfl) (fun _ _ _ h => h) (Or.inl ⟨by rfl, ?_⟩) (by first | assumption | rfl | trivial) ?_
          rotate_left 1
          · (intro w hSw; (try dsimp only at hSw); (try subst hSw); go_simp; try with_reducible rfl)
          simp only [Act.put, List.setIfInBounds_toArray, List.set_cons_zero, List.set_cons_succ]
          refine held_take (i := 15) (d := (some 23)) (v := ?_) rfl rfl (by kernel_rfl) (by kernel_rfl) (by kernel_rfl) (fun _ _ _ h => h) (Or.inl ⟨by rfl, ?_⟩) (by first | assumption | rfl | trivial) ?_
          rotate_left 1
          · (intro w hSw; (try dsimp only at hSw); (try subst hSw); go_simp; try with_reducible rfl)
          simp only [Act.put, List.setIfInBounds_toArray, List.set_cons_zero, List.set_cons_succ]
          refine held_take (i := 16) (d := (some 24)) (v := ?_) rfl rfl (by kernel_rfl) (by kernel_rfl) (by kernel_rfl) (fun _ _ _ h => h) (Or.inl ⟨by rfl, ?_⟩) (by first | assumption | rfl | trivial) ?_
          rotate_left 1
          · (intro w hSw; (try dsimp only at hSw); (try subst hSw); go_simp; try with_reducible rfl)
          simp only [Act.put, List.setIfInBounds_toArray, List.set_cons_zero, List.set_cons_succ]
          refine held_take (i := 17) (d := (some 25)) (v := ?_) rfl rfl (by kernel_rfl) (by kernel_rfl) (by kernel_rfl) (fun _ _ _ h => h) (Or.inl ⟨by rfl, ?_⟩) (by first | assumption | rfl | trivial) ?_
          rotate_left 1
          · (intro w hSw; (try dsimp only at hSw); (try subst hSw); go_simp; try with_reducible rfl)
          simp only [Act.put, List.setIfInBounds_toArray, List.set_cons_zero, List.set_cons_succ]
          refine held_take (i := 18) (d := (some 26)) (v := ?_) rfl rfl (by kernel_rfl) (by kernel_rfl) (by kernel_rfl) (fun _ _ _ h => h) (Or.inl ⟨by rfl, ?_⟩) (by first | assumption | rfl | trivial) ?_
          rotate_left 1
          · (intro w hSw; (try dsimp only at hSw); (try subst hSw); go_simp; try with_reducible rfl)
          simp only [Act.put, List.setIfInBounds_toArray, List.set_cons_zero, List.set_cons_succ]
          refine held_take (i := 19) (d := (some 27)) (v := ?_) rfl rfl (by kernel_rfl) (by kernel_rfl) (by kernel_rfl) (fun _ _ _ h => h) (Or.inl ⟨by rfl, ?_⟩) (by first | assumption | rfl | trivial) ?_
          rotate_left 1
          · (intro w hSw; (try dsimp only at hSw); (try subst hSw); go_simp; try with_reducible rfl)
          simp only [Act.put, List.setIfInBounds_toArray, List.set_cons_zero, List.set_cons_succ]
          refine held_take (i := 20) (d := (some 28)) (v := ?_) rfl rfl (by kernel_rfl) (by kernel_rfl) (by kernel_rfl) (fun _ _ _ h => h) (Or.inl ⟨by rfl, ?_⟩) (by first | assumption | rfl | trivial) ?_
          rotate_left 1
          · (intro w hSw; (try dsimp only at hSw); (try subst hSw); go_simp; try with_reducible rfl)
          simp only [Act.put, List.setIfInBounds_toArray, List.set_cons_zero, List.set_cons_succ]
          refine held_take (i := 21) (d := (some 29)) (v := ?_) rfl rfl (by kernel_rfl) (by kernel_rfl) (by kernel_rfl) (fun _ _ _ h => h) (Or.inl ⟨by rfl, ?_⟩) (by first | assumption | rfl | trivial) ?_
          rotate_left 1
          · (intro w hSw; (try dsimp only at hSw); (try subst hSw); go_simp; try with_reducible rfl)
          simp only [Act.put, List.setIfInBounds_toArray, List.set_cons_zero, List.set_cons_succ]
          refine held_take (i := 22) (d := (some 30)) (v := ?_) rfl rfl (by kernel_rfl) (by kernel_rfl) (by kernel_rfl) (fun _ _ _ h => h) (Or.inl ⟨by rfl, ?_⟩) (by first | assumption | rfl | trivial) ?_
          rotate_left 1
          · (intro w hSw; (try dsimp only at hSw); (try subst hSw); go_simp; try with_reducible rfl)
          simp only [Act.put, List.setIfInBounds_toArray, List.set_cons_zero, List.set_cons_succ]
          refine held_take (i := 23) (d := (some 31)) (v := ?_) rfl rfl (by kernel_rfl) (by kernel_rfl) (by kernel_rfl) (fun _ _ _ h => h) (Or.inl ⟨by rfl, ?_⟩) (by first | assumption | rfl | trivial) ?_
          rotate_left 1
          · (intro w hSw; (try dsimp only at hSw); (try subst hSw); go_simp; try with_reducible rfl)
          simp only [Act.put, List.setIfInBounds_toArray, List.set_cons_zero, List.set_cons_succ]
          refine held_take (i := 24) (d := (some 32)) (v := ?_) rfl rfl (by kernel_rfl) (by kernel_rfl) (by kernel_rfl) (fun _ _ _ h => h) (Or.inl ⟨by rfl, ?_⟩) (by first | assumption | rfl | trivial) ?_
          rotate_left 1
          · (intro w hSw; (try dsimp only at hSw); (try subst hSw); go_simp; try with_reducible rfl)
          simp only [Act.put, List.setIfInBounds_toArray, List.set_cons_zero, List.set_cons_succ]
          refine held_take (i := 25) (d := (some 33)) (v := ?_) rfl rfl (by kernel_rfl) (by kernel_rfl) (by kernel_rfl) (fun _ _ _ h => h) (Or.inl ⟨by rfl, ?_⟩) (by first | assumption | rfl | trivial) ?_
          rotate_left 1
          · (intro w hSw; (try dsimp only at hSw); (try subst hSw); go_simp; try with_reducible rfl)
          simp only [Act.put, List.setIfInBounds_toArray, List.set_cons_zero, List.set_cons_succ]
          refine held_take (i := 26) (d := (some 34)) (v := ?_) rfl rfl (by kernel_rfl) (by kernel_rfl) (by kernel_rfl) (fun _ _ _ h => h) (Or.inl ⟨by rfl, ?_⟩) (by first | assumption | rfl | trivial) ?_
          rotate_left 1
          · (intro w hSw; (try dsimp only at hSw); (try subst hSw); go_simp; try with_reducible rfl)
          simp only [Act.put, List.setIfInBounds_toArray, List.set_cons_zero, List.set_cons_succ]
          refine held_take (i := 27) (d := (some 35)) (v := ?_) rfl rfl (by kernel_rfl) (by kernel_rfl) (by kernel_rfl) (fun _ _ _ h => h) (Or.inl ⟨by rfl, ?_⟩) (by first | assumption | rfl | trivial) ?_
          rotate_left 1
          · (intro w hSw; (try dsimp only at hSw); (try subst hSw); go_simp; try with_reducible rfl)
          simp only [Act.put, List.setIfInBounds_toArray, List.set_cons_zero, List.set_cons_succ]
          refine held_take (i := 28) (d := (some 36)) (v := ?_) rfl rfl (by kernel_rfl) (by kernel_rfl) (by kernel_rfl) (fun _ _ _ h => h) (Or.inl ⟨by rfl, ?_⟩) (by first | assumption | rfl | trivial) ?_
          rotate_left 1
          · (intro w hSw; (try dsimp only at hSw); (try subst hSw); go_simp; try with_reducible rfl)
          simp only [Act.put, List.setIfInBounds_toArray, List.set_cons_zero, List.set_cons_succ]
          refine wpAnyH_done (by kernel_rfl) ?_ _
          clear hHeld
          go_wp2
          go_ret
          rw [HE.out]
          exact ⟨OS.out, rfl, RS.out⟩
end Go.Proofs.YtadcaonkmncgoaaGreat

namespace Go.Proofs.YtadcaonkmncgoaaGreat
open Go.RowKit
set_option maxRecDepth 20000

theorem num_var (p : Int) (g : Nat) (a : Option Addr) (n cap : Nat) (zs : List Int) (w0 w : World) (hp : (Lit.int .i64 p).wf = true) (hr : Row .u8 w0 a n zs) (hg : w0.heap.size ≤ g) (hb : Below w0.heap.size w0 w) (hrb : RB w g a n cap p false) :
    Calls Tryz.prog 53 #[.pointer (some ⟨g, 0, none⟩)] w fun e w' => ∃ v q bad, e = .returned (.int .u64 v) ∧ Only g w w' ∧ RB w' g a n cap q bad ∧ W64 v ∧
      ((bad = false ∧ getS zs p = some (v, q)) ∨ (bad = true ∧ getS zs p = none)) := by
  refine (num_any p g a n cap zs w0 w hp hr hg hb hrb).mono ?_
  intro e w' h
  unfold NumP at h
  cases hx : getS zs p with
  | none =>
    rw [hx] at h
    obtain ⟨h1, h2, p', h3⟩ := h
    exact ⟨0, p', true, h2, h1, h3, ⟨by decide, by decide⟩, Or.inr ⟨rfl, rfl⟩⟩
  | some q =>
    rw [hx] at h
    obtain ⟨h1, h2, h3⟩ := h
    obtain ⟨v, q⟩ := q
    exact ⟨v, q, false, h2, h1, h3, (getS_some hr.bytes hx).1, Or.inl ⟨rfl, rfl⟩⟩

theorem words_wf' {zs : List Int} (h : ∀ z ∈ zs, W64 z) : ∀ z ∈ zs, (Lit.int .u64 z).wf = true := fun z hz => wf_of_u64 (h z hz)

theorem RB.below {B : Nat} {w w' : World} {g : Nat} {a : Option Addr} {n cap : Nat} {p : Int} {bad : Bool} (h : RB w g a n cap p bad) (hb : Below B w w') (hg : g < B) : RB w' g a n cap p bad := by
  unfold RB at *
  rw [hb.block g hg]; exact h
theorem RB.lt {w : World} {g : Nat} {a : Option Addr} {n cap : Nat} {p : Int} {bad : Bool} (h : RB w g a n cap p bad) : g < w.heap.size := by
  unfold RB at h
  by_cases hg : g < w.heap.size
  · exact hg
  · rw [Array.getElem?_eq_none (by omega)] at h; simp at h
theorem Own.only {e : TypeId} {k : IntKind} {w w' : World} {g base n cap : Nat} {a : Option Addr} {zs : List Int} (h : Own e k w base a n cap zs) (ho : Only g w w') (hg : g < base) : Own e k w' base a n cap zs := by
  unfold Own at *
  refine ⟨h.1, ?_⟩
  rcases h.2 with h1 | ⟨b, c, cur, h1, h2, h3, h4⟩
  · exact Or.inl h1
  · exact Or.inr ⟨b, c, cur, h1, h2, by rw [ho.block b (by omega)]; exact h3, h4⟩

/-- How it stands behind k rounds: all is well, or the reader is spoilt. -/
def Stand (zs : List Int) (p0 most : Int) (m g : Nat) (a : Option Addr) (n cap k : Nat) (ar : Option Addr) (nr capr : Nat) (wr : World) : Prop :=
  (∃ q p pre, RB wr g a n cap q false ∧ 0 ≤ q ∧ q ≤ n ∧ k = nr ∧ MineL wr (g + 1) ar nr capr pre ∧ -1 ≤ p ∧ p ≤ 18446744073709551615 ∧ (k = 0 → p = -1) ∧ (0 < k → 0 ≤ p ∧ pre.getD (k - 1) 0 = p) ∧ (∀ z ∈ pre, W64 z) ∧
    riseS zs p0 most = (riseG zs (m - k) p q).map fun r => (pre ++ r.1, r.2)) ∨
  (∃ q, RB wr g a n cap q true ∧ riseS zs p0 most = none)

/-- What the reader's Rise leaves. -/
def ReadP (g : Nat) (a : Option Addr) (n cap : Nat) (r : Option (List Int × Int)) (w w' : World) (e : Ending) : Prop :=
  Below g w w' ∧ match r with
  | none => e = .returned (.slice none 0 0) ∧ ∃ p', RB w' g a n cap p' true
  | some q => ∃ a' cap', e = .returned (.slice a' q.1.length cap') ∧ MineL w' (g + 1) a' q.1.length cap' q.1 ∧ RB w' g a n cap q.2 false

set_option maxRecDepth 100000 in
set_option maxHeartbeats 2000000 in
theorem rrise_wide (p most : Int) (g : Nat) (a : Option Addr) (n cap : Nat) (zs : List Int) (w0 w : World) (hp : (Lit.int .i64 p).wf = true) (hm : (Lit.int .i64 most).wf = true) (hc : n ≤ cap) (hn : n ≤ 1048576 ∨ most ≤ 1048576) (hr : Row .u8 w0 a n zs) (hg : w0.heap.size ≤ g) (hb : Below w0.heap.size w0 w) (hrb : RB w g a n cap p false) :
    Calls Tryz.prog 29 #[.pointer (some ⟨g, 0, none⟩), .int .i64 most] w fun e w' => ReadP g a n cap (riseS zs p most) w w' e := by
  have C := hide (rcount_any p most g a n cap zs w0 w hp hm hc hr hg hb hrb)
  have HR := hide hr
  have HB := hide hb
  have hl := hr.1
  have hn2 := hr.2.1
  have hgw := hrb.lt
  obtain ⟨i0, hi, hz0, hz1, hz2⟩ := info_parts Tryz.info22
  clear hp hm hb hrb
  cases hs : sizeS zs p most with
  | none =>
    have HE : Hid (riseS zs p most = none) := by show _ = _; unfold riseS; rw [hs]
    rw [hs] at C
    simp only [CountP] at C
    clear hs hl hi hz0 hz1 hz2 hr
    go_enter Tryz.func29, Tryz.ntmps29
    go_wp2_with fail
    refine C.out.mono ?_
    rintro e x ⟨k, rfl, p', hrb⟩
    obtain ⟨_, _, d2, _⟩ := hrb.cell
    have RS := hide hrb
    have OS := hide (k.below (Nat.le_refl _))
    clear k hrb C
    go_wp2
    refine wp_loop_rounds 1 ?_
    rw [rounds_succ]
    go_wp2
    go_ret
    rw [HE.out]
    exact ⟨OS.out, rfl, _, RS.out⟩
  | some q0 =>
    obtain ⟨v0, fr⟩ := q0
    obtain ⟨_, hv0, hvm, hf0, hle⟩ := sizeS_some hr.bytes hs
    obtain ⟨m, rfl⟩ := Int.eq_ofNat_of_zero_le hv0
    have hmn : m ≤ n := by omega
    have hmm : m ≤ 1048576 := by
      rcases hn with h | h
      · omega
      · omega
    have hfn : fr ≤ n := by omega
    have HE : Hid (riseS zs p most = riseG zs m (-1) fr) := by show _ = _; unfold riseS; rw [hs]; rfl
    rw [hs] at C
    simp only [CountP] at C
    clear hs hl hr hle hv0 hvm
    go_enter Tryz.func29, Tryz.ntmps29
    go_wp2_with fail
    refine C.out.mono ?_
    rintro e x ⟨k, rfl, hrb⟩
    have RS := hide hrb
    have OS := hide (k.below (Nat.le_refl g))
    have hgx : g < x.heap.size := hrb.lt
    clear k hrb C
    go_wp2
    go_loopw [6, 7] (fun l i wr => ∃ (k : Nat) (ar : Option Addr) (nr capr : Nat), k ≤ m ∧ nr ≤ 1048576 ∧ i = .int .i64 k ∧ l = .slice ar nr capr ∧ Hid (Below g w wr) ∧ Hid (g < wr.heap.size) ∧ Hid (Stand zs p most m g a n cap k ar nr capr wr)) (fun _ i _ => m - (intOf i).toNat)
    case atStart =>
      refine ⟨0, none, 0, 0, by omega, by omega, rfl, rfl, OS, hgx, Or.inl ⟨fr, -1, [], RS, hf0, hfn, rfl, own_nil _ _ _ _, by omega, by omega, fun _ => rfl, fun h => absurd h (by omega), by simp, ?_⟩⟩
      rw [HE.out, Nat.sub_zero]
      cases riseG zs m (-1) fr <;> simp
    case round =>
      obtain ⟨k, ar, nr, capr, hk, hnr, rfl, rfl, HW, HG, HS⟩ := hrel
      clear RS OS
      rcases HS.out with ⟨q, pp, pre, hrb, q0, q1, rfl, hown, p0, p1, e0, e1, e4, e5⟩ | ⟨q, hrb, hnone⟩
      · obtain ⟨_, _, d2, _⟩ := hrb.cell
        by_cases hlt : k < m
        · have hbw : Below w0.heap.size w0 wr := HB.out.trans (HW.out.mono hg)
          have N := hide (num_var q g a n cap zs w0 wr (i64_wf (by omega) (by omega)) HR.out hg hbw hrb)
          have HO := hide hown
          have HE1 := hide e1
          have HE0 := hide e0
          have HE4 := hide e4
          have HE5 := hide e5
          clear e0 e1 e4 e5 hrb hown HS hbw HE
          go_wp2_with fail
          refine N.out.mono ?_
          rintro e x ⟨v, q', bad, rfl, k8, hrb, hv, hgot⟩
          obtain ⟨_, _, b2, bf⟩ := hrb.cell
          have bf2 := bf 2
          have v0 := hv.1
          have v1 := hv.2
          have OX := hide (HO.out.only k8 (by omega))
          have KX : Hid (Below g w x) := HW.out.trans (k8.below (Nat.le_refl _))
          have hgx2 : g < x.heap.size := hrb.lt
          have RBX := hide hrb
          have HNS : Hid (¬ 18446744073709551615 - pp ≤ v → ∀ y ar' cap', RB y g a n cap q' bad → MineL y (g + 1) ar' (k + 1) cap' (pre ++ [pp + v + 1]) → Stand zs p most m g a n cap (k + 1) ar' (k + 1) cap' y) := by
            intro hno y ar' cap' h1 h2
            have hpl := HO.out.len
            rcases hgot with ⟨rfl, hgs⟩ | ⟨rfl, hgs⟩
            · obtain ⟨_, kk, _, _, hnx, hle, _⟩ := getS_some HR.out.bytes hgs
              have hzl := HR.out.1
              refine Or.inl ⟨q', pp + v + 1, pre ++ [pp + v + 1], h1, by omega, by omega, rfl, h2, by omega, by omega, fun h => absurd h (by omega), fun _ => ⟨by omega, ?_⟩, ?_, ?_⟩
              · rw [Nat.add_sub_cancel, ← hpl]; simp
              · intro z hz
                rcases List.mem_append.1 hz with hz | hz
                · exact HE4.out z hz
                · simp at hz; subst hz; exact ⟨by omega, by omega⟩
              · rw [HE5.out, riseG_some hlt hgs, if_neg hno, map_pre]
            · exact Or.inr ⟨q', h1, by rw [HE5.out, riseG_none hlt hgs]; rfl⟩
          have HBAD : Hid (18446744073709551615 - pp ≤ v → riseS zs p most = none) := by
            intro hyes
            rcases hgot with ⟨rfl, hgs⟩ | ⟨rfl, hgs⟩
            · rw [HE5.out, riseG_some hlt hgs, if_pos hyes]; rfl
            · rw [HE5.out, riseG_none hlt hgs]; rfl
          clear k8 hrb hgot hv bf N HE5 HO
          by_cases hk0 : k = 0
          · have hp1 : pp = -1 := HE0.out hk0
            have hz : pp + v + 1 = v := by omega
            rw [hz] at HNS
            have tk : ((k : Int) == 0) = true := by simp [hk0]
            have HN2 := hide (HNS.out (by omega))
            have H1 := hide (one_row (k := .u64) x v (wf_of_u64 ⟨v0, v1⟩) 24 (0, 0))
            have SA : Hid (Src 24 .u64 (x.alloc (.cells #[.int .u64 v] 24)) (g + 1) ar k capr pre) := Or.inl (OX.out.alloc _)
            have HBW : Hid (g + 1 ≤ (x.alloc (.cells #[.int .u64 v] 24)).heap.size) := by
              show _ ≤ _
              simp; omega
            clear hp1 hz HNS hk0 p0
            go_wp2_with (at_builtin; refine wpList_append_src (ek := .u64) _ rfl _ _ 23 rfl (g + 1) 24 i0 8 Tryz.underlying23 hi hz0 hz1 hz2 ar k capr _ rfl SA.out _ 1 1 [v] rfl (by decide) H1.out (by omega) (by decide) HBW.out ?_)
            intro a' cap' y h1 h2
            have RY : RB y g a n cap q' bad := (RBX.out.below ((Below.refl x.heap.size x).alloc (Nat.le_refl _) (.cells #[.int .u64 v] 24)) hgx2).below h2 (by omega)
            have HST := hide (HN2.out y a' cap' RY h1)
            have KY : Hid (Below g w y) := (KX.out.alloc (Nat.le_of_lt hgx2) _).trans (h2.mono (by omega))
            have hgy : Hid (g < y.heap.size) := RY.lt
            clear h1 h2 RY SA H1 HBW HN2
            go_wp2
            go_roundw
            case rel => exact ⟨k + 1, a', k + 1, cap', by omega, by omega, by go_num, rfl, KY, hgy, HST⟩
            case measure => simp [intOf]; omega
          · obtain ⟨j, rfl⟩ : ∃ j, k = j + 1 := ⟨k - 1, by omega⟩
            have hp1 : 0 ≤ pp := (HE1.out (by omega)).1
            have hp2 : pre.getD j 0 = pp := (HE1.out (by omega)).2
            have tk : ((j : Int) + 1 == 0) = false := by simp; omega
            have j1 : (0 : Int) ≤ (j : Int) := by omega
            have j2 : (j : Int) < (j : Int) + 1 := by omega
            obtain ⟨_, _, _, h | ⟨lb, lo, rfl, hcell⟩⟩ := OX.out.row (by omega) (words_wf' HE4.out)
            · omega
            have hcj := hcell j (by omega)
            rw [hp2] at hcj
            clear hcell hp2 hk0 p0
            by_cases hyes : 18446744073709551615 - pp ≤ v
            · have HN2 := hide (HBAD.out hyes)
              have RS := hide RBX.out.spoil
              have KS : Hid (Below g w (x.setCell ⟨g, 2, none⟩ (.bool true))) := KX.out.setCell (Nat.le_refl _) _
              go_wp2
              go_ret
              rw [HN2.out]
              exact ⟨KS.out, rfl, _, RS.out⟩
            · have HN2 := hide (HNS.out hyes)
              have hs1 : pp + v ≤ 18446744073709551614 := by omega
              have hs4 : 0 ≤ pp + v + 1 := by omega
              have H1 := hide (one_row (k := .u64) x (pp + v + 1) (wf_of_u64 ⟨by omega, by omega⟩) 24 (0, 0))
              have SA : Hid (Src 24 .u64 (x.alloc (.cells #[.int .u64 (pp + v + 1)] 24)) (g + 1) (some ⟨lb, lo, none⟩) (j + 1) capr pre) := Or.inl (OX.out.alloc _)
              have HBW : Hid (g + 1 ≤ (x.alloc (.cells #[.int .u64 (pp + v + 1)] 24)).heap.size) := by
                show _ ≤ _
                simp; omega
              clear HNS
              go_wp2_with (at_builtin; refine wpList_append_src (ek := .u64) _ rfl _ _ 23 rfl (g + 1) 24 i0 8 Tryz.underlying23 hi hz0 hz1 hz2 (some ⟨lb, lo, none⟩) (j + 1) capr _ rfl SA.out _ 1 1 [pp + v + 1] rfl (by decide) H1.out (by omega) (by decide) HBW.out ?_)
              intro a' cap' y h1 h2
              have RY : RB y g a n cap q' bad := (RBX.out.below ((Below.refl x.heap.size x).alloc (Nat.le_refl _) (.cells #[.int .u64 (pp + v + 1)] 24)) hgx2).below h2 (by omega)
              have HST := hide (HN2.out y a' cap' RY h1)
              have KY : Hid (Below g w y) := (KX.out.alloc (Nat.le_of_lt hgx2) _).trans (h2.mono (by omega))
              have hgy : Hid (g < y.heap.size) := RY.lt
              clear h1 h2 RY SA H1 HBW HN2
              go_wp2
              go_roundw
              case rel => exact ⟨j + 1 + 1, a', j + 1 + 1, cap', by omega, by omega, by go_num, rfl, KY, hgy, HST⟩
              case measure => simp [intOf]; omega
        · have : k = m := by omega
          subst this
          have HF : Hid (riseS zs p most = some (pre, q)) := by
            show _ = _
            rw [e5, Nat.sub_self, riseG]; simp
          have HO := hide (And.intro hown hrb)
          have hpl := hown.len
          clear e0 e1 e4 e5 hrb hown HS
          go_wp2
          go_ret
          rw [HF.out]
          refine ⟨HW.out, ar, capr, ?_, ?_, HO.out.2⟩
          · show Ending.returned (.slice ar k capr) = _
            rw [hpl]
          · rw [hpl]; exact HO.out.1
      · obtain ⟨_, _, d2, _⟩ := hrb.cell
        have HN := hide (And.intro hrb hnone)
        clear hrb hnone HS
        by_cases hlt : k < m
        · go_wp2
          go_ret
          rw [HN.out.2]
          exact ⟨HW.out, rfl, _, HN.out.1⟩
        · have : k = m := by omega
          subst this
          go_wp2
          go_ret
          rw [HN.out.2]
          exact ⟨HW.out, rfl, _, HN.out.1⟩
theorem rrise_any (p most : Int) (g : Nat) (a : Option Addr) (n cap : Nat) (zs : List Int) (w0 w : World) (hp : (Lit.int .i64 p).wf = true) (hm : (Lit.int .i64 most).wf = true) (hc : n ≤ cap) (hn : n ≤ 1048576) (hr : Row .u8 w0 a n zs) (hg : w0.heap.size ≤ g) (hb : Below w0.heap.size w0 w) (hrb : RB w g a n cap p false) :
    Calls Tryz.prog 29 #[.pointer (some ⟨g, 0, none⟩), .int .i64 most] w fun e w' => ReadP g a n cap (riseS zs p most) w w' e := rrise_wide p most g a n cap zs w0 w hp hm hc (Or.inl hn) hr hg hb hrb

end Go.Proofs.YtadcaonkmncgoaaGreat

namespace Go.Proofs.YtadcaonkmncgoaaGreat
open Go.RowKit
set_option maxRecDepth 20000

set_option maxHeartbeats 400000 in
theorem bytes_any (a : Option Addr) (n cap : Nat) (zs : List Int) (w : World) (hr : Row .u8 w a n zs) (hc : a = none → cap = 0) (hn : n ≤ 140737488355328) :
    Calls Tryz.prog 6 #[.slice a n cap] w fun e w' => ∃ a' cap', e = .returned (.slice a' n cap') ∧ Mine w' w.heap.size a' n cap' zs ∧ Below w.heap.size w w' := by
  obtain ⟨i0, hi, hz0, hz1, hz2⟩ := info_parts Tryz.info5
  have hl := hr.1
  have HF : Hid (∀ (v' : Value) (w' : World), w'.ownsRow w.heap.size 5 1 v' n (zs.map (Value.int .u8)) → w.grownBy w' (Value.slice none 0 0).ownBlock →
      (∃ a' cap', v' = .slice a' n cap' ∧ Mine w' w.heap.size a' n cap' zs ∧ Below w.heap.size w w')) := by
    intro v' w' h1 h2
    obtain ⟨a', cap', rfl, ho⟩ := own_form h1
    exact ⟨a', cap', rfl, ho, (Below.refl _ _).grown h2 (Nat.le_refl _) (fun k hk => by simp [Value.ownBlock] at hk)⟩
  cases a with
  | none =>
    obtain rfl := hc rfl
    have h0 := hr.nz rfl
    subst h0
    have hz : zs = [] := List.length_eq_zero_iff.1 hl
    subst hz
    clear HF
    go_enter Tryz.func6, Tryz.ntmps6
    go_wp2_with (at_builtin; refine wpList_append_own_none rfl _ _ 29 rfl w.heap.size 5 i0 1 Tryz.underlying29 hi _ 0 [] rfl (World.ownsRow_nil _ _ _ _) rfl ?_)
    go_ret
    exact ⟨none, 0, rfl, World.ownsRow_nil _ _ _ _, Below.refl _ _⟩
  | some ad =>
    have HN := hide hr.cells
    clear hr
    go_enter Tryz.func6, Tryz.ntmps6
    go_wp2_with (at_builtin; refine wpList_append_own _ rfl _ _ 29 rfl w.heap.size 5 i0 (.int .u8 0) 1 1 Tryz.underlying29 hi hz0 hz1 hz2 rfl (by decide) _ 0 [] rfl (World.ownsRow_nil _ _ _ _) ad n cap (zs.map (Value.int .u8)) rfl (by simp [hl]) HN.out (one_cell .u8 zs) (by unfold maxLen; omega) (by omega) (Nat.le_refl _) ?_)
    intro v' w' h1 h2 _
    obtain ⟨a', cap', rfl, h3, h4⟩ := HF.out v' w' h1 h2
    have H3 := hide h3
    clear h1 h2 h3 HF HN
    go_wp2
    go_ret
    exact ⟨a', cap', rfl, H3, h4⟩
end Go.Proofs.YtadcaonkmncgoaaGreat
