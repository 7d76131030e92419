/-
  Texts of bytes, sums of texts, which numbers fit. Bytes of a row behind bytes of the call's own; when a list rises, told place by place. The document's own answers (the laws' reference): a number's bytes, and a number got by the reader that keeps its place in memory: contracts, for every world. A new reader. The document's own answers on lists that rise: a list's bytes: a contract, for every world. How many things follow, by the reader: a contract, for every world. A list that rises, by the reader: a contract, for every world. The laws' own copy of bytes in new memory: a contract, for every world.
  Conditions: the lengths are below 2^48; the slices show their bytes and numbers; there is room for them; the number is a word of 64 bits; the reader's bytes lie in memory older than itself; none; there is room for the bytes; the reader's bytes lie in memory older than itself; the reader's bytes lie in memory older than itself, no more than 1048576 of them; the slice shows its bytes, no more than 2^47.
-/
import Derived.Test.YthebcmkainplnaaBytA
import Derived.Laws.Concat
import Derived.Laws.AppendOwnNone
import Derived.Test.YthebcmkainplnaaVintL
import Derived.BigRegion
import Derived.Deep.RegionHeld3
import Derived.Deep.CutRange
import Derived.WalkLawsBesides
import Derived.Test.YthebcmkainplnaaVintR
namespace Go.Proofs.Ythebcmkainplnaa
open Go.RowKit
set_option maxRecDepth 20000

theorem fits_wf {zs : List Int} (h : Bytes8 zs) : ∀ z ∈ zs, (Lit.int .u8 z).wf = true := fun z hz => wf_of_u8 (h z hz).1 (h z hz).2
theorem words_wf {zs : List Int} (h : ∀ z ∈ zs, W64 z) : ∀ z ∈ zs, (Lit.int .u64 z).wf = true := fun z hz => wf_of_u64 (h z hz)
theorem mine_string {w : World} {base n cap : Nat} {a : Option Addr} {zs : List Int} (h : Mine w base a n cap zs) (hn : n ≤ 281474976710656) (hz : Bytes8 zs) :
    (convert 38 9 (.slice a n cap)).run Try.prog w = .ok (.string (strOfNums zs)) w := row_string (h.row hn (fits_wf hz))
theorem Own.row8 {e : TypeId} {w : World} {base n cap : Nat} {a : Option Addr} {zs : List Int} (h : Own e .u8 w base a n cap zs) (hn : n ≤ 281474976710656) (hz : Bytes8 zs) : Row .u8 w a n zs := h.row hn (fits_wf hz)
theorem add_str (xs ys : List Int) (h : xs.length + ys.length ≤ 281474976710656) (w : World) :
    (Op.stringOp .add (strOfNums xs) (strOfNums ys)).run Try.prog w = .ok (.string (strOfNums (xs ++ ys))) w := by
  rw [run_string_add_sum (P := Try.prog) w _ _ (by rw [strOfNums_size, strOfNums_size]; omega), strOf_append]
end Go.Proofs.Ythebcmkainplnaa

namespace Go.Proofs.Ythebcmkainplnaa
open Go.RowKit
set_option maxRecDepth 20000

/-- The append of a row's bytes, of none too, behind bytes of the call's own. -/
theorem wpList_append_row {P : Program} (w : World) {ops : Array Oper} {rest : List Oper} {o : Oper} {a : Act} {Q : Exit → Act → World → Prop} (hgd : o.guard = none) (s x : Operand) (t : TypeId)
    (ho : o.op = .call { callee := .builtin .append, args := #[s, x], argTypes := #[t, t] })
    (base : Nat) (e : TypeId) (i : TypeInfo) (ht : P.underlying t = some (.slice e)) (hi : P.info? e = some i) (hz : i.zero = some (.int .u8 0)) (hsize : i.size = 1) (hby : i.bytes = 1)
    (ao : Option Addr) (n cap : Nat) (zs : List Int) (hs : a.eval s = .slice ao n cap) (hown : Own e .u8 w base ao n cap zs)
    (bo : Option Addr) (m c : Nat) (news : List Int) (hx : a.eval x = .slice bo m c) (hrow : Row .u8 w bo m news) (hbo : bo = none → c = 0)
    (hbytes : n + m ≤ 140737488355328) (hbase : base ≤ w.heap.size)
    (h : ∀ a' cap' w', Own e .u8 w' base a' (n + m) cap' (zs ++ news) → Below base w w' → wpList P ops Q rest (a.put o.dst (.slice a' (n + m) cap')) w') : wpList P ops Q (o :: rest) a w := by
  cases bo with
  | none =>
    have h0 := hrow.nz rfl
    subst h0
    obtain rfl := hbo rfl
    have hz : news = [] := List.length_eq_zero_iff.1 hrow.1
    subst hz
    refine wpList_append_own_none hgd s x t ho base e i 1 ht hi _ n (zs.map (Value.int .u8)) hs hown hx ?_
    have := h ao cap w (by rw [List.append_nil]; exact hown) (Below.refl _ _)
    exact this
  | some ad =>
    refine wpList_append_own w hgd s x t ho base e i (.int .u8 0) 1 1 ht hi hz hsize hby rfl (by decide) _ n (zs.map (Value.int .u8)) hs hown ad m c (news.map (Value.int .u8)) hx (by simp [hrow.1]) hrow.cells (one_cell .u8 news) (by unfold maxLen; omega) (by omega) hbase ?_
    intro v' w' h1 h2 _
    rw [← List.map_append] at h1
    obtain ⟨a', cap', rfl, h3⟩ := own_form h1
    exact h a' cap' w' h3 ((Below.refl _ _).grown h2 hbase (own_block hown))

/-- Up to place k each is above the one ahead. -/
def RisesTo (l : List Int) (k : Nat) : Prop := ∀ j, j + 1 < k → l.getD j 0 < l.getD (j + 1) 0

theorem risesTo_one (l : List Int) : RisesTo l 1 := fun j hj => by omega
theorem risesTo_succ {l : List Int} {k : Nat} : RisesTo l (k + 1 + 1) ↔ RisesTo l (k + 1) ∧ l.getD k 0 < l.getD (k + 1) 0 := by
  constructor
  · intro h
    exact ⟨fun j hj => h j (by omega), h k (by omega)⟩
  · rintro ⟨h, h1⟩ j hj
    by_cases e : j = k
    · subst e; exact h1
    · exact h j (by omega)

theorem rises_tail (p : Int) (l : List Int) : Rises p l ↔ (l = [] ∨ p < l.getD 0 0) ∧ RisesTo l l.length := by
  induction l generalizing p with
  | nil => simp [Rises, RisesTo]
  | cons x t ih =>
    simp only [Rises]
    rw [ih x]
    constructor
    · rintro ⟨h1, h2, h3⟩
      refine ⟨Or.inr (by simpa using h1), ?_⟩
      intro j hj
      cases j with
      | zero =>
        rcases h2 with rfl | h2
        · simp at hj
        · simpa using h2
      | succ j =>
        have := h3 j (by simp at hj; omega)
        simpa using this
    · rintro ⟨h1, h2⟩
      refine ⟨by simpa using h1, ?_, ?_⟩
      · cases t with
        | nil => exact Or.inl rfl
        | cons y t => exact Or.inr (by have := h2 0 (by simp); simpa using this)
      · intro j hj
        have := h2 (j + 1) (by simp; omega)
        simpa using this

theorem rises_iff {l : List Int} (hw : ∀ z ∈ l, W64 z) (k : Nat) (hk : l.length ≤ k) (hk1 : k ≤ l.length ∨ k = 1) : Rises (-1) l ↔ RisesTo l k := by
  rw [rises_tail]
  have h0 : l = [] ∨ (-1 : Int) < l.getD 0 0 := by
    cases l with
    | nil => exact Or.inl rfl
    | cons x t => exact Or.inr (by have := (hw x (by simp)).1; simp; omega)
  constructor
  · rintro ⟨_, h⟩ j hj
    exact h j (by omega)
  · intro h
    exact ⟨h0, fun j hj => h j (by omega)⟩
end Go.Proofs.Ythebcmkainplnaa

namespace Go.Proofs.Ythebcmkainplnaa
open Go.RowKit
set_option maxRecDepth 20000

set_option maxHeartbeats 1000000 in
theorem refput_any (v : Int) (w : World) (hv : W64 v) :
    Calls Try.prog 44 #[.int .u64 v] w fun e w' => ∃ a' cap', e = .returned (.slice a' (putS v).length cap') ∧ Mine w' w.heap.size a' (putS v).length cap' (putS v) ∧ Below w.heap.size w w' := by
  obtain ⟨i0, hi, hz0, hz1, hz2⟩ := info_parts Try.info5
  have HV : Hid (v < 2 * 128 ^ 9) := (w64_two.2 hv).2
  obtain ⟨v0, v1⟩ := hv
  go_enter Try.func44, Try.ntmps44
  go_wp2
  go_loopw [3, 0] (fun b x wr => ∃ (ar : Option Addr) (nr capr : Nat) (pre : List Int) (f : Nat) (u : Int), b = .slice ar nr capr ∧ x = .int .u64 u ∧ 0 ≤ u ∧ u ≤ 18446744073709551615 ∧ nr ≤ 9 ∧ f ≤ 9 ∧ Hid (nr = pre.length ∧ pre.length + f = 9 ∧ u < 2 * 128 ^ f ∧ putS v = pre ++ putF f u) ∧ Hid (Mine wr w.heap.size ar nr capr pre) ∧ Hid (Below w.heap.size w wr)) (fun _ x _ => (intOf x).toNat)
  case atStart => exact ⟨none, 0, 0, [], 9, v, rfl, rfl, v0, by omega, by omega, by omega, ⟨rfl, rfl, HV.out, rfl⟩, own_nil _ _ _ _, Below.refl _ _⟩
  case round =>
    obtain ⟨ar, nr, capr, pre, f, u, rfl, rfl, u0, u1, hnr, hf, HP, HR, HW⟩ := hrel
    by_cases hu : u < 128
    · have e1 : u % 256 = u := by omega
      have HO := hide (one_row (k := .u8) wr u (wf_of_u8 u0 (by omega)) 5 (0, 0))
      have HSA : Hid (Src 5 .u8 (wr.alloc (.cells #[.int .u8 u] 5)) w.heap.size ar nr capr pre) := Or.inl (HR.out.alloc _)
      have HBW : Hid (w.heap.size ≤ (wr.alloc (.cells #[.int .u8 u] 5)).heap.size) := by
        have := HW.out.size
        show _ ≤ _
        simp; omega
      go_wp2_with (at_builtin; refine wpList_append_one _ rfl _ _ 38 rfl w.heap.size 5 i0 Try.underlying38 hi hz0 hz1 hz2 ar nr capr _ rfl HSA.out _ 1 u rfl HO.out (by omega) HBW.out ?_)
      intro a' cap' w' h1 h2
      have HF : Hid (nr + 1 = (putS v).length ∧ pre ++ [u] = putS v ∧ Below w.heap.size w w') := by
        obtain ⟨p1, p2, p3, p4⟩ := HP.out
        refine ⟨?_, ?_, (HW.out.alloc HW.out.size _).trans h2⟩
        · rw [p4, putF_one hu, List.length_append, List.length_singleton]; omega
        · rw [p4, putF_one hu]
      have H1 := hide h1
      clear h1 h2 HP HR HW HSA HO HBW
      go_wp2
      go_ret
      rw [HF.out.1, HF.out.2.1] at H1
      rw [HF.out.1]
      exact ⟨a', cap', rfl, H1, HF.out.2.2⟩
    · have HO := hide (one_row (k := .u8) wr (u % 128 + 128) (wf_of_u8 (by omega) (by omega)) 5 (0, 0))
      have hmod : u % 128 % 256 = u % 128 := by omega
      have HSA : Hid (Src 5 .u8 (wr.alloc (.cells #[.int .u8 (u % 128 + 128)] 5)) w.heap.size ar nr capr pre) := Or.inl (HR.out.alloc _)
      have HBW : Hid (w.heap.size ≤ (wr.alloc (.cells #[.int .u8 (u % 128 + 128)] 5)).heap.size) := by
        have := HW.out.size
        show _ ≤ _
        simp; omega
      go_wp2_with (at_builtin; refine wpList_append_one _ rfl _ _ 38 rfl w.heap.size 5 i0 Try.underlying38 hi hz0 hz1 hz2 ar nr capr _ rfl HSA.out _ 1 (u % 128 + 128) rfl HO.out (by omega) HBW.out ?_)
      intro a' cap' w' h1 h2
      have HF : Hid (∃ f', f = f' + 1 ∧ nr + 1 = (pre ++ [u % 128 + 128]).length ∧ (pre ++ [u % 128 + 128]).length + f' = 9 ∧ u / 128 < 2 * 128 ^ f' ∧ putS v = (pre ++ [u % 128 + 128]) ++ putF f' (u / 128) ∧ Below w.heap.size w w') := by
        obtain ⟨p1, p2, p3, p4⟩ := HP.out
        cases f with
        | zero => simp at p3; omega
        | succ f =>
          refine ⟨f, rfl, by simp; omega, by simp; omega, ?_, ?_, (HW.out.alloc HW.out.size _).trans h2⟩
          · rw [pw_succ] at p3; omega
          · rw [p4, putF_more (by omega), List.append_assoc]; rfl
      have H1 := hide h1
      clear h1 h2 HR HW HSA HO HBW
      go_wp2
      go_roundw
      case rel =>
        obtain ⟨f', e1, e2, e3, e4, e5, e6⟩ := HF.out
        refine ⟨a', nr + 1, cap', pre ++ [u % 128 + 128], f', u / 128, rfl, by go_num, by omega, by omega, by omega, by omega, ⟨e2, e3, e4, e5⟩, H1, e6⟩
      case measure => simp [intOf]; omega

/-- The reader, as a block of memory. -/
def RB (w : World) (g : Nat) (a : Option Addr) (n cap : Nat) (p : Int) (bad : Bool) : Prop :=
  w.heap[g]? = some (.cells #[.slice a n cap, .int .i64 p, .bool bad] 46 (0, 0))

/-- One block alone may have turned. -/
structure Only (g : Nat) (w w' : World) : Prop where
  os : w'.os = w.os
  tape : w'.tape = w.tape
  output : w'.output = w.output
  size : w'.heap.size = w.heap.size
  block : ∀ k, k ≠ g → w'.heap[k]? = w.heap[k]?

theorem Only.refl (g : Nat) (w : World) : Only g w w := ⟨rfl, rfl, rfl, rfl, fun _ _ => rfl⟩
theorem Only.drew {g : Nat} {a w : World} (h : Only g a w) : Only g a w.drew := ⟨h.os, h.tape, h.output, h.size, h.block⟩
theorem Only.setCell {g : Nat} {a w : World} (h : Only g a w) (o : Nat) (v : Value) : Only g a (w.setCell ⟨g, o, none⟩ v) :=
  ⟨h.os, h.tape, h.output, by rw [← h.size]; simp [World.setCell], fun k hk => by rw [Below.heap_setCell w _ v k hk]; exact h.block k hk⟩
theorem Only.below {g B : Nat} {w w' : World} (h : Only g w w') (hB : B ≤ g) : Below B w w' :=
  ⟨h.os, h.tape, h.output, by rw [h.size]; exact Nat.le_refl _, fun k hk => h.block k (by omega)⟩

theorem RB.cell {w : World} {g : Nat} {a : Option Addr} {n cap : Nat} {p : Int} {bad : Bool} (h : RB w g a n cap p bad) :
    w.cell? ⟨g, 0, none⟩ = some (.slice a n cap) ∧ w.cell? ⟨g, 1, none⟩ = some (.int .i64 p) ∧ w.cell? ⟨g, 2, none⟩ = some (.bool bad) ∧ ∀ o, w.frozen? ⟨g, o, none⟩ = false := by
  unfold RB at h
  refine ⟨?_, ?_, ?_, fun o => ?_⟩
  · simp [World.cell?, h]
  · simp [World.cell?, h]
  · simp [World.cell?, h]
  · simp [World.frozen?, h]
theorem RB.drew {w : World} {g : Nat} {a : Option Addr} {n cap : Nat} {p : Int} {bad : Bool} (h : RB w g a n cap p bad) : RB w.drew g a n cap p bad := h
theorem RB.place {w : World} {g : Nat} {a : Option Addr} {n cap : Nat} {p : Int} {bad : Bool} (h : RB w g a n cap p bad) (q : Int) : RB (w.setCell ⟨g, 1, none⟩ (.int .i64 q)) g a n cap q bad := by
  unfold RB at *
  simp [World.setCell, Array.getElem?_modify, h]
theorem RB.spoil {w : World} {g : Nat} {a : Option Addr} {n cap : Nat} {p : Int} {bad : Bool} (h : RB w g a n cap p bad) : RB (w.setCell ⟨g, 2, none⟩ (.bool true)) g a n cap p true := by
  unfold RB at *
  simp [World.setCell, Array.getElem?_modify, h]

/-- What the reader's Num leaves. -/
def NumP (g : Nat) (a : Option Addr) (n cap : Nat) (r : Option (Int × Int)) (w w' : World) (e : Ending) : Prop :=
  Only g w w' ∧ match r with
  | none => e = .returned (.int .u64 0) ∧ ∃ p', RB w' g a n cap p' true
  | some q => e = .returned (.int .u64 q.1) ∧ RB w' g a n cap q.2 false

set_option maxRecDepth 100000 in
set_option maxHeartbeats 2000000 in
theorem num_any (p : Int) (g : Nat) (a : Option Addr) (n cap : Nat) (zs : List Int) (w0 w : World) (hp : (Lit.int .i64 p).wf = true) (hr : Row .u8 w0 a n zs) (hg : w0.heap.size ≤ g) (hb : Below w0.heap.size w0 w) (hrb : RB w g a n cap p false) :
    Calls Try.prog 77 #[.pointer (some ⟨g, 0, none⟩)] w fun e w' => NumP g a n cap (getS zs p) w w' e := by
  obtain ⟨a0, a1⟩ := i64_of_wf hp
  have hl := hr.1
  have hn := hr.2.1
  clear hp
  by_cases h0 : 0 ≤ p ∧ p < n
  · obtain ⟨k, rfl⟩ := Int.eq_ofNat_of_zero_le h0.1
    have hkn : k < n := by omega
    have hS : Hid (getS zs (k : Int) = (getA 0 0 (zs.drop k)).map fun p => (p.1, (k : Int) + p.2)) := by
      show _ = _
      unfold getS
      rw [if_pos (by omega)]
      rfl
    have HR := hide hr
    have HLN := hide hl
    have HB := hide hb
    have HRB := hide hrb
    clear hr hl hb hrb h0 a0 a1
    go_enter Try.func77, Try.ntmps77
    go_wp2
    go_loopw [3, 4] (fun x i wr => ∃ (j t : Nat) (V : Int), t = k + j ∧ t ≤ n ∧ j ≤ 9 ∧ i = .int .i64 j ∧ x = .int .u64 V ∧ 0 ≤ V ∧ Hid (V < 2 ^ (7 * j)) ∧ Hid (getA 0 0 (zs.drop k) = getA j V (zs.drop t)) ∧ Hid (RB wr g a n cap (t : Int) false) ∧ Hid (Only g w wr)) (fun _ i _ => 10 - (intOf i).toNat)
    case atStart => exact ⟨0, k, 0, by omega, by omega, by omega, rfl, rfl, by omega, by show _ < _; decide, rfl, HRB, Only.refl _ _⟩
    case round =>
      obtain ⟨j, t, V, htj, htn, hj9, rfl, rfl, V0, V1, HG, HRW, HO⟩ := hrel
      clear HRB
      have HT := hide htj
      obtain ⟨c0, c1, c2, cf⟩ := HRW.out.cell
      have cf1 := cf 1
      have cf2 := cf 2
      clear cf htj
      have hb' : Below w0.heap.size w0 wr := HB.out.trans (HO.out.below hg)
      by_cases hlt : t < n
      · have hrow := HR.out.below hb' (Nat.le_refl _)
        have hz := hrow.byte t
        have HD := hide (show getA 0 0 (zs.drop k) = getA j V (zs.getD t 0 :: zs.drop (t + 1)) by
          rw [HG.out, List.drop_eq_getElem_cons (by rw [HLN.out]; omega), List.getD_eq_getElem?_getD, List.getElem?_eq_getElem (by rw [HLN.out]; omega)]
          rfl)
        obtain ⟨_, _, _, h0 | ⟨b, off, rfl, hcell⟩⟩ := hrow
        · omega
        have hck := hcell t hlt
        clear hcell HG
        generalize zs.getD t 0 = z at *
        obtain ⟨z0, z1⟩ := hz
        have RP := hide ((HRW.out.place ((t : Int) + 1)).drew.drew)
        have OP := hide ((HO.out.setCell 1 (.int .i64 ((t : Int) + 1))).drew.drew)
        have i1 : (0 : Int) ≤ (t : Int) := by omega
        have i2 : (t : Int) < (n : Int) := by omega
        clear HRW HO hb'
        go_wp2
        go_region_held3 (fun w' => w'.cell? ⟨g, 0, none⟩ = some (.slice (some ⟨b, off, none⟩) n cap) ∧ w'.cell? ⟨g, 1, none⟩ = some (.int .i64 (t : Int)) ∧ w'.cell? ⟨g, 2, none⟩ = some (.bool false)) (go_keep) (fail)
        go_wp2
        go_region_held3 (fun w' => w'.cell? ⟨g, 0, none⟩ = some (.slice (some ⟨b, off, none⟩) n cap) ∧ w'.cell? ⟨g, 1, none⟩ = some (.int .i64 (t : Int)) ∧ w'.cell? ⟨b, off + t, none⟩ = some (.int .u8 z)) (go_keep) (fail)
        go_upto_region 10 with fail
        generalize (wr.setCell ⟨g, 1, none⟩ (.int .i64 ((t : Int) + 1))).drew.drew = W at RP OP ⊢
        clear c0 c1 c2 cf1 cf2 hck
        obtain ⟨_, _, c2, cf⟩ := RP.out.cell
        have cf2 := cf 2
        have RS := hide RP.out.spoil
        have OS := hide (OP.out.setCell 2 (.bool true))
        clear cf
        obtain ⟨t9, ht9⟩ : ∃ t9, ((j : Int) == 9) = t9 := ⟨_, rfl⟩
        obtain ⟨tz, htz⟩ : ∃ tz, (z == 0) = tz := ⟨_, rfl⟩
        by_cases q1 : j = 9 ∧ 1 < z
        · have hE : Hid (getS zs (k : Int) = none) := by
            show _ = _
            rw [hS.out, HD.out, getA, if_pos q1]
            rfl
          have h9 : t9 = true := by rw [← ht9]; simp; omega
          subst h9
          have q2 := q1.2
          clear q1 htz V1
          go_wp2
          go_ret
          rw [hE.out]
          exact ⟨OS.out, rfl, _, RS.out⟩
        · obtain ⟨X, x1, x2, x3, x4, x5⟩ := or_step j (by omega) V0 V1.out (c := z % 128) (by omega) (by omega) (by omega)
          have e5 : X = V + z % 128 * 2 ^ (7 * j) := by rw [x5, pw_two]
          have em : 0 ≤ z % 128 * 2 ^ (7 * j) := Int.mul_nonneg (by omega) (Int.le_of_lt (Int.pow_pos (by decide)))
          have hw64 : IntKind.u64.wrap (z % 128 * 2 ^ (7 * j)) = X - V := by
            rw [IntKind.wrap_u64]; omega
          clear e5 em
          have hadd : V + (X - V) = X := by omega
          have xv : 0 ≤ X - V := by
            rw [x5]
            have : 0 ≤ z % 128 * 128 ^ j := Int.mul_nonneg (by omega) (by have := pw_pos j; omega)
            omega
          clear x1
          by_cases q2 : 128 ≤ z
          · have HX : Hid (getA 0 0 (zs.drop k) = getA (j + 1) X (zs.drop (t + 1))) := by
              show _ = _
              rw [HD.out, getA, if_neg q1, if_pos q2, x5]
            have HX4 := hide x4
            have h9 : t9 = false := by rw [← ht9]; simp; omega
            have hj8 : j < 9 := by omega
            subst h9
            clear x5 x4 HD V1 htz RS OS
            go_wp2
            refine ⟨⟨j + 1, t + 1, X, by rw [HT.out]; omega, by omega, by omega, by go_num, rfl, x2, HX4, HX, ?_, OP⟩, by simp [intOf]; omega⟩
            show RB W g _ n cap ((t + 1 : Nat) : Int) false
            rw [Int.natCast_add]
            exact RP.out
          · by_cases q3 : z = 0 ∧ 0 < j
            · have hE : Hid (getS zs (k : Int) = none) := by
                show _ = _
                rw [hS.out, HD.out, getA, if_neg q1, if_neg q2, if_pos q3]
                rfl
              have h0 : tz = true := by rw [← htz]; simp; omega
              have q4 := q3.2
              have q5 : z ≤ 1 := by omega
              subst h0
              clear HD V1 q3 x4 x5
              cases t9
              all_goals
                go_wp2
                go_ret
                rw [hE.out]
                exact ⟨OS.out, rfl, _, RS.out⟩
            · have hE : Hid (getS zs (k : Int) = some (X, (t : Int) + 1)) := by
                show _ = _
                rw [hS.out, HD.out, getA, if_neg q1, if_neg q2, if_neg q3, x5]
                simp only [Option.map_some]
                rw [HT.out]
                congr 2
              have h9 : t9 = true → z ≤ 1 := by
                rintro rfl
                simp at ht9
                omega
              have h0 : tz = true → j ≤ 0 := by
                rintro rfl
                simp at htz
                omega
              clear x5 x4 HD V1 q3
              cases t9
              · clear h9
                cases tz
                · clear h0
                  go_wp2
                  go_ret
                  rw [hE.out]
                  exact ⟨OP.out, rfl, RP.out⟩
                · have h1 := h0 rfl
                  clear h0
                  go_wp2
                  go_ret
                  rw [hE.out]
                  exact ⟨OP.out, rfl, RP.out⟩
              · have q9 := h9 rfl
                clear h9
                cases tz
                · clear h0
                  go_wp2
                  go_ret
                  rw [hE.out]
                  exact ⟨OP.out, rfl, RP.out⟩
                · have h1 := h0 rfl
                  simp at ht9
                  omega
      · have : t = n := by omega
        subst this
        have hE : Hid (getS zs (k : Int) = none) := by
          show _ = _
          rw [hS.out, HG.out, List.drop_eq_nil_of_le (by rw [HLN.out]; omega)]
          rfl
        have RS := hide HRW.out.drew.spoil
        have OS := hide (HO.out.drew.setCell 2 (.bool true))
        have i1 : (0 : Int) ≤ (t : Int) := by omega
        clear hb' HG V1
        go_wp2
        go_region_held3 (fun w' => w'.cell? ⟨g, 0, none⟩ = some (.slice a t cap) ∧ w'.cell? ⟨g, 1, none⟩ = some (.int .i64 (t : Int)) ∧ w'.cell? ⟨g, 2, none⟩ = some (.bool false)) (go_keep) (fail)
        go_wp2
        go_ret
        rw [hE.out]
        exact ⟨OS.out, rfl, _, RS.out⟩
  · have hE : Hid (getS zs p = none) := by
      show _ = _
      unfold getS
      rw [hl, if_neg h0]
    have RS := hide hrb.drew.spoil
    have OS := hide ((Only.refl g w).drew.setCell 2 (.bool true))
    obtain ⟨c0, c1, c2, cf⟩ := hrb.cell
    have cf2 := cf 2
    have h1 : p < 0 ∨ (n : Int) ≤ p := by omega
    clear h0 hr hl hb hrb cf
    rcases h1 with h1 | h1
    · go_enter Try.func77, Try.ntmps77
      go_wp2
      refine wp_loop_rounds 1 ?_
      rw [rounds_succ]
      go_wp2
      go_region
      go_wp2
      go_ret
      rw [hE.out]
      exact ⟨OS.out, rfl, _, RS.out⟩
    · obtain ⟨k, rfl⟩ := Int.eq_ofNat_of_zero_le (show 0 ≤ p by omega)
      have h2 : n ≤ k := by omega
      go_enter Try.func77, Try.ntmps77
      go_wp2
      refine wp_loop_rounds 1 ?_
      rw [rounds_succ]
      go_wp2
      go_region_held3 (fun w' => w'.cell? ⟨g, 0, none⟩ = some (.slice a n cap) ∧ w'.cell? ⟨g, 1, none⟩ = some (.int .i64 (k : Int)) ∧ w'.cell? ⟨g, 2, none⟩ = some (.bool false)) (go_keep) (fail)
      go_wp2
      go_ret
      rw [hE.out]
      exact ⟨OS.out, rfl, _, RS.out⟩
end Go.Proofs.Ythebcmkainplnaa

namespace Go.Proofs.Ythebcmkainplnaa
open Go.RowKit
set_option maxRecDepth 20000
theorem rb_new (w : World) (a : Option Addr) (n cap : Nat) (p : Int) : RB (w.alloc (.cells #[.slice a n cap, .int .i64 p, .bool false] 46)) w.heap.size a n cap p false := heap_alloc_new w _
end Go.Proofs.Ythebcmkainplnaa

namespace Go.Proofs.Ythebcmkainplnaa
open Go.RowKit
set_option maxRecDepth 20000

section
variable {P : Program} {ops : Array Oper} {Q : Exit → Act → World → Prop} {md : Region.Mode} {S : World → Prop}
/-- As held_call, the condition kept as it is. -/
theorem held_step {i : Nat} {o : Oper} {fuel : Nat} {listed : Array Bool} {a : Act} {w : World} (hr : Region.ready md ops listed = [i]) (ho : ops[i]? = some o) (hw : Region.wanted o (yielded ops a.tmps) = true)
    (h : ∀ K' : Act → World → Prop, Shut (∀ a w, S w → (S w → wpAnyH P md ops Q S fuel (listed.setIfInBounds i true) a w) → K' a w) → Oper.wp P o a w K' Q) : wpAnyH P md ops Q S (fuel + 1) listed a w := by
  refine wpAnyH_all hr (by simp) ?_
  intro j hj
  have : j = i := by simpa using hj
  subst this
  unfold wpOp
  simp only [ho]
  rw [if_pos hw]
  refine Or.inl (h _ ?_)
  intro a' w' hS h'
  exact ⟨hS, h' hS⟩
end

end Go.Proofs.Ythebcmkainplnaa

namespace Go.Proofs.Ythebcmkainplnaa
open Go.RowKit
set_option maxRecDepth 20000

/-- What the reader's Count leaves. -/
def CountP (g : Nat) (a : Option Addr) (n cap : Nat) (r : Option (Int × Int)) (w w' : World) (e : Ending) : Prop :=
  Only g w w' ∧ match r with
  | none => e = .returned (.int .i64 0) ∧ ∃ p', RB w' g a n cap p' true
  | some q => e = .returned (.int .i64 q.1) ∧ RB w' g a n cap q.2 false

set_option maxRecDepth 100000 in
set_option maxHeartbeats 2000000 in
theorem rcount_any (p most : Int) (g : Nat) (a : Option Addr) (n cap : Nat) (zs : List Int) (w0 w : World) (hp : (Lit.int .i64 p).wf = true) (hm : (Lit.int .i64 most).wf = true) (_hc : n ≤ cap) (hr : Row .u8 w0 a n zs) (hg : w0.heap.size ≤ g) (hb : Below w0.heap.size w0 w) (hrb : RB w g a n cap p false) :
    Calls Try.prog 79 #[.pointer (some ⟨g, 0, none⟩), .int .i64 most] w fun e w' => CountP g a n cap (sizeS zs p most) w w' e := by
  have N := hide (num_any p g a n cap zs w0 w hp hr hg hb hrb)
  obtain ⟨m0, m1⟩ := i64_of_wf hm
  have HR := hide hr
  have HB := hide hb
  have hl := hr.1
  have hn := hr.2.1
  clear hp hr hb hrb hm
  cases h : getS zs p with
  | none =>
    have HE : Hid (sizeS zs p most = none) := by show _ = _; unfold sizeS; rw [h]
    rw [h] at N
    simp only [NumP] at N
    clear h hl
    go_enter Try.func79, Try.ntmps79
    go_wp2_with fail
    refine N.out.mono ?_
    rintro e x ⟨k, rfl, p', hrb⟩
    obtain ⟨_, _, d2, df⟩ := hrb.cell
    have df2 := df 2
    have RS := hide hrb.drew.spoil
    have OS := hide (k.drew.setCell 2 (.bool true))
    clear df k hrb N
    go_wp2
    go_region
    go_wp2
    go_ret
    rw [HE.out]
    exact ⟨OS.out, rfl, _, RS.out⟩
  | some q =>
    obtain ⟨u, nx⟩ := q
    obtain ⟨hw, k', _, hk, hnx, hle, _⟩ := getS_some HR.out.bytes h
    have u0 := hw.1
    have u1 := hw.2
    obtain ⟨f, hf⟩ : ∃ f : Nat, nx = f := ⟨_, hnx⟩
    have hfn : f ≤ n := by omega
    subst hf
    have HE : Hid (sizeS zs p most = if most < 0 ∨ most < u ∨ (n : Int) - (f : Int) < u then none else some (u, (f : Int))) := by
      show _ = _
      unfold sizeS
      rw [h]
      simp only
      rw [hl]
    rw [h] at N
    simp only [NumP] at N
    clear h hw hk hnx hle hl
    by_cases q1 : most < 0
    · rw [if_pos (Or.inl q1)] at HE
      go_enter Try.func79, Try.ntmps79
      go_wp2_with fail
      refine N.out.mono ?_
      rintro e x ⟨k, rfl, hrb⟩
      obtain ⟨_, _, d2, df⟩ := hrb.cell
      have df2 := df 2
      have RS := hide hrb.drew.spoil
      have OS := hide (k.drew.setCell 2 (.bool true))
      clear df k hrb N
      go_wp2
      go_region
      go_wp2
      go_ret
      rw [HE.out]
      exact ⟨OS.out, rfl, _, RS.out⟩
    · obtain ⟨M, rfl⟩ := Int.eq_ofNat_of_zero_le (show 0 ≤ most by omega)
      have q3 : decide ((M : Int) < 0) = false := by simp
      have hM : IntKind.u64.wrap (M : Int) = (M : Int) := by rw [IntKind.wrap_u64]; omega
      clear q1
      by_cases q2 : (M : Int) < u
      · rw [if_pos (Or.inr (Or.inl q2))] at HE
        have q6 : decide ((M : Int) < u) = true := by simpa using q2
        go_enter Try.func79, Try.ntmps79
        go_wp2_with fail
        refine N.out.mono ?_
        rintro e x ⟨k, rfl, hrb⟩
        obtain ⟨d0, d1, d2, df⟩ := hrb.cell
        have df2 := df 2
        have RS := hide hrb.drew.spoil
        have OS := hide (k.drew.setCell 2 (.bool true))
        clear df k hrb N
        go_upto_region 2 with fail
        refine wp_region_held_drew (S := fun w' => w'.cell? ⟨g, 0, none⟩ = some (.slice a n cap) ∧ w'.cell? ⟨g, 1, none⟩ = some (.int .i64 (f : Int)) ∧ w'.cell? ⟨g, 2, none⟩ = some (.bool false)) (by kernel_rfl) ⟨d0, d1, d2⟩ (fun hHeld => ?_)
        refine held_take (i := 0) (d := (some 8)) (v := ?_) rfl rfl (by kernel_rfl) (by kernel_rfl) (by kernel_rfl) (fun _ _ _ h => h) (Or.inl ⟨by rfl, ?_⟩) (by first | assumption | rfl | trivial) ?_
        rotate_left 1
        · (intro w hSw; (try dsimp only at hSw); (try subst hSw); go_simp; try with_reducible rfl)
        simp only [Act.put, List.setIfInBounds_toArray, List.set_cons_zero, List.set_cons_succ]
        refine held_take (i := 1) (d := (some 9)) (v := ?_) rfl rfl (by kernel_rfl) (by kernel_rfl) (by kernel_rfl) (fun _ _ _ h => h) (Or.inl ⟨by rfl, ?_⟩) (by first | assumption | rfl | trivial) ?_
        rotate_left 1
        · (intro w hSw; (try dsimp only at hSw); (try subst hSw); go_simp; try with_reducible rfl)
        simp only [Act.put, List.setIfInBounds_toArray, List.set_cons_zero, List.set_cons_succ]
        refine held_take (i := 2) (d := (some 10)) (v := ?_) rfl rfl (by kernel_rfl) (by kernel_rfl) (by kernel_rfl) (fun _ _ _ h => h) (Or.inl ⟨by rfl, ?_⟩) (by first | assumption | rfl | trivial) ?_
        rotate_left 1
        · (intro w hSw; (try dsimp only at hSw); (try subst hSw); go_simp; try with_reducible rfl)
        simp only [Act.put, List.setIfInBounds_toArray, List.set_cons_zero, List.set_cons_succ]
        refine held_take (i := 3) (d := (some 11)) (v := ?_) rfl rfl (by kernel_rfl) (by kernel_rfl) (by kernel_rfl) (fun _ _ _ h => h) (Or.inl ⟨by rfl, ?_⟩) (by first | assumption | rfl | trivial) ?_
        rotate_left 1
        · (intro w hSw; (try dsimp only at hSw); (try subst hSw); go_simp; try with_reducible rfl)
        simp only [Act.put, List.setIfInBounds_toArray, List.set_cons_zero, List.set_cons_succ]
        refine held_take (i := 4) (d := (some 12)) (v := ?_) rfl rfl (by kernel_rfl) (by kernel_rfl) (by kernel_rfl) (fun _ _ _ h => h) (Or.inl ⟨by rfl, ?_⟩) (by first | assumption | rfl | trivial) ?_
        rotate_left 1
        · (intro w hSw; (try dsimp only at hSw); (try subst hSw); go_simp; try with_reducible rfl)
        simp only [Act.put, List.setIfInBounds_toArray, List.set_cons_zero, List.set_cons_succ]
        refine held_take (i := 5) (d := (some 13)) (v := ?_) rfl rfl (by kernel_rfl) (by kernel_rfl) (by kernel_rfl) (fun _ _ _ h => h) (Or.inl ⟨by rfl, ?_⟩) (by first | assumption | rfl | trivial) ?_
        rotate_left 1
        · (intro w hSw; (try dsimp only at hSw); (try subst hSw); go_simp; try with_reducible rfl)
        simp only [Act.put, List.setIfInBounds_toArray, List.set_cons_zero, List.set_cons_succ]
        refine held_take (i := 6) (d := (some 14)) (v := ?_) rfl rfl (by kernel_rfl) (by kernel_rfl) (by kernel_rfl) (fun _ _ _ h => h) (Or.inl ⟨by rfl, ?_⟩) (by first | assumption | rfl | trivial) ?_
        rotate_left 1
        · (intro w hSw; (try dsimp only at hSw); (try subst hSw); go_simp; try with_reducible rfl)
        simp only [Act.put, List.setIfInBounds_toArray, List.set_cons_zero, List.set_cons_succ]
        refine held_take (i := 7) (d := (some 15)) (v := ?_) rfl rfl (by kernel_rfl) (by kernel_rfl) (by kernel_rfl) (fun _ _ _ h => h) (Or.inl ⟨by rfl, ?_⟩) (by first | assumption | rfl | trivial) ?_
        rotate_left 1
        · (intro w hSw; (try dsimp only at hSw); (try subst hSw); go_simp; try with_reducible rfl)
        simp only [Act.put, List.setIfInBounds_toArray, List.set_cons_zero, List.set_cons_succ]
        refine held_take (i := 8) (d := (some 16)) (v := ?_) rfl rfl (by kernel_rfl) (by kernel_rfl) (by kernel_rfl) (fun _ _ _ h => h) (Or.inl ⟨by rfl, ?_⟩) (by first | assumption | rfl | trivial) ?_
        rotate_left 1
        · (intro w hSw; (try dsimp only at hSw); (try subst hSw); go_simp; try with_reducible rfl)
        simp only [Act.put, List.setIfInBounds_toArray, List.set_cons_zero, List.set_cons_succ]
        refine held_take (i := 9) (d := (some 17)) (v := ?_) rfl rfl (by kernel_rfl) (by kernel_rfl) (by kernel_rfl) (fun _ _ _ h => h) (Or.inl ⟨by rfl, ?_⟩) (by first | assumption | rfl | trivial) ?_
        rotate_left 1
        · (intro w hSw; (try dsimp only at hSw); (try subst hSw); go_simp; try with_reducible rfl)
        simp only [Act.put, List.setIfInBounds_toArray, List.set_cons_zero, List.set_cons_succ]
        refine held_take (i := 10) (d := (some 18)) (v := ?_) rfl rfl (by kernel_rfl) (by kernel_rfl) (by kernel_rfl) (fun _ _ _ h => h) (Or.inl ⟨by rfl, ?_⟩) (by first | assumption | rfl | trivial) ?_
        rotate_left 1
        · (intro w hSw; (try dsimp only at hSw); (try subst hSw); go_simp; try with_reducible rfl)
        simp only [Act.put, List.setIfInBounds_toArray, List.set_cons_zero, List.set_cons_succ]
        refine held_take (i := 11) (d := (some 19)) (v := ?_) rfl rfl (by kernel_rfl) (by kernel_rfl) (by kernel_rfl) (fun _ _ _ h => h) (Or.inl ⟨by rfl, ?_⟩) (by first | assumption | rfl | trivial) ?_
        rotate_left 1
        · (intro w hSw; (try dsimp only at hSw); (try subst hSw); go_simp; try with_reducible rfl)
        simp only [Act.put, List.setIfInBounds_toArray, List.set_cons_zero, List.set_cons_succ]
        refine held_take (i := 12) (d := (some 20)) (v := ?_) rfl rfl (by kernel_rfl) (by kernel_rfl) (by kernel_rfl) (fun _ _ _ h => h) (Or.inl ⟨by rfl, ?_⟩) (by first | assumption | rfl | trivial) ?_
        rotate_left 1
        · (intro w hSw; (try dsimp only at hSw); (try subst hSw); go_simp; try with_reducible rfl)
        simp only [Act.put, List.setIfInBounds_toArray, List.set_cons_zero, List.set_cons_succ]
        refine held_take (i := 13) (d := (some 21)) (v := ?_) rfl rfl (by kernel_rfl) (by kernel_rfl) (by kernel_rfl) (fun _ _ _ h => h) (Or.inl ⟨by rfl, ?_⟩) (by first | assumption | rfl | trivial) ?_
        rotate_left 1
        · (intro w hSw; (try dsimp only at hSw); (try subst hSw); go_simp; try with_reducible rfl)
        simp only [Act.put, List.setIfInBounds_toArray, List.set_cons_zero, List.set_cons_succ]
        refine held_take (i := 14) (d := (some 22)) (v := ?_) rfl rfl (by kernel_rfl) (by kernel_rfl) (by kernel_rfl) (fun _ _ _ h => h) (Or.inl ⟨by rfl, ?_⟩) (by first | assumption | rfl | trivial) ?_
        rotate_left 1
        · (intro w hSw; (try dsimp only at hSw); (try subst hSw); go_simp; try with_reducible rfl)
        simp only [Act.put, List.setIfInBounds_toArray, List.set_cons_zero, List.set_cons_succ]
        refine held_take (i := 15) (d := (some 23)) (v := undef) rfl rfl (by kernel_rfl) (by kernel_rfl) (by kernel_rfl) (fun _ _ _ h => h) (Or.inr ⟨by rfl, rfl⟩) (by first | assumption | rfl | trivial) ?_
        simp only [Act.put, List.setIfInBounds_toArray, List.set_cons_zero, List.set_cons_succ]
        refine held_take (i := 16) (d := (some 24)) (v := undef) rfl rfl (by kernel_rfl) (by kernel_rfl) (by kernel_rfl) (fun _ _ _ h => h) (Or.inr ⟨by rfl, rfl⟩) (by first | assumption | rfl | trivial) ?_
        simp only [Act.put, List.setIfInBounds_toArray, List.set_cons_zero, List.set_cons_succ]
        refine held_take (i := 17) (d := (some 25)) (v := undef) rfl rfl (by kernel_rfl) (by kernel_rfl) (by kernel_rfl) (fun _ _ _ h => h) (Or.inr ⟨by rfl, rfl⟩) (by first | assumption | rfl | trivial) ?_
        simp only [Act.put, List.setIfInBounds_toArray, List.set_cons_zero, List.set_cons_succ]
        refine held_take (i := 18) (d := (some 26)) (v := undef) rfl rfl (by kernel_rfl) (by kernel_rfl) (by kernel_rfl) (fun _ _ _ h => h) (Or.inr ⟨by rfl, rfl⟩) (by first | assumption | rfl | trivial) ?_
        simp only [Act.put, List.setIfInBounds_toArray, List.set_cons_zero, List.set_cons_succ]
        refine held_take (i := 19) (d := (some 27)) (v := undef) rfl rfl (by kernel_rfl) (by kernel_rfl) (by kernel_rfl) (fun _ _ _ h => h) (Or.inr ⟨by rfl, rfl⟩) (by first | assumption | rfl | trivial) ?_
        simp only [Act.put, List.setIfInBounds_toArray, List.set_cons_zero, List.set_cons_succ]
        refine held_take (i := 20) (d := (some 28)) (v := undef) rfl rfl (by kernel_rfl) (by kernel_rfl) (by kernel_rfl) (fun _ _ _ h => h) (Or.inr ⟨by rfl, rfl⟩) (by first | assumption | rfl | trivial) ?_
        simp only [Act.put, List.setIfInBounds_toArray, List.set_cons_zero, List.set_cons_succ]
        refine held_take (i := 21) (d := (some 29)) (v := undef) rfl rfl (by kernel_rfl) (by kernel_rfl) (by kernel_rfl) (fun _ _ _ h => h) (Or.inr ⟨by rfl, rfl⟩) (by first | assumption | rfl | trivial) ?_
        simp only [Act.put, List.setIfInBounds_toArray, List.set_cons_zero, List.set_cons_succ]
        refine held_take (i := 22) (d := (some 30)) (v := undef) rfl rfl (by kernel_rfl) (by kernel_rfl) (by kernel_rfl) (fun _ _ _ h => h) (Or.inr ⟨by rfl, rfl⟩) (by first | assumption | rfl | trivial) ?_
        simp only [Act.put, List.setIfInBounds_toArray, List.set_cons_zero, List.set_cons_succ]
        refine held_take (i := 23) (d := (some 31)) (v := undef) rfl rfl (by kernel_rfl) (by kernel_rfl) (by kernel_rfl) (fun _ _ _ h => h) (Or.inr ⟨by rfl, rfl⟩) (by first | assumption | rfl | trivial) ?_
        simp only [Act.put, List.setIfInBounds_toArray, List.set_cons_zero, List.set_cons_succ]
        refine held_take (i := 24) (d := (some 32)) (v := undef) rfl rfl (by kernel_rfl) (by kernel_rfl) (by kernel_rfl) (fun _ _ _ h => h) (Or.inr ⟨by rfl, rfl⟩) (by first | assumption | rfl | trivial) ?_
        simp only [Act.put, List.setIfInBounds_toArray, List.set_cons_zero, List.set_cons_succ]
        refine held_take (i := 25) (d := (some 33)) (v := undef) rfl rfl (by kernel_rfl) (by kernel_rfl) (by kernel_rfl) (fun _ _ _ h => h) (Or.inr ⟨by rfl, rfl⟩) (by first | assumption | rfl | trivial) ?_
        simp only [Act.put, List.setIfInBounds_toArray, List.set_cons_zero, List.set_cons_succ]
        refine held_take (i := 26) (d := (some 34)) (v := undef) rfl rfl (by kernel_rfl) (by kernel_rfl) (by kernel_rfl) (fun _ _ _ h => h) (Or.inr ⟨by rfl, rfl⟩) (by first | assumption | rfl | trivial) ?_
        simp only [Act.put, List.setIfInBounds_toArray, List.set_cons_zero, List.set_cons_succ]
        refine held_take (i := 27) (d := (some 35)) (v := undef) rfl rfl (by kernel_rfl) (by kernel_rfl) (by kernel_rfl) (fun _ _ _ h => h) (Or.inr ⟨by rfl, rfl⟩) (by first | assumption | rfl | trivial) ?_
        simp only [Act.put, List.setIfInBounds_toArray, List.set_cons_zero, List.set_cons_succ]
        refine held_take (i := 28) (d := (some 36)) (v := ?_) rfl rfl (by kernel_rfl) (by kernel_rfl) (by kernel_rfl) (fun _ _ _ h => h) (Or.inl ⟨by rfl, ?_⟩) (by first | assumption | rfl | trivial) ?_
        rotate_left 1
        · (intro w hSw; (try dsimp only at hSw); (try subst hSw); go_simp; try with_reducible rfl)
        simp only [Act.put, List.setIfInBounds_toArray, List.set_cons_zero, List.set_cons_succ]
        refine wpAnyH_done (by kernel_rfl) ?_ _
        go_wp2
        go_ret
        rw [HE.out]
        exact ⟨OS.out, rfl, _, RS.out⟩
      · have q5 : decide ((M : Int) < u) = false := by simpa using q2
        have hsub : IntKind.i64.wrap ((n : Int) - (f : Int)) = (n : Int) - (f : Int) := by rw [IntKind.wrap_i64]; omega
        have hcv : IntKind.u64.wrap ((n : Int) - (f : Int)) = (n : Int) - (f : Int) := by rw [IntKind.wrap_u64]; omega
        by_cases q4 : (n : Int) - (f : Int) < u
        · rw [if_pos (Or.inr (Or.inr q4))] at HE
          have q7 : decide ((n : Int) - (f : Int) < u) = true := by simpa using q4
          go_enter Try.func79, Try.ntmps79
          go_wp2_with fail
          refine N.out.mono ?_
          rintro e x ⟨k, rfl, hrb⟩
          obtain ⟨d0, d1, d2, df⟩ := hrb.cell
          have df2 := df 2
          have RS := hide hrb.drew.spoil
          have OS := hide (k.drew.setCell 2 (.bool true))
          clear df k hrb N
          go_upto_region 2 with fail
          refine wp_region_held_drew (S := fun w' => w'.cell? ⟨g, 0, none⟩ = some (.slice a n cap) ∧ w'.cell? ⟨g, 1, none⟩ = some (.int .i64 (f : Int)) ∧ w'.cell? ⟨g, 2, none⟩ = some (.bool false)) (by kernel_rfl) ⟨d0, d1, d2⟩ (fun hHeld => ?_)
          refine held_take (i := 0) (d := (some 8)) (v := ?_) rfl rfl (by kernel_rfl) (by kernel_rfl) (by kernel_rfl) (fun _ _ _ h => h) (Or.inl ⟨by rfl, ?_⟩) (by first | assumption | rfl | trivial) ?_
          rotate_left 1
          · (intro w hSw; (try dsimp only at hSw); (try subst hSw); go_simp; try with_reducible rfl)
          simp only [Act.put, List.setIfInBounds_toArray, List.set_cons_zero, List.set_cons_succ]
          refine held_take (i := 1) (d := (some 9)) (v := ?_) rfl rfl (by kernel_rfl) (by kernel_rfl) (by kernel_rfl) (fun _ _ _ h => h) (Or.inl ⟨by rfl, ?_⟩) (by first | assumption | rfl | trivial) ?_
          rotate_left 1
          · (intro w hSw; (try dsimp only at hSw); (try subst hSw); go_simp; try with_reducible rfl)
          simp only [Act.put, List.setIfInBounds_toArray, List.set_cons_zero, List.set_cons_succ]
          refine held_take (i := 2) (d := (some 10)) (v := ?_) rfl rfl (by kernel_rfl) (by kernel_rfl) (by kernel_rfl) (fun _ _ _ h => h) (Or.inl ⟨by rfl, ?_⟩) (by first | assumption | rfl | trivial) ?_
          rotate_left 1
          · (intro w hSw; (try dsimp only at hSw); (try subst hSw); go_simp; try with_reducible rfl)
          simp only [Act.put, List.setIfInBounds_toArray, List.set_cons_zero, List.set_cons_succ]
          refine held_take (i := 3) (d := (some 11)) (v := ?_) rfl rfl (by kernel_rfl) (by kernel_rfl) (by kernel_rfl) (fun _ _ _ h => h) (Or.inl ⟨by rfl, ?_⟩) (by first | assumption | rfl | trivial) ?_
          rotate_left 1
          · (intro w hSw; (try dsimp only at hSw); (try subst hSw); go_simp; try with_reducible rfl)
          simp only [Act.put, List.setIfInBounds_toArray, List.set_cons_zero, List.set_cons_succ]
          refine held_take (i := 4) (d := (some 12)) (v := ?_) rfl rfl (by kernel_rfl) (by kernel_rfl) (by kernel_rfl) (fun _ _ _ h => h) (Or.inl ⟨by rfl, ?_⟩) (by first | assumption | rfl | trivial) ?_
          rotate_left 1
          · (intro w hSw; (try dsimp only at hSw); (try subst hSw); go_simp; try with_reducible rfl)
          simp only [Act.put, List.setIfInBounds_toArray, List.set_cons_zero, List.set_cons_succ]
          refine held_take (i := 5) (d := (some 13)) (v := ?_) rfl rfl (by kernel_rfl) (by kernel_rfl) (by kernel_rfl) (fun _ _ _ h => h) (Or.inl ⟨by rfl, ?_⟩) (by first | assumption | rfl | trivial) ?_
          rotate_left 1
          · (intro w hSw; (try dsimp only at hSw); (try subst hSw); go_simp; try with_reducible rfl)
          simp only [Act.put, List.setIfInBounds_toArray, List.set_cons_zero, List.set_cons_succ]
          refine held_take (i := 6) (d := (some 14)) (v := ?_) rfl rfl (by kernel_rfl) (by kernel_rfl) (by kernel_rfl) (fun _ _ _ h => h) (Or.inl ⟨by rfl, ?_⟩) (by first | assumption | rfl | trivial) ?_
          rotate_left 1
          · (intro w hSw; (try dsimp only at hSw); (try subst hSw); go_simp; try with_reducible rfl)
          simp only [Act.put, List.setIfInBounds_toArray, List.set_cons_zero, List.set_cons_succ]
          refine held_take (i := 7) (d := (some 15)) (v := ?_) rfl rfl (by kernel_rfl) (by kernel_rfl) (by kernel_rfl) (fun _ _ _ h => h) (Or.inl ⟨by rfl, ?_⟩) (by first | assumption | rfl | trivial) ?_
          rotate_left 1
          · (intro w hSw; (try dsimp only at hSw); (try subst hSw); go_simp; try with_reducible rfl)
          simp only [Act.put, List.setIfInBounds_toArray, List.set_cons_zero, List.set_cons_succ]
          refine held_take (i := 8) (d := (some 16)) (v := ?_) rfl rfl (by kernel_rfl) (by kernel_rfl) (by kernel_rfl) (fun _ _ _ h => h) (Or.inl ⟨by rfl, ?_⟩) (by first | assumption | rfl | trivial) ?_
          rotate_left 1
          · (intro w hSw; (try dsimp only at hSw); (try subst hSw); go_simp; try with_reducible rfl)
          simp only [Act.put, List.setIfInBounds_toArray, List.set_cons_zero, List.set_cons_succ]
          refine held_take (i := 9) (d := (some 17)) (v := ?_) rfl rfl (by kernel_rfl) (by kernel_rfl) (by kernel_rfl) (fun _ _ _ h => h) (Or.inl ⟨by rfl, ?_⟩) (by first | assumption | rfl | trivial) ?_
          rotate_left 1
          · (intro w hSw; (try dsimp only at hSw); (try subst hSw); go_simp; try with_reducible rfl)
          simp only [Act.put, List.setIfInBounds_toArray, List.set_cons_zero, List.set_cons_succ]
          refine held_take (i := 10) (d := (some 18)) (v := ?_) rfl rfl (by kernel_rfl) (by kernel_rfl) (by kernel_rfl) (fun _ _ _ h => h) (Or.inl ⟨by rfl, ?_⟩) (by first | assumption | rfl | trivial) ?_
          rotate_left 1
          · (intro w hSw; (try dsimp only at hSw); (try subst hSw); go_simp; try with_reducible rfl)
          simp only [Act.put, List.setIfInBounds_toArray, List.set_cons_zero, List.set_cons_succ]
          refine held_take (i := 11) (d := (some 19)) (v := ?_) rfl rfl (by kernel_rfl) (by kernel_rfl) (by kernel_rfl) (fun _ _ _ h => h) (Or.inl ⟨by rfl, ?_⟩) (by first | assumption | rfl | trivial) ?_
          rotate_left 1
          · (intro w hSw; (try dsimp only at hSw); (try subst hSw); go_simp; try with_reducible rfl)
          simp only [Act.put, List.setIfInBounds_toArray, List.set_cons_zero, List.set_cons_succ]
          refine held_take (i := 12) (d := (some 20)) (v := ?_) rfl rfl (by kernel_rfl) (by kernel_rfl) (by kernel_rfl) (fun _ _ _ h => h) (Or.inl ⟨by rfl, ?_⟩) (by first | assumption | rfl | trivial) ?_
          rotate_left 1
          · (intro w hSw; (try dsimp only at hSw); (try subst hSw); go_simp; try with_reducible rfl)
          simp only [Act.put, List.setIfInBounds_toArray, List.set_cons_zero, List.set_cons_succ]
          refine held_take (i := 13) (d := (some 21)) (v := ?_) rfl rfl (by kernel_rfl) (by kernel_rfl) (by kernel_rfl) (fun _ _ _ h => h) (Or.inl ⟨by rfl, ?_⟩) (by first | assumption | rfl | trivial) ?_
          rotate_left 1
          · (intro w hSw; (try dsimp only at hSw); (try subst hSw); go_simp; try with_reducible rfl)
          simp only [Act.put, List.setIfInBounds_toArray, List.set_cons_zero, List.set_cons_succ]
          refine held_take (i := 14) (d := (some 22)) (v := ?_) rfl rfl (by kernel_rfl) (by kernel_rfl) (by kernel_rfl) (fun _ _ _ h => h) (Or.inl ⟨by rfl, ?_⟩) (by first | assumption | rfl | trivial) ?_
          rotate_left 1
          · (intro w hSw; (try dsimp only at hSw); (try subst hSw); go_simp; try with_reducible rfl)
          simp only [Act.put, List.setIfInBounds_toArray, List.set_cons_zero, List.set_cons_succ]
          refine held_take (i := 15) (d := (some 23)) (v := ?_) rfl rfl (by kernel_rfl) (by kernel_rfl) (by kernel_rfl) (fun _ _ _ h => h) (Or.inl ⟨by rfl, ?_⟩) (by first | assumption | rfl | trivial) ?_
          rotate_left 1
          · (intro w hSw; (try dsimp only at hSw); (try subst hSw); go_simp; try with_reducible rfl)
          simp only [Act.put, List.setIfInBounds_toArray, List.set_cons_zero, List.set_cons_succ]
          refine held_take (i := 16) (d := (some 24)) (v := ?_) rfl rfl (by kernel_rfl) (by kernel_rfl) (by kernel_rfl) (fun _ _ _ h => h) (Or.inl ⟨by rfl, ?_⟩) (by first | assumption | rfl | trivial) ?_
          rotate_left 1
          · (intro w hSw; (try dsimp only at hSw); (try subst hSw); go_simp; try with_reducible rfl)
          simp only [Act.put, List.setIfInBounds_toArray, List.set_cons_zero, List.set_cons_succ]
          refine held_take (i := 17) (d := (some 25)) (v := ?_) rfl rfl (by kernel_rfl) (by kernel_rfl) (by kernel_rfl) (fun _ _ _ h => h) (Or.inl ⟨by rfl, ?_⟩) (by first | assumption | rfl | trivial) ?_
          rotate_left 1
          · (intro w hSw; (try dsimp only at hSw); (try subst hSw); go_simp; try with_reducible rfl)
          simp only [Act.put, List.setIfInBounds_toArray, List.set_cons_zero, List.set_cons_succ]
          refine held_take (i := 18) (d := (some 26)) (v := ?_) rfl rfl (by kernel_rfl) (by kernel_rfl) (by kernel_rfl) (fun _ _ _ h => h) (Or.inl ⟨by rfl, ?_⟩) (by first | assumption | rfl | trivial) ?_
          rotate_left 1
          · (intro w hSw; (try dsimp only at hSw); (try subst hSw); go_simp; try with_reducible rfl)
          simp only [Act.put, List.setIfInBounds_toArray, List.set_cons_zero, List.set_cons_succ]
          refine held_take (i := 19) (d := (some 27)) (v := ?_) rfl rfl (by kernel_rfl) (by kernel_rfl) (by kernel_rfl) (fun _ _ _ h => h) (Or.inl ⟨by rfl, ?_⟩) (by first | assumption | rfl | trivial) ?_
          rotate_left 1
          · (intro w hSw; (try dsimp only at hSw); (try subst hSw); go_simp; try with_reducible rfl)
          simp only [Act.put, List.setIfInBounds_toArray, List.set_cons_zero, List.set_cons_succ]
          refine held_take (i := 20) (d := (some 28)) (v := ?_) rfl rfl (by kernel_rfl) (by kernel_rfl) (by kernel_rfl) (fun _ _ _ h => h) (Or.inl ⟨by rfl, ?_⟩) (by first | assumption | rfl | trivial) ?_
          rotate_left 1
          · (intro w hSw; (try dsimp only at hSw); (try subst hSw); go_simp; try with_reducible rfl)
          simp only [Act.put, List.setIfInBounds_toArray, List.set_cons_zero, List.set_cons_succ]
          refine held_take (i := 21) (d := (some 29)) (v := ?_) rfl rfl (by kernel_rfl) (by kernel_rfl) (by kernel_rfl) (fun _ _ _ h => h) (Or.inl ⟨by rfl, ?_⟩) (by first | assumption | rfl | trivial) ?_
          rotate_left 1
          · (intro w hSw; (try dsimp only at hSw); (try subst hSw); go_simp; try with_reducible rfl)
          simp only [Act.put, List.setIfInBounds_toArray, List.set_cons_zero, List.set_cons_succ]
          refine held_take (i := 22) (d := (some 30)) (v := ?_) rfl rfl (by kernel_rfl) (by kernel_rfl) (by kernel_rfl) (fun _ _ _ h => h) (Or.inl ⟨by rfl, ?_⟩) (by first | assumption | rfl | trivial) ?_
          rotate_left 1
          · (intro w hSw; (try dsimp only at hSw); (try subst hSw); go_simp; try with_reducible rfl)
          simp only [Act.put, List.setIfInBounds_toArray, List.set_cons_zero, List.set_cons_succ]
          refine held_take (i := 23) (d := (some 31)) (v := ?_) rfl rfl (by kernel_rfl) (by kernel_rfl) (by kernel_rfl) (fun _ _ _ h => h) (Or.inl ⟨by rfl, ?_⟩) (by first | assumption | rfl | trivial) ?_
          rotate_left 1
          · (intro w hSw; (try dsimp only at hSw); (try subst hSw); go_simp; try with_reducible rfl)
          simp only [Act.put, List.setIfInBounds_toArray, List.set_cons_zero, List.set_cons_succ]
          refine held_take (i := 24) (d := (some 32)) (v := ?_) rfl rfl (by kernel_rfl) (by kernel_rfl) (by kernel_rfl) (fun _ _ _ h => h) (Or.inl ⟨by rfl, ?_⟩) (by first | assumption | rfl | trivial) ?_
          rotate_left 1
          · (intro w hSw; (try dsimp only at hSw); (try subst hSw); go_simp; try with_reducible rfl)
          simp only [Act.put, List.setIfInBounds_toArray, List.set_cons_zero, List.set_cons_succ]
          refine held_take (i := 25) (d := (some 33)) (v := ?_) rfl rfl (by kernel_rfl) (by kernel_rfl) (by kernel_rfl) (fun _ _ _ h => h) (Or.inl ⟨by rfl, ?_⟩) (by first | assumption | rfl | trivial) ?_
          rotate_left 1
          · (intro w hSw; (try dsimp only at hSw); (try subst hSw); go_simp; try with_reducible rfl)
          simp only [Act.put, List.setIfInBounds_toArray, List.set_cons_zero, List.set_cons_succ]
          refine held_take (i := 26) (d := (some 34)) (v := ?_) rfl rfl (by kernel_rfl) (by kernel_rfl) (by kernel_rfl) (fun _ _ _ h => h) (Or.inl ⟨by rfl, ?_⟩) (by first | assumption | rfl | trivial) ?_
          rotate_left 1
          · (intro w hSw; (try dsimp only at hSw); (try subst hSw); go_simp; try with_reducible rfl)
          simp only [Act.put, List.setIfInBounds_toArray, List.set_cons_zero, List.set_cons_succ]
          refine held_take (i := 27) (d := (some 35)) (v := ?_) rfl rfl (by kernel_rfl) (by kernel_rfl) (by kernel_rfl) (fun _ _ _ h => h) (Or.inl ⟨by rfl, ?_⟩) (by first | assumption | rfl | trivial) ?_
          rotate_left 1
          · (intro w hSw; (try dsimp only at hSw); (try subst hSw); go_simp; try with_reducible rfl)
          simp only [Act.put, List.setIfInBounds_toArray, List.set_cons_zero, List.set_cons_succ]
          refine held_take (i := 28) (d := (some 36)) (v := ?_) rfl rfl (by kernel_rfl) (by kernel_rfl) (by kernel_rfl) (fun _ _ _ h => h) (Or.inl ⟨by rfl, ?_⟩) (by first | assumption | rfl | trivial) ?_
          rotate_left 1
          · (intro w hSw; (try dsimp only at hSw); (try subst hSw); go_simp; try with_reducible rfl)
          simp only [Act.put, List.setIfInBounds_toArray, List.set_cons_zero, List.set_cons_succ]
          refine wpAnyH_done (by kernel_rfl) ?_ _
          go_wp2
          go_ret
          rw [HE.out]
          exact ⟨OS.out, rfl, _, RS.out⟩
        · rw [if_neg (by omega)] at HE
          have q7 : decide ((n : Int) - (f : Int) < u) = false := by simpa using q4
          have hcm : IntKind.i64.wrap u = u := by rw [IntKind.wrap_i64]; omega
          go_enter Try.func79, Try.ntmps79
          go_wp2_with fail
          refine N.out.mono ?_
          rintro e x ⟨k, rfl, hrb⟩
          obtain ⟨d0, d1, d2, _⟩ := hrb.cell
          have RS := hide hrb.drew
          have OS := hide k.drew
          clear k hrb N
          go_upto_region 2 with fail
          refine wp_region_held_drew (S := fun w' => w'.cell? ⟨g, 0, none⟩ = some (.slice a n cap) ∧ w'.cell? ⟨g, 1, none⟩ = some (.int .i64 (f : Int)) ∧ w'.cell? ⟨g, 2, none⟩ = some (.bool false)) (by kernel_rfl) ⟨d0, d1, d2⟩ (fun hHeld => ?_)
          refine held_take (i := 0) (d := (some 8)) (v := ?_) rfl rfl (by kernel_rfl) (by kernel_rfl) (by kernel_rfl) (fun _ _ _ h => h) (Or.inl ⟨by rfl, ?_⟩) (by first | assumption | rfl | trivial) ?_
          rotate_left 1
          · (intro w hSw; (try dsimp only at hSw); (try subst hSw); go_simp; try with_reducible rfl)
          simp only [Act.put, List.setIfInBounds_toArray, List.set_cons_zero, List.set_cons_succ]
          refine held_take (i := 1) (d := (some 9)) (v := ?_) rfl rfl (by kernel_rfl) (by kernel_rfl) (by kernel_rfl) (fun _ _ _ h => h) (Or.inl ⟨by rfl, ?_⟩) (by first | assumption | rfl | trivial) ?_
          rotate_left 1
          · (intro w hSw; (try dsimp only at hSw); (try subst hSw); go_simp; try with_reducible rfl)
          simp only [Act.put, List.setIfInBounds_toArray, List.set_cons_zero, List.set_cons_succ]
          refine held_take (i := 2) (d := (some 10)) (v := ?_) rfl rfl (by kernel_rfl) (by kernel_rfl) (by kernel_rfl) (fun _ _ _ h => h) (Or.inl ⟨by rfl, ?_⟩) (by first | assumption | rfl | trivial) ?_
          rotate_left 1
          · (intro w hSw; (try dsimp only at hSw); (try subst hSw); go_simp; try with_reducible rfl)
          simp only [Act.put, List.setIfInBounds_toArray, List.set_cons_zero, List.set_cons_succ]
          refine held_take (i := 3) (d := (some 11)) (v := ?_) rfl rfl (by kernel_rfl) (by kernel_rfl) (by kernel_rfl) (fun _ _ _ h => h) (Or.inl ⟨by rfl, ?_⟩) (by first | assumption | rfl | trivial) ?_
          rotate_left 1
          · (intro w hSw; (try dsimp only at hSw); (try subst hSw); go_simp; try with_reducible rfl)
          simp only [Act.put, List.setIfInBounds_toArray, List.set_cons_zero, List.set_cons_succ]
          refine held_take (i := 4) (d := (some 12)) (v := ?_) rfl rfl (by kernel_rfl) (by kernel_rfl) (by kernel_rfl) (fun _ _ _ h => h) (Or.inl ⟨by rfl, ?_⟩) (by first | assumption | rfl | trivial) ?_
          rotate_left 1
          · (intro w hSw; (try dsimp only at hSw); (try subst hSw); go_simp; try with_reducible rfl)
          simp only [Act.put, List.setIfInBounds_toArray, List.set_cons_zero, List.set_cons_succ]
          refine held_take (i := 5) (d := (some 13)) (v := ?_) rfl rfl (by kernel_rfl) (by kernel_rfl) (by kernel_rfl) (fun _ _ _ h => h) (Or.inl ⟨by rfl, ?_⟩) (by first | assumption | rfl | trivial) ?_
          rotate_left 1
          · (intro w hSw; (try dsimp only at hSw); (try subst hSw); go_simp; try with_reducible rfl)
          simp only [Act.put, List.setIfInBounds_toArray, List.set_cons_zero, List.set_cons_succ]
          refine held_take (i := 6) (d := (some 14)) (v := ?_) rfl rfl (by kernel_rfl) (by kernel_rfl) (by kernel_rfl) (fun _ _ _ h => h) (Or.inl ⟨by rfl, ?_⟩) (by first | assumption | rfl | trivial) ?_
          rotate_left 1
          · (intro w hSw; (try dsimp only at hSw); (try subst hSw); go_simp; try with_reducible rfl)
          simp only [Act.put, List.setIfInBounds_toArray, List.set_cons_zero, List.set_cons_succ]
          refine held_take (i := 7) (d := (some 15)) (v := ?_) rfl rfl (by kernel_rfl) (by kernel_rfl) (by kernel_rfl) (fun _ _ _ h => h) (Or.inl ⟨by rfl, ?_⟩) (by first | assumption | rfl | trivial) ?_
          rotate_left 1
          · (intro w hSw; (try dsimp only at hSw); (try subst hSw); go_simp; try with_reducible rfl)
          simp only [Act.put, List.setIfInBounds_toArray, List.set_cons_zero, List.set_cons_succ]
          refine held_take (i := 8) (d := (some 16)) (v := ?_) rfl rfl (by kernel_rfl) (by kernel_rfl) (by kernel_rfl) (fun _ _ _ h => h) (Or.inl ⟨by rfl, ?_⟩) (by first | assumption | rfl | trivial) ?_
          rotate_left 1
          · (intro w hSw; (try dsimp only at hSw); (try subst hSw); go_simp; try with_reducible rfl)
          simp only [Act.put, List.setIfInBounds_toArray, List.set_cons_zero, List.set_cons_succ]
          refine held_take (i := 9) (d := (some 17)) (v := ?_) rfl rfl (by kernel_rfl) (by kernel_rfl) (by kernel_rfl) (fun _ _ _ h => h) (Or.inl ⟨by rfl, ?_⟩) (by first | assumption | rfl | trivial) ?_
          rotate_left 1
          · (intro w hSw; (try dsimp only at hSw); (try subst hSw); go_simp; try with_reducible rfl)
          simp only [Act.put, List.setIfInBounds_toArray, List.set_cons_zero, List.set_cons_succ]
          refine held_take (i := 10) (d := (some 18)) (v := ?_) rfl rfl (by kernel_rfl) (by kernel_rfl) (by kernel_rfl) (fun _ _ _ h => h) (Or.inl ⟨by rfl, ?_⟩) (by first | assumption | rfl | trivial) ?_
          rotate_left 1
          · (intro w hSw; (try dsimp only at hSw); (try subst hSw); go_simp; try with_reducible rfl)
          simp only [Act.put, List.setIfInBounds_toArray, List.set_cons_zero, List.set_cons_succ]
          refine held_take (i := 11) (d := (some 19)) (v := ?_) rfl rfl (by kernel_rfl) (by kernel_rfl) (by kernel_rfl) (fun _ _ _ h => h) (Or.inl ⟨by rfl, ?_⟩) (by first | assumption | rfl | trivial) ?_
          rotate_left 1
          · (intro w hSw; (try dsimp only at hSw); (try subst hSw); go_simp; try with_reducible rfl)
          simp only [Act.put, List.setIfInBounds_toArray, List.set_cons_zero, List.set_cons_succ]
          refine held_take (i := 12) (d := (some 20)) (v := ?_) rfl rfl (by kernel_rfl) (by kernel_rfl) (by kernel_rfl) (fun _ _ _ h => h) (Or.inl ⟨by rfl, ?_⟩) (by first | assumption | rfl | trivial) ?_
          rotate_left 1
          · (intro w hSw; (try dsimp only at hSw); (try subst hSw); go_simp; try with_reducible rfl)
          simp only [Act.put, List.setIfInBounds_toArray, List.set_cons_zero, List.set_cons_succ]
          refine held_take (i := 13) (d := (some 21)) (v := ?_) rfl rfl (by kernel_rfl) (by kernel_rfl) (by kernel_rfl) (fun _ _ _ h => h) (Or.inl ⟨by rfl, ?_⟩) (by first | assumption | rfl | trivial) ?_
          rotate_left 1
          · (intro w hSw; (try dsimp only at hSw); (try subst hSw); go_simp; try with_reducible rfl)
          simp only [Act.put, List.setIfInBounds_toArray, List.set_cons_zero, List.set_cons_succ]
          refine held_take (i := 14) (d := (some 22)) (v := ?_) rfl rfl (by kernel_rfl) (by kernel_rfl) (by kernel_rfl) (fun _ _ _ h => h) (Or.inl ⟨by rfl, ?_⟩) (by first | assumption | rfl | trivial) ?_
          rotate_left 1
          · (intro w hSw; (try dsimp only at hSw); (try subst hSw); go_simp; try with_reducible rfl)
          simp only [Act.put, List.setIfInBounds_toArray, List.set_cons_zero, List.set_cons_succ]
          refine held_take (i := 15) (d := (some 23)) (v := ?_) rfl rfl (by kernel_rfl) (by kernel_rfl) (by kernel_rfl) (fun _ _ _ h => h) (Or.inl ⟨by rfl, ?_⟩) (by first | assumption | rfl | trivial) ?_
          rotate_left 1
          · (intro w hSw; (try dsimp only at hSw); (try subst hSw); go_simp; try with_reducible rfl)
          simp only [Act.put, List.setIfInBounds_toArray, List.set_cons_zero, List.set_cons_succ]
          refine held_take (i := 16) (d := (some 24)) (v := ?_) rfl rfl (by kernel_rfl) (by kernel_rfl) (by kernel_rfl) (fun _ _ _ h => h) (Or.inl ⟨by rfl, ?_⟩) (by first | assumption | rfl | trivial) ?_
          rotate_left 1
          · (intro w hSw; (try dsimp only at hSw); (try subst hSw); go_simp; try with_reducible rfl)
          simp only [Act.put, List.setIfInBounds_toArray, List.set_cons_zero, List.set_cons_succ]
          refine held_take (i := 17) (d := (some 25)) (v := ?_) rfl rfl (by kernel_rfl) (by kernel_rfl) (by kernel_rfl) (fun _ _ _ h => h) (Or.inl ⟨by rfl, ?_⟩) (by first | assumption | rfl | trivial) ?_
          rotate_left 1
          · (intro w hSw; (try dsimp only at hSw); (try subst hSw); go_simp; try with_reducible rfl)
          simp only [Act.put, List.setIfInBounds_toArray, List.set_cons_zero, List.set_cons_succ]
          refine held_take (i := 18) (d := (some 26)) (v := ?_) rfl rfl (by kernel_rfl) (by kernel_rfl) (by kernel_rfl) (fun _ _ _ h => h) (Or.inl ⟨by rfl, ?_⟩) (by first | assumption | rfl | trivial) ?_
          rotate_left 1
          · (intro w hSw; (try dsimp only at hSw); (try subst hSw); go_simp; try with_reducible rfl)
          simp only [Act.put, List.setIfInBounds_toArray, List.set_cons_zero, List.set_cons_succ]
          refine held_take (i := 19) (d := (some 27)) (v := ?_) rfl rfl (by kernel_rfl) (by kernel_rfl) (by kernel_rfl) (fun _ _ _ h => h) (Or.inl ⟨by rfl, ?_⟩) (by first | assumption | rfl | trivial) ?_
          rotate_left 1
          · (intro w hSw; (try dsimp only at hSw); (try subst hSw); go_simp; try with_reducible rfl)
          simp only [Act.put, List.setIfInBounds_toArray, List.set_cons_zero, List.set_cons_succ]
          refine held_take (i := 20) (d := (some 28)) (v := ?_) rfl rfl (by kernel_rfl) (by kernel_rfl) (by kernel_rfl) (fun _ _ _ h => h) (Or.inl ⟨by rfl, ?_⟩) (by first | assumption | rfl | trivial) ?_
          rotate_left 1
          · (intro w hSw; (try dsimp only at hSw); (try subst hSw); go_simp; try with_reducible rfl)
          simp only [Act.put, List.setIfInBounds_toArray, List.set_cons_zero, List.set_cons_succ]
          refine held_take (i := 21) (d := (some 29)) (v := ?_) rfl rfl (by kernel_rfl) (by kernel_rfl) (by kernel_rfl) (fun _ _ _ h => h) (Or.inl ⟨by rfl, ?_⟩) (by first | assumption | rfl | trivial) ?_
          rotate_left 1
          · (intro w hSw; (try dsimp only at hSw); (try subst hSw); go_simp; try with_reducible rfl)
          simp only [Act.put, List.setIfInBounds_toArray, List.set_cons_zero, List.set_cons_succ]
          refine held_take (i := 22) (d := (some 30)) (v := ?_) rfl rfl (by kernel_rfl) (by kernel_rfl) (by kernel_rfl) (fun _ _ _ h => h) (Or.inl ⟨by rfl, ?_⟩) (by first | assumption | rfl | trivial) ?_
          rotate_left 1
          · (intro w hSw; (try dsimp only at hSw); (try subst hSw); go_simp; try with_reducible rfl)
          simp only [Act.put, List.setIfInBounds_toArray, List.set_cons_zero, List.set_cons_succ]
          refine held_take (i := 23) (d := (some 31)) (v := ?_) rfl rfl (by kernel_rfl) (by kernel_rfl) (by kernel_rfl) (fun _ _ _ h => h) (Or.inl ⟨by rfl, ?_⟩) (by first | assumption | rfl | trivial) ?_
          rotate_left 1
          · (intro w hSw; (try dsimp only at hSw); (try subst hSw); go_simp; try with_reducible rfl)
          simp only [Act.put, List.setIfInBounds_toArray, List.set_cons_zero, List.set_cons_succ]
          refine held_take (i := 24) (d := (some 32)) (v := ?_) rfl rfl (by kernel_rfl) (by kernel_rfl) (by kernel_rfl) (fun _ _ _ h => h) (Or.inl ⟨by rfl, ?_⟩) (by first | assumption | rfl | trivial) ?_
          rotate_left 1
          · (intro w hSw; (try dsimp only at hSw); (try subst hSw); go_simp; try with_reducible rfl)
          simp only [Act.put, List.setIfInBounds_toArray, List.set_cons_zero, List.set_cons_succ]
          refine held_take (i := 25) (d := (some 33)) (v := ?_) rfl rfl (by kernel_rfl) (by kernel_rfl) (by kernel_rfl) (fun _ _ _ h => h) (Or.inl ⟨by rfl, ?_⟩) (by first | assumption | rfl | trivial) ?_
          rotate_left 1
          · (intro w hSw; (try dsimp only at hSw); (try subst hSw); go_simp; try with_reducible rfl)
          simp only [Act.put, List.setIfInBounds_toArray, List.set_cons_zero, List.set_cons_succ]
          refine held_take (i := 26) (d := (some 34)) (v := ?_) rfl rfl (by kernel_rfl) (by kernel_rfl) (by kernel_rfl) (fun _ _ _ h => h) (Or.inl ⟨by rfl, ?_⟩) (by first | assumption | rfl | trivial) ?_
          rotate_left 1
          · (intro w hSw; (try dsimp only at hSw); (try subst hSw); go_simp; try with_reducible rfl)
          simp only [Act.put, List.setIfInBounds_toArray, List.set_cons_zero, List.set_cons_succ]
          refine held_take (i := 27) (d := (some 35)) (v := ?_) rfl rfl (by kernel_rfl) (by kernel_rfl) (by kernel_rfl) (fun _ _ _ h => h) (Or.inl ⟨by rfl, ?_⟩) (by first | assumption | rfl | trivial) ?_
          rotate_left 1
          · (intro w hSw; (try dsimp only at hSw); (try subst hSw); go_simp; try with_reducible rfl)
          simp only [Act.put, List.setIfInBounds_toArray, List.set_cons_zero, List.set_cons_succ]
          refine held_take (i := 28) (d := (some 36)) (v := ?_) rfl rfl (by kernel_rfl) (by kernel_rfl) (by kernel_rfl) (fun _ _ _ h => h) (Or.inl ⟨by rfl, ?_⟩) (by first | assumption | rfl | trivial) ?_
          rotate_left 1
          · (intro w hSw; (try dsimp only at hSw); (try subst hSw); go_simp; try with_reducible rfl)
          simp only [Act.put, List.setIfInBounds_toArray, List.set_cons_zero, List.set_cons_succ]
          refine wpAnyH_done (by kernel_rfl) ?_ _
          clear hHeld
          go_wp2
          go_ret
          rw [HE.out]
          exact ⟨OS.out, rfl, RS.out⟩
end Go.Proofs.Ythebcmkainplnaa

namespace Go.Proofs.Ythebcmkainplnaa
open Go.RowKit
set_option maxRecDepth 20000

theorem num_var (p : Int) (g : Nat) (a : Option Addr) (n cap : Nat) (zs : List Int) (w0 w : World) (hp : (Lit.int .i64 p).wf = true) (hr : Row .u8 w0 a n zs) (hg : w0.heap.size ≤ g) (hb : Below w0.heap.size w0 w) (hrb : RB w g a n cap p false) :
    Calls Try.prog 77 #[.pointer (some ⟨g, 0, none⟩)] w fun e w' => ∃ v q bad, e = .returned (.int .u64 v) ∧ Only g w w' ∧ RB w' g a n cap q bad ∧ W64 v ∧
      ((bad = false ∧ getS zs p = some (v, q)) ∨ (bad = true ∧ getS zs p = none)) := by
  refine (num_any p g a n cap zs w0 w hp hr hg hb hrb).mono ?_
  intro e w' h
  unfold NumP at h
  cases hx : getS zs p with
  | none =>
    rw [hx] at h
    obtain ⟨h1, h2, p', h3⟩ := h
    exact ⟨0, p', true, h2, h1, h3, ⟨by decide, by decide⟩, Or.inr ⟨rfl, rfl⟩⟩
  | some q =>
    rw [hx] at h
    obtain ⟨h1, h2, h3⟩ := h
    obtain ⟨v, q⟩ := q
    exact ⟨v, q, false, h2, h1, h3, (getS_some hr.bytes hx).1, Or.inl ⟨rfl, rfl⟩⟩

theorem words_wf' {zs : List Int} (h : ∀ z ∈ zs, W64 z) : ∀ z ∈ zs, (Lit.int .u64 z).wf = true := fun z hz => wf_of_u64 (h z hz)

theorem RB.below {B : Nat} {w w' : World} {g : Nat} {a : Option Addr} {n cap : Nat} {p : Int} {bad : Bool} (h : RB w g a n cap p bad) (hb : Below B w w') (hg : g < B) : RB w' g a n cap p bad := by
  unfold RB at *
  rw [hb.block g hg]; exact h
theorem RB.lt {w : World} {g : Nat} {a : Option Addr} {n cap : Nat} {p : Int} {bad : Bool} (h : RB w g a n cap p bad) : g < w.heap.size := by
  unfold RB at h
  by_cases hg : g < w.heap.size
  · exact hg
  · rw [Array.getElem?_eq_none (by omega)] at h; simp at h
theorem Own.only {e : TypeId} {k : IntKind} {w w' : World} {g base n cap : Nat} {a : Option Addr} {zs : List Int} (h : Own e k w base a n cap zs) (ho : Only g w w') (hg : g < base) : Own e k w' base a n cap zs := by
  unfold Own at *
  refine ⟨h.1, ?_⟩
  rcases h.2 with h1 | ⟨b, c, cur, h1, h2, h3, h4⟩
  · exact Or.inl h1
  · exact Or.inr ⟨b, c, cur, h1, h2, by rw [ho.block b (by omega)]; exact h3, h4⟩

/-- How it stands behind k rounds: all is well, or the reader is spoilt. -/
def Stand (zs : List Int) (p0 most : Int) (m g : Nat) (a : Option Addr) (n cap k : Nat) (ar : Option Addr) (nr capr : Nat) (wr : World) : Prop :=
  (∃ q p pre, RB wr g a n cap q false ∧ 0 ≤ q ∧ q ≤ n ∧ k = nr ∧ MineL wr (g + 1) ar nr capr pre ∧ -1 ≤ p ∧ p ≤ 18446744073709551615 ∧ (k = 0 → p = -1) ∧ (0 < k → 0 ≤ p ∧ pre.getD (k - 1) 0 = p) ∧ (∀ z ∈ pre, W64 z) ∧
    riseS zs p0 most = (riseG zs (m - k) p q).map fun r => (pre ++ r.1, r.2)) ∨
  (∃ q, RB wr g a n cap q true ∧ riseS zs p0 most = none)

/-- What the reader's Rise leaves. -/
def ReadP (g : Nat) (a : Option Addr) (n cap : Nat) (r : Option (List Int × Int)) (w w' : World) (e : Ending) : Prop :=
  Below g w w' ∧ match r with
  | none => e = .returned (.slice none 0 0) ∧ ∃ p', RB w' g a n cap p' true
  | some q => ∃ a' cap', e = .returned (.slice a' q.1.length cap') ∧ MineL w' (g + 1) a' q.1.length cap' q.1 ∧ RB w' g a n cap q.2 false

end Go.Proofs.Ythebcmkainplnaa

namespace Go.Proofs.Ythebcmkainplnaa
open Go.RowKit
set_option maxRecDepth 20000

set_option maxHeartbeats 400000 in
theorem bytes_any (a : Option Addr) (n cap : Nat) (zs : List Int) (w : World) (hr : Row .u8 w a n zs) (hc : a = none → cap = 0) (hn : n ≤ 140737488355328) :
    Calls Try.prog 23 #[.slice a n cap] w fun e w' => ∃ a' cap', e = .returned (.slice a' n cap') ∧ Mine w' w.heap.size a' n cap' zs ∧ Below w.heap.size w w' := by
  obtain ⟨i0, hi, hz0, hz1, hz2⟩ := info_parts Try.info5
  have hl := hr.1
  have HF : Hid (∀ (v' : Value) (w' : World), w'.ownsRow w.heap.size 5 1 v' n (zs.map (Value.int .u8)) → w.grownBy w' (Value.slice none 0 0).ownBlock →
      (∃ a' cap', v' = .slice a' n cap' ∧ Mine w' w.heap.size a' n cap' zs ∧ Below w.heap.size w w')) := by
    intro v' w' h1 h2
    obtain ⟨a', cap', rfl, ho⟩ := own_form h1
    exact ⟨a', cap', rfl, ho, (Below.refl _ _).grown h2 (Nat.le_refl _) (fun k hk => by simp [Value.ownBlock] at hk)⟩
  cases a with
  | none =>
    obtain rfl := hc rfl
    have h0 := hr.nz rfl
    subst h0
    have hz : zs = [] := List.length_eq_zero_iff.1 hl
    subst hz
    clear HF
    go_enter Try.func23, Try.ntmps23
    go_wp2_with (at_builtin; refine wpList_append_own_none rfl _ _ 38 rfl w.heap.size 5 i0 1 Try.underlying38 hi _ 0 [] rfl (World.ownsRow_nil _ _ _ _) rfl ?_)
    go_ret
    exact ⟨none, 0, rfl, World.ownsRow_nil _ _ _ _, Below.refl _ _⟩
  | some ad =>
    have HN := hide hr.cells
    clear hr
    go_enter Try.func23, Try.ntmps23
    go_wp2_with (at_builtin; refine wpList_append_own _ rfl _ _ 38 rfl w.heap.size 5 i0 (.int .u8 0) 1 1 Try.underlying38 hi hz0 hz1 hz2 rfl (by decide) _ 0 [] rfl (World.ownsRow_nil _ _ _ _) ad n cap (zs.map (Value.int .u8)) rfl (by simp [hl]) HN.out (one_cell .u8 zs) (by unfold maxLen; omega) (by omega) (Nat.le_refl _) ?_)
    intro v' w' h1 h2 _
    obtain ⟨a', cap', rfl, h3, h4⟩ := HF.out v' w' h1 h2
    have H3 := hide h3
    clear h1 h2 h3 HF HN
    go_wp2
    go_ret
    exact ⟨a', cap', rfl, H3, h4⟩
end Go.Proofs.Ythebcmkainplnaa
