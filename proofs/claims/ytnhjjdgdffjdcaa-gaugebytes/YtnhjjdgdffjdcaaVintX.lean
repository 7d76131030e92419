/-
  The document's own answers (the laws' reference): a number's bytes, and a number got by the reader that keeps its place in memory: contracts, for every world.
  Conditions: the number is a word of 64 bits; the reader's bytes lie in memory older than itself.
-/
import Derived.Test.YtnhjjdgdffjdcaaVintB
import Derived.Test.YtnhjjdgdffjdcaaVintL
import Derived.BigRegion
import Derived.Deep.RegionHeld3
import Derived.Deep.CutRange
import Derived.WalkLawsBesides
namespace Go.Proofs.Ytnhjjdgdffjdcaa
open Go.RowKit

set_option maxHeartbeats 1000000 in
theorem refput_any (v : Int) (w : World) (hv : W64 v) :
    Calls Try.prog 38 #[.int .u64 v] w fun e w' => ∃ a' cap', e = .returned (.slice a' (putS v).length cap') ∧ Mine w' w.heap.size a' (putS v).length cap' (putS v) ∧ Below w.heap.size w w' := by
  obtain ⟨i0, hi, hz0, hz1, hz2⟩ := info_parts Try.info5
  have HV : Hid (v < 2 * 128 ^ 9) := (w64_two.2 hv).2
  obtain ⟨v0, v1⟩ := hv
  go_enter Try.func38, Try.ntmps38
  go_wp2
  go_loopw [3, 0] (fun b x wr => ∃ (ar : Option Addr) (nr capr : Nat) (pre : List Int) (f : Nat) (u : Int), b = .slice ar nr capr ∧ x = .int .u64 u ∧ 0 ≤ u ∧ u ≤ 18446744073709551615 ∧ nr ≤ 9 ∧ f ≤ 9 ∧ Hid (nr = pre.length ∧ pre.length + f = 9 ∧ u < 2 * 128 ^ f ∧ putS v = pre ++ putF f u) ∧ Hid (Mine wr w.heap.size ar nr capr pre) ∧ Hid (Below w.heap.size w wr)) (fun _ x _ => (intOf x).toNat)
  case atStart => exact ⟨none, 0, 0, [], 9, v, rfl, rfl, v0, by omega, by omega, by omega, ⟨rfl, rfl, HV.out, rfl⟩, own_nil _ _ _ _, Below.refl _ _⟩
  case round =>
    obtain ⟨ar, nr, capr, pre, f, u, rfl, rfl, u0, u1, hnr, hf, HP, HR, HW⟩ := hrel
    by_cases hu : u < 128
    · have e1 : u % 256 = u := by omega
      have HO := hide (one_row (k := .u8) wr u (wf_of_u8 u0 (by omega)) 5 (0, 0))
      have HSA : Hid (Src 5 .u8 (wr.alloc (.cells #[.int .u8 u] 5)) w.heap.size ar nr capr pre) := Or.inl (HR.out.alloc _)
      have HBW : Hid (w.heap.size ≤ (wr.alloc (.cells #[.int .u8 u] 5)).heap.size) := by
        have := HW.out.size
        show _ ≤ _
        simp; omega
      go_wp2_with (at_builtin; refine wpList_append_one _ rfl _ _ 33 rfl w.heap.size 5 i0 Try.underlying33 hi hz0 hz1 hz2 ar nr capr _ rfl HSA.out _ 1 u rfl HO.out (by omega) HBW.out ?_)
      intro a' cap' w' h1 h2
      have HF : Hid (nr + 1 = (putS v).length ∧ pre ++ [u] = putS v ∧ Below w.heap.size w w') := by
        obtain ⟨p1, p2, p3, p4⟩ := HP.out
        refine ⟨?_, ?_, (HW.out.alloc HW.out.size _).trans h2⟩
        · rw [p4, putF_one hu, List.length_append, List.length_singleton]; omega
        · rw [p4, putF_one hu]
      have H1 := hide h1
      clear h1 h2 HP HR HW HSA HO HBW
      go_wp2
      go_ret
      rw [HF.out.1, HF.out.2.1] at H1
      rw [HF.out.1]
      exact ⟨a', cap', rfl, H1, HF.out.2.2⟩
    · have HO := hide (one_row (k := .u8) wr (u % 128 + 128) (wf_of_u8 (by omega) (by omega)) 5 (0, 0))
      have hmod : u % 128 % 256 = u % 128 := by omega
      have HSA : Hid (Src 5 .u8 (wr.alloc (.cells #[.int .u8 (u % 128 + 128)] 5)) w.heap.size ar nr capr pre) := Or.inl (HR.out.alloc _)
      have HBW : Hid (w.heap.size ≤ (wr.alloc (.cells #[.int .u8 (u % 128 + 128)] 5)).heap.size) := by
        have := HW.out.size
        show _ ≤ _
        simp; omega
      go_wp2_with (at_builtin; refine wpList_append_one _ rfl _ _ 33 rfl w.heap.size 5 i0 Try.underlying33 hi hz0 hz1 hz2 ar nr capr _ rfl HSA.out _ 1 (u % 128 + 128) rfl HO.out (by omega) HBW.out ?_)
      intro a' cap' w' h1 h2
      have HF : Hid (∃ f', f = f' + 1 ∧ nr + 1 = (pre ++ [u % 128 + 128]).length ∧ (pre ++ [u % 128 + 128]).length + f' = 9 ∧ u / 128 < 2 * 128 ^ f' ∧ putS v = (pre ++ [u % 128 + 128]) ++ putF f' (u / 128) ∧ Below w.heap.size w w') := by
        obtain ⟨p1, p2, p3, p4⟩ := HP.out
        cases f with
        | zero => simp at p3; omega
        | succ f =>
          refine ⟨f, rfl, by simp; omega, by simp; omega, ?_, ?_, (HW.out.alloc HW.out.size _).trans h2⟩
          · rw [pw_succ] at p3; omega
          · rw [p4, putF_more (by omega), List.append_assoc]; rfl
      have H1 := hide h1
      clear h1 h2 HR HW HSA HO HBW
      go_wp2
      go_roundw
      case rel =>
        obtain ⟨f', e1, e2, e3, e4, e5, e6⟩ := HF.out
        refine ⟨a', nr + 1, cap', pre ++ [u % 128 + 128], f', u / 128, rfl, by go_num, by omega, by omega, by omega, by omega, ⟨e2, e3, e4, e5⟩, H1, e6⟩
      case measure => simp [intOf]; omega

/-- The reader, as a block of memory. -/
def RB (w : World) (g : Nat) (a : Option Addr) (n cap : Nat) (p : Int) (bad : Bool) : Prop :=
  w.heap[g]? = some (.cells #[.slice a n cap, .int .i64 p, .bool bad] 41 (0, 0))

/-- One block alone may have turned. -/
structure Only (g : Nat) (w w' : World) : Prop where
  os : w'.os = w.os
  tape : w'.tape = w.tape
  output : w'.output = w.output
  size : w'.heap.size = w.heap.size
  block : ∀ k, k ≠ g → w'.heap[k]? = w.heap[k]?

theorem Only.refl (g : Nat) (w : World) : Only g w w := ⟨rfl, rfl, rfl, rfl, fun _ _ => rfl⟩
theorem Only.drew {g : Nat} {a w : World} (h : Only g a w) : Only g a w.drew := ⟨h.os, h.tape, h.output, h.size, h.block⟩
theorem Only.setCell {g : Nat} {a w : World} (h : Only g a w) (o : Nat) (v : Value) : Only g a (w.setCell ⟨g, o, none⟩ v) :=
  ⟨h.os, h.tape, h.output, by rw [← h.size]; simp [World.setCell], fun k hk => by rw [Below.heap_setCell w _ v k hk]; exact h.block k hk⟩
theorem Only.below {g B : Nat} {w w' : World} (h : Only g w w') (hB : B ≤ g) : Below B w w' :=
  ⟨h.os, h.tape, h.output, by rw [h.size]; exact Nat.le_refl _, fun k hk => h.block k (by omega)⟩

theorem RB.cell {w : World} {g : Nat} {a : Option Addr} {n cap : Nat} {p : Int} {bad : Bool} (h : RB w g a n cap p bad) :
    w.cell? ⟨g, 0, none⟩ = some (.slice a n cap) ∧ w.cell? ⟨g, 1, none⟩ = some (.int .i64 p) ∧ w.cell? ⟨g, 2, none⟩ = some (.bool bad) ∧ ∀ o, w.frozen? ⟨g, o, none⟩ = false := by
  unfold RB at h
  refine ⟨?_, ?_, ?_, fun o => ?_⟩
  · simp [World.cell?, h]
  · simp [World.cell?, h]
  · simp [World.cell?, h]
  · simp [World.frozen?, h]
theorem RB.drew {w : World} {g : Nat} {a : Option Addr} {n cap : Nat} {p : Int} {bad : Bool} (h : RB w g a n cap p bad) : RB w.drew g a n cap p bad := h
theorem RB.place {w : World} {g : Nat} {a : Option Addr} {n cap : Nat} {p : Int} {bad : Bool} (h : RB w g a n cap p bad) (q : Int) : RB (w.setCell ⟨g, 1, none⟩ (.int .i64 q)) g a n cap q bad := by
  unfold RB at *
  simp [World.setCell, Array.getElem?_modify, h]
theorem RB.spoil {w : World} {g : Nat} {a : Option Addr} {n cap : Nat} {p : Int} {bad : Bool} (h : RB w g a n cap p bad) : RB (w.setCell ⟨g, 2, none⟩ (.bool true)) g a n cap p true := by
  unfold RB at *
  simp [World.setCell, Array.getElem?_modify, h]

/-- What the reader's Num leaves. -/
def NumP (g : Nat) (a : Option Addr) (n cap : Nat) (r : Option (Int × Int)) (w w' : World) (e : Ending) : Prop :=
  Only g w w' ∧ match r with
  | none => e = .returned (.int .u64 0) ∧ ∃ p', RB w' g a n cap p' true
  | some q => e = .returned (.int .u64 q.1) ∧ RB w' g a n cap q.2 false

set_option maxRecDepth 100000 in
set_option maxHeartbeats 2000000 in
theorem num_any (p : Int) (g : Nat) (a : Option Addr) (n cap : Nat) (zs : List Int) (w0 w : World) (hp : (Lit.int .i64 p).wf = true) (hr : Row .u8 w0 a n zs) (hg : w0.heap.size ≤ g) (hb : Below w0.heap.size w0 w) (hrb : RB w g a n cap p false) :
    Calls Try.prog 40 #[.pointer (some ⟨g, 0, none⟩)] w fun e w' => NumP g a n cap (getS zs p) w w' e := by
  obtain ⟨a0, a1⟩ := i64_of_wf hp
  have hl := hr.1
  have hn := hr.2.1
  clear hp
  by_cases h0 : 0 ≤ p ∧ p < n
  · obtain ⟨k, rfl⟩ := Int.eq_ofNat_of_zero_le h0.1
    have hkn : k < n := by omega
    have hS : Hid (getS zs (k : Int) = (getA 0 0 (zs.drop k)).map fun p => (p.1, (k : Int) + p.2)) := by
      show _ = _
      unfold getS
      rw [if_pos (by omega)]
      rfl
    have HR := hide hr
    have HLN := hide hl
    have HB := hide hb
    have HRB := hide hrb
    clear hr hl hb hrb h0 a0 a1
    go_enter Try.func40, Try.ntmps40
    go_wp2
    go_loopw [3, 4] (fun x i wr => ∃ (j t : Nat) (V : Int), t = k + j ∧ t ≤ n ∧ j ≤ 9 ∧ i = .int .i64 j ∧ x = .int .u64 V ∧ 0 ≤ V ∧ Hid (V < 2 ^ (7 * j)) ∧ Hid (getA 0 0 (zs.drop k) = getA j V (zs.drop t)) ∧ Hid (RB wr g a n cap (t : Int) false) ∧ Hid (Only g w wr)) (fun _ i _ => 10 - (intOf i).toNat)
    case atStart => exact ⟨0, k, 0, by omega, by omega, by omega, rfl, rfl, by omega, by show _ < _; decide, rfl, HRB, Only.refl _ _⟩
    case round =>
      obtain ⟨j, t, V, htj, htn, hj9, rfl, rfl, V0, V1, HG, HRW, HO⟩ := hrel
      clear HRB
      have HT := hide htj
      obtain ⟨c0, c1, c2, cf⟩ := HRW.out.cell
      have cf1 := cf 1
      have cf2 := cf 2
      clear cf htj
      have hb' : Below w0.heap.size w0 wr := HB.out.trans (HO.out.below hg)
      by_cases hlt : t < n
      · have hrow := HR.out.below hb' (Nat.le_refl _)
        have hz := hrow.byte t
        have HD := hide (show getA 0 0 (zs.drop k) = getA j V (zs.getD t 0 :: zs.drop (t + 1)) by
          rw [HG.out, List.drop_eq_getElem_cons (by rw [HLN.out]; omega), List.getD_eq_getElem?_getD, List.getElem?_eq_getElem (by rw [HLN.out]; omega)]
          rfl)
        obtain ⟨_, _, _, h0 | ⟨b, off, rfl, hcell⟩⟩ := hrow
        · omega
        have hck := hcell t hlt
        clear hcell HG
        generalize zs.getD t 0 = z at *
        obtain ⟨z0, z1⟩ := hz
        have RP := hide ((HRW.out.place ((t : Int) + 1)).drew.drew)
        have OP := hide ((HO.out.setCell 1 (.int .i64 ((t : Int) + 1))).drew.drew)
        have i1 : (0 : Int) ≤ (t : Int) := by omega
        have i2 : (t : Int) < (n : Int) := by omega
        clear HRW HO hb'
        go_wp2
        go_region_held3 (fun w' => w'.cell? ⟨g, 0, none⟩ = some (.slice (some ⟨b, off, none⟩) n cap) ∧ w'.cell? ⟨g, 1, none⟩ = some (.int .i64 (t : Int)) ∧ w'.cell? ⟨g, 2, none⟩ = some (.bool false)) (go_keep) (fail)
        go_wp2
        go_region_held3 (fun w' => w'.cell? ⟨g, 0, none⟩ = some (.slice (some ⟨b, off, none⟩) n cap) ∧ w'.cell? ⟨g, 1, none⟩ = some (.int .i64 (t : Int)) ∧ w'.cell? ⟨b, off + t, none⟩ = some (.int .u8 z)) (go_keep) (fail)
        go_upto_region 10 with fail
        generalize (wr.setCell ⟨g, 1, none⟩ (.int .i64 ((t : Int) + 1))).drew.drew = W at RP OP ⊢
        clear c0 c1 c2 cf1 cf2 hck
        obtain ⟨_, _, c2, cf⟩ := RP.out.cell
        have cf2 := cf 2
        have RS := hide RP.out.spoil
        have OS := hide (OP.out.setCell 2 (.bool true))
        clear cf
        obtain ⟨t9, ht9⟩ : ∃ t9, ((j : Int) == 9) = t9 := ⟨_, rfl⟩
        obtain ⟨tz, htz⟩ : ∃ tz, (z == 0) = tz := ⟨_, rfl⟩
        by_cases q1 : j = 9 ∧ 1 < z
        · have hE : Hid (getS zs (k : Int) = none) := by
            show _ = _
            rw [hS.out, HD.out, getA, if_pos q1]
            rfl
          have h9 : t9 = true := by rw [← ht9]; simp; omega
          subst h9
          have q2 := q1.2
          clear q1 htz V1
          go_wp2
          go_ret
          rw [hE.out]
          exact ⟨OS.out, rfl, _, RS.out⟩
        · obtain ⟨X, x1, x2, x3, x4, x5⟩ := or_step j (by omega) V0 V1.out (c := z % 128) (by omega) (by omega) (by omega)
          have e5 : X = V + z % 128 * 2 ^ (7 * j) := by rw [x5, pw_two]
          have em : 0 ≤ z % 128 * 2 ^ (7 * j) := Int.mul_nonneg (by omega) (Int.le_of_lt (Int.pow_pos (by decide)))
          have hw64 : IntKind.u64.wrap (z % 128 * 2 ^ (7 * j)) = X - V := by
            rw [IntKind.wrap_u64]; omega
          clear e5 em
          have hadd : V + (X - V) = X := by omega
          have xv : 0 ≤ X - V := by
            rw [x5]
            have : 0 ≤ z % 128 * 128 ^ j := Int.mul_nonneg (by omega) (by have := pw_pos j; omega)
            omega
          clear x1
          by_cases q2 : 128 ≤ z
          · have HX : Hid (getA 0 0 (zs.drop k) = getA (j + 1) X (zs.drop (t + 1))) := by
              show _ = _
              rw [HD.out, getA, if_neg q1, if_pos q2, x5]
            have HX4 := hide x4
            have h9 : t9 = false := by rw [← ht9]; simp; omega
            have hj8 : j < 9 := by omega
            subst h9
            clear x5 x4 HD V1 htz RS OS
            go_wp2
            refine ⟨⟨j + 1, t + 1, X, by rw [HT.out]; omega, by omega, by omega, by go_num, rfl, x2, HX4, HX, ?_, OP⟩, by simp [intOf]; omega⟩
            show RB W g _ n cap ((t + 1 : Nat) : Int) false
            rw [Int.natCast_add]
            exact RP.out
          · by_cases q3 : z = 0 ∧ 0 < j
            · have hE : Hid (getS zs (k : Int) = none) := by
                show _ = _
                rw [hS.out, HD.out, getA, if_neg q1, if_neg q2, if_pos q3]
                rfl
              have h0 : tz = true := by rw [← htz]; simp; omega
              have q4 := q3.2
              have q5 : z ≤ 1 := by omega
              subst h0
              clear HD V1 q3 x4 x5
              cases t9
              all_goals
                go_wp2
                go_ret
                rw [hE.out]
                exact ⟨OS.out, rfl, _, RS.out⟩
            · have hE : Hid (getS zs (k : Int) = some (X, (t : Int) + 1)) := by
                show _ = _
                rw [hS.out, HD.out, getA, if_neg q1, if_neg q2, if_neg q3, x5]
                simp only [Option.map_some]
                rw [HT.out]
                congr 2
              have h9 : t9 = true → z ≤ 1 := by
                rintro rfl
                simp at ht9
                omega
              have h0 : tz = true → j ≤ 0 := by
                rintro rfl
                simp at htz
                omega
              clear x5 x4 HD V1 q3
              cases t9
              · clear h9
                cases tz
                · clear h0
                  go_wp2
                  go_ret
                  rw [hE.out]
                  exact ⟨OP.out, rfl, RP.out⟩
                · have h1 := h0 rfl
                  clear h0
                  go_wp2
                  go_ret
                  rw [hE.out]
                  exact ⟨OP.out, rfl, RP.out⟩
              · have q9 := h9 rfl
                clear h9
                cases tz
                · clear h0
                  go_wp2
                  go_ret
                  rw [hE.out]
                  exact ⟨OP.out, rfl, RP.out⟩
                · have h1 := h0 rfl
                  simp at ht9
                  omega
      · have : t = n := by omega
        subst this
        have hE : Hid (getS zs (k : Int) = none) := by
          show _ = _
          rw [hS.out, HG.out, List.drop_eq_nil_of_le (by rw [HLN.out]; omega)]
          rfl
        have RS := hide HRW.out.drew.spoil
        have OS := hide (HO.out.drew.setCell 2 (.bool true))
        have i1 : (0 : Int) ≤ (t : Int) := by omega
        clear hb' HG V1
        go_wp2
        go_region_held3 (fun w' => w'.cell? ⟨g, 0, none⟩ = some (.slice a t cap) ∧ w'.cell? ⟨g, 1, none⟩ = some (.int .i64 (t : Int)) ∧ w'.cell? ⟨g, 2, none⟩ = some (.bool false)) (go_keep) (fail)
        go_wp2
        go_ret
        rw [hE.out]
        exact ⟨OS.out, rfl, _, RS.out⟩
  · have hE : Hid (getS zs p = none) := by
      show _ = _
      unfold getS
      rw [hl, if_neg h0]
    have RS := hide hrb.drew.spoil
    have OS := hide ((Only.refl g w).drew.setCell 2 (.bool true))
    obtain ⟨c0, c1, c2, cf⟩ := hrb.cell
    have cf2 := cf 2
    have h1 : p < 0 ∨ (n : Int) ≤ p := by omega
    clear h0 hr hl hb hrb cf
    rcases h1 with h1 | h1
    · go_enter Try.func40, Try.ntmps40
      go_wp2
      refine wp_loop_rounds 1 ?_
      rw [rounds_succ]
      go_wp2
      go_region
      go_wp2
      go_ret
      rw [hE.out]
      exact ⟨OS.out, rfl, _, RS.out⟩
    · obtain ⟨k, rfl⟩ := Int.eq_ofNat_of_zero_le (show 0 ≤ p by omega)
      have h2 : n ≤ k := by omega
      go_enter Try.func40, Try.ntmps40
      go_wp2
      refine wp_loop_rounds 1 ?_
      rw [rounds_succ]
      go_wp2
      go_region_held3 (fun w' => w'.cell? ⟨g, 0, none⟩ = some (.slice a n cap) ∧ w'.cell? ⟨g, 1, none⟩ = some (.int .i64 (k : Int)) ∧ w'.cell? ⟨g, 2, none⟩ = some (.bool false)) (go_keep) (fail)
      go_wp2
      go_ret
      rw [hE.out]
      exact ⟨OS.out, rfl, _, RS.out⟩
end Go.Proofs.Ytnhjjdgdffjdcaa
