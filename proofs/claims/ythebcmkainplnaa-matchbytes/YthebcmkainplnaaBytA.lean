/-
  What vint.apart, vint.number, vint.Put and vint.Get come to: contracts, for every world. What vint.PutText and vint.size come to: contracts, for every world. What vint.GetText and PutRise come to: contracts, for every world. What vint.GetRise comes to: a contract, for every world.
  Conditions: the number is a word of 64 bits; the slice shows its bytes; each number fits its kind; the slice shows its bytes; where bytes are put, there is room for them; each number fits its kind; the slices show their bytes and numbers; where bytes are put or a list is made, there is room for them; each number fits its kind; the slice shows its bytes; there is room for the list.
-/
import Derived.Test.YthebcmkainplnaaVintA
import Derived.Test.YthebcmkainplnaaRows
import Derived.Test.YthebcmkainplnaaVintL
import Derived.BigRegion
import Derived.WalkLawsBesides
namespace Go.Proofs.Ythebcmkainplnaa
open Go.RowKit
set_option maxRecDepth 20000

theorem Try.info5 : (Try.prog.info? 5).map (fun i => (i.zero, i.size, i.bytes)) = some (some (.int .u8 0), 1, 1) := by kernel_rfl

/-- Bytes of the call's own. -/
abbrev Mine (w : World) (base : Nat) (a : Option Addr) (n cap : Nat) (zs : List Int) : Prop := Own 5 .u8 w base a n cap zs

theorem slice_full (a : Option Addr) (n cap : Nat) (hk : n ≤ cap) (w : World) :
    (Instr.slice 38 (.slice a n cap) none (some (.int .i64 (n : Int))) (some (.int .i64 (n : Int)))).run Try.prog w = .ok (.slice a n n) w := by
  rw [run_slice_hm (P := Try.prog) w 38 a n cap Try.underlying38 .i64 .i64 (n : Int) (n : Int) (by omega) (by omega) (by omega)]
  have hs : (sizeOf (Try.prog.elem 38)).run Try.prog w = .ok 1 w := by kernel_rfl
  rw [hs]
  simp only [Result.andThen, sliced, Int.toNat_natCast, Nat.zero_mul, Nat.sub_zero]
  cases a with
  | none => simp
  | some x => simp [Addr.add]

theorem slice_to (a : Option Addr) (n cap k : Nat) (hk : k ≤ cap) (w : World) :
    (Instr.slice 38 (.slice a n cap) none (some (.int .i64 (k : Int))) none).run Try.prog w = .ok (.slice a k cap) w := by
  rw [run_slice_h (P := Try.prog) w 38 a n cap Try.underlying38 .i64 (k : Int) (by omega) (by omega)]
  have hs : (sizeOf (Try.prog.elem 38)).run Try.prog w = .ok 1 w := by kernel_rfl
  rw [hs]
  simp only [Result.andThen, sliced, Int.toNat_natCast, Nat.zero_mul, Nat.sub_zero]
  cases a with
  | none => simp
  | some x => simp [Addr.add]

theorem slice_from (a : Option Addr) (n cap k : Nat) (hk : k ≤ n) (w : World) :
    (Instr.slice 38 (.slice a n cap) (some (.int .i64 (k : Int))) none none).run Try.prog w = .ok (.slice (if cap = k then a else a.map (·.add k)) (n - k) (cap - k)) w := by
  rw [run_slice_l (P := Try.prog) w 38 a n cap Try.underlying38 .i64 (k : Int) (by omega) (by omega)]
  have hs : (sizeOf (Try.prog.elem 38)).run Try.prog w = .ok 1 w := by kernel_rfl
  rw [hs]
  simp only [Result.andThen, sliced, Int.toNat_natCast, Nat.mul_one]

theorem slice_mid (a : Option Addr) (n cap l h : Nat) (h1 : l ≤ h) (h2 : h ≤ cap) (w : World) :
    (Instr.slice 38 (.slice a n cap) (some (.int .i64 (l : Int))) (some (.int .i64 (h : Int))) none).run Try.prog w = .ok (.slice (if cap = l then a else a.map (·.add l)) (h - l) (cap - l)) w := by
  rw [run_slice_lh (P := Try.prog) w 38 a n cap Try.underlying38 .i64 .i64 (l : Int) (h : Int) (by omega) (by omega) (by omega)]
  have hs : (sizeOf (Try.prog.elem 38)).run Try.prog w = .ok 1 w := by kernel_rfl
  rw [hs]
  simp only [Result.andThen, sliced, Int.toNat_natCast, Nat.mul_one]

theorem apart_any (a : Option Addr) (n cap : Nat) (hk : n ≤ cap) (w : World) :
    Calls Try.prog 68 #[.slice a n cap] w fun e w' => e = .returned (.slice a n n) ∧ w' = w := by
  have hs := slice_full a n cap hk
  go_enter Try.func68, Try.ntmps68
  go_wp2
  go_ret
  exact ⟨rfl, rfl⟩

set_option maxHeartbeats 1000000 in
theorem number_any (v : Int) (base : Nat) (a : Option Addr) (n cap : Nat) (zs : List Int) (w : World) (hv : W64 v) (hn : n ≤ 211106232532980) (hB : base ≤ w.heap.size) (hs : Src 5 .u8 w base a n cap zs) :
    Calls Try.prog 67 #[.slice a n cap, .int .u64 v] w fun e w' => ∃ a' cap', e = .returned (.slice a' (n + (putS v).length) cap') ∧ Mine w' base a' (n + (putS v).length) cap' (zs ++ putS v) ∧ Below base w w' := by
  obtain ⟨i0, hi, hz0, hz1, hz2⟩ := info_parts Try.info5
  have HS := hide hs
  have HB := hide hB
  have HV : Hid (v < 2 * 128 ^ 9) := (w64_two.2 hv).2
  obtain ⟨v0, v1⟩ := hv
  clear hs hB
  go_enter Try.func67, Try.ntmps67
  go_wp2
  go_loopw [0, 1] (fun b x wr => ∃ (ar : Option Addr) (nr capr : Nat) (pre : List Int) (f : Nat) (u : Int), b = .slice ar nr capr ∧ x = .int .u64 u ∧ 0 ≤ u ∧ u ≤ 18446744073709551615 ∧ nr ≤ 211106232532989 ∧ f ≤ 9 ∧ Hid (nr = n + pre.length ∧ pre.length + f = 9 ∧ u < 2 * 128 ^ f ∧ putS v = pre ++ putF f u) ∧ Hid (Src 5 .u8 wr base ar nr capr (zs ++ pre)) ∧ Hid (Below base w wr)) (fun _ x _ => (intOf x).toNat)
  case atStart => exact ⟨a, n, cap, [], 9, v, rfl, rfl, v0, by omega, by omega, by omega, ⟨rfl, rfl, HV.out, rfl⟩, by rw [List.append_nil]; exact HS, Below.refl _ _⟩
  case round =>
    obtain ⟨ar, nr, capr, pre, f, u, rfl, rfl, u0, u1, hnr, hf, HP, HR, HW⟩ := hrel
    by_cases hu : u < 128
    · have e1 : u % 256 = u := by omega
      have HO := hide (one_row (k := .u8) wr u (wf_of_u8 u0 (by omega)) 5 (0, 0))
      have HSA := hide (HR.out.alloc (.cells #[.int .u8 u] 5))
      have HBW : Hid (base ≤ (wr.alloc (.cells #[.int .u8 u] 5)).heap.size) := by
        have := Nat.le_trans HB.out HW.out.size
        show _ ≤ _
        simp; omega
      go_wp2_with (at_builtin; refine wpList_append_one _ rfl _ _ 38 rfl base 5 i0 Try.underlying38 hi hz0 hz1 hz2 ar nr capr _ rfl HSA.out _ 1 u rfl HO.out (by omega) HBW.out ?_)
      intro a' cap' w' h1 h2
      obtain ⟨p1, p2, p3, p4⟩ := HP.out
      have HF : Hid (nr + 1 = n + (putS v).length ∧ zs ++ (pre ++ [u]) = zs ++ putS v ∧ Below base w w') := by
        refine ⟨?_, ?_, (HW.out.alloc (Nat.le_trans HB.out HW.out.size) _).trans h2⟩
        · rw [p4, putF_one hu, List.length_append, List.length_singleton]; omega
        · rw [p4, putF_one hu]
      have H1 := hide h1
      clear h1 h2 p1 p2 p3 p4 HP HR HW HSA HO HBW
      go_wp2
      go_ret
      rw [HF.out.1, HF.out.2.1] at H1
      rw [HF.out.1]
      exact ⟨a', cap', rfl, H1, HF.out.2.2⟩
    · have hor := or128_u8 (a := u % 256) (by omega) (by omega)
      rw [show u % 256 % 128 = u % 128 by omega] at hor
      have HO := hide (one_row (k := .u8) wr (u % 128 + 128) (wf_of_u8 (by omega) (by omega)) 5 (0, 0))
      have HSA := hide (HR.out.alloc (.cells #[.int .u8 (u % 128 + 128)] 5))
      have HBW : Hid (base ≤ (wr.alloc (.cells #[.int .u8 (u % 128 + 128)] 5)).heap.size) := by
        have := Nat.le_trans HB.out HW.out.size
        show _ ≤ _
        simp; omega
      go_wp2_with (at_builtin; refine wpList_append_one _ rfl _ _ 38 rfl base 5 i0 Try.underlying38 hi hz0 hz1 hz2 ar nr capr _ rfl HSA.out _ 1 (u % 128 + 128) rfl HO.out (by omega) HBW.out ?_)
      intro a' cap' w' h1 h2
      have HF : Hid (∃ f', f = f' + 1 ∧ nr + 1 = n + (pre ++ [u % 128 + 128]).length ∧ (pre ++ [u % 128 + 128]).length + f' = 9 ∧ u / 128 < 2 * 128 ^ f' ∧ putS v = (pre ++ [u % 128 + 128]) ++ putF f' (u / 128) ∧ Below base w w') := by
        obtain ⟨p1, p2, p3, p4⟩ := HP.out
        cases f with
        | zero => simp at p3; omega
        | succ f =>
          refine ⟨f, rfl, by simp; omega, by simp; omega, ?_, ?_, (HW.out.alloc (Nat.le_trans HB.out HW.out.size) _).trans h2⟩
          · rw [pw_succ] at p3; omega
          · rw [p4, putF_more (by omega), List.append_assoc]; rfl
      have H1 := hide h1
      clear h1 h2 HR HW HSA HO HBW
      go_wp2
      go_roundw
      case rel =>
        obtain ⟨f', e1, e2, e3, e4, e5, e6⟩ := HF.out
        obtain ⟨p1, p2, p3, p4⟩ := HP.out
        refine ⟨a', nr + 1, cap', pre ++ [u % 128 + 128], f', u / 128, rfl, by go_num, by omega, by omega, by omega, by omega, ⟨e2, e3, e4, e5⟩, Or.inl H1, e6⟩
      case measure => simp [intOf]; omega

theorem put_any (v : Int) (a : Option Addr) (n cap : Nat) (zs : List Int) (w : World) (hv : W64 v) (hn : n ≤ 211106232532980) (hc : n ≤ cap) (hr : Row .u8 w a n zs) :
    Calls Try.prog 40 #[.slice a n cap, .int .u64 v] w fun e w' => ∃ a' cap', e = .returned (.slice a' (n + (putS v).length) cap') ∧ Mine w' w.heap.size a' (n + (putS v).length) cap' (zs ++ putS v) ∧ Below w.heap.size w w' := by
  have A := hide (fun w1 => apart_any a n cap hc w1)
  have B := hide (number_any v w.heap.size a n n zs w hv hn (Nat.le_refl _) (Or.inr ⟨rfl, hr⟩))
  clear hr hn hv
  go_enter Try.func40, Try.ntmps40
  go_wp2_with fail
  refine (A.out _).mono ?_
  rintro e w1 ⟨rfl, rfl⟩
  go_wp2_with fail
  refine B.out.mono ?_
  rintro e w' ⟨a', cap', rfl, h1, h2⟩
  have H1 := hide h1
  clear h1
  go_wp2
  go_ret
  exact ⟨a', cap', rfl, H1, h2⟩

/-- What Get answers. -/
def gotE (r : Option (Int × Int)) : Ending :=
  match r with
  | none => .returned (.tuple #[.int .u64 0, .int .i64 0, .bool false])
  | some p => .returned (.tuple #[.int .u64 p.1, .int .i64 p.2, .bool true])

set_option maxHeartbeats 1000000 in
theorem get_any (at' : Int) (a : Option Addr) (n cap : Nat) (zs : List Int) (w : World) (ha : (Lit.int .i64 at').wf = true) (hc : n ≤ cap) (hr : Row .u8 w a n zs) :
    Calls Try.prog 94 #[.slice a n cap, .int .i64 at'] w fun e w' => e = gotE (getS zs at') ∧ w' = w := by
  obtain ⟨a0, a1⟩ := i64_of_wf ha
  have hl := hr.1
  have hn := hr.2.1
  clear ha
  by_cases h0 : 0 ≤ at' ∧ at' < n
  · obtain ⟨k, rfl⟩ := Int.eq_ofNat_of_zero_le h0.1
    have hkn : k < n := by omega
    have hS : Hid (getS zs (k : Int) = (getA 0 0 (zs.drop k)).map fun p => (p.1, (k : Int) + p.2)) := by
      show _ = _
      unfold getS
      rw [if_pos (by omega)]
      rfl
    have HR := hide (hr.from k (by omega) hc)
    have hsl := slice_from a n cap k (by omega)
    generalize (if cap = k then a else a.map (·.add k)) = a2 at HR hsl
    generalize hm : n - k = m at HR hsl
    have hm' : m + k = n := by omega
    clear hm
    generalize hrs : zs.drop k = rs at HR hS
    clear hrs hl hr
    have h1 := h0.1
    have h2 := h0.2
    clear h0
    go_enter Try.func94, Try.ntmps94
    go_wp2
    go_loop [7, 22] (fun x i => ∃ (j : Nat) (V : Int), j ≤ m ∧ j ≤ 9 ∧ i = .int .i64 j ∧ x = .int .u64 V ∧ 0 ≤ V ∧ V < 2 ^ (7 * j) ∧ Hid (getA 0 0 rs = getA j V (rs.drop j))) (fun _ i => m - (intOf i).toNat)
    case atStart => exact ⟨0, 0, by omega, by omega, rfl, rfl, by omega, by decide, rfl⟩
    case round =>
      obtain ⟨j, V, hj, hj9, rfl, rfl, V0, V1, HG⟩ := hrel
      by_cases hlt : j < m
      · have hrow := HR.out
        have hb := hrow.byte j
        obtain ⟨hl, _, _, h0 | ⟨b, off, rfl, hcell⟩⟩ := hrow
        · omega
        have hck := hcell j hlt
        have HD : Hid (getA 0 0 rs = getA j V (rs.getD j 0 :: rs.drop (j + 1))) := by
          show _ = _
          rw [HG.out, List.drop_eq_getElem_cons (by omega), List.getD_eq_getElem?_getD, List.getElem?_eq_getElem (by omega)]
          rfl
        clear hcell hl HG
        generalize rs.getD j 0 = z at *
        obtain ⟨z0, z1⟩ := hb
        have hand := and127_u8 z0 z1
        obtain ⟨t9, ht9⟩ : ∃ t9, ((j : Int) == 9) = t9 := ⟨_, rfl⟩
        obtain ⟨tz, htz⟩ : ∃ tz, (z == 0) = tz := ⟨_, rfl⟩
        by_cases q1 : j = 9 ∧ 1 < z
        · have hE : Hid (gotE (getS zs (k : Int)) = .returned (.tuple #[.int .u64 0, .int .i64 0, .bool false])) := by
            show _ = _
            rw [hS.out, HD.out, getA, if_pos q1]
            rfl
          have h9 : t9 = true := by rw [← ht9]; simp; omega
          subst h9
          have q2 := q1.2
          clear q1 htz V1
          go_wp2
          go_ret3
          exact ⟨hE.out.symm, rfl⟩
        · obtain ⟨X, x1, x2, x3, x4, x5⟩ := or_step j (by omega) V0 V1 (c := z % 128) (by omega) (by omega) (by omega)
          by_cases q2 : 128 ≤ z
          · have HX : Hid (getA 0 0 rs = getA (j + 1) X (rs.drop (j + 1))) := by
              show _ = _
              rw [HD.out, getA, if_neg q1, if_pos q2, x5]
            have HX4 := hide x4
            have h9 : t9 = false := by rw [← ht9]; simp; omega
            have hj8 : j < 9 := by omega
            subst h9
            clear x5 x4 HD V1 htz
            go_wp2
            exact ⟨⟨j + 1, X, by omega, by omega, by go_num, rfl, x2, HX4, HX⟩, by simp [intOf]; omega⟩
          · by_cases q3 : z = 0 ∧ 0 < j
            · have hE : Hid (gotE (getS zs (k : Int)) = .returned (.tuple #[.int .u64 0, .int .i64 0, .bool false])) := by
                show _ = _
                rw [hS.out, HD.out, getA, if_neg q1, if_neg q2, if_pos q3]
                rfl
              have h0 : tz = true := by rw [← htz]; simp; omega
              have q4 := q3.2
              have q5 : z ≤ 1 := by omega
              subst h0
              clear HD V1 q3 x4 x5
              cases t9
              all_goals
                go_wp2
                go_ret3
                exact ⟨hE.out.symm, rfl⟩
            · have hE : Hid (gotE (getS zs (k : Int)) = .returned (.tuple #[.int .u64 X, .int .i64 ((k : Int) + (j : Int) + 1), .bool true])) := by
                show _ = _
                rw [hS.out, HD.out, getA, if_neg q1, if_neg q2, if_neg q3, x5]
                simp only [Option.map_some, gotE]
                rw [show ((j + 1 : Nat) : Int) = (j : Int) + 1 from rfl, Int.add_assoc]
              have h9 : t9 = true → z ≤ 1 := by
                rintro rfl
                simp at ht9
                omega
              have h0 : tz = true → j ≤ 0 := by
                rintro rfl
                simp at htz
                omega
              clear x5 x4 HD V1 q3
              cases t9
              · clear h9
                cases tz
                · clear h0
                  go_wp2
                  go_ret3
                  exact ⟨hE.out.symm, rfl⟩
                · have h1 := h0 rfl
                  clear h0
                  go_wp2
                  go_ret3
                  exact ⟨hE.out.symm, rfl⟩
              · have q9 := h9 rfl
                clear h9
                cases tz
                · clear h0
                  go_wp2
                  go_ret3
                  exact ⟨hE.out.symm, rfl⟩
                · have h1 := h0 rfl
                  simp at ht9
                  omega
      · have : j = m := by omega
        subst this
        have hE : Hid (gotE (getS zs (k : Int)) = .returned (.tuple #[.int .u64 0, .int .i64 0, .bool false])) := by
          have hl := HR.out.1
          show _ = _
          rw [hS.out, HG.out, List.drop_eq_nil_of_le (by omega)]
          rfl
        go_wp2
        go_ret3
        exact ⟨hE.out.symm, rfl⟩
  · have hE : Hid (gotE (getS zs at') = .returned (.tuple #[.int .u64 0, .int .i64 0, .bool false])) := by
      show _ = _
      unfold getS
      rw [hl, if_neg h0]
      rfl
    have h1 : at' < 0 ∨ (n : Int) ≤ at' := by omega
    clear h0 hr hl
    rcases h1 with h1 | h1
    · go_enter Try.func94, Try.ntmps94
      go_wp2
      go_ret3
      exact ⟨hE.out.symm, rfl⟩
    · have h2 : 0 ≤ at' := by omega
      go_enter Try.func94, Try.ntmps94
      go_wp2
      go_ret3
      exact ⟨hE.out.symm, rfl⟩
end Go.Proofs.Ythebcmkainplnaa

namespace Go.Proofs.Ythebcmkainplnaa
open Go.RowKit
set_option maxRecDepth 20000

set_option maxHeartbeats 400000 in
theorem puttext_any (s : ByteArray) (a : Option Addr) (n cap : Nat) (zs : List Int) (w : World) (hn : n + s.size ≤ 140737488355318) (hc : n ≤ cap) (hr : Row .u8 w a n zs) :
    Calls Try.prog 70 #[.slice a n cap, .string s] w fun e w' => ∃ a' cap', e = .returned (.slice a' (n + (putT (numsOf s)).length) cap') ∧ Mine w' w.heap.size a' (n + (putT (numsOf s)).length) cap' (zs ++ putT (numsOf s)) ∧ Below w.heap.size w w' := by
  obtain ⟨i0, hi, hz0, hz1, hz2⟩ := info_parts Try.info5
  have A := hide (fun w1 => apart_any a n cap hc w1)
  have hsz : s.size ≤ 140737488355318 := by omega
  have B := hide (number_any (s.size : Int) w.heap.size a n n zs w (w64_len (by omega)) (by omega) (Nat.le_refl _) (Or.inr ⟨rfl, hr⟩))
  have HL : Hid (n + (putS (s.size : Int)).length + s.size = n + (putT (numsOf s)).length ∧ zs ++ (putS (s.size : Int) ++ numsOf s) = zs ++ putT (numsOf s) ∧ (putS (s.size : Int)).length ≤ 10) := by
    refine ⟨?_, ?_, (putS_len _).2⟩
    · unfold putT; rw [numsOf_len, List.length_append, numsOf_len]; omega
    · unfold putT; rw [numsOf_len]
  clear hr
  go_enter Try.func70, Try.ntmps70
  go_wp2_with fail
  refine (A.out _).mono ?_
  rintro e w1 ⟨rfl, rfl⟩
  go_wp2_with fail
  refine B.out.mono ?_
  rintro e w2 ⟨a2, cap2, rfl, h1, h2⟩
  have hle := HL.out.2.2
  have hb : w1.heap.size ≤ w2.heap.size := h2.size
  have H1 := hide h1
  have H2 := hide h2
  clear h1 h2 A B
  go_wp2_with (at_builtin; refine wpList_append_text _ rfl _ _ 38 9 rfl w1.heap.size 5 i0 Try.underlying38 Try.underlying9 hi hz0 hz1 hz2 _ _ _ _ rfl H1.out s rfl (by omega) hb ?_)
  intro a' cap' w' h1 h2
  have HF : Hid (Below w1.heap.size w1 w') := H2.out.trans h2
  rw [HL.out.2.1, HL.out.1] at h1
  have H3 := hide h1
  rw [HL.out.1]
  clear h1 h2 hle
  go_wp2
  go_ret
  exact ⟨a', cap', rfl, H3, HF⟩

/-- What size answers. -/
def sizeE (r : Option (Int × Int)) : Ending :=
  match r with
  | none => .returned (.tuple #[.int .i64 0, .int .i64 0, .bool false])
  | some p => .returned (.tuple #[.int .i64 p.1, .int .i64 p.2, .bool true])

set_option maxHeartbeats 2000000 in
theorem size_any (at' most : Int) (a : Option Addr) (n cap : Nat) (zs : List Int) (w : World) (ha : (Lit.int .i64 at').wf = true) (hm : (Lit.int .i64 most).wf = true) (hc : n ≤ cap) (hr : Row .u8 w a n zs) :
    Calls Try.prog 102 #[.slice a n cap, .int .i64 at', .int .i64 most] w fun e w' => e = sizeE (sizeS zs at' most) ∧ w' = w := by
  have G := hide (get_any at' a n cap zs w ha hc hr)
  have HZ := hide hr.bytes
  have hl := hr.1
  have hn := hr.2.1
  obtain ⟨m0, m1⟩ := i64_of_wf hm
  clear hr hm
  cases hg : getS zs at' with
  | none =>
    rw [hg] at G
    simp only [gotE] at G
    unfold sizeS
    rw [hg]
    simp only [sizeE]
    clear hg hl
    go_enter Try.func102, Try.ntmps102
    go_wp2_with fail
    refine G.out.mono ?_
    rintro e w' ⟨rfl, rfl⟩
    go_wp2
    go_ret3
    exact ⟨rfl, rfl⟩
  | some p =>
    obtain ⟨v, nx⟩ := p
    obtain ⟨hw, k, hk0, hk, hnx, hle, _⟩ := getS_some HZ.out hg
    have hn0 : 0 ≤ nx := by omega
    have hn1 : nx ≤ n := by omega
    rw [hg] at G
    simp only [gotE] at G
    unfold sizeS
    rw [hg]
    simp only
    rw [hl]
    have w0 := hw.1
    have w1 := hw.2
    clear hw hk0 hk hnx hle hg hl
    by_cases h1 : most < 0
    · rw [if_pos (Or.inl h1)]
      simp only [sizeE]
      go_enter Try.func102, Try.ntmps102
      go_wp2_with fail
      refine G.out.mono ?_
      rintro e w' ⟨rfl, rfl⟩
      go_wp2
      go_ret3
      exact ⟨rfl, rfl⟩
    · by_cases h2 : (n : Int) - nx < most
      · by_cases h3 : (n : Int) - nx < v
        · rw [if_pos (by omega)]
          simp only [sizeE]
          go_enter Try.func102, Try.ntmps102
          go_wp2_with fail
          refine G.out.mono ?_
          rintro e w' ⟨rfl, rfl⟩
          go_wp2
          go_ret3
          exact ⟨rfl, rfl⟩
        · rw [if_neg (by omega)]
          simp only [sizeE]
          go_enter Try.func102, Try.ntmps102
          go_wp2_with fail
          refine G.out.mono ?_
          rintro e w' ⟨rfl, rfl⟩
          go_wp2
          go_ret3
          exact ⟨rfl, rfl⟩
      · by_cases h3 : most < v
        · rw [if_pos (by omega)]
          simp only [sizeE]
          go_enter Try.func102, Try.ntmps102
          go_wp2_with fail
          refine G.out.mono ?_
          rintro e w' ⟨rfl, rfl⟩
          go_wp2
          go_ret3
          exact ⟨rfl, rfl⟩
        · rw [if_neg (by omega)]
          simp only [sizeE]
          go_enter Try.func102, Try.ntmps102
          go_wp2_with fail
          refine G.out.mono ?_
          rintro e w' ⟨rfl, rfl⟩
          go_wp2
          go_ret3
          exact ⟨rfl, rfl⟩
end Go.Proofs.Ythebcmkainplnaa

namespace Go.Proofs.Ythebcmkainplnaa
open Go.RowKit
set_option maxRecDepth 20000

/-- 'string(b)' of a slice that shows its bytes. -/
theorem row_string {w : World} {a : Option Addr} {n cap : Nat} {zs : List Int} (hr : Row .u8 w a n zs) :
    (convert 38 9 (.slice a n cap)).run Try.prog w = .ok (.string (strOfNums zs)) w := by
  obtain ⟨h1, _, _, rfl | ⟨b, off, rfl, hc⟩⟩ := hr
  · have hz : zs = [] := List.length_eq_zero_iff.1 h1
    subst hz
    rw [run_convert_bytes_string w _ _ 5 _ 0 cap Try.underlying38 Try.underlying5 Try.underlying9]
    cases a <;> simp [Conv.bytesToString, loadCells] <;> rfl
  · exact run_convert_bytes_arg w _ _ Try.underlying38 Try.underlying5 b off n cap zs h1 hc _ Try.underlying9

/-- What GetText answers. -/
def textE (r : Option (List Int × Int)) : Ending :=
  match r with
  | none => .returned (.tuple #[.string ByteArray.empty, .int .i64 0, .bool false])
  | some p => .returned (.tuple #[.string (strOfNums p.1), .int .i64 p.2, .bool true])

theorem i64_wf {x : Int} (h0 : -9223372036854775808 ≤ x) (h1 : x ≤ 9223372036854775807) : (Lit.int .i64 x).wf = true := by
  simp [Lit.wf, IntKind.min, IntKind.max, IntKind.signed, IntKind.bits]
  omega

set_option maxHeartbeats 400000 in
theorem gettext_any (at' most : Int) (a : Option Addr) (n cap : Nat) (zs : List Int) (w : World) (ha : (Lit.int .i64 at').wf = true) (hm : (Lit.int .i64 most).wf = true) (hc : n ≤ cap) (hr : Row .u8 w a n zs) :
    Calls Try.prog 95 #[.slice a n cap, .int .i64 at', .int .i64 most] w fun e w' => e = textE (textS zs at' most) ∧ w' = w := by
  have G := hide (size_any at' most a n cap zs w ha hm hc hr)
  have hl := hr.1
  have hn := hr.2.1
  cases hg : sizeS zs at' most with
  | none =>
    rw [hg] at G
    simp only [sizeE] at G
    unfold textS
    rw [hg]
    simp only [textE]
    clear hg hl hr ha hm
    go_enter Try.func95, Try.ntmps95
    go_wp2_with fail
    refine G.out.mono ?_
    rintro e w' ⟨rfl, rfl⟩
    go_wp2
    go_ret3
    exact ⟨rfl, rfl⟩
  | some p =>
    obtain ⟨v, fr⟩ := p
    obtain ⟨_, v0, _, f0, hle⟩ := sizeS_some hr.bytes hg
    rw [hg] at G
    simp only [sizeE] at G
    unfold textS
    rw [hg]
    simp only [textE]
    obtain ⟨m, rfl⟩ := Int.eq_ofNat_of_zero_le v0
    obtain ⟨f, rfl⟩ := Int.eq_ofNat_of_zero_le f0
    rw [Int.toNat_natCast, Int.toNat_natCast]
    have hfm : f + m ≤ n := by omega
    have hsl := slice_mid a n cap f (f + m) (by omega) (by omega) w
    rw [show f + m - f = m from by omega] at hsl
    have hst := row_string (cap := cap - f) ((hr.from f (by omega) hc).to m (by omega))
    generalize (if cap = f then a else a.map (·.add f)) = a2 at *
    generalize strOfNums ((zs.drop f).take m) = S at *
    clear hg hl hr ha hm hle v0 f0
    rw [show ((f + m : Nat) : Int) = (f : Int) + (m : Int) from rfl] at hsl
    go_enter Try.func95, Try.ntmps95
    go_wp2_with fail
    refine G.out.mono ?_
    rintro e w' ⟨rfl, rfl⟩
    go_wp2
    go_ret3
    exact ⟨rfl, rfl⟩

theorem drop_step {ls : List Int} {k : Nat} (h : k < ls.length) : ls.drop k = ls.getD k 0 :: ls.drop (k + 1) := by
  rw [List.drop_eq_getElem_cons h, List.getD_eq_getElem?_getD, List.getElem?_eq_getElem h]
  rfl

end Go.Proofs.Ythebcmkainplnaa

namespace Go.Proofs.Ythebcmkainplnaa
open Go.RowKit
set_option maxRecDepth 20000

theorem Try.info22 : (Try.prog.info? 76).map (fun i => (i.zero, i.size, i.bytes)) = some (some (.int .u64 0), 1, 8) := by kernel_rfl

/-- Numbers of the call's own. -/
abbrev MineL (w : World) (base : Nat) (a : Option Addr) (n cap : Nat) (zs : List Int) : Prop := Own 76 .u64 w base a n cap zs

theorem made_zero (n : Nat) : (madeCells #[Value.int .u64 0] n).toList = (List.replicate n (0 : Int)).map (Value.int .u64) := by
  rw [toList_madeCells_one, List.map_replicate]

/-- What has been laid of a list of m. -/
def sofar (pre : List Int) (m : Nat) : List Int := pre ++ List.replicate (m - pre.length) 0
theorem sofar_set {pre : List Int} {m : Nat} (h : pre.length < m) (v : Int) : (sofar pre m).set pre.length v = sofar (pre ++ [v]) m := by
  unfold sofar
  rw [List.set_append, if_neg (by omega), Nat.sub_self, show m - pre.length = (m - (pre.length + 1)) + 1 from by omega, List.replicate_succ, List.set_cons_zero, List.length_append, List.append_assoc]
  rfl
theorem sofar_len {pre : List Int} {m : Nat} (h : pre.length ≤ m) : (sofar pre m).length = m := by
  unfold sofar
  rw [List.length_append, List.length_replicate]; omega

/-- What GetRise answers. -/
def RiseP (r : Option (List Int × Int)) (base : Nat) (w' : World) (e : Ending) : Prop :=
  match r with
  | none => e = .returned (.tuple #[.slice none 0 0, .int .i64 0, .bool false])
  | some p => ∃ a' cap', e = .returned (.tuple #[.slice a' p.1.length cap', .int .i64 p.2, .bool true]) ∧ MineL w' base a' p.1.length cap' p.1

theorem riseG_none {zs : List Int} {m k : Nat} {p q : Int} (h : k < m) (hg : getS zs q = none) : riseG zs (m - k) p q = none := by
  obtain ⟨c, hc⟩ : ∃ c, m - k = c + 1 := ⟨m - k - 1, by omega⟩
  rw [hc, riseG, hg]
theorem riseG_some {zs : List Int} {m k : Nat} {p q d nx : Int} (h : k < m) (hg : getS zs q = some (d, nx)) :
    riseG zs (m - k) p q = if 18446744073709551615 - p ≤ d then none else (riseG zs (m - (k + 1)) (p + d + 1) nx).map fun r => ((p + d + 1) :: r.1, r.2) := by
  obtain ⟨c, hc⟩ : ∃ c, m - k = c + 1 := ⟨m - k - 1, by omega⟩
  rw [hc, riseG, hg, show m - (k + 1) = c from by omega]
theorem map_pre {r : Option (List Int × Int)} {pre : List Int} {x : Int} : (r.map fun r => (x :: r.1, r.2)).map (fun r => (pre ++ r.1, r.2)) = r.map fun r => ((pre ++ [x]) ++ r.1, r.2) := by
  cases r <;> simp

end Go.Proofs.Ythebcmkainplnaa
