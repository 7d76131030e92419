/-
  Of three strings of one length, added bit by bit, the sum is theirs, added so; the document's examples hold. The call returns true, and its arguments read as they did.
  Conditions: none: every value of the parameters' types.
-/
import Derived.Test.YtmblpoepmabmmaaSumP
import Derived.BigRegion
import Derived.Deep.RegionWith
import Derived.Deep.DrawnRows
import Derived.WalkLawsBesides
import Derived.ProofKit
import Derived.OpenShut
import Derived.ShutString
import Derived.ChangeOld
import Derived.SizedLaws
namespace Go.Proofs.Ytmblpoepmabmmaa
open Go.RowKit

theorem wpList_min3 {P : Program} {w : World} {ops : Array Oper} {rest : List Oper} {o : Oper} {a : Act} {Q : Exit → Act → World → Prop} (hgd : o.guard = none) (x y z : Operand) (ts : Array TypeId)
    (ho : o.op = .call { callee := .builtin .min, args := #[x, y, z], argTypes := ts }) (X Y Z N : Int) (hx : a.eval x = .int .i64 X) (hy : a.eval y = .int .i64 Y) (hz : a.eval z = .int .i64 Z)
    (hN : (if Z < (if Y < X then Y else X) then Z else (if Y < X then Y else X)) = N)
    (h : wpList P ops Q rest (a.put o.dst (.int .i64 N)) w) : wpList P ops Q (o :: rest) a w := by
  refine wpList_plain hgd fun K hK => ?_
  have hrun : (Builtin.min_ ts o.type #[.int .i64 X, .int .i64 Y, .int .i64 Z]).run P w = .ok (.int .i64 N) w := by rw [run_min_int3, hN]
  unfold Oper.wp
  simp [execOp, ho, resolve, invoke, builtin, hx, hy, hz, hrun, Result.andThen]
  exact hK _ _ h

theorem made_zero (n : Nat) : (madeCells #[Value.int .u8 0] n).toList = (List.replicate n (0 : Int)).map (Value.int .u8) := by
  rw [toList_madeCells_one, List.map_replicate]

/-- What has been laid of a string behind k rounds. -/
def sofar (u : List Int) (n k : Nat) : List Int := u.take k ++ List.replicate (n - k) 0

theorem sofar_set {u : List Int} {n k : Nat} (hu : u.length = n) (hk : k < n) : (sofar u n k).set k (u.getD k 0) = sofar u n (k + 1) := by
  unfold sofar
  rw [List.set_append, if_neg (by rw [List.length_take]; omega), List.length_take, hu, show k - min k n = 0 from by omega, show n - k = (n - (k + 1)) + 1 from by omega,
    List.replicate_succ, List.set_cons_zero, List.take_succ_eq_append_getElem (by omega), List.getD_eq_getElem?_getD, List.getElem?_eq_getElem (by omega), List.append_assoc]
  rfl

theorem upon_at {x y : List Int} {k : Nat} (hx : k < x.length) (hy : k < y.length) : (upon x y).getD k 0 = xorI (x.getD k 0) (y.getD k 0) := by
  unfold upon
  rw [List.getD_eq_getElem?_getD, List.getD_eq_getElem?_getD, List.getD_eq_getElem?_getD, List.getElem?_eq_getElem (by rw [List.length_zipWith]; omega), List.getElem?_eq_getElem hx, List.getElem?_eq_getElem hy]
  simp

set_option maxHeartbeats 2000000 in
theorem walk_three (a0 : Option Addr) (n0 c0 : Nat) (z0 : List Int) (a1 : Option Addr) (n1 c1 : Nat) (z1 : List Int) (a2 : Option Addr) (n2 c2 : Nat) (z2 : List Int) (w : World)
    (w0 : IsRow .u8 w a0 n0 c0 z0) (w1 : IsRow .u8 w a1 n1 c1 z1) (w2 : IsRow .u8 w a2 n2 c2 z2) :
    Calls Try.prog 7 #[.slice a0 n0 c0, .slice a1 n1 c1, .slice a2 n2 c2] w fun e w' => e = .returned (.bool true) ∧ Below w.heap.size w w' := by
  obtain ⟨k0, d0, r0⟩ := row_of w0
  obtain ⟨k1, d1, r1⟩ := row_of w1
  obtain ⟨k2, d2, r2⟩ := row_of w2
  clear w0 w1 w2
  generalize z0.take n0 = y0 at *
  generalize z1.take n1 = y1 at *
  generalize z2.take n2 = y2 at *
  obtain ⟨n, hn⟩ : ∃ n : Nat, (n : Int) = (if (n2 : Int) < (if (n1 : Int) < (n0 : Int) then (n1 : Int) else (n0 : Int)) then (n2 : Int) else (if (n1 : Int) < (n0 : Int) then (n1 : Int) else (n0 : Int))) := ⟨min n0 (min n1 n2), by omega⟩
  have e0 : n ≤ n0 := by split at hn <;> split at hn <;> omega
  have e1 : n ≤ n1 := by split at hn <;> split at hn <;> omega
  have e2 : n ≤ n2 := by split at hn <;> split at hn <;> omega
  have HN := hide hn.symm
  have R0 := hide r0
  have R1 := hide r1
  have R2 := hide r2
  clear hn r0 r1 r2
  obtain ⟨i0, hi, hz0, hz1, hz2⟩ := info_parts Try.info5
  go_enter Try.func7, Try.ntmps7
  go_wp2_with (first
    | (refine wpList_min3 rfl _ _ _ _ rfl _ _ _ (n : Int) rfl rfl rfl HN.out ?_)
    | (at_make; refine wpList_make_full _ rfl _ _ 22 rfl w.heap.size 5 i0 (.int .u8 0) 1 Try.underlying22 hi hz0 hz1 .i64 .i64 (n : Int) (n : Int) n rfl rfl rfl rfl (by rw [hz2]; omega) (by unfold maxLen; omega) (Nat.le_refl _) ?_))
  intro W ho hg
  rw [made_zero] at ho
  have hb : Below w.heap.size w W := (Below.refl _ _).grown hg (Nat.le_refl _) (fun k hk => by simp at hk)
  clear hg hi hz0 hz1 hz2
  have HO := hide ho
  have HB := hide hb
  clear ho hb
  have l0 : (y0.take n).length = n := by rw [List.length_take, R0.out.1]; omega
  have l1 : (y1.take n).length = n := by rw [List.length_take, R1.out.1]; omega
  have l2 : (y2.take n).length = n := by rw [List.length_take, R2.out.1]; omega
  have lu := upon_length (upon_length l0 l1) l2
  have LU := hide lu
  have L0 := hide l0
  have L1 := hide l1
  have L2 := hide l2
  have HU : Hid (∀ k, k < n → (upon (upon (y0.take n) (y1.take n)) (y2.take n)).getD k 0 = xorI (xorI ((y0.take n).getD k 0) ((y1.take n).getD k 0)) ((y2.take n).getD k 0)) := by
    intro k hk
    rw [upon_at (by rw [upon_length l0 l1]; omega) (by omega), upon_at (by omega) (by omega)]
  clear l0 l1 l2 lu
  generalize hUU : upon (upon (y0.take n) (y1.take n)) (y2.take n) = U at LU HU
  have HUU := hide hUU
  clear hUU
  go_wp2
  go_loopw [9] (fun i wr => ∃ k : Nat, k ≤ n ∧ i = .int .i64 k ∧ Hid (wr.ownsRow w.heap.size 5 1 (.slice (some ⟨w.heap.size, 0, none⟩) n n) n ((sofar U n k).map (Value.int .u8))) ∧ Hid (Below w.heap.size w wr)) (fun i _ => n - (intOf i).toNat)
  case atStart => exact ⟨0, by omega, rfl, HO, HB⟩
  case round =>
    obtain ⟨k, hk, rfl, ho, hb⟩ := hrel
    clear HO HB
    by_cases hlt : k < n
    · have q0 := (R0.out.below hb.out).to n e0
      have q1 := (R1.out.below hb.out).to n e1
      have q2 := (R2.out.below hb.out).to n e2
      have b0 := q0.byte k
      have b1 := q1.byte k
      have b2 := q2.byte k
      obtain ⟨_, _, _, h | ⟨x0, o0, rfl, f0⟩⟩ := q0
      · omega
      obtain ⟨_, _, _, h | ⟨x1, o1, rfl, f1⟩⟩ := q1
      · omega
      obtain ⟨_, _, _, h | ⟨x2, o2, rfl, f2⟩⟩ := q2
      · omega
      have g0 := f0 k hlt
      have g1 := f1 k hlt
      have g2 := f2 k hlt
      have HUk := hide (HU.out k hlt)
      clear f0 f1 f2
      generalize (y0.take n).getD k 0 = p0 at *
      generalize (y1.take n).getD k 0 = p1 at *
      generalize (y2.take n).getD k 0 = p2 at *
      obtain ⟨m1, m2, m3⟩ := xor_u8 b0.1 b0.2 b1.1 b1.2
      obtain ⟨m4, m5, m6⟩ := xor_u8 m2 m3 b2.1 b2.2
      generalize xorI p0 p1 = s1 at *
      generalize xorI s1 p2 = s2 at *
      obtain ⟨old, hold⟩ : ∃ old, wr.cell? ⟨w.heap.size, k, none⟩ = some old := by
        have := ho.out.cellAt k (by omega)
        have hl := ho.out.1
        rw [List.getElem?_eq_getElem (by omega)] at this
        exact ⟨_, this⟩
      have hfr := ho.out.frozenAt k
      have i1 : (0 : Int) ≤ (k : Int) := by omega
      have i2 : (k : Int) < (n0 : Int) := by omega
      have i3 : (k : Int) < (n1 : Int) := by omega
      have i4 : (k : Int) < (n2 : Int) := by omega
      have i5 : (k : Int) < (n : Int) := by omega
      have HS : Hid ((wr.setCell ⟨w.heap.size, k, none⟩ (.int .u8 s2)).ownsRow w.heap.size 5 1 (.slice (some ⟨w.heap.size, 0, none⟩) n n) n ((sofar U n (k + 1)).map (Value.int .u8))) := by
        have := (ho.out.stored k (.int .u8 s2)).1
        rw [← HUk.out, ← List.map_set, sofar_set LU.out hlt, HUk.out] at this
        exact this
      have HB2 : Hid (Below w.heap.size w (wr.setCell ⟨w.heap.size, k, none⟩ (.int .u8 s2))) := hb.out.setCell (Nat.le_refl _) _
      go_wp2
      go_region
      go_wp2
      go_roundw
      case rel => exact ⟨k + 1, by omega, by go_num, HS.out.drew, HB2.out.drew⟩
      case measure => simp [intOf]; omega
    · have : k = n := by omega
      subst this
      have v0 := R0.out.2.2.1
      have v1 := R1.out.2.2.1
      have v2 := R2.out.2.2.1
      have u0 := fun z (h : z ∈ y0.take k) => v0 z (List.mem_of_mem_take h)
      have u1 := fun z (h : z ∈ y1.take k) => v1 z (List.mem_of_mem_take h)
      have u2 := fun z (h : z ∈ y2.take k) => v2 z (List.mem_of_mem_take h)
      have hsum := three_sum L0.out L1.out L2.out u0 u1 u2
      have t0 := moreS_word (s := 0) (by decide) u0
      have t1 := moreS_word (s := 0) (by decide) u1
      have t2 := moreS_word (s := 0) (by decide) u2
      have uu := upon_byte (upon_byte u0 u1) u2
      rw [HUU.out] at hsum uu
      have hown : Own wr w.heap.size (some ⟨w.heap.size, 0, none⟩) k k U := by
        have := ho.out
        unfold sofar at this
        rw [Nat.sub_self, List.replicate_zero, List.append_nil, List.take_of_length_le (by rw [LU.out]; omega)] at this
        exact this
      have Q := hide (hown.row (by omega) uu)
      have Q0 := hide ((R0.out.below hb.out).to k e0)
      have Q1 := hide ((R1.out.below hb.out).to k e1)
      have Q2 := hide ((R2.out.below hb.out).to k e2)
      have f0 := slice_to a0 n0 c0 k (by omega)
      have f1 := slice_to a1 n1 c1 k (by omega)
      have f2 := slice_to a2 n2 c2 k (by omega)
      have C0 := hide (fun w1 (h : Row w1 a0 k (y0.take k)) => of_any a0 k c0 (y0.take k) w1 h)
      have C1 := hide (fun w1 (h : Row w1 a1 k (y1.take k)) => of_any a1 k c1 (y1.take k) w1 h)
      have C2 := hide (fun w1 (h : Row w1 a2 k (y2.take k)) => of_any a2 k c2 (y2.take k) w1 h)
      have C := hide (fun w1 (h : Row w1 (some ⟨w.heap.size, 0, none⟩) k U) => of_any (some ⟨w.heap.size, 0, none⟩) k k U w1 h)
      clear v0 v1 v2 u0 u1 u2 uu hown
      generalize moreS 0 (y0.take k) = S0 at *
      generalize moreS 0 (y1.take k) = S1 at *
      generalize moreS 0 (y2.take k) = S2 at *
      generalize moreS 0 U = S at *
      obtain ⟨g1, g2, g3⟩ := xor_u32 t0.1 t0.2 t1.1 t1.2
      generalize xorI S0 S1 = T at *
      obtain ⟨g4, _, _⟩ := xor_u32 g2 g3 t2.1 t2.2
      rw [hsum] at g4
      clear hsum HUU HU LU L0 L1 L2 ho
      go_wp2
      go_region_with (first
        | (go_at_call_of 9 (Value.slice a0 k c0); refine (C0.out _ ?_).mono ?_; (repeat (first | exact Q0.out | apply Row.alloc | apply Row.drew)); rintro e w' ⟨rfl, rfl⟩)
        | (go_at_call_of 9 (Value.slice a1 k c1); refine (C1.out _ ?_).mono ?_; (repeat (first | exact Q1.out | apply Row.alloc | apply Row.drew)); rintro e w' ⟨rfl, rfl⟩)
        | (go_at_call_of 9 (Value.slice a2 k c2); refine (C2.out _ ?_).mono ?_; (repeat (first | exact Q2.out | apply Row.alloc | apply Row.drew)); rintro e w' ⟨rfl, rfl⟩)
        | (go_at_call 9; refine (C.out _ ?_).mono ?_; (repeat (first | exact Q.out | apply Row.alloc | apply Row.drew)); rintro e w' ⟨rfl, rfl⟩)
        | (go_at_call 11; refine (awake_any _).mono ?_; rintro e w' ⟨rfl, hbe⟩))
      go_wp2
      go_ret
      exact ⟨rfl, bel_to (by repeat (first | exact hb.out | apply Below.drew | apply bel_al)) hbe⟩
end Go.Proofs.Ytmblpoepmabmmaa

namespace Go.Proofs.Ytmblpoepmabmmaa.sumThree
open Go.ChangeShapes Go.WideShapes Go.ChangeAt Go.RowKit
open Go.ChangeMaps (open_string shut_string)
set_option linter.unusedVariables false

theorem own : ownKnob Try.prog.godebug = none := by kernel_rfl
theorem laidOut : laidOutB Try.prog = true := by kernel_rfl

theorem walk (a0 : Option Addr) (len0 cap0 : Nat) (z0 : List Int) (a1 : Option Addr) (len1 cap1 : Nat) (z1 : List Int) (a2 : Option Addr) (len2 cap2 : Nat) (z2 : List Int) (w : World) (w0 : IsRow .u8 w a0 len0 cap0 z0) (w1 : IsRow .u8 w a1 len1 cap1 z1) (w2 : IsRow .u8 w a2 len2 cap2 z2) :
    Calls Try.prog 7 #[.slice a0 len0 cap0, .slice a1 len1 cap1, .slice a2 len2 cap2] w fun e w' => e = .returned (.bool true) ∧ Below w.heap.size w w' :=
  walk_three a0 len0 cap0 z0 a1 len1 cap1 z1 a2 len2 cap2 z2 w w0 w1 w2

set_option maxRecDepth 100000 in
theorem lifted (os : Os) (started : os.Started) (H : Type) (enc : TypeId × Value → H) :
    ReturnsInHanded {} Try.checked os 7 .any (Rows.sumThreeSpec.pre6 enc Try.prog Try.f7 Rows.sumThreeRow.domain false) (Rows.sumThreeSpec.post enc Try.prog Try.f7 false true false false) := by
  refine returnsInHanded_of_change_sized (C := Try.checked) own started (by kernel_rfl) Try.func7
    (ChangeSpec.witness6 (enc := enc) (C := Try.checked) false ⟨#[], #[.slice none 0 0, .slice none 0 0, .slice none 0 0], []⟩ 8 (by kernel_rfl) (by kernel_rfl) (by kernel_rfl) (by kernel_rfl)) ?_
  intro W base args ds gs before hval0 hW hcnd hsz0 _
  have hsz : (DataW.weightsEach Try.prog (Try.f7.params.toList ++ Rows.sumThreeSpec.plain.varTypes Try.prog) (ds ++ gs)).all (· ≤ reachBytes) = true := hsz0
  have hval : ∀ (j : Nat) t v, Try.f7.params[j]? = some t → args[j]? = some v → Value.okWide Try.prog W .any base t v := hval0
  have hW' := hW
  obtain ⟨p, q, hA0, hV, rfl, hfz, hnd⟩ := hW
  have hA : DataW.TrodAll enc Try.prog W 0 (fun _ => true) true Try.f7.params.toList args.toList ds p := hA0
  rw [Try.params7] at hA hval hsz
  obtain ⟨v0, vs0, d0, ds0, p0, q0, hargs, rfl, rfl, h0, r0⟩ := trodAll_cons hA
  obtain ⟨v1, vs1, d1, ds1, p1, q1, rfl, rfl, rfl, h1, r1⟩ := trodAll_cons r0
  obtain ⟨v2, vs2, d2, ds2, p2, q2, rfl, rfl, rfl, h2, r2⟩ := trodAll_cons r1
  obtain ⟨rfl, rfl, rfl⟩ := trodAll_nil r2
  obtain rfl : args = #[v0, v1, v2] := by cases args; simp_all
  obtain ⟨rfl, rfl⟩ := trodVars_none hV
  obtain ⟨a0, len0, cap0, rfl⟩ := okWide_slice Try.underlying22 (hval 0 22 v0 rfl rfl)
  have k0 := h0
  have lt0 : ∀ x ∈ p0, x.block < W.heap.size := by obtain ⟨m, hm⟩ := k0; exact DataW.trod_lt m _ _ _ hm
  obtain ⟨z0, w0⟩ : ∃ zs, IsRow .u8 W a0 len0 cap0 zs := by
    obtain ⟨fuel, hf⟩ := h0
    rcases open_ints Try.underlying22 Try.underlying5 (by kernel_rfl) hf with ⟨hcs, _⟩ | ⟨x, l, c, zs, hcs, _, hl, hm, hz, hx, hcell, hwz⟩
    · simp [Value.cells] at hcs
      obtain ⟨rfl, rfl, rfl⟩ := hcs
      exact ⟨[], by decide, .inl ⟨rfl, rfl, rfl, rfl⟩⟩
    · simp [Value.cells] at hcs
      obtain ⟨rfl, rfl, rfl⟩ := hcs
      have hd := congrArg Prod.fst hx
      simp only at hd
      have hs := sized_slice hsz (j := 0) (t := 22) (e := 5) rfl (by rw [hd]; rfl) Try.underlying22
      rw [show Try.prog.bytesOf 5 = 1 from by kernel_rfl] at hs
      simp only [lits, List.length_map, List.length_take, List.length_drop, reachBytes] at hs
      have hzc : zs.length = cap0 := by simpa using hz
      exact ⟨zs, by omega, .inr ⟨_, rfl, hl, hm, hzc, hcell, hwz⟩⟩
  obtain ⟨a1, len1, cap1, rfl⟩ := okWide_slice Try.underlying22 (hval 1 22 v1 rfl rfl)
  have k1 := h1
  have lt1 : ∀ x ∈ p1, x.block < W.heap.size := by obtain ⟨m, hm⟩ := k1; exact DataW.trod_lt m _ _ _ hm
  obtain ⟨z1, w1⟩ : ∃ zs, IsRow .u8 W a1 len1 cap1 zs := by
    obtain ⟨fuel, hf⟩ := h1
    rcases open_ints Try.underlying22 Try.underlying5 (by kernel_rfl) hf with ⟨hcs, _⟩ | ⟨x, l, c, zs, hcs, _, hl, hm, hz, hx, hcell, hwz⟩
    · simp [Value.cells] at hcs
      obtain ⟨rfl, rfl, rfl⟩ := hcs
      exact ⟨[], by decide, .inl ⟨rfl, rfl, rfl, rfl⟩⟩
    · simp [Value.cells] at hcs
      obtain ⟨rfl, rfl, rfl⟩ := hcs
      have hd := congrArg Prod.fst hx
      simp only at hd
      have hs := sized_slice hsz (j := 1) (t := 22) (e := 5) rfl (by rw [hd]; rfl) Try.underlying22
      rw [show Try.prog.bytesOf 5 = 1 from by kernel_rfl] at hs
      simp only [lits, List.length_map, List.length_take, List.length_drop, reachBytes] at hs
      have hzc : zs.length = cap1 := by simpa using hz
      exact ⟨zs, by omega, .inr ⟨_, rfl, hl, hm, hzc, hcell, hwz⟩⟩
  obtain ⟨a2, len2, cap2, rfl⟩ := okWide_slice Try.underlying22 (hval 2 22 v2 rfl rfl)
  have k2 := h2
  have lt2 : ∀ x ∈ p2, x.block < W.heap.size := by obtain ⟨m, hm⟩ := k2; exact DataW.trod_lt m _ _ _ hm
  obtain ⟨z2, w2⟩ : ∃ zs, IsRow .u8 W a2 len2 cap2 zs := by
    obtain ⟨fuel, hf⟩ := h2
    rcases open_ints Try.underlying22 Try.underlying5 (by kernel_rfl) hf with ⟨hcs, _⟩ | ⟨x, l, c, zs, hcs, _, hl, hm, hz, hx, hcell, hwz⟩
    · simp [Value.cells] at hcs
      obtain ⟨rfl, rfl, rfl⟩ := hcs
      exact ⟨[], by decide, .inl ⟨rfl, rfl, rfl, rfl⟩⟩
    · simp [Value.cells] at hcs
      obtain ⟨rfl, rfl, rfl⟩ := hcs
      have hd := congrArg Prod.fst hx
      simp only at hd
      have hs := sized_slice hsz (j := 2) (t := 22) (e := 5) rfl (by rw [hd]; rfl) Try.underlying22
      rw [show Try.prog.bytesOf 5 = 1 from by kernel_rfl] at hs
      simp only [lits, List.length_map, List.length_take, List.length_drop, reachBytes] at hs
      have hzc : zs.length = cap2 := by simpa using hz
      exact ⟨zs, by omega, .inr ⟨_, rfl, hl, hm, hzc, hcell, hwz⟩⟩
  clear hA0 hval0 hsz0 hsz
  refine (walk a0 len0 cap0 z0 a1 len1 cap1 z1 a2 len2 cap2 z2 W w0 w1 w2).mono fun e W' ⟨he, bel⟩ => ?_
  subst he
  exact ⟨_, rfl, _, _, _, [], _, [], hW', trodAll_mk1 (shut_bool Try.underlying4 _), (trodAll_cons_mk (Below.trod laidOut (by kernel_rfl) (of_decide_eq_true (by kernel_rfl)) k0 bel lt0) (trodAll_cons_mk (Below.trod laidOut (by kernel_rfl) (of_decide_eq_true (by kernel_rfl)) k1 bel lt1) (trodAll_cons_mk (Below.trod laidOut (by kernel_rfl) (of_decide_eq_true (by kernel_rfl)) k2 bel lt2) trodAll_mk0))), rfl, bel.frame _, fun h => by cases h⟩

theorem over : Rows.sumThreeRow.holds Try.pinned (OpenSpec.ofChange Rows.sumThreeSpec) :=
  OpenClaim.holds_of_wide 7 Try.f7 rfl rfl rfl rfl rfl rfl rfl ⟨rfl, rfl, rfl, rfl, rfl⟩ rfl rfl rfl rfl rfl (by kernel_rfl) Try.func7 (by kernel_rfl)
    (of_decide_eq_true (by kernel_rfl)) (by unfold Func.isWrapper; first | (rw [if_pos (by decide +kernel)]; kernel_rfl) | (rw [if_neg (by decide +kernel)]; exact ⟨rfl, rfl⟩))
    (fun os started H enc _ => lifted os started H enc)

theorem proved : Rows.SumThreeSaid := over
#print axioms proved
end Go.Proofs.Ytmblpoepmabmmaa.sumThree
