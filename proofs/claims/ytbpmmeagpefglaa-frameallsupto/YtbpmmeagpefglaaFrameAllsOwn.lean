/-
  The frames of any bytes, broken off anywhere, are those of the document's own answer, each with its place; where they end; the document's examples hold. The call returns true, and its arguments read as they did.
  Conditions: the input is of bulk at most 1048576.
-/
import Derived.Test.YtbpmmeagpefglaaFrameN
import Derived.Test.YtbpmmeagpefglaaFrameX
import Derived.Test.YtbpmmeagpefglaaFrameE
import Derived.Test.YtbpmmeagpefglaaPlace
import Derived.Test.YtbpmmeagpefglaaVintU
import Derived.Deep.RegionHeld3
import Derived.Deep.CondSized
import Derived.ProofKit
import Derived.OpenShut
import Derived.ShutString
import Derived.ChangeOld
import Derived.SizedLaws
namespace Go.Proofs.Ytbpmmeagpefglaa
open Go.RowKit

/-- The builtin min of two whole numbers. -/
theorem wpList_min2 {P : Program} {w : World} {ops : Array Oper} {rest : List Oper} {o : Oper} {a : Act} {Q : Exit → Act → World → Prop} (hgd : o.guard = none) (x y : Operand) (ts : Array TypeId)
    (ho : o.op = .call { callee := .builtin .min, args := #[x, y], argTypes := ts }) (u v r : Int) (hx : a.eval x = .int .i64 u) (hy : a.eval y = .int .i64 v) (hr : (if v < u then v else u) = r)
    (h : wpList P ops Q rest (a.put o.dst (.int .i64 r)) w) : wpList P ops Q (o :: rest) a w := by
  refine wpList_plain hgd fun K hK => ?_
  have hrun : (Builtin.min_ ts o.type #[.int .i64 u, .int .i64 v]).run P w = .ok (.int .i64 r) w := by rw [run_min_int2, hr]
  unfold Oper.wp
  simp [execOp, ho, resolve, invoke, builtin, hx, hy, hrun, Result.andThen]
  exact hK _ _ h

theorem flat_get (l : List It) (i : Nat) (hi : i < l.length) : (flat l)[i * 3]? = some (.int .i64 l[i].1) ∧ (flat l)[i * 3 + 1]? = some (.slice l[i].2.2.1 l[i].2.1.2 l[i].2.2.2) := by
  induction l generalizing i with
  | nil => simp at hi
  | cons x t ih =>
    have e : flat (x :: t) = [.int .i64 x.1, .slice x.2.2.1 x.2.1.2 x.2.2.2, .int .i64 ((x.2.1.1 : Int) + x.2.1.2)] ++ flat t := by simp [flat]
    rw [e]
    cases i with
    | zero => exact ⟨rfl, rfl⟩
    | succ i =>
      have h := ih i (by simpa using hi)
      refine ⟨?_, ?_⟩
      · rw [List.getElem?_append_right (by simp; omega), show (i + 1) * 3 - [Value.int .i64 x.1, .slice x.2.2.1 x.2.1.2 x.2.2.2, .int .i64 ((x.2.1.1 : Int) + x.2.1.2)].length = i * 3 from by simp; omega]
        exact h.1
      · rw [List.getElem?_append_right (by simp; omega), show (i + 1) * 3 + 1 - [Value.int .i64 x.1, .slice x.2.2.1 x.2.1.2 x.2.2.2, .int .i64 ((x.2.1.1 : Int) + x.2.1.2)].length = i * 3 + 1 from by simp; omega]
        exact h.2

/-- What the law reads of the reference's list. -/
theorem item_at {w : World} {base n c i : Nat} {al : Option Addr} {zs : List Int} {fr : List (Nat × Nat)} {l : List It} (hz : Bytes8 zs) (hzl : zs.length ≤ 1048576) (h : w.ownsRow base 52 3 (.slice al n c) n (flat l)) (hI : Items w base zs fr l) (hn : fr.length = n) (hi : i < n) :
    ∃ g ab v cb bs, al = some ⟨g, 0, none⟩ ∧ w.cell? ⟨g, i * 3, none⟩ = some (.int .i64 ((startsOf fr).getD i 0)) ∧ w.cell? ⟨g, i * 3 + 1, none⟩ = some (.slice ab v cb) ∧ Row .u8 w ab v bs ∧ strOfNums bs = (textsS zs fr).getD i ByteArray.empty := by
  have hl : l.length = n := by rw [hI.len, hn]
  have hil : i < l.length := by omega
  obtain ⟨q1, q2⟩ := flat_get l i hil
  rcases h.2 with ⟨_, h2⟩ | ⟨g, c', cur, h1, _⟩
  · omega
  · simp only [Value.slice.injEq, true_and] at h1
    obtain ⟨rfl, rfl⟩ := h1
    have hm := hI.body l[i] (List.getElem_mem hil)
    refine ⟨g, l[i].2.2.1, l[i].2.1.2, l[i].2.2.2, _, rfl, ?_, ?_, hm.row8 ?_ ?_, ?_⟩
    · rw [h.cellAt (i * 3) (by omega), q1, ← hI.at', List.getD_eq_getElem?_getD, List.getElem?_map, List.getElem?_eq_getElem hil]; rfl
    · rw [h.cellAt (i * 3 + 1) (by omega), q2]
    · have := hm.len
      rw [List.length_take, List.length_drop] at this
      omega
    · exact fun z hz' => hz z (List.mem_of_mem_drop (List.mem_of_mem_take hz'))
    · unfold textsS
      rw [← hI.fr', List.getD_eq_getElem?_getD, List.getElem?_map, List.getElem?_map, List.getElem?_eq_getElem hil]; rfl
theorem walk_few {zs : List Int} (hz : Bytes8 zs) (f k : Nat) : (walkS zs f k).length ≤ zs.length - k := by
  induction f generalizing k with
  | zero => simp [walkS]
  | succ f ih =>
    rw [walkS]
    cases h : findS zs k with
    | none => simp
    | some p =>
      obtain ⟨st, v⟩ := p
      obtain ⟨h1, h2, h3, k', hk, hst, _⟩ := findS_some hz h
      have := ih (st + v)
      simp only [List.length_cons]
      omega
theorem ints_at {w : World} {base n c i : Nat} {a : Option Addr} {xs : List Int} (h : w.ownsRow base 3 1 (.slice a n c) n (xs.map (Value.int .i64))) (hi : i < n) : ∃ g, a = some ⟨g, 0, none⟩ ∧ w.cell? ⟨g, i, none⟩ = some (.int .i64 (xs.getD i 0)) := by
  have hl : xs.length = n := by simpa using h.1
  rcases h.2 with ⟨_, h2⟩ | ⟨g, c', cur, h1, _⟩
  · omega
  · simp only [Value.slice.injEq, true_and] at h1
    obtain ⟨rfl, rfl⟩ := h1
    refine ⟨g, rfl, ?_⟩
    rw [h.cellAt i (by omega), List.getElem?_map, List.getElem?_eq_getElem (by omega), List.getD_eq_getElem?_getD, List.getElem?_eq_getElem (by omega)]
    rfl
theorem strs_at {w : World} {base n c i : Nat} {a : Option Addr} {xs : List ByteArray} (h : w.ownsRow base 9 1 (.slice a n c) n (xs.map Value.string)) (hi : i < n) : ∃ g, a = some ⟨g, 0, none⟩ ∧ w.cell? ⟨g, i, none⟩ = some (.string (xs.getD i ByteArray.empty)) := by
  have hl : xs.length = n := by simpa using h.1
  rcases h.2 with ⟨_, h2⟩ | ⟨g, c', cur, h1, _⟩
  · omega
  · simp only [Value.slice.injEq, true_and] at h1
    obtain ⟨rfl, rfl⟩ := h1
    refine ⟨g, rfl, ?_⟩
    rw [h.cellAt i (by omega), List.getElem?_map, List.getElem?_eq_getElem (by omega), List.getD_eq_getElem?_getD, List.getElem?_eq_getElem (by omega)]
    rfl
theorem startsFrom_take (l : List (Nat × Nat)) (m k : Nat) : startsFrom k (l.take m) = (startsFrom k l).take m := by
  induction l generalizing m k with
  | nil => simp [startsFrom]
  | cons p t ih =>
    cases m with
    | zero => simp [startsFrom]
    | succ m => rw [List.take_succ_cons, startsFrom, startsFrom, List.take_succ_cons, ih]
theorem getD_take {α : Type} (l : List α) (m i : Nat) (d : α) (hi : i < m) : (l.take m).getD i d = l.getD i d := by
  rw [List.getD_eq_getElem?_getD, List.getD_eq_getElem?_getD, List.getElem?_take, if_pos hi]

set_option maxRecDepth 100000 in
set_option maxHeartbeats 8000000 in
theorem walk_alls (a : Option Addr) (n cap : Nat) (z : List Int) (p : Int) (w : World) (w0 : IsRow .u8 w a n cap z) (b0 : cap ≤ 1048576) (_w1 : (Lit.int .i64 p).wf = true) :
    Calls Try.prog 6 #[.slice a n cap, .int .i64 p] w fun e w' => e = .returned (.bool true) ∧ Below w.heap.size w w' := by
  obtain ⟨hcap, _, hnil, hr⟩ := row_of w0
  generalize z.take n = bs at hr
  have HZ : Hid (Bytes8 bs) := hr.bytes
  have HBL : Hid (bs.length ≤ 1048576) := by have := hr.1; show _ ≤ _; omega
  have R := hide hr
  have C1 := hide (refall_any a n cap bs w hcap hnil (by omega) hr)
  unfold RefAll at C1
  clear hr w0 _w1
  have BY := hide (fun W (h : Below w.heap.size w W) => bytes_any a n cap bs W (R.out.below h (Nat.le_refl _)) hnil (by omega))
  have EN := hide (fun W a' c' (hc : n ≤ c') (h : Row .u8 W a' n bs) => ends_any a' n c' bs W hc h)
  have AL := hide (fun (M : Nat) W a' c' (hM : 1 ≤ M) (h : Row .u8 W a' n bs) => all_any (M : Int) a' n c' bs W h (by omega) (by omega) (by omega))
  simp only [Int.toNat_natCast] at AL
  have HIT := hide (fun W base al c l i (h : W.ownsRow base 52 3 (.slice al (framesS bs).length c) (framesS bs).length (flat l)) (hI : Items W base bs (framesS bs) l) (hi : i < (framesS bs).length) => item_at HZ.out HBL.out h hI rfl hi)
  have HST : Hid (∀ M i, i < ((framesS bs).take M).length → (startsOf ((framesS bs).take M)).getD i 0 = (startsOf (framesS bs)).getD i 0 ∧ (textsS bs ((framesS bs).take M)).getD i ByteArray.empty = (textsS bs (framesS bs)).getD i ByteArray.empty ∧ i < (framesS bs).length) := by
    intro M i hi
    rw [List.length_take] at hi
    refine ⟨?_, ?_, by omega⟩
    · unfold startsOf
      rw [startsFrom_take, getD_take _ _ _ _ (by omega)]
    · unfold textsS
      rw [List.map_take, getD_take _ _ _ _ (by omega)]
  have HTL : Hid (∀ M, ((framesS bs).take M).length = min M (framesS bs).length) := fun M => List.length_take
  have hLb : (framesS bs).length ≤ 1048576 := by have h1 := walk_few HZ.out (bs.length + 1) 0; have h2 := HBL.out; unfold framesS; omega
  generalize hFS : framesS bs = fr at *
  clear hFS
  generalize endS bs = En at *
  obtain ⟨Ln, hLn⟩ : ∃ Ln, fr.length = Ln := ⟨_, rfl⟩
  rw [hLn] at hLb
  simp only [hLn] at HIT HST HTL C1
  go_enter Try.func6, Try.ntmps6
  go_wp2_with fail
  refine C1.out.mono ?_
  rintro e x1 ⟨al, cl, l, rfl, fw, fi, k1⟩
  have FW := hide fw
  have FI := hide fi
  have K1 := hide k1
  clear hLn fw fi k1 C1
  go_wp2_with fail
  refine (BY.out _ K1.out).mono ?_
  rintro e x2 ⟨a2, c2, rfl, o2, k2⟩
  have E2 := hide (EN.out x2 a2 c2 o2.capped.1 (o2.row8 (by omega) HZ.out))
  have K2 : Hid (Below x1.heap.size x1 x2) := k2
  obtain ⟨eb, heb⟩ : ∃ eb, decide (En = n) = eb := ⟨_, rfl⟩
  rw [heb] at E2
  have hbE : ((En : Int) == (n : Int)) = eb := by
    rw [← heb]
    by_cases e : En = n
    · rw [decide_eq_true e, e]; simp
    · rw [decide_eq_false e]; simp; omega
  clear o2 k2 EN heb
  go_wp2_with fail
  refine E2.out.mono ?_
  rintro e x3 ⟨rfl, k3⟩
  have K3 : Hid (Below x1.heap.size x1 x3) := bel_to K2.out (Nat.le_refl _) k3
  clear k3 K2 E2
  have te : ((En : Int) != (En : Int)) = false := by simp
  have tb : (eb != eb) = false := by cases eb <;> rfl
  have hp0 : 0 ≤ p % 20 := Int.emod_nonneg p (by omega)
  have hp1 : p % 20 < 20 := Int.emod_lt_of_pos p (by omega)
  have P := hide (fun W => place_any p 20 (by omega) (by omega) W)
  obtain ⟨q, hq⟩ := Int.eq_ofNat_of_zero_le hp0
  rw [hq] at P hp1
  clear hq hp0
  go_wp2_with fail
  refine (P.out _).mono ?_
  rintro e x4 ⟨rfl, rfl⟩
  clear P te tb hbE
  go_wp2
  go_loopw [9, 10] (fun k r wr => ∃ (kk rr : Nat), k = .int .i64 kk ∧ r = .int .i64 rr ∧ rr ≤ 2 ∧ 1 ≤ kk ∧ kk ≤ 2000000 ∧ Hid (Below x1.heap.size x1 wr)) (fun _ r _ => 2 - (intOf r).toNat)
  case atStart => exact ⟨1 + q, 0, by go_num, rfl, by omega, by omega, by omega, K3⟩
  case round =>
    obtain ⟨kk, rr, rfl, rfl, hrr, hk1, hk2, HW⟩ := hrel
    by_cases hend : rr = 2
    · subst hend
      have KW : Hid (Below w.heap.size w wr) := bel_to K1.out (Nat.le_refl _) HW.out
      go_wp2_with fail
      refine (awake_any _).mono ?_
      rintro e x5 ⟨rfl, k6⟩
      go_wp2
      go_ret
      exact ⟨rfl, bel_to KW.out (Nat.le_refl _) k6⟩
    · rcases (show rr = 0 ∨ rr = 1 by omega) with rfl | rfl
      ·
        have t1 : (((0 : Nat) : Int) == 1) = false := rfl
        have B1 := hide (BY.out wr (bel_to K1.out (Nat.le_refl _) HW.out))
        go_wp2_with fail
        refine B1.out.mono ?_
        rintro e w2 ⟨a2, c2, rfl, o2, k2⟩
        have A1 := hide (AL.out kk w2 a2 c2 (by omega) (o2.row8 (by omega) HZ.out))
        have KK2 : Hid (Below x1.heap.size x1 w2) := bel_to HW.out (Nat.le_refl _) k2
        have hmin : (if (Ln : Int) < ((kk : Nat) : Int) then (Ln : Int) else ((kk : Nat) : Int)) = (((fr.take kk).length : Nat) : Int) := by
          rw [HTL.out kk]
          split <;> omega
        have HS1 := hide (fun i hi => HST.out kk i hi)
        have htl : (fr.take kk).length ≤ 1048576 := by rw [HTL.out kk]; omega
        clear o2 k2 B1 HW
        generalize startsOf (fr.take kk) = sts at *
        generalize textsS bs (fr.take kk) = txs at *
        generalize (fr.take kk).length = tl at *
        go_wp2_with fail
        refine A1.out.mono ?_
        rintro e w3 ⟨a3, c3, a4, c4, rfl, r3, r4, k3⟩
        have R3 := hide r3
        have R4 := hide r4
        have KK3 : Hid (Below x1.heap.size x1 w3) := bel_to KK2.out (Nat.le_refl _) k3
        have HMIN := hide hmin
        clear r3 r4 k3 A1 KK2 hmin
        have tt : ((tl : Int) != (tl : Int)) = false := by simp
        go_wp2_with (refine wpList_min2 rfl _ _ _ rfl _ _ (tl : Int) rfl rfl HMIN.out ?_)
        clear tt
        go_loopw [13] (fun i wr => ∃ ii : Nat, i = .int .i64 ii ∧ ii ≤ tl ∧ Hid (Below w3.heap.size w3 wr)) (fun i _ => tl - (intOf i).toNat)
        case atStart => exact ⟨0, rfl, by omega, Below.refl _ _⟩
        case round =>
          obtain ⟨ii, rfl, hii, HWI⟩ := hrel
          by_cases hlt : ii < tl
          · obtain ⟨s1, s2, s3⟩ := HS1.out ii hlt
            obtain ⟨g3, rfl, hc3⟩ := ints_at (row_ch R3.out (Ch.of_below HWI.out) (fun _ _ => id)) hlt
            obtain ⟨g4, rfl, hc4⟩ := strs_at (row_ch R4.out (Ch.of_below HWI.out) (fun _ _ => id)) hlt
            have KKI : Hid (Below x1.heap.size x1 wr) := bel_to KK3.out (Nat.le_refl _) HWI.out
            obtain ⟨gl, ab, v, cb, body, rfl, hcA, hcB, rB, hTx⟩ := HIT.out wr w.heap.size al cl l ii (row_ch FW.out (Ch.of_below KKI.out) (fun _ _ => id)) (FI.out.below KKI.out) s3
            rw [s1] at hc3
            rw [s2] at hc4
            rw [← hTx] at hc4
            have RB := hide rB
            clear s1 s2 hTx rB HS1
            generalize (startsOf fr).getD ii 0 = St at *
            have t1 : (ii : Int) < tl := by omega
            have t2 : (ii : Int) < Ln := by omega
            have t3 : (0 : Int) ≤ ii := by omega
            have HSD : Hid (wr.drew.cell? ⟨g3, ii, none⟩ = some (.int .i64 St) ∧ wr.drew.cell? ⟨gl, ii * 3, none⟩ = some (.int .i64 St) ∧ wr.drew.cell? ⟨g4, ii, none⟩ = some (.string (strOfNums body)) ∧ wr.drew.cell? ⟨gl, ii * 3 + 1, none⟩ = some (.slice ab v cb) ∧ (convert 25 9 (.slice ab v cb)).run Try.prog wr.drew = .ok (.string (strOfNums body)) wr.drew) :=
              ⟨hc3, hcA, hc4, hcB, row_string RB.out.drew⟩
            generalize strOfNums body = Tx at *
            clear RB
            go_upto_region 17 with fail
            go_region_held3 (fun w' => w'.cell? ⟨g3, ii, none⟩ = some (.int .i64 St) ∧ w'.cell? ⟨gl, ii * 3, none⟩ = some (.int .i64 St) ∧ w'.cell? ⟨g4, ii, none⟩ = some (.string Tx) ∧ w'.cell? ⟨gl, ii * 3 + 1, none⟩ = some (.slice ab v cb) ∧ (convert 25 9 (.slice ab v cb)).run Try.prog w' = .ok (.string Tx) w') (exact HSD.out) (fail)
            have KD : Hid (Below w3.heap.size w3 wr.drew) := HWI.out.drew
            clear HSD hc3 hc4 hcA hcB HWI KKI
            generalize wr.drew = w4 at *
            go_wp2
            go_roundw
            case rel => exact ⟨ii + 1, by go_num, by omega, KD⟩
            case measure => simp [intOf]; omega
          · have : ii = tl := by omega
            subst this
            have KKI : Hid (Below x1.heap.size x1 wr) := bel_to KK3.out (Nat.le_refl _) HWI.out
            have t1 : ¬ ((ii : Int) < ii) := by omega
            go_wp2
            go_roundw
            case rel => exact ⟨kk, 0 + 1, by go_num, by go_num, by omega, by omega, by omega, KKI⟩
            case measure => simp [intOf]
      ·
        have t1 : (((1 : Nat) : Int) == 1) = true := rfl
        have B1 := hide (BY.out wr (bel_to K1.out (Nat.le_refl _) HW.out))
        go_wp2_with fail
        refine B1.out.mono ?_
        rintro e w2 ⟨a2, c2, rfl, o2, k2⟩
        have A1 := hide (AL.out (n + 1) w2 a2 c2 (by omega) (o2.row8 (by omega) HZ.out))
        have KK2 : Hid (Below x1.heap.size x1 w2) := bel_to HW.out (Nat.le_refl _) k2
        have hmin : (if (Ln : Int) < (((n + 1) : Nat) : Int) then (Ln : Int) else (((n + 1) : Nat) : Int)) = (((fr.take (n + 1)).length : Nat) : Int) := by
          rw [HTL.out (n + 1)]
          split <;> omega
        have HS1 := hide (fun i hi => HST.out (n + 1) i hi)
        have htl : (fr.take (n + 1)).length ≤ 1048576 := by rw [HTL.out (n + 1)]; omega
        clear o2 k2 B1 HW
        generalize startsOf (fr.take (n + 1)) = sts at *
        generalize textsS bs (fr.take (n + 1)) = txs at *
        generalize (fr.take (n + 1)).length = tl at *
        go_wp2_with fail
        refine A1.out.mono ?_
        rintro e w3 ⟨a3, c3, a4, c4, rfl, r3, r4, k3⟩
        have R3 := hide r3
        have R4 := hide r4
        have KK3 : Hid (Below x1.heap.size x1 w3) := bel_to KK2.out (Nat.le_refl _) k3
        have HMIN := hide hmin
        clear r3 r4 k3 A1 KK2 hmin
        have tt : ((tl : Int) != (tl : Int)) = false := by simp
        go_wp2_with (refine wpList_min2 rfl _ _ _ rfl _ _ (tl : Int) rfl rfl HMIN.out ?_)
        clear tt
        go_loopw [13] (fun i wr => ∃ ii : Nat, i = .int .i64 ii ∧ ii ≤ tl ∧ Hid (Below w3.heap.size w3 wr)) (fun i _ => tl - (intOf i).toNat)
        case atStart => exact ⟨0, rfl, by omega, Below.refl _ _⟩
        case round =>
          obtain ⟨ii, rfl, hii, HWI⟩ := hrel
          by_cases hlt : ii < tl
          · obtain ⟨s1, s2, s3⟩ := HS1.out ii hlt
            obtain ⟨g3, rfl, hc3⟩ := ints_at (row_ch R3.out (Ch.of_below HWI.out) (fun _ _ => id)) hlt
            obtain ⟨g4, rfl, hc4⟩ := strs_at (row_ch R4.out (Ch.of_below HWI.out) (fun _ _ => id)) hlt
            have KKI : Hid (Below x1.heap.size x1 wr) := bel_to KK3.out (Nat.le_refl _) HWI.out
            obtain ⟨gl, ab, v, cb, body, rfl, hcA, hcB, rB, hTx⟩ := HIT.out wr w.heap.size al cl l ii (row_ch FW.out (Ch.of_below KKI.out) (fun _ _ => id)) (FI.out.below KKI.out) s3
            rw [s1] at hc3
            rw [s2] at hc4
            rw [← hTx] at hc4
            have RB := hide rB
            clear s1 s2 hTx rB HS1
            generalize (startsOf fr).getD ii 0 = St at *
            have t1 : (ii : Int) < tl := by omega
            have t2 : (ii : Int) < Ln := by omega
            have t3 : (0 : Int) ≤ ii := by omega
            have HSD : Hid (wr.drew.cell? ⟨g3, ii, none⟩ = some (.int .i64 St) ∧ wr.drew.cell? ⟨gl, ii * 3, none⟩ = some (.int .i64 St) ∧ wr.drew.cell? ⟨g4, ii, none⟩ = some (.string (strOfNums body)) ∧ wr.drew.cell? ⟨gl, ii * 3 + 1, none⟩ = some (.slice ab v cb) ∧ (convert 25 9 (.slice ab v cb)).run Try.prog wr.drew = .ok (.string (strOfNums body)) wr.drew) :=
              ⟨hc3, hcA, hc4, hcB, row_string RB.out.drew⟩
            generalize strOfNums body = Tx at *
            clear RB
            go_upto_region 17 with fail
            go_region_held3 (fun w' => w'.cell? ⟨g3, ii, none⟩ = some (.int .i64 St) ∧ w'.cell? ⟨gl, ii * 3, none⟩ = some (.int .i64 St) ∧ w'.cell? ⟨g4, ii, none⟩ = some (.string Tx) ∧ w'.cell? ⟨gl, ii * 3 + 1, none⟩ = some (.slice ab v cb) ∧ (convert 25 9 (.slice ab v cb)).run Try.prog w' = .ok (.string Tx) w') (exact HSD.out) (fail)
            have KD : Hid (Below w3.heap.size w3 wr.drew) := HWI.out.drew
            clear HSD hc3 hc4 hcA hcB HWI KKI
            generalize wr.drew = w4 at *
            go_wp2
            go_roundw
            case rel => exact ⟨ii + 1, by go_num, by omega, KD⟩
            case measure => simp [intOf]; omega
          · have : ii = tl := by omega
            subst this
            have KKI : Hid (Below x1.heap.size x1 wr) := bel_to KK3.out (Nat.le_refl _) HWI.out
            have t1 : ¬ ((ii : Int) < ii) := by omega
            go_wp2
            go_roundw
            case rel => exact ⟨(n + 1), 1 + 1, by go_num, by go_num, by omega, by omega, by omega, KKI⟩
            case measure => simp [intOf]
end Go.Proofs.Ytbpmmeagpefglaa

namespace Go.Proofs.Ytbpmmeagpefglaa.frameAlls
open Go.ChangeShapes Go.WideShapes Go.ChangeAt Go.RowKit
open Go.ChangeMaps (open_string shut_string)
set_option linter.unusedVariables false

theorem own : ownKnob Try.prog.godebug = none := by kernel_rfl
theorem laidOut : laidOutB Try.prog = true := by kernel_rfl

set_option maxRecDepth 100000 in
theorem lifted (os : Os) (started : os.Started) (H : Type) (enc : TypeId × Value → H) (F : Stop.Interp) :
    ReturnsInHanded {} Try.checked os 6 .any ((Rows.OpenSpec.upto Rows.frameAllsSpec).pre6 enc Try.prog Try.f6 Rows.frameAllsUptoRow.domain false) (((Rows.OpenSpec.upto Rows.frameAllsSpec).at F).post enc Try.prog Try.f6 false true false false) := by
  refine returnsInHanded_of_cond_sized (C := Try.checked) (s := Rows.OpenSpec.upto Rows.frameAllsSpec) (k := Rows.uptoSmall) rfl own started (by kernel_rfl) Try.func6
    (OpenSpec.witness (enc := enc) (C := Try.checked) (s := Rows.OpenSpec.upto Rows.frameAllsSpec) (k := Rows.uptoSmall) rfl false ⟨#[], #[.slice none 0 0, .int .i64 0], []⟩ 8 (by kernel_rfl) (by kernel_rfl) (by kernel_rfl)
      (x := ([.nil, .lit (.int .i64 0)], [], [])) (by kernel_rfl) rfl (by kernel_rfl)) ?_
  intro W base args ds gs before hval0 hW _ hk0 hsz0 _
  have hk : Rows.uptoSmall H (ds ++ gs) = true := hk0
  have hsz : (DataW.weightsEach Try.prog (Try.f6.params.toList ++ Rows.frameAllsSpec.plain.varTypes Try.prog) (ds ++ gs)).all (· ≤ reachBytes) = true := hsz0
  have hval : ∀ (j : Nat) t v, Try.f6.params[j]? = some t → args[j]? = some v → Value.okWide Try.prog W .any base t v := hval0
  have hW' := hW
  obtain ⟨p, q, hA0, hV, rfl, hfz, hnd⟩ := hW
  have hA : DataW.TrodAll enc Try.prog W 0 (fun _ => true) true Try.f6.params.toList args.toList ds p := hA0
  rw [Try.params6] at hA hval hsz
  obtain ⟨v0, vs0, d0, ds0, p0, q0, hargs, rfl, rfl, h0, r0⟩ := trodAll_cons hA
  obtain ⟨v1, vs1, d1, ds1, p1, q1, rfl, rfl, rfl, h1, r1⟩ := trodAll_cons r0
  obtain ⟨rfl, rfl, rfl⟩ := trodAll_nil r1
  obtain rfl : args = #[v0, v1] := by cases args; simp_all
  obtain ⟨rfl, rfl⟩ := trodVars_none hV
  obtain ⟨a0, len0, cap0, rfl⟩ := okWide_slice Try.underlying25 (hval 0 25 v0 rfl rfl)
  have k0 := h0
  have lt0 : ∀ x ∈ p0, x.block < W.heap.size := by obtain ⟨m, hm⟩ := k0; exact DataW.trod_lt m _ _ _ hm
  obtain ⟨z0, w0, b0⟩ : ∃ zs, IsRow .u8 W a0 len0 cap0 zs ∧ cap0 ≤ 1048576 := by
    obtain ⟨fuel, hf⟩ := h0
    rcases open_ints Try.underlying25 Try.underlying5 (by kernel_rfl) hf with ⟨hcs, _⟩ | ⟨x, l, c, zs, hcs, _, hl, hm, hz, hx, hcell, hwz⟩
    · simp [Value.cells] at hcs
      obtain ⟨rfl, rfl, rfl⟩ := hcs
      exact ⟨[], ⟨by decide, .inl ⟨rfl, rfl, rfl, rfl⟩⟩, by decide⟩
    · simp [Value.cells] at hcs
      obtain ⟨rfl, rfl, rfl⟩ := hcs
      have hd := congrArg Prod.fst hx
      simp only at hd
      have hs := sized_slice hsz (j := 0) (t := 25) (e := 5) rfl (by rw [hd]; rfl) Try.underlying25
      rw [show Try.prog.bytesOf 5 = 1 from by kernel_rfl] at hs
      simp only [lits, List.length_map, List.length_take, List.length_drop, reachBytes] at hs
      have hzc : zs.length = cap0 := by simpa using hz
      have hs2 := small_slice hk (j := 0) (by rw [hd]; rfl)
      simp only [lits, List.length_map, List.length_take, List.length_drop] at hs2
      exact ⟨zs, ⟨by show cap0 * 1 ≤ _; omega, .inr ⟨_, rfl, hl, hm, hzc, hcell, hwz⟩⟩, by omega⟩
  obtain ⟨a1, rfl, rfl, rfl, w1⟩ := open_int Try.underlying3 (hval 1 3 v1 rfl rfl) h1
  clear hA0 hval0 hsz0 hsz
  refine (walk_alls a0 len0 cap0 z0 a1 W w0 b0 w1).mono fun e W' ⟨he, bel⟩ => ?_
  subst he
  exact ⟨_, rfl, _, _, _, [], _, [], hW', trodAll_mk1 (shut_bool Try.underlying4 _), (trodAll_cons_mk (Below.trod laidOut (by kernel_rfl) (of_decide_eq_true (by kernel_rfl)) k0 bel lt0) (trodAll_cons_mk (shut_int Try.underlying3 w1) trodAll_mk0)), rfl, bel.frame _, fun h => by cases h⟩

theorem proved : Rows.FrameAllsUptoSaid :=
  OpenClaim.holds_of_cond 6 Try.f6 rfl rfl rfl rfl rfl rfl rfl ⟨rfl, rfl, rfl, rfl, rfl⟩ rfl rfl rfl rfl rfl (by kernel_rfl) Try.func6 (by kernel_rfl)
    (of_decide_eq_true (by kernel_rfl)) (by unfold Func.isWrapper; first | (rw [if_pos (by decide +kernel)]; kernel_rfl) | (rw [if_neg (by decide +kernel)]; exact ⟨rfl, rfl⟩))
    (fun os started H enc _ F => lifted os started H enc F)
end Go.Proofs.Ytbpmmeagpefglaa.frameAlls
