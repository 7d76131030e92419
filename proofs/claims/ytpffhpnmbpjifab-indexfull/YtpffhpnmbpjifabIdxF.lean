/-
  Statement IndexFull over what is asked: 4096 sets have numbers, one more has none; those that have one keep it: a contract, for every world.
  Conditions: the index does what is asked.
-/
import Derived.Test.YtpffhpnmbpjifabIdxA
import Derived.BigRegion
import Derived.WalkLawsBesides
namespace Go.Proofs.Ytpffhpnmbpjifab
open Go.RowKit
set_option maxRecDepth 20000

/-- The i-th set: one label, of three letters. -/
def setN (i : Nat) : List Int := [97 + ((i % 16 : Nat) : Int), 97 + ((i / 16 % 16 : Nat) : Int), 97 + ((i / 256 : Nat) : Int)]
def setB (i : Nat) : ByteArray := strOfNums (setN i)
def setF (i : Nat) : List Lb := [(⟨#[110]⟩, setB i)]
def fullL (k : Nat) : Lx := (List.range k).map setF
theorem setB_size (i : Nat) : (setB i).size = 3 := by unfold setB; rw [strOfNums_size]; rfl
theorem setF_chk (i : Nat) : chkL (setF i) = true := by
  have h1 : nameB ⟨#[110]⟩ = true := by decide +kernel
  unfold chkL setF chkF chkF lbB
  rw [h1, setB_size]
  rfl
theorem setB_inj {i j : Nat} (hi : i ≤ 4096) (hj : j ≤ 4096) (h : setB i = setB j) : i = j := by
  have h1 : (strOfNums (setN i)).data.toList = (strOfNums (setN j)).data.toList := by unfold setB at h; rw [h]
  rw [strOfNums_data, strOfNums_data] at h1
  simp only [setN, List.map_cons, List.map_nil, List.cons.injEq, and_true] at h1
  obtain ⟨a1, a2, a3⟩ := h1
  have b1 := congrArg UInt8.toNat a1
  have b2 := congrArg UInt8.toNat a2
  have b3 := congrArg UInt8.toNat a3
  simp only [UInt8.toNat_ofNat'] at b1 b2 b3
  omega
theorem setF_inj {i j : Nat} (hi : i ≤ 4096) (hj : j ≤ 4096) (h : setF i = setF j) : i = j := by
  unfold setF at h
  simp only [List.cons.injEq, Prod.mk.injEq, true_and, and_true] at h
  exact setB_inj hi hj h
theorem full_out {k : Nat} (hk : k ≤ 4096) : setF k ∉ fullL k := by
  unfold fullL
  rw [List.mem_map]
  rintro ⟨j, hj, e⟩
  have := List.mem_range.1 hj
  have := setF_inj (by omega) hk e
  omega
theorem full_len (k : Nat) : (fullL k).length = k := by unfold fullL; simp
theorem full_succ (k : Nat) : fullL (k + 1) = fullL k ++ [setF k] := by unfold fullL; rw [List.range_succ, List.map_append]; rfl
theorem full_good (k : Nat) : GoodX (fullL k) := fun l hl => by
  unfold fullL at hl
  obtain ⟨j, -, e⟩ := List.mem_map.1 hl
  rw [← e]
  exact setF_chk j
theorem full_take {j k : Nat} (h : j ≤ k) : (fullL k).take j = fullL j := by
  unfold fullL
  rw [← List.map_take, List.take_range, Nat.min_eq_left h]
theorem full_id {k : Nat} (hk : k < 4096) : idN (fullL k) (setF k) = k ∧ idE (fullL k) (setF k) = 0 ∧ idL (fullL k) (setF k) = fullL (k + 1) := by
  obtain ⟨h1, h2, h3⟩ := id_new (setF_chk k) (findX_out (full_out (by omega))) (by rw [full_len]; exact hk)
  rw [full_len] at h1
  exact ⟨h1, h2, by rw [h3, full_succ]⟩
theorem full_no : idN (fullL 4096) (setF 4096) = -1 ∧ idE (fullL 4096) (setF 4096) = 2 ∧ idL (fullL 4096) (setF 4096) = fullL 4096 :=
  id_full (setF_chk _) (findX_out (full_out (Nat.le_refl _))) (by rw [full_len]; exact Nat.le_refl _)
theorem full_has : idN (fullL 4096) (setF 77) = 77 ∧ idE (fullL 4096) (setF 77) = 0 ∧ idL (fullL 4096) (setF 77) = fullL 4096 := by
  refine id_has (k := 77) (setF_chk _) (findX_at ?_ ?_)
  · unfold fullL
    rw [List.getElem?_map, List.getElem?_range (by decide)]
    rfl
  · rw [full_take (by decide)]
    exact full_out (by decide)
theorem row_str3 {w : World} {a : Option Addr} {n cap : Nat} {zs : List Int} (hr : Row .u8 w a n zs) :
    (convert 41 9 (.slice a n cap)).run Try.prog w = .ok (.string (strOfNums zs)) w := by
  obtain ⟨h1, _, _, rfl | ⟨b, off, rfl, hc⟩⟩ := hr
  · have hz : zs = [] := List.length_eq_zero_iff.1 h1
    subst hz
    rw [run_convert_bytes_string w _ _ 5 _ 0 cap Try.underlying41 Try.underlying5 Try.underlying9]
    cases a <;> simp [Conv.bytesToString, loadCells] <;> rfl
  · exact run_convert_bytes_arg w _ _ Try.underlying41 Try.underlying5 b off n cap zs h1 hc _ Try.underlying9
theorem row3 (w : World) (x y z : Int) (hx : 0 ≤ x ∧ x ≤ 255) (hy : 0 ≤ y ∧ y ≤ 255) (hz : 0 ≤ z ∧ z ≤ 255) : Row .u8 (w.alloc (.cells #[.int .u8 x, .int .u8 y, .int .u8 z] 5)) (some ⟨w.heap.size, 0, none⟩) 3 [x, y, z] := by
  refine ⟨rfl, by decide, ?_, Or.inr ⟨_, _, rfl, fun i hi => ?_⟩⟩
  · intro q hq
    simp only [List.mem_cons, List.not_mem_nil, or_false] at hq
    rcases hq with rfl | rfl | rfl
    · exact wf_of_u8 hx.1 hx.2
    · exact wf_of_u8 hy.1 hy.2
    · exact wf_of_u8 hz.1 hz.2
  · match i, hi with
    | 0, _ => simp [go_sem]
    | 1, _ => simp [go_sem]
    | 2, _ => simp [go_sem]
theorem rowN (w : World) (v : ByteArray) (hv : v.size ≤ 9223372036854775807) : RowL (w.alloc (.cells #[.string ⟨#[110]⟩, .string v] 33)) (some ⟨w.heap.size, 0, none⟩) 1 [(⟨#[110]⟩, v)] := by
  refine ⟨rfl, by decide, ?_, Or.inr ⟨_, _, rfl, ?_⟩⟩
  · intro x hx
    simp only [List.mem_cons, List.not_mem_nil, or_false] at hx
    subst hx
    exact ⟨by show (ByteArray.size ⟨#[110]⟩) ≤ _; decide, hv⟩
  · intro i x hx
    match i, hx with
    | 0, hx => obtain rfl : _ = x := by simpa using hx
               exact ⟨by simp [go_sem], by simp [go_sem]⟩
    | i + 1, hx => simp at hx

set_option maxHeartbeats 2000000 in
theorem set_any (i : Nat) (hi : i ≤ 4096) (w : World) :
    Calls Try.prog 13 #[.int .i64 (i : Int)] w fun e w' => ∃ b, e = .returned (.slice (some ⟨b, 0, none⟩) 1 1) ∧ RowL w' (some ⟨b, 0, none⟩) 1 (setF i) ∧ w.heap.size ≤ b ∧ Below w.heap.size w w' := by
  obtain ⟨x, hx⟩ : ∃ x : Int, Hid (97 + ((i % 16 : Nat) : Int) = x) := ⟨_, rfl⟩
  obtain ⟨y, hy⟩ : ∃ y : Int, Hid (97 + ((i / 16 % 16 : Nat) : Int) = y) := ⟨_, rfl⟩
  obtain ⟨z, hz⟩ : ∃ z : Int, Hid (97 + ((i / 256 : Nat) : Int) = z) := ⟨_, rfl⟩
  have hxb : 0 ≤ x ∧ x ≤ 255 := by have := hx.out; omega
  have hyb : 0 ≤ y ∧ y ≤ 255 := by have := hy.out; omega
  have hzb : 0 ≤ z ∧ z ≤ 255 := by have := hz.out; omega
  have HS : Hid (strOfNums [x, y, z] = setB i) := by show _ = _; unfold setB setN; rw [hx.out, hy.out, hz.out]
  obtain ⟨W1, hW1⟩ : ∃ W, Hid (w.alloc (.cells #[.int .u8 x, .int .u8 y, .int .u8 z] 5) = W) := ⟨_, rfl⟩
  have R1 : Hid (Row .u8 W1 (some ⟨w.heap.size, 0, none⟩) 3 [x, y, z]) := by rw [← hW1.out]; exact row3 w x y z hxb hyb hzb
  have B1 : Hid (Below w.heap.size w W1) := by rw [← hW1.out]; exact (Below.refl _ _).alloc (Nat.le_refl _) _
  have cv := row_str3 (cap := 3) R1.out
  rw [HS.out] at cv
  go_enter Try.func13, Try.ntmps13
  go_wp2_with fail
  rw [show (97 + (i : Int) % 16) = x by rw [← hx.out]; omega, show (97 + (i : Int) / 16 % 16) = y by rw [← hy.out]; omega, show (97 + (i : Int) / 256) = z by rw [← hz.out]; omega, hW1.out, cv]
  have hsz := setB_size i
  have FIN : Hid (RowL (W1.alloc (.cells #[.string ⟨#[110]⟩, .string (setB i)] 33)) (some ⟨W1.heap.size, 0, none⟩) 1 (setF i)) := rowN W1 (setB i) (by omega)
  have BF : Hid (Below w.heap.size w (W1.alloc (.cells #[.string ⟨#[110]⟩, .string (setB i)] 33))) := bel_al B1.out (Nat.le_refl _) _
  have HB := hide B1.out.size
  clear hW1 cv HS R1 hx hy hz hsz
  go_wp2
  go_ret
  exact ⟨_, rfl, FIN.out, HB.out, BF.out⟩

set_option maxHeartbeats 4000000 in
theorem full_of {At : World → Nat → (Nat → Prop) → Lx → Prop} (I : IxI At) (w : World) :
    Calls Try.prog 4 #[] w fun e w' => e = .returned (.bool true) ∧ Below w.heap.size w w' := by
  have NW := hide (I.new w)
  have HI := hide I
  clear I
  go_enter Try.func4, Try.ntmps4
  go_wp2_with fail
  with_reducible refine NW.out.mono ?_
  rintro e u1 ⟨g, rfl, S, h1, h2, h3⟩
  have A0 : Hid (∃ S, At u1 g S (fullL 0) ∧ ∀ k, S k → w.heap.size ≤ k) := ⟨S, h1, h2⟩
  have B0 := hide h3
  clear h1 h2 h3 NW
  go_wp2
  go_loopw [3] (fun i wr => ∃ k : Nat, k ≤ 4096 ∧ i = .int .i64 k ∧ Hid (∃ S, At wr g S (fullL k) ∧ ∀ k, S k → w.heap.size ≤ k) ∧ Hid (Below w.heap.size w wr)) (fun i _ => 4096 - (intOf i).toNat)
  case atStart => exact ⟨0, by omega, rfl, A0, B0⟩
  case round =>
    clear A0 B0
    obtain ⟨k, hk, rfl, A0, BW⟩ := hrel
    obtain ⟨u, rfl⟩ : ∃ u, u = wr := ⟨wr, rfl⟩
    obtain ⟨S, a0, s0⟩ := A0.out
    have STEP : Hid (∀ (i : Nat) (v : World) (b : Nat) (S : Nat → Prop) (K : Nat), i ≤ 4096 → K ≤ 4096 → At v g S (fullL K) → RowL v (some ⟨b, 0, none⟩) 1 (setF i) → ¬ S b → Calls Try.prog 14 #[.pointer (some ⟨g, 0, none⟩), .slice (some ⟨b, 0, none⟩) 1 1] v fun e w' => e = .returned (.tuple #[.int .i64 (idN (fullL K) (setF i)), .int .i64 (idE (fullL K) (setF i))]) ∧ StepX At v w' g S (idL (fullL K) (setF i))) := fun i v b S K hi hK ha hr hb =>
      HI.out.id g S (fullL K) (some ⟨b, 0, none⟩) 1 1 (setF i) v ha (full_good K) (by rw [full_len]; exact hK) hr (Nat.le_refl _) (fun h => by cases h) (fun b' off e _ hS => by
        simp only [Option.some.injEq, Addr.mk.injEq, and_true] at e
        rw [← e.1] at hS
        exact hb hS)
    by_cases hlt : k < 4096
    · have i2 : (k : Int) < 4096 := by omega
      have SA := hide (set_any k (by omega) u)
      have HA := hide a0
      have HS0 := hide s0
      clear a0 s0 A0
      go_wp2_with fail
      with_reducible refine SA.out.mono ?_
      rintro e v1 ⟨b, rfl, rb, hb, bb⟩
      have C1 := hide (STEP.out k v1 b S k (by omega) (by omega) (HI.out.below HA.out bb) rb (fun h => by have := HI.out.lt HA.out b h; omega))
      rw [(full_id hlt).1, (full_id hlt).2.1, (full_id hlt).2.2] at C1
      have B1 := hide (bel_to BW.out (Nat.le_refl _) bb)
      clear rb hb bb SA HA
      go_wp2_with fail
      with_reducible refine C1.out.mono ?_
      rintro e v2 ⟨rfl, S', q1, q2, q3⟩
      have B2 : Hid (Below w.heap.size w v2) := B1.out.trans (q3.below B1.out.size (fun j hj h => by have := HS0.out j h; omega))
      have A2 : Hid (∃ S, At v2 g S (fullL (k + 1)) ∧ ∀ k, S k → w.heap.size ≤ k) := ⟨S', q1, fun j hj => by
        rcases q2 j hj with h | h
        · exact HS0.out j h
        · have := B1.out.size; omega⟩
      have t1 : ((k : Int) != (k : Int)) = false := by simp
      clear q1 q2 q3 C1 B1 HS0 STEP
      go_wp2
      go_roundw
      case rel => exact ⟨k + 1, by omega, by go_num, A2, B2⟩
      case measure => simp [intOf]; omega
    · have hk2 : k = 4096 := by omega
      subst hk2
      have SA := hide (set_any 4096 (Nat.le_refl _) u)
      rw [show ((4096 : Nat) : Int) = 4096 from rfl] at SA
      have HA := hide a0
      have HS0 := hide s0
      clear a0 s0 A0 hlt
      go_wp2_with fail
      with_reducible refine SA.out.mono ?_
      rintro e v1 ⟨b, rfl, rb, hb, bb⟩
      have C1 := hide (STEP.out 4096 v1 b S 4096 (by omega) (by omega) (HI.out.below HA.out bb) rb (fun h => by have := HI.out.lt HA.out b h; omega))
      rw [full_no.1, full_no.2.1, full_no.2.2] at C1
      have B1 := hide (bel_to BW.out (Nat.le_refl _) bb)
      clear rb hb bb SA HA
      go_wp2_with fail
      with_reducible refine C1.out.mono ?_
      rintro e v2 ⟨rfl, S', q1, q2, q3⟩
      have B2 : Hid (Below w.heap.size w v2) := B1.out.trans (q3.below B1.out.size (fun j hj h => by have := HS0.out j h; omega))
      have HS2 : Hid (∀ k, S' k → w.heap.size ≤ k) := fun j hj => by
        rcases q2 j hj with h | h
        · exact HS0.out j h
        · have := B1.out.size; omega
      have HA2 := hide q1
      have SA := hide (set_any 77 (by decide) v2)
      rw [show ((77 : Nat) : Int) = 77 from rfl] at SA
      clear q1 q2 q3 C1 B1 HS0
      go_wp2_with fail
      with_reducible refine SA.out.mono ?_
      rintro e v3 ⟨b, rfl, rb, hb, bb⟩
      have C1 := hide (STEP.out 77 v3 b S' 4096 (by omega) (by omega) (HI.out.below HA2.out bb) rb (fun h => by have := HI.out.lt HA2.out b h; omega))
      rw [full_has.1, full_has.2.1, full_has.2.2] at C1
      have B3 := hide (bel_to B2.out (Nat.le_refl _) bb)
      clear rb hb bb SA HA2
      go_wp2_with fail
      with_reducible refine C1.out.mono ?_
      rintro e v4 ⟨rfl, S4, q1, q2, q3⟩
      have B4 : Hid (Below w.heap.size w v4) := B3.out.trans (q3.below B3.out.size (fun j hj h => by have := HS2.out j h; omega))
      have LN := hide (HI.out.len g S4 _ v4 q1)
      rw [full_len, show ((4096 : Nat) : Int) = 4096 from rfl] at LN
      clear q1 q2 q3 C1 B3 STEP
      go_wp2_with fail
      with_reducible refine LN.out.mono ?_
      rintro e v5 ⟨rfl, b5⟩
      have B5 := hide (bel_to B4.out (Nat.le_refl _) b5)
      have AW := hide (awakeX_of HI.out v5)
      clear b5 LN B4
      go_wp2_with fail
      with_reducible refine AW.out.mono ?_
      rintro e v6 ⟨rfl, b6⟩
      have B6 := hide (bel_to B5.out (Nat.le_refl _) b6)
      clear b6 AW
      go_wp2
      go_ret
      exact ⟨rfl, B6.out⟩
end Go.Proofs.Ytpffhpnmbpjifab
