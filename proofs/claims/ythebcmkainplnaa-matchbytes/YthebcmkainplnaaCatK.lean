/-
  What slices.Grow (of nil) and slices.Concat come to at bytes: contracts, for every world.
  Conditions: the slices show their bytes; all together they have at least one byte, and at most 2^48.
-/
import Derived.Test.YthebcmkainplnaaBytB
import Derived.Lib.AppendZeros
namespace Go.Proofs.Ythebcmkainplnaa
open Go.RowKit
set_option maxRecDepth 20000

set_option maxHeartbeats 1000000 in
theorem grow_any (n : Nat) (w : World) (h0 : 0 < n) (hn : n ≤ 281474976710656) :
    Calls Try.prog 69 #[.slice none 0 0, .int .i64 n] w fun e w' => ∃ cap', e = .returned (.slice (some ⟨w.heap.size, 0, none⟩) 0 cap') ∧ n ≤ cap' ∧ Mine w' w.heap.size (some ⟨w.heap.size, 0, none⟩) 0 cap' [] ∧ Below w.heap.size w w' := by
  obtain ⟨i0, hi, hz0, hz1, hz2⟩ := info_parts Try.info5
  have hr := Lib.run_append_nil_zeros (P := Try.prog) w 38 3 38 5 i0 (.int .u8 0) .i64 .i64 Try.underlying38 Try.underlying3 hi hz0 n h0 (by omega) (by omega) (by rw [hz2]; omega)
  have hge := grownCap_ge w n 0 5
  have hcm : grownCap w n 0 5 ≤ maxLen := grownCap_le_maxLen w n 0 5 (by unfold maxLen; omega)
  have HO : Hid (Mine (w.drew.alloc (.cells (Builtin.zeroCells (Value.int IntKind.u8 0).cells n ++ Builtin.zeroCells (Value.int IntKind.u8 0).cells (grownCap w n 0 5 - n)) 5)) w.heap.size (some ⟨w.heap.size, 0, none⟩) 0 (grownCap w n 0 5) []) := by
    refine ⟨rfl, .inr ⟨w.heap.size, _, _, rfl, Nat.le_refl _, heap_alloc_new w.drew _, Nat.zero_le _, hcm, ?_, rfl⟩⟩
    simp only [Array.size_append, size_zeroCells, Value.cells]
    simp
    omega
  have HB : Hid (Below w.heap.size w (w.drew.alloc (.cells (Builtin.zeroCells (Value.int IntKind.u8 0).cells n ++ Builtin.zeroCells (Value.int IntKind.u8 0).cells (grownCap w n 0 5 - n)) 5))) :=
    (Below.refl w.heap.size w).drew.alloc (Nat.le_refl _) _
  have HR := hide hr
  clear hr
  generalize w.drew.alloc (.cells (Builtin.zeroCells (Value.int IntKind.u8 0).cells n ++ Builtin.zeroCells (Value.int IntKind.u8 0).cells (grownCap w n 0 5 - n)) 5) = w' at *
  generalize grownCap w n 0 5 = c at *
  have f1 := slice_to none 0 0 0 (by omega)
  have f2 := slice_to (some ⟨w.heap.size, 0, none⟩) n c 0 (by omega)
  have h0' : (0 : Int) < n := by omega
  go_enter Try.func69, Try.ntmps69
  go_wp2_with (at_builtin; refine Lib.wpList_append_run _ rfl _ _ _ _ rfl _ _ rfl rfl _ _ HR.out ?_)
  go_wp2
  go_ret
  exact ⟨c, rfl, hge, HO, HB⟩

/-- What is put one behind the other, of so many slices. -/
abbrev Sl : Type := Option Addr × Nat × Nat × List Int
def nth (L : List Sl) (k : Nat) : Sl := L.getD k (none, 0, 0, [])
def parts (L : List Sl) (k : Nat) : List Int := (L.take k).flatMap (·.2.2.2)
theorem parts_succ {L : List Sl} {k : Nat} (h : k < L.length) : parts L (k + 1) = parts L k ++ (nth L k).2.2.2 := by
  unfold parts nth
  rw [List.take_succ_eq_append_getElem h, List.flatMap_append, List.getD_eq_getElem?_getD, List.getElem?_eq_getElem h]
  simp
theorem parts_len {L : List Sl} {k : Nat} : (parts L k).length ≤ (parts L L.length).length := by
  unfold parts
  have h : L.take L.length = L.take k ++ L.drop k := by rw [List.take_append_drop, List.take_length]
  rw [h, List.flatMap_append, List.length_append]
  omega

set_option maxHeartbeats 2000000 in
set_option maxRecDepth 100000 in
theorem concat_any (b0 : Nat) (L : List Sl) (w : World) (hL : L.length ≤ 1000)
    (hc : ∀ i, i < L.length → w.cell? ⟨b0, i, none⟩ = some (.slice (nth L i).1 (nth L i).2.1 (nth L i).2.2.1)) (hr : ∀ i, i < L.length → Row .u8 w (nth L i).1 (nth L i).2.1 (nth L i).2.2.2)
    (h0 : 0 < (parts L L.length).length) (hn : (parts L L.length).length ≤ 281474976710656) :
    Calls Try.prog 41 #[.slice (some ⟨b0, 0, none⟩) L.length L.length] w fun e w' => ∃ a' cap', e = .returned (.slice a' (parts L L.length).length cap') ∧ Mine w' w.heap.size a' (parts L L.length).length cap' (parts L L.length) ∧ Below w.heap.size w w' := by
  obtain ⟨i0, hi, hz0, hz1, hz2⟩ := info_parts Try.info5
  have HC := hide hc
  have HR := hide hr
  have HL := hide (fun k => parts_len (L := L) (k := k))
  have HP := hide (fun k h => parts_succ (L := L) (k := k) h)
  clear hc hr
  generalize L.length = N at *
  obtain ⟨T, hT⟩ : ∃ T, (parts L N).length = T := ⟨_, rfl⟩
  have HT := hide hT
  rw [hT] at h0 hn
  simp only [hT] at HL
  rw [hT]
  clear hT
  go_enter Try.func41, Try.ntmps41
  go_wp2
  go_loop [3, 11] (fun s i => ∃ (k m : Nat), k ≤ N ∧ i = .int .i64 k ∧ s = .int .i64 m ∧ m ≤ 281474976710656 ∧ Hid ((parts L k).length = m)) (fun _ i => N - (intOf i).toNat)
  case atStart => exact ⟨0, 0, by omega, rfl, rfl, by omega, rfl⟩
  case round =>
    obtain ⟨k, m, hk, rfl, rfl, hm, HM⟩ := hrel
    by_cases hlt : k < N
    · have hck := HC.out k hlt
      have e1 := HP.out k hlt
      have e2 := HL.out (k + 1)
      have e3 : (parts L (k + 1)).length = m + (nth L k).2.1 := by rw [e1, List.length_append, HM.out, (HR.out k hlt).1]
      have E3 := hide e3
      rw [e3] at e2
      clear e1 e3
      generalize nth L k = x at *
      obtain ⟨a1, n1, c1, z1⟩ := x
      simp only at hck e2 E3
      have hpos : ¬ ((m : Int) + n1 < 0) := by omega
      go_wp2
      exact ⟨⟨k + 1, m + n1, by omega, by go_num, rfl, by omega, E3⟩, by simp [intOf]; omega⟩
    · have : k = N := by omega
      subst this
      have hm2 : m = T := by rw [← HM.out, HT.out]
      subst hm2
      have G := hide (grow_any m w h0 hn)
      go_wp2_with fail
      refine G.out.mono ?_
      rintro e w1 ⟨cap, rfl, hcap, o1, k1⟩
      have O1 := hide o1
      have K1 := hide k1
      clear o1 k1 G
      have HB : Hid (∀ wr, Below w.heap.size w wr → w.heap.size ≤ wr.heap.size) := fun wr h => h.size
      have HRB : Hid (∀ wr, Below w.heap.size w wr → ∀ i, i < k → Row .u8 wr (nth L i).1 (nth L i).2.1 (nth L i).2.2.2) := fun wr h i hi => (HR.out i hi).below h (Nat.le_refl _)
      have HCB : Hid (∀ wr, Below w.heap.size w wr → ∀ i, i < k → wr.cell? ⟨b0, i, none⟩ = some (.slice (nth L i).1 (nth L i).2.1 (nth L i).2.2.1)) := fun wr h i hi => (h.cell (World.block_lt_of_cell? w _ (HC.out i hi))).trans (HC.out i hi)
      clear HR HC
      generalize hB0 : w.heap.size = B at *
      have HB0 := hide hB0
      clear hB0
      go_wp2
      go_loopw [6, 27] (fun s i wr => ∃ (j r : Nat), j ≤ k ∧ i = .int .i64 j ∧ s = .slice (some ⟨B, 0, none⟩) r cap ∧ r ≤ m ∧ Hid ((parts L j).length = r) ∧ Hid (Mine wr B (some ⟨B, 0, none⟩) r cap (parts L j)) ∧ Hid (Below B w wr)) (fun _ i _ => k - (intOf i).toNat)
      case atStart => exact ⟨0, 0, by omega, rfl, rfl, by omega, rfl, O1, K1⟩
      case round =>
        clear O1 K1
        obtain ⟨j, r, hj, rfl, rfl, hr, HJ, HO, HW⟩ := hrel
        by_cases hlt2 : j < k
        · have hck := HCB.out wr HW.out j hlt2
          have HX := hide (HRB.out wr HW.out j hlt2)
          have e1 := HP.out j hlt2
          have e2 := HL.out (j + 1)
          have hlen : (nth L j).2.2.2.length = (nth L j).2.1 := HX.out.1
          have e3 : (parts L (j + 1)).length = r + (nth L j).2.1 := by rw [e1, List.length_append, HJ.out, hlen]
          have E1 := hide e1
          have E3 := hide e3
          rw [e3] at e2
          clear e1 e3
          generalize nth L j = x at *
          obtain ⟨a1, n1, c1, z1⟩ := x
          simp only at hck e2 E3 E1 HX hlen
          have hB := HB.out wr HW.out
          cases a1 with
          | none =>
            have hn1 := HX.out.nz rfl
            subst hn1
            have hz1 : z1 = [] := List.length_eq_zero_iff.1 hlen
            subst hz1
            have HE : Hid (parts L (j + 1) = parts L j) := by show _ = _; rw [E1.out, List.append_nil]
            go_wp2
            go_roundw
            case rel => exact ⟨j + 1, r, by omega, by go_num, rfl, by omega, E3, by rw [HE.out]; exact HO, HW⟩
            case measure => simp [intOf]; omega
          | some ad =>
            go_wp2_with (at_builtin; refine wpList_append_fits _ rfl _ _ 38 rfl B 5 i0 1 Try.underlying38 hi hz1 B r cap _ rfl HO.out ad n1 c1 (z1.map (Value.int .u8)) rfl (by simp [hlen]) HX.out.cells (one_cell .u8 z1) (by omega) ?_)
            intro w' h1 h2
            rw [← List.map_append, ← E1.out] at h1
            have H1 : Hid (Mine w' B (some ⟨B, 0, none⟩) (r + n1) cap (parts L (j + 1))) := h1
            have H2 : Hid (Below B w w') := HW.out.grown h2 hB (by intro k hk; simp at hk; omega)
            clear h1 h2 HX HO HW hck
            go_wp2
            go_roundw
            case rel => exact ⟨j + 1, r + n1, by omega, by go_num, rfl, by omega, E3, H1, H2⟩
            case measure => simp [intOf]; omega
        · have : j = k := by omega
          subst this
          have hr2 : r = m := by rw [← HJ.out, HM.out]
          subst hr2
          go_wp2
          go_ret
          refine ⟨_, _, rfl, ?_, ?_⟩
          · rw [HB0.out]; exact HO
          · rw [HB0.out]; exact HW
/-- Two rows of bytes, one behind the other, in new memory. -/
theorem concat_two (a : Option Addr) (n cap : Nat) (zs : List Int) (a1 : Option Addr) (m c1 : Nat) (Z : List Int) (W : World) (h1 : Row .u8 W a n zs) (h2 : Row .u8 W a1 m Z) (h0 : 0 < m) (hn : n + m ≤ 281474976710656) :
    Calls Try.prog 41 #[.slice (some ⟨W.heap.size, 0, none⟩) 2 2] (W.alloc (.cells #[.slice a n cap, .slice a1 m c1] 38)) fun e w' => ∃ a' cap', e = .returned (.slice a' (n + m) cap') ∧ Mine w' W.heap.size a' (n + m) cap' (zs ++ Z) ∧ Below W.heap.size W w' := by
  have hp : parts [(a, n, cap, zs), (a1, m, c1, Z)] 2 = zs ++ Z := by simp [parts]
  have hl : (zs ++ Z).length = n + m := by rw [List.length_append, h1.1, h2.1]
  have C := concat_any W.heap.size [(a, n, cap, zs), (a1, m, c1, Z)] (W.alloc (.cells #[.slice a n cap, .slice a1 m c1] 38)) (by simp)
    (by
      intro i hi
      rw [World.cell?_alloc_mark]
      match i, hi with
      | 0, _ => rfl
      | 1, _ => rfl)
    (by
      intro i hi
      match i, hi with
      | 0, _ => exact h1.alloc _
      | 1, _ => exact h2.alloc _)
    (by
      show 0 < (parts [(a, n, cap, zs), (a1, m, c1, Z)] 2).length
      rw [hp, hl]; omega)
    (by
      show (parts [(a, n, cap, zs), (a1, m, c1, Z)] 2).length ≤ _
      rw [hp, hl]; exact hn)
  refine C.mono ?_
  rintro e w' ⟨a', c', rfl, o, b⟩
  have o' : Mine w' (W.alloc (.cells #[.slice a n cap, .slice a1 m c1] 38)).heap.size a' (parts [(a, n, cap, zs), (a1, m, c1, Z)] 2).length c' (parts [(a, n, cap, zs), (a1, m, c1, Z)] 2) := o
  rw [hp, hl] at o'
  refine ⟨a', c', ?_, o'.mono (by simp), (bel_al (Below.refl _ _) (Nat.le_refl _) _).trans (b.mono (by simp))⟩
  show Ending.returned (.slice a' (parts [(a, n, cap, zs), (a1, m, c1, Z)] 2).length c') = _
  rw [hp, hl]
end Go.Proofs.Ythebcmkainplnaa
