/-
  The document's examples of layer 13 hold (awake), over what is asked of post's functions.
  Conditions: post's functions do what is asked.
-/
import Derived.Test.YthmcliapdnbdjaaPosI
namespace Go.Proofs.Ythmcliapdnbdjaa
open Go.RowKit
set_option maxRecDepth 20000

theorem sli_new (w : World) (zs : List Int) (e : TypeId) (hz : ∀ z ∈ zs, (Lit.int .i64 z).wf = true) (hn : zs.length ≤ 1000) : SlI (w.alloc (.cells (zs.map (Value.int .i64)).toArray e)) (some ⟨w.heap.size, 0, none⟩) zs.length zs.length zs := by
  refine ⟨⟨rfl, by omega, hz, Or.inr ⟨w.heap.size, 0, rfl, fun i hi => ?_⟩⟩, Nat.le_refl _, fun h => by cases h⟩
  have h := heap_alloc_new w (.cells (zs.map (Value.int .i64)).toArray e)
  simp only [World.cell?, h]
  simp [hi]
theorem rowii_new (w : World) (hs : List (Option Addr × Nat × Nat)) (ls : List (List Int)) (e : TypeId) (hl : ls.length = hs.length) (hn : hs.length ≤ 10)
    (hc : ∀ i (hi : i < hs.length), SlI w hs[i].1 hs[i].2.1 hs[i].2.2 (ls.getD i [])) : RowII (w.alloc (.cells (hs.map fun h => Value.slice h.1 h.2.1 h.2.2).toArray e)) (some ⟨w.heap.size, 0, none⟩) hs.length ls := by
  refine ⟨hl, by omega, Or.inr ⟨w.heap.size, 0, rfl, fun i hi => ⟨hs[i].1, hs[i].2.1, hs[i].2.2, ?_, (hc i hi).below ((Below.refl _ _).alloc (Nat.le_refl _) _) (Nat.le_refl _)⟩⟩⟩
  have h := heap_alloc_new w (.cells (hs.map fun h => Value.slice h.1 h.2.1 h.2.2).toArray e)
  simp only [World.cell?, h]
  simp [hi]
theorem ex_and : mostS [[1, 3, 5], [3, 4, 5]] 2 = [3, 5] := by decide +kernel
theorem ex_most : mostS [[1, 2], [2, 3], [2]] 2 = [2] := by decide +kernel
theorem ex_from : mostS [[1, 2]] 1 = [1, 2] := by decide +kernel

set_option maxHeartbeats 8000000 in
theorem awake_of (H : PoI) (w : World) :
    Calls Try.prog 9 #[] w fun e w' => e = .returned (.bool true) ∧ Below w.heap.size w w' := by
  have SA := hide (fun u x c n1 l1 y d n2 (q1 : SlI u x n1 c l1) (q2 : SlI u y n2 d l1) => (samei_any x n1 c l1 y n2 d l1 u q1 q2).mono fun e w' (h : e = .returned (.bool (decide (l1 = l1))) ∧ Below u.heap.size u w') => (⟨by rw [h.1, decide_eq_true rfl], h.2⟩ : e = .returned (.bool true) ∧ Below u.heap.size u w'))
  obtain ⟨W1, hW1⟩ : ∃ W, Hid (w.alloc (.cells #[.int .i64 1, .int .i64 3, .int .i64 5] 3) = W) := ⟨_, rfl⟩
  obtain ⟨W2, hW2⟩ : ∃ W, Hid (W1.alloc (.cells #[.int .i64 3, .int .i64 4, .int .i64 5] 3) = W) := ⟨_, rfl⟩
  have Z1 : Hid (SlI W1 (some ⟨w.heap.size, 0, none⟩) 3 3 [1, 3, 5]) := by rw [← hW1.out]; exact sli_new w [1, 3, 5] _ (by decide) (by decide)
  have Z2 : Hid (SlI W2 (some ⟨W1.heap.size, 0, none⟩) 3 3 [3, 4, 5]) := by rw [← hW2.out]; exact sli_new W1 [3, 4, 5] _ (by decide) (by decide)
  have L1 : Hid (Below w.heap.size w W1) := by rw [← hW1.out]; exact (Below.refl _ _).alloc (Nat.le_refl _) _
  have K2 : Hid (Below W1.heap.size W1 W2) := by rw [← hW2.out]; exact (Below.refl _ _).alloc (Nat.le_refl _) _
  have L2 := hide (bel_to L1.out (Nat.le_refl _) K2.out)
  have A1 := hide (H.and' _ 3 3 _ _ 3 3 _ W2 (Z1.out.below K2.out (Nat.le_refl _)) Z2.out (by decide) (by decide))
  rw [ex_and] at A1
  have SZ1 : Hid (W1.heap.size = w.heap.size + 1) := by rw [← hW1.out]; show _ = _; simp
  clear Z1 Z2 K2
  rw [SZ1.out] at A1
  go_enter Try.func9, Try.ntmps9
  go_wp2_with fail
  rw [hW1.out, hW2.out]
  with_reducible refine A1.out.mono ?_
  rintro e u1 ⟨F1, rfl, t1, b1⟩
  have M1 := hide (bel_to L2.out (Nat.le_refl _) b1)
  have C1 := hide (t1.col u1 (Below.refl _ _) 9 (by decide))
  rw [show [(3 : Int), 5].take (9 : Int).toNat = [3, 5] from rfl] at C1
  clear t1 b1 A1 L1 L2 SZ1 hW1 hW2
  go_wp2_with fail
  with_reducible refine C1.out.mono ?_
  rintro e u2 ⟨a2, n2, c2, rfl, s2, b2⟩
  have M2 := hide (bel_to M1.out (Nat.le_refl _) b2)
  have Q2 := hide s2
  clear s2 b2 C1 M1
  obtain ⟨V1, hV1⟩ : ∃ W, Hid (u2.alloc (.cells #[.int .i64 1, .int .i64 2] 3) = W) := ⟨_, rfl⟩
  obtain ⟨V2, hV2⟩ : ∃ W, Hid (V1.alloc (.cells #[.int .i64 2, .int .i64 3] 3) = W) := ⟨_, rfl⟩
  obtain ⟨V3, hV3⟩ : ∃ W, Hid (V2.alloc (.cells #[.int .i64 2] 3) = W) := ⟨_, rfl⟩
  have S1 : Hid (V1.heap.size = u2.heap.size + 1) := by rw [← hV1.out]; show _ = _; simp
  have S2 : Hid (V2.heap.size = u2.heap.size + 1 + 1) := by rw [← hV2.out]; show _ = _; simp [S1.out]
  have S3 : Hid (V3.heap.size = u2.heap.size + 1 + 1 + 1) := by rw [← hV3.out]; show _ = _; simp [S2.out]
  have Z1 : Hid (SlI V1 (some ⟨u2.heap.size, 0, none⟩) 2 2 [1, 2]) := by rw [← hV1.out]; exact sli_new u2 [1, 2] _ (by decide) (by decide)
  have Z2 : Hid (SlI V2 (some ⟨u2.heap.size + 1, 0, none⟩) 2 2 [2, 3]) := by rw [← hV2.out, ← S1.out]; exact sli_new V1 [2, 3] _ (by decide) (by decide)
  have Z3 : Hid (SlI V3 (some ⟨u2.heap.size + 1 + 1, 0, none⟩) 1 1 [2]) := by rw [← hV3.out, ← S2.out]; exact sli_new V2 [2] _ (by decide) (by decide)
  have K1 : Hid (Below u2.heap.size u2 V1) := by rw [← hV1.out]; exact (Below.refl _ _).alloc (Nat.le_refl _) _
  have K2 : Hid (Below V1.heap.size V1 V2) := by rw [← hV2.out]; exact (Below.refl _ _).alloc (Nat.le_refl _) _
  have K3 : Hid (Below V2.heap.size V2 V3) := by rw [← hV3.out]; exact (Below.refl _ _).alloc (Nat.le_refl _) _
  have Y1 := hide ((Z1.out.below K2.out (Nat.le_refl _)).below K3.out (Nat.le_refl _))
  have Y2 := hide (Z2.out.below K3.out (Nat.le_refl _))
  have R4 := rowii_new V3 [(some ⟨u2.heap.size, 0, none⟩, 2, 2), (some ⟨u2.heap.size + 1, 0, none⟩, 2, 2), (some ⟨u2.heap.size + 1 + 1, 0, none⟩, 1, 1)] [[1, 2], [2, 3], [2]] 22 rfl (show 3 ≤ 10 by decide) (fun i hi => by
    match i, hi with
    | 0, _ => exact Y1.out
    | 1, _ => exact Y2.out
    | 2, _ => exact Z3.out)
  obtain ⟨V4, hV4⟩ : ∃ W, Hid (V3.alloc (.cells #[.slice (some ⟨u2.heap.size, 0, none⟩) 2 2, .slice (some ⟨u2.heap.size + 1, 0, none⟩) 2 2, .slice (some ⟨u2.heap.size + 1 + 1, 0, none⟩) 1 1] 22) = W) := ⟨_, rfl⟩
  have R5 : Hid (RowII V4 (some ⟨u2.heap.size + 1 + 1 + 1, 0, none⟩) 3 [[1, 2], [2, 3], [2]]) := by rw [← hV4.out, ← S3.out]; exact R4
  have K4 : Hid (Below V3.heap.size V3 V4) := by rw [← hV4.out]; exact (Below.refl _ _).alloc (Nat.le_refl _) _
  have M4 := hide (bel_to (bel_to (bel_to (bel_to M2.out (Nat.le_refl _) K1.out) (Nat.le_refl _) K2.out) (Nat.le_refl _) K3.out) (Nat.le_refl _) K4.out)
  have Q4 := hide ((((Q2.out.below K1.out (Nat.le_refl _)).below K2.out (Nat.le_refl _)).below K3.out (Nat.le_refl _)).below K4.out (Nat.le_refl _))
  have A2 := hide (H.most _ 3 3 _ 2 V4 R5.out (by decide) (fun h => by cases h) (by decide) (by decide) (by decide))
  rw [ex_most] at A2
  clear R4 R5 Y1 Y2 Z1 Z2 Z3 K1 K2 K3 K4 Q2 M2
  go_wp2_with fail
  rw [hV1.out, hV2.out, hV3.out, hV4.out]
  with_reducible refine A2.out.mono ?_
  rintro e u3 ⟨F2, rfl, t3, b3⟩
  have M5 := hide (bel_to M4.out (Nat.le_refl _) b3)
  have Q5 := hide (Q4.out.below b3 (Nat.le_refl _))
  have C2 := hide (t3.col u3 (Below.refl _ _) 9 (by decide))
  rw [show [(2 : Int)].take (9 : Int).toNat = [2] from rfl] at C2
  clear t3 b3 A2 M4 Q4 hV1 hV2 hV3 hV4 S1 S2 S3
  go_wp2_with fail
  with_reducible refine C2.out.mono ?_
  rintro e u4 ⟨a4, n4, c4, rfl, s4, b4⟩
  have M6 := hide (bel_to M5.out (Nat.le_refl _) b4)
  have Q6 := hide (Q5.out.below b4 (Nat.le_refl _))
  have P6 := hide s4
  clear s4 b4 C2 M5 Q5
  obtain ⟨X1, hX1⟩ : ∃ W, Hid (u4.alloc (.cells #[.int .i64 3, .int .i64 5] 3) = W) := ⟨_, rfl⟩
  have Z7 : Hid (SlI X1 (some ⟨u4.heap.size, 0, none⟩) 2 2 [3, 5]) := by rw [← hX1.out]; exact sli_new u4 [3, 5] _ (by decide) (by decide)
  have K7 : Hid (Below u4.heap.size u4 X1) := by rw [← hX1.out]; exact (Below.refl _ _).alloc (Nat.le_refl _) _
  have M7 := hide (bel_to M6.out (Nat.le_refl _) K7.out)
  have E1 := hide (SA.out X1 _ _ _ _ _ _ _ (Q6.out.below K7.out (Nat.le_refl _)) Z7.out)
  have P7 := hide (P6.out.below K7.out (Nat.le_refl _))
  clear Z7 K7 M6 Q6 P6
  go_wp2_with fail
  rw [hX1.out]
  with_reducible refine E1.out.mono ?_
  rintro e u5 ⟨rfl, b5⟩
  have M8 := hide (bel_to M7.out (Nat.le_refl _) b5)
  have P8 := hide (P7.out.below b5 (Nat.le_refl _))
  clear b5 E1 M7 P7 hX1
  obtain ⟨X2, hX2⟩ : ∃ W, Hid (u5.alloc (.cells #[.int .i64 2] 3) = W) := ⟨_, rfl⟩
  have Z8 : Hid (SlI X2 (some ⟨u5.heap.size, 0, none⟩) 1 1 [2]) := by rw [← hX2.out]; exact sli_new u5 [2] _ (by decide) (by decide)
  have K8 : Hid (Below u5.heap.size u5 X2) := by rw [← hX2.out]; exact (Below.refl _ _).alloc (Nat.le_refl _) _
  have M9 := hide (bel_to M8.out (Nat.le_refl _) K8.out)
  have E2 := hide (SA.out X2 _ _ _ _ _ _ _ (P8.out.below K8.out (Nat.le_refl _)) Z8.out)
  clear Z8 K8 M8 P8
  go_wp2_with fail
  rw [hX2.out]
  with_reducible refine E2.out.mono ?_
  rintro e u6 ⟨rfl, b6⟩
  have M10 := hide (bel_to M9.out (Nat.le_refl _) b6)
  clear b6 E2 M9 hX2
  obtain ⟨X3, hX3⟩ : ∃ W, Hid (u6.alloc (.cells #[.int .i64 1, .int .i64 2] 3) = W) := ⟨_, rfl⟩
  have Z9 : Hid (SlI X3 (some ⟨u6.heap.size, 0, none⟩) 2 2 [1, 2]) := by rw [← hX3.out]; exact sli_new u6 [1, 2] _ (by decide) (by decide)
  have K9 : Hid (Below u6.heap.size u6 X3) := by rw [← hX3.out]; exact (Below.refl _ _).alloc (Nat.le_refl _) _
  have M11 := hide (bel_to M10.out (Nat.le_refl _) K9.out)
  have A3 := hide (H.from' _ 2 2 _ X3 Z9.out (by decide))
  rw [ex_from] at A3
  clear Z9 K9 M10
  go_wp2_with fail
  rw [hX3.out]
  with_reducible refine A3.out.mono ?_
  rintro e u7 ⟨F3, rfl, t7, b7⟩
  have M12 := hide (bel_to M11.out (Nat.le_refl _) b7)
  have C3 := hide (t7.lst u7 (Below.refl _ _) 1 (by decide))
  rw [show [(1 : Int), 2].take (1 : Int).toNat = [1] from rfl] at C3
  clear t7 b7 A3 M11 hX3
  go_wp2_with fail
  with_reducible refine C3.out.mono ?_
  rintro e u8 ⟨a8, n8, c8, rfl, s8, b8⟩
  have M13 := hide (bel_to M12.out (Nat.le_refl _) b8)
  obtain rfl : 1 = n8 := s8.len
  clear s8 b8 C3 M12
  go_wp2
  go_ret
  exact ⟨rfl, M13.out⟩
end Go.Proofs.Ythmcliapdnbdjaa
