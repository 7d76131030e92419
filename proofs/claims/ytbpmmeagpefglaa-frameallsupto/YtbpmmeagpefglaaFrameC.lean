/-
  What frame.Put comes to: contracts, for every world.
  Conditions: the slices show their bytes; there is room for a copy.
-/
import Derived.Test.YtbpmmeagpefglaaFrameB
namespace Go.Proofs.Ytbpmmeagpefglaa
open Go.RowKit

set_option maxHeartbeats 1000000 in
theorem putno_any (a : Option Addr) (n cap : Nat) (zs : List Int) (b : Option Addr) (m capb : Nat) (w : World) (hr : Row .u8 w a n zs) (hn : n ≤ 140737488355328) (hm : m = 0 ∨ 1048576 < m) :
    Calls Try.prog 14 #[.slice a n cap, .slice b m capb] w fun e w' => ∃ a' cap', e = .returned (.tuple #[.slice a' n cap', .int .i64 1]) ∧ Mine w' w.heap.size a' n cap' zs ∧ Below w.heap.size w w' := by
  have C := hide (clone_any a n cap zs w hr hn)
  clear hr
  rcases hm with rfl | hm
  · go_enter Try.func14, Try.ntmps14
    go_wp2_with fail
    refine C.out.mono ?_
    rintro e w' ⟨a', cap', rfl, h1, h2⟩
    have H1 := hide h1
    clear h1 C
    go_wp2
    go_ret2
    exact ⟨a', cap', rfl, H1, h2⟩
  · have h1 : ((m : Int) == 0) = false := by simp; omega
    have h2 : (1048576 : Int) < m := by omega
    go_enter Try.func14, Try.ntmps14
    go_wp2_with fail
    refine C.out.mono ?_
    rintro e w' ⟨a', cap', rfl, h1, h2⟩
    have H1 := hide h1
    clear h1 C
    go_wp2
    go_ret2
    exact ⟨a', cap', rfl, H1, h2⟩

set_option maxHeartbeats 2000000 in
set_option maxRecDepth 100000 in
theorem put_frame (a : Option Addr) (n cap : Nat) (zs : List Int) (b : Option Addr) (m capb : Nat) (bs : List Int) (w : World) (hr : Row .u8 w a n zs) (hs : Row .u8 w b m bs) (hn : n ≤ 140737488355328) (hm0 : 1 ≤ m) (hm : m ≤ 1048576) :
    Calls Try.prog 14 #[.slice a n cap, .slice b m capb] w fun e w' => ∃ a' cap', e = .returned (.tuple #[.slice a' (n + (frameS bs).length) cap', .int .i64 0]) ∧ Mine w' w.heap.size a' (n + (frameS bs).length) cap' (zs ++ frameS bs) ∧ Below w.heap.size w w' := by
  have P := hide (put_any (m : Int) none 0 0 [] w (w64_len (by omega)) (by omega) (by omega) (nil_row .u8 w none))
  have HA := hide hr
  have HB := hide hs
  have hq := putS_len (m : Int)
  have HQ : Hid (Bytes8 (putS (m : Int))) := putS_byte (w64_len (by omega))
  have HF : Hid (frameS bs = putS (m : Int) ++ (quad (moreS 0 bs) ++ bs)) := by show _ = _; unfold frameS sumB; rw [hs.1]
  have HFL : Hid ((frameS bs).length = (putS (m : Int)).length + 4 + m) := by show _ = _; rw [frameS_len, hs.1, Nat.add_assoc]
  rw [List.nil_append, Nat.zero_add] at P
  clear hr hs
  generalize putS (m : Int) = p at *
  generalize frameS bs = F at *
  obtain ⟨q, hqq⟩ : ∃ q, p.length = q := ⟨_, rfl⟩
  rw [hqq] at P hq HFL
  clear hqq
  have t1 : ((m : Int) == 0) = false := by simp; omega
  have t2 : ¬ ((1048576 : Int) < m) := by omega
  go_enter Try.func14, Try.ntmps14
  go_wp2_with fail
  refine P.out.mono ?_
  rintro e w1 ⟨a1, c1, rfl, o1, k1⟩
  have R1 := hide (o1.row (by omega) (fits_wf HQ.out))
  have K1 := hide k1
  have RA := hide (HA.out.below k1 (Nat.le_refl _))
  have RB := hide (HB.out.below k1 (Nat.le_refl _))
  clear o1 k1 P HA HB
  have S := hide (sumbytes_any b m capb bs w1 RB.out)
  go_wp2_with fail
  refine S.out.mono ?_
  rintro e w2 ⟨rfl, rfl⟩
  have RQ := hide (four_row (w1.alloc tbl) (moreS 0 bs))
  rw [World.size_alloc] at RQ
  have R1' := hide ((R1.out.alloc tbl).alloc (four_ (moreS 0 bs)))
  have RA' := hide ((RA.out.alloc tbl).alloc (four_ (moreS 0 bs)))
  have RB' := hide ((RB.out.alloc tbl).alloc (four_ (moreS 0 bs)))
  have K2 : Hid (Below w.heap.size w ((w1.alloc tbl).alloc (four_ (moreS 0 bs)))) := bel_al (bel_al K1.out (Nat.le_refl _) _) (Nat.le_refl _) _
  clear S R1 RA RB K1
  obtain ⟨g, hg⟩ : ∃ g, w1.heap.size + 1 = g := ⟨_, rfl⟩
  rw [hg] at RQ ⊢
  clear hg
  generalize (w1.alloc tbl).alloc (four_ (moreS 0 bs)) = W at *
  obtain ⟨L, hL⟩ : ∃ L : List Sl, L = [(a, n, cap, zs), (a1, q, c1, p), (some ⟨g, 0, none⟩, 4, 4, quad (moreS 0 bs)), (b, m, capb, bs)] := ⟨_, rfl⟩
  obtain ⟨O, hO⟩ : ∃ O : Obj, O = .cells #[.slice a n cap, .slice a1 q c1, .slice (some ⟨g, 0, none⟩) 4 4, .slice b m capb] 25 := ⟨_, rfl⟩
  have HP : Hid (parts L 4 = zs ++ F) := by show _ = _; rw [hL, HF.out]; simp [parts]
  have C := hide (concat_any W.heap.size L (W.alloc O) (by rw [hL]; simp only [List.length_cons, List.length_nil]; omega)
    (by
      rw [hL, hO]
      intro i hi
      rw [World.cell?_alloc_mark]
      match i, hi with
      | 0, _ => rfl
      | 1, _ => rfl
      | 2, _ => rfl
      | 3, _ => rfl
      | n + 4, h => simp at h; omega)
    (by
      rw [hL]
      intro i hi
      match i, hi with
      | 0, _ => exact RA'.out.alloc O
      | 1, _ => exact R1'.out.alloc O
      | 2, _ => exact RQ.out.alloc O
      | 3, _ => exact RB'.out.alloc O
      | n + 4, h => simp at h; omega)
    (by rw [hL] at HP ⊢; show 0 < (parts _ 4).length; rw [HP.out, List.length_append, HFL.out]; omega)
    (by rw [hL] at HP ⊢; show (parts _ 4).length ≤ _; rw [HP.out, List.length_append, HFL.out, RA'.out.1]; omega))
  have h4 : L.length = 4 := by rw [hL]; rfl
  rw [h4, HP.out, List.length_append, RA'.out.1] at C
  rw [hO] at C
  clear hL h4 hO HP
  go_wp2_with fail
  refine C.out.mono ?_
  rintro e w3 ⟨a3, c3, rfl, o3, k3⟩
  have O3 : Hid (Mine w3 w.heap.size a3 (n + F.length) c3 (zs ++ F)) := o3.mono (by have := K2.out.size; rw [World.size_alloc]; omega)
  have K3 : Hid (Below w.heap.size w w3) := bel_to (bel_al K2.out (Nat.le_refl _) _) (Nat.le_refl _) k3
  clear o3 k3 C
  go_wp2
  go_ret2
  exact ⟨a3, c3, rfl, O3, K3⟩
end Go.Proofs.Ytbpmmeagpefglaa
