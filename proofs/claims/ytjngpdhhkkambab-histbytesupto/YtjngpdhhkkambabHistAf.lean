/-
  The buckets in which something was seen, as a list: a contract, for every world.
  Conditions: the histogram lies where it is said to lie.
-/
import Derived.Test.YtjngpdhhkkambabHistA
import Derived.Test.YtjngpdhhkkambabHistB
import Derived.Test.YtjngpdhhkkambabHistAd
namespace Go.Proofs.Ytjngpdhhkkambab
open Go.RowKit

theorem spF_snoc (k : Int) (H : List Int) (y : Int) : spF k (H ++ [y]) = spF k H ++ (if 0 < y then [(k + H.length, y)] else []) := by
  induction H generalizing k with
  | nil =>
    simp only [List.nil_append, spF, List.length_nil]
    split
    · simp
    · rfl
  | cons c t ih =>
    rw [List.cons_append, spF, spF, ih, List.length_cons]
    rw [show k + 1 + (t.length : Int) = k + ((t.length + 1 : Nat) : Int) by omega]
    split <;> simp
theorem spF_len (k : Int) (H : List Int) : (spF k H).length ≤ H.length := by
  induction H generalizing k with
  | nil => exact Nat.le_refl _
  | cons c t ih =>
    have := ih (k + 1)
    rw [spF]
    split <;> simp only [List.length_cons] <;> omega

set_option maxHeartbeats 4000000 in
theorem hbuckets_any (g : Nat) (H : List Int) (w : World) (hH : HistAt w g H) :
    Calls Try.prog 27 #[.pointer (some ⟨g, 0, none⟩)] w fun e w' => ∃ a' c', e = .returned (.slice a' (spS H).length c') ∧ OwnB w' w.heap.size a' (spS H).length c' (spS H) ∧ Below w.heap.size w w' := by
  obtain ⟨i0, hi, hz0, hz1, hz2⟩ := info_parts Try.infoB
  have HH := hide hH
  clear hH
  go_enter Try.func27, Try.ntmps27
  go_wp2
  go_loopw [3, 11] (fun m i wr => ∃ (am : Option Addr) (nm cm k : Nat) (pre : Bks), m = .slice am nm cm ∧ i = .int .i64 k ∧ k ≤ 7424 ∧ nm ≤ k ∧ Hid (pre.length = nm ∧ pre = spF 0 (H.take k)) ∧ Hid (OwnB wr w.heap.size am nm cm pre) ∧ Hid (Below w.heap.size w wr)) (fun _ i _ => 7424 - (intOf i).toNat)
  case atStart => exact ⟨none, 0, 0, 0, [], rfl, rfl, by omega, by omega, ⟨rfl, rfl⟩, ownB_nil _ _, Below.refl _ _⟩
  case round =>
    obtain ⟨am, nm, cm, k, pre, rfl, rfl, hk, hnm, HP, HO, HB⟩ := hrel
    have HBW : Hid (w.heap.size ≤ wr.heap.size) := HB.out.size
    by_cases hlt : k < 7424
    · have hc := (HH.out.below HB.out HH.out.lt).cell (i := k) (by omega)
      have hy := HH.out.getD k
      have HTK := hide (take_ints (l := H) (k := k) (by rw [HH.out.len]; omega))
      have HLK : Hid ((H.take k).length = k) := by show _ = _; rw [List.length_take, HH.out.len]; omega
      have i1 : (0 : Int) ≤ (k : Int) := by omega
      have i2 : (k : Int) < 7424 := by omega
      generalize H.getD k 0 = y at *
      obtain ⟨y0, y1⟩ := hy
      by_cases hp : 0 < y
      · have HN : Hid ((pre ++ [((k : Int), y)]).length = nm + 1 ∧ pre ++ [((k : Int), y)] = spF 0 (H.take (k + 1))) := by
          refine ⟨by rw [List.length_append, HP.out.1]; rfl, ?_⟩
          rw [HTK.out, spF_snoc, if_pos hp, ← HP.out.2, HLK.out]
          simp
        go_wp2_with (at_builtin; refine wpList_append_bks _ rfl _ _ 22 rfl w.heap.size i0 Try.underlying22 hi hz0 hz1 hz2 am nm cm pre rfl (HO.out.alloc _) ⟨wr.heap.size, 0, none⟩ 1 1 [((k : Int), y)] rfl rfl (two_cells wr ((k : Int), y) _) (by omega) (by have := HBW.out; simp; omega) ?_)
        intro a2 c2 w2 o2 b2
        have O2 := hide o2
        have K2 : Hid (Below w.heap.size w w2) := (bel_al HB.out (Nat.le_refl _) _).trans b2
        clear o2 b2 HO HB hc
        go_wp2
        go_roundw
        case rel => exact ⟨a2, nm + 1, c2, k + 1, _, rfl, by go_num, by omega, by omega, HN, O2, K2⟩
        case measure => simp [intOf]; omega
      · have HN : Hid (pre.length = nm ∧ pre = spF 0 (H.take (k + 1))) := by
          refine ⟨HP.out.1, ?_⟩
          rw [HTK.out, spF_snoc, if_neg hp, ← HP.out.2]
          simp
        go_wp2
        go_roundw
        case rel => exact ⟨am, nm, cm, k + 1, pre, rfl, by go_num, by omega, by omega, HN, HO, HB⟩
        case measure => simp [intOf]; omega
    · have : k = 7424 := by omega
      subst this
      have HE : Hid (pre = spS H ∧ (spS H).length = nm) := by
        have h1 := HP.out.2
        rw [List.take_of_length_le (by rw [HH.out.len]; omega)] at h1
        refine ⟨h1, ?_⟩
        show (spF 0 H).length = nm
        rw [← h1]
        exact HP.out.1
      rw [HE.out.1] at HO
      go_wp2
      go_ret
      rw [HE.out.2]
      exact ⟨am, cm, rfl, HO, HB⟩
end Go.Proofs.Ytjngpdhhkkambab
