/-
  A sketch that takes hashes, one that is made of hashes, one that takes a thing; how many unlike things a list stands for: contracts, for every world.
  Conditions: the slice shows its numbers and lies elsewhere than the sketch; the sketch lies in memory.
-/
import Derived.Test.YtlhiikibbppodaaKmvZ
import Derived.Test.YtlhiikibbppodaaFnvA
namespace Go.Proofs.Ytlhiikibbppodaa
open Go.RowKit Go.Maps

theorem uni_snoc (l m : List Int) (h : Int) : uni l (m ++ [h]) = insK h (uni l m) := by
  induction m generalizing l with
  | nil => rfl
  | cons x t ih => rw [List.cons_append, uni, uni, ih]
theorem uni_small {l m : List Int} (hl : Up l) : (uni l m).length ≤ l.length + m.length := by
  induction m generalizing l with
  | nil => exact Nat.le_refl _
  | cons x t ih =>
    rw [uni, List.length_cons]
    have h1 := ih (up_insK (h := x) hl)
    have h2 := insK_small (h := x) hl
    omega
theorem uni_words {l m : List Int} (hl : ∀ x ∈ l, W64 x) (hm : ∀ x ∈ m, W64 x) : ∀ x ∈ uni l m, W64 x := fun x hx => (mem_uni.1 hx).elim (hl x) (hm x)
theorem uni_nil {m : List Int} (hm : Up m) : uni [] m = m := up_ext (up_uni List.Pairwise.nil) hm (fun x => by rw [mem_uni]; simp)
theorem merge_all {l m : List Int} (hl : l.length ≤ 1024) : (uni l m).take 1024 = hashAll 1024 l m := (hashAll_uni hl).symm
theorem merge_break {l m : List Int} (hu : Up l) (hl : l.length ≤ 1024) (hm : Up m) {k : Nat} (hk : k < m.length) (h1 : 1024 ≤ (uni l (m.take k)).length) (h2 : (uni l (m.take k)).getLastD 0 ≤ m.getD k 0) : (uni l (m.take k)).take 1024 = hashAll 1024 l m := by
  have e : hashAll 1024 l m = hashAll 1024 ((uni l (m.take k)).take 1024) (m.drop k) := by
    rw [← hashAll_uni hl, ← hashAll_append, List.take_append_drop]
  have hup : Up (uni l (m.take k)) := up_uni hu
  rw [e]
  refine (hashAll_beyond (up_take hup 1024) (by rw [List.length_take]; omega) (by decide) (fun x hx => ?_)).symm
  have h3 := last_take hup (n := 1024) (by decide) (fun e => by rw [e] at h1; simp at h1)
  have h4 : m.getD k 0 ≤ x := by
    rw [drop_num hk] at hx
    rcases List.mem_cons.1 hx with rfl | hx
    · exact Int.le_refl _
    · have hd : Up (m.drop k) := List.Pairwise.sublist (List.drop_sublist k m) hm
      rw [drop_num hk] at hd
      have := (List.pairwise_cons.1 hd).1 x hx
      omega
  omega

set_option maxHeartbeats 4000000 in
theorem kmerge_ok (g b : Nat) (D : DataW Unit) (l : List Int) (a : Option Addr) (n cap : Nat) (m : List Int) (w : World) (H : KB w g b D l (l.getLastD 0)) (hl : l.length ≤ 1024) (hr : Row .u64 w a n m) (hd : 0 < n → ∀ x, a = some x → ¬ KS g b x.block) (hck : chkK m = true) :
    Calls Try.prog 18 #[.pointer (some ⟨g, 0, none⟩), .slice a n cap] w fun e w' => e = .returned (.int .i64 0) ∧ (∃ D', KB w' g b D' (hashAll 1024 l m) ((hashAll 1024 l m).getLastD 0)) ∧ Ch (KS g b) w w' := by
  have CK := hide (kchk_any a n cap m w hr)
  rw [hck] at CK
  have hcu := chk_up hck
  have hn : n ≤ 1024 := by rw [← hr.1]; exact hcu.2
  have HMu := hide hcu.1
  have HUl := hide H.set.up
  have HML := hide hr.1
  have HWm := hide hr.words
  have HLl := hide hl
  have HD := hide hd
  have HK := hide H
  have HR := hide hr
  obtain ⟨R, HRs⟩ : ∃ R, Hid (hashAll 1024 l m = R) := ⟨_, rfl⟩
  rw [HRs.out]
  obtain ⟨tR, HtR⟩ : ∃ tR, Hid (R.getLastD 0 = tR) := ⟨_, rfl⟩
  rw [HtR.out]
  clear H hr hck hcu hd
  go_enter Try.func18, Try.ntmps18
  go_wp2_with fail
  refine CK.out.mono ?_
  rintro e w1 ⟨rfl, q, rfl⟩
  have HK1 := hide (HK.out.drewN q)
  have HR1 := hide (HR.out.below (bel_drewN (Below.refl w.heap.size w) q) (Nat.le_refl _))
  have HC1 : Hid (Ch (KS g b) w (w.drewN q)) := (Ch.refl _ _).drewN q
  clear CK HK HR
  go_wp2
  go_loopw [12] (fun x12 wr => ∃ (k : Nat) (D' : DataW Unit), k ≤ n ∧ x12 = .int .i64 k ∧ Hid (KB wr g b D' (uni l (m.take k)) ((uni l (m.take k)).getLastD 0)) ∧ Hid (Row .u64 wr a n m) ∧ Hid (Ch (KS g b) w wr)) (fun x12 _ => n - (intOf x12).toNat)
  case atStart => exact ⟨0, D, Nat.zero_le _, rfl, HK1.out, HR1.out, HC1.out⟩
  case round =>
    obtain ⟨k, D', hk, rfl, HKr, HRr, HCr⟩ := hrel
    have hLs := uni_small (l := l) (m := m.take k) HUl.out
    rw [List.length_take] at hLs
    have DR := hide (fun W hW => kdrop_any g b D' (uni l (m.take k)) W hW (by have := HLl.out; omega))
    by_cases hlt : k < n
    · obtain ⟨ba, oa, rfl, hcc⟩ := row_at HRr.out hlt
      have f1 := hcc k hlt wr (Below.refl _ _)
      have i1 : (k : Int) < (n : Int) := by omega
      have i2 : (0 : Int) ≤ (k : Int) := by omega
      have BY := hide (beyond_any g b D' (uni l (m.take k)) ((uni l (m.take k)).getLastD 0) (m.getD k 0) wr HKr.out)
      have hx := HRr.out.word k
      have hTk : uni l (m.take (k + 1)) = insK (m.getD k 0) (uni l (m.take k)) := by rw [take_num (by rw [HML.out]; exact hlt), uni_snoc]
      have hSm := insK_small (h := m.getD k 0) HKr.out.set.up
      have TK := hide (take_any g b D' _ _ (m.getD k 0) wr HKr.out hx (by omega))
      rw [← last_insK HKr.out.set.up hx.1, ← hTk] at TK
      obtain ⟨B, HB⟩ : ∃ B, Hid ((decide (1024 ≤ (uni l (m.take k)).length) && decide ((uni l (m.take k)).getLastD 0 ≤ m.getD k 0)) = B) := ⟨_, rfl⟩
      rw [HB.out] at BY
      cases B with
      | true =>
        have hb : 1024 ≤ (uni l (m.take k)).length ∧ (uni l (m.take k)).getLastD 0 ≤ m.getD k 0 := by have := HB.out; simpa using this
        have HE : Hid ((uni l (m.take k)).take 1024 = R) := (merge_break HUl.out HLl.out HMu.out (by rw [HML.out]; exact hlt) hb.1 hb.2).trans HRs.out
        have DD := hide (DR.out wr HKr.out)
        rw [HE.out, HtR.out] at DD
        generalize m.getD k 0 = x at *
        clear hb hTk hSm TK DR HB hcc hx hLs
        go_wp2_with fail
        refine BY.out.mono ?_
        rintro e w2 ⟨rfl, hw2⟩
        subst hw2
        go_wp2_with fail
        refine DD.out.mono ?_
        rintro e w3 ⟨rfl, K3, C3⟩
        have HK3 := hide K3
        have HC3 := hide (HCr.out.trans C3)
        clear K3 C3 DD BY
        go_wp2
        go_ret
        exact ⟨rfl, HK3.out, HC3.out⟩
      | false =>
        generalize m.getD k 0 = x at *
        clear hTk hSm DR HB hcc hx hLs
        go_wp2_with fail
        refine BY.out.mono ?_
        rintro e w2 ⟨rfl, hw2⟩
        subst hw2
        go_wp2_with fail
        refine TK.out.mono ?_
        rintro e w3 ⟨rfl, ⟨D3, K3⟩, C3⟩
        have HK3 := hide K3
        have HC3 := hide (HCr.out.trans C3)
        have HR3 := hide (HRr.out.chU C3 (HD.out (by omega)))
        clear K3 C3 TK BY
        go_wp2
        go_roundw
        case rel => exact ⟨k + 1, D3, by omega, by go_num, HK3.out, HR3.out, HC3.out⟩
        case measure => simp [intOf]; omega
    · have i1 : ¬ (k : Int) < (n : Int) := by omega
      have HE : Hid ((uni l (m.take k)).take 1024 = R) := by
        show _ = _
        rw [show m.take k = m from List.take_of_length_le (by rw [HML.out]; omega), merge_all HLl.out, HRs.out]
      have DD := hide (DR.out wr HKr.out)
      rw [HE.out, HtR.out] at DD
      clear DR hLs
      go_wp2_with fail
      refine DD.out.mono ?_
      rintro e w3 ⟨rfl, K3, C3⟩
      have HK3 := hide K3
      have HC3 := hide (HCr.out.trans C3)
      clear K3 C3 DD
      go_wp2
      go_ret
      exact ⟨rfl, HK3.out, HC3.out⟩

theorem kmerge_no (g : Nat) (a : Option Addr) (n cap : Nat) (m : List Int) (w : World) (hr : Row .u64 w a n m) (hck : chkK m = false) :
    Calls Try.prog 18 #[.pointer (some ⟨g, 0, none⟩), .slice a n cap] w fun e w' => e = .returned (.int .i64 5) ∧ ∃ q, w' = w.drewN q := by
  have CK := hide (kchk_any a n cap m w hr)
  rw [hck] at CK
  clear hr hck
  go_enter Try.func18, Try.ntmps18
  go_wp2_with fail
  refine CK.out.mono ?_
  rintro e w1 ⟨rfl, q, rfl⟩
  go_wp2
  go_ret
  exact ⟨rfl, q, rfl⟩
end Go.Proofs.Ytlhiikibbppodaa
