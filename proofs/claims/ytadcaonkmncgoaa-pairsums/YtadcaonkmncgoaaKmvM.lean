/-
  The document's own answer of layer 8 (the laws' reference): two lists put together, how many unlike things: contracts, for every world.
  Conditions: the slices show their numbers; the lists may be.
-/
import Derived.Test.YtadcaonkmncgoaaKmvR
import Derived.Test.YtadcaonkmncgoaaKmvU
namespace Go.Proofs.Ytadcaonkmncgoaa
open Go.RowKit
set_option maxRecDepth 20000

/-- A list answered in new memory. -/
def BackO (w w' : World) (e : Ending) (l : List Int) : Prop := ∃ a' c', e = .returned (.slice a' l.length c') ∧ Row .u64 w' a' l.length l ∧ OwnU w' w.heap.size a' l.length c' l ∧ Below w.heap.size w w'

set_option maxRecDepth 20000 in
set_option maxHeartbeats 8000000 in
theorem refmerge_own (a b : Option Addr) (n m ca cb : Nat) (l1 l2 : List Int) (w : World) (hr1 : Row .u64 w a n l1) (hr2 : Row .u64 w b m l2) (hup1 : Up l1) (hup2 : Up l2) (hn : n ≤ 1024) (hm : m ≤ 1024) :
    Calls Try.prog 40 #[.slice a n ca, .slice b m cb] w fun e w' => BackO w w' e ((uni l1 l2).take 1024) := by
  obtain ⟨i0, hi0⟩ := info_parts Try.infoU
  have HI := hide hi0
  have HR1 := hide hr1
  have HR2 := hide hr2
  have HL1 := hide hr1.1
  have HL2 := hide hr2.1
  have HW1 := hide (fun i => hr1.word i)
  have HW2 := hide (fun i => hr2.word i)
  have HS1 := hide hr1.words
  have HS2 := hide hr2.words
  have HU1 := hide hup1
  have HU2 := hide hup2
  clear hr1 hr2 hup1 hup2 hi0
  go_enter Try.func40, Try.ntmps40
  go_wp2
  go_loopw [5, 6, 7] (fun x5 x6 x7 wr => ∃ (zs : List Int) (az : Option Addr) (r cz i k : Nat), x5 = .slice az r cz ∧ x6 = .int .i64 i ∧ x7 = .int .i64 k ∧ i ≤ n ∧ k ≤ m ∧ r ≤ 1024 ∧ Hid (OwnU wr w.heap.size az r cz zs) ∧ Hid (uni l1 l2 = zs ++ uni (l1.drop i) (l2.drop k)) ∧ Hid (∀ x ∈ zs, W64 x) ∧ Hid (Below w.heap.size w wr)) (fun _ x6 x7 _ => (n - (intOf x6).toNat) + (m - (intOf x7).toNat))
  case atStart => exact ⟨[], none, 0, 0, 0, 0, rfl, rfl, rfl, by omega, by omega, by omega, own_nil _ _ _ _, rfl, fun x hx => by simp at hx, Below.refl _ _⟩
  case round =>
    obtain ⟨zs, az, r, cz, i, k, rfl, rfl, rfl, hi, hk, hr, HO, HE, HZ, HB⟩ := hrel
    have HOQ : Hid (∀ q, OwnU (wr.drewN q) w.heap.size az r cz zs) := fun q => own_drewN HO.out q
    have HBQ : Hid (∀ q, Below w.heap.size w (wr.drewN q)) := fun q => bel_drewN HB.out q
    have HBW : Hid (w.heap.size ≤ wr.heap.size) := HB.out.size
    have HRL : Hid (zs.length = r) := HO.out.len
    by_cases hfull : r = 1024
    · subst hfull
      have HEnd : Hid ((uni l1 l2).take 1024 = zs) := mg_full HE.out HRL.out
      clear hr
      have HRow := hide (OwnU.rowU HO.out (by omega) HZ.out)
      clear HE HZ
      by_cases hin : i < n
      · have d1 : (i : Int) < (n : Int) := by omega
        go_wp2
        go_ret
        rw [HEnd.out]
        exact ⟨az, cz, by rw [HRL.out]; rfl, by rw [HRL.out]; exact HRow.out, by rw [HRL.out]; exact HO.out, HB.out⟩
      · have d1 : ¬ (i : Int) < (n : Int) := by omega
        by_cases hkm : k < m
        · have e1 : (k : Int) < (m : Int) := by omega
          go_wp2
          go_ret
          rw [HEnd.out]
          exact ⟨az, cz, by rw [HRL.out]; rfl, by rw [HRL.out]; exact HRow.out, by rw [HRL.out]; exact HO.out, HB.out⟩
        · have e1 : ¬ (k : Int) < (m : Int) := by omega
          go_wp2
          go_ret
          rw [HEnd.out]
          exact ⟨az, cz, by rw [HRL.out]; rfl, by rw [HRL.out]; exact HRow.out, by rw [HRL.out]; exact HO.out, HB.out⟩
    have hrl : r < 1024 := by omega
    have d0 : (r : Int) < 1024 := by omega
    by_cases hkm : k < m
    · obtain ⟨bb, ob, rfl, hcb⟩ := row_at HR2.out hkm
      have f2 := hcb k hkm wr HB.out
      have g2 := fun q => hcb k hkm (wr.drewN q) (HBQ.out q)
      have hy := HW2.out k
      have e1 : (k : Int) < (m : Int) := by omega
      have e2 : (0 : Int) ≤ (k : Int) := by omega
      have e3 : ¬ (m : Int) ≤ (k : Int) := by omega
      by_cases hin : i < n
      · obtain ⟨ba, oa, rfl, hca⟩ := row_at HR1.out hin
        have f1 := hca i hin wr HB.out
        have g1 := fun q => hca i hin (wr.drewN q) (HBQ.out q)
        have hx := HW1.out i
        have c1 : (i : Int) < (n : Int) := by omega
        have c2 : (0 : Int) ≤ (i : Int) := by omega
        have c3 : ¬ (n : Int) ≤ (i : Int) := by omega
        have HXY := hide (⟨rfl, rfl⟩ : l1.getD i 0 = l1.getD i 0 ∧ l2.getD k 0 = l2.getD k 0)
        clear hca hcb
        have HG1 : ∃ x, Hid (l1.getD i 0 = x) := ⟨_, rfl⟩
        have HG2 : ∃ y, Hid (l2.getD k 0 = y) := ⟨_, rfl⟩
        obtain ⟨x, HX⟩ := HG1
        obtain ⟨y, HY⟩ := HG2
        rw [HX.out] at f1 hx
        rw [HY.out] at f2 hy
        simp only [HX.out] at g1
        simp only [HY.out] at g2
        clear HXY
        have HWx := hide hx
        have HWy := hide hy
        obtain ⟨x0, x1⟩ := hx
        obtain ⟨y0, y1⟩ := hy
        by_cases hlt : x < y
        · have s1 : decide (x < y) = true := decide_eq_true hlt
          have HN : Hid (uni l1 l2 = (zs ++ [x]) ++ uni (l1.drop (i + 1)) (l2.drop k)) := by
            have := mg_lt HU1.out HU2.out HE.out (by rw [HL1.out]; exact hin) (by rw [HL2.out]; exact hkm) (by rw [HX.out, HY.out]; exact hlt)
            rwa [HX.out] at this
          have HZN : Hid (∀ z ∈ zs ++ [x], W64 z) := by
            intro z hz
            rcases List.mem_append.1 hz with hz | hz
            · exact HZ.out z hz
            · simp only [List.mem_singleton] at hz; subst hz; exact HWx.out
          clear HE HZ
          go_wp2
          have e4 : decide (m ≤ k) = false := decide_eq_false (by omega)
          have c4 : decide (i < n) = true := decide_eq_true (by omega)
          have c5 : decide (n ≤ i) = false := decide_eq_false (by omega)
          go_big_quiet (fail)
          go_wp2_with (at_builtin; refine wpList_append_words _ rfl _ _ 25 rfl w.heap.size 26 i0 Try.underlying25 HI.out.1 HI.out.2.1 HI.out.2.2.1 HI.out.2.2.2 az r cz zs rfl ((HOQ.out _).alloc _) (some ⟨wr.heap.size, 0, none⟩) 1 1 [x] rfl (one_row _ x (wf_of_u64 HWx.out) _ _) (fun e => by cases e) (by omega) (by have := HBW.out; simp; omega) ?_)
          intro a3 c3' w3 o3 b3
          have O3 := hide o3
          have B3 : Hid (Below w.heap.size w w3) := (bel_al (HBQ.out _) (Nat.le_refl _) _).trans b3
          clear o3 b3
          go_wp2
          go_roundw
          case rel => exact ⟨zs ++ [x], a3, r + 1, c3', (i + 1), k, rfl, by go_num, by go_num, by omega, by omega, by omega, O3.out, HN.out, HZN.out, B3.out⟩
          case measure => simp [intOf]; omega
        · have s1 : decide (x < y) = false := decide_eq_false hlt
          by_cases hgt : y < x
          · have s2 : decide (y < x) = true := decide_eq_true hgt
            have HN : Hid (uni l1 l2 = (zs ++ [y]) ++ uni (l1.drop i) (l2.drop (k + 1))) := by
              have := mg_gt HU1.out HU2.out HE.out (by rw [HL1.out]; exact hin) (by rw [HL2.out]; exact hkm) (by rw [HX.out, HY.out]; exact hgt)
              rwa [HY.out] at this
            have HZN : Hid (∀ z ∈ zs ++ [y], W64 z) := by
              intro z hz
              rcases List.mem_append.1 hz with hz | hz
              · exact HZ.out z hz
              · simp only [List.mem_singleton] at hz; subst hz; exact HWy.out
            clear HE HZ
            go_wp2
            have e4 : decide (m ≤ k) = false := decide_eq_false (by omega)
            have c4 : decide (i < n) = true := decide_eq_true (by omega)
            have c5 : decide (n ≤ i) = false := decide_eq_false (by omega)
            go_big_quiet (fail)
            go_wp2
            go_big_quiet (fail)
            go_wp2_with (at_builtin; refine wpList_append_words _ rfl _ _ 25 rfl w.heap.size 26 i0 Try.underlying25 HI.out.1 HI.out.2.1 HI.out.2.2.1 HI.out.2.2.2 az r cz zs rfl ((HOQ.out _).alloc _) (some ⟨wr.heap.size, 0, none⟩) 1 1 [y] rfl (one_row _ y (wf_of_u64 HWy.out) _ _) (fun e => by cases e) (by omega) (by have := HBW.out; simp; omega) ?_)
            intro a3 c3' w3 o3 b3
            have O3 := hide o3
            have B3 : Hid (Below w.heap.size w w3) := (bel_al (HBQ.out _) (Nat.le_refl _) _).trans b3
            clear o3 b3
            go_wp2
            go_roundw
            case rel => exact ⟨zs ++ [y], a3, r + 1, c3', i, (k + 1), rfl, by go_num, by go_num, by omega, by omega, by omega, O3.out, HN.out, HZN.out, B3.out⟩
            case measure => simp [intOf]; omega
          · have s2 : decide (y < x) = false := decide_eq_false hgt
            have HN : Hid (uni l1 l2 = (zs ++ [x]) ++ uni (l1.drop (i + 1)) (l2.drop (k + 1))) := by
              have := mg_eq HU1.out HU2.out HE.out (by rw [HL1.out]; exact hin) (by rw [HL2.out]; exact hkm) (by rw [HX.out, HY.out]; omega)
              rwa [HX.out] at this
            have HZN : Hid (∀ z ∈ zs ++ [x], W64 z) := by
              intro z hz
              rcases List.mem_append.1 hz with hz | hz
              · exact HZ.out z hz
              · simp only [List.mem_singleton] at hz; subst hz; exact HWx.out
            clear HE HZ
            go_wp2
            have e4 : decide (m ≤ k) = false := decide_eq_false (by omega)
            have c4 : decide (i < n) = true := decide_eq_true (by omega)
            have c5 : decide (n ≤ i) = false := decide_eq_false (by omega)
            go_big_quiet (fail)
            go_wp2
            go_big_quiet (fail)
            go_wp2_with (at_builtin; refine wpList_append_words _ rfl _ _ 25 rfl w.heap.size 26 i0 Try.underlying25 HI.out.1 HI.out.2.1 HI.out.2.2.1 HI.out.2.2.2 az r cz zs rfl ((HOQ.out _).alloc _) (some ⟨wr.heap.size, 0, none⟩) 1 1 [x] rfl (one_row _ x (wf_of_u64 HWx.out) _ _) (fun e => by cases e) (by omega) (by have := HBW.out; simp; omega) ?_)
            intro a3 c3' w3 o3 b3
            have O3 := hide o3
            have B3 : Hid (Below w.heap.size w w3) := (bel_al (HBQ.out _) (Nat.le_refl _) _).trans b3
            clear o3 b3
            go_wp2
            go_roundw
            case rel => exact ⟨zs ++ [x], a3, r + 1, c3', (i + 1), (k + 1), rfl, by go_num, by go_num, by omega, by omega, by omega, O3.out, HN.out, HZN.out, B3.out⟩
            case measure => simp [intOf]; omega
      · have c1 : ¬ (i : Int) < (n : Int) := by omega
        have c3 : (n : Int) ≤ (i : Int) := by omega
        obtain ⟨y, HY⟩ : ∃ y, Hid (l2.getD k 0 = y) := ⟨_, rfl⟩
        rw [HY.out] at f2 hy
        simp only [HY.out] at g2
        have HWy := hide hy
        obtain ⟨y0, y1⟩ := hy
        have HN : Hid (uni l1 l2 = (zs ++ [y]) ++ uni (l1.drop i) (l2.drop (k + 1))) := by
          have := mg_right HU2.out HE.out (by rw [HL1.out]; omega) (by rw [HL2.out]; exact hkm)
          rwa [HY.out] at this
        clear hcb
        have HZN : Hid (∀ z ∈ zs ++ [y], W64 z) := by
          intro z hz
          rcases List.mem_append.1 hz with hz | hz
          · exact HZ.out z hz
          · simp only [List.mem_singleton] at hz; subst hz; exact HWy.out
        clear HE HZ
        go_wp2
        have e4 : decide (m ≤ k) = false := decide_eq_false (by omega)
        have c4 : decide (i < n) = false := decide_eq_false (by omega)
        have c5 : decide (n ≤ i) = true := decide_eq_true (by omega)
        go_big_quiet (fail)
        go_wp2
        go_big_quiet (fail)
        go_wp2_with (at_builtin; refine wpList_append_words _ rfl _ _ 25 rfl w.heap.size 26 i0 Try.underlying25 HI.out.1 HI.out.2.1 HI.out.2.2.1 HI.out.2.2.2 az r cz zs rfl ((HOQ.out _).alloc _) (some ⟨wr.heap.size, 0, none⟩) 1 1 [y] rfl (one_row _ y (wf_of_u64 HWy.out) _ _) (fun e => by cases e) (by omega) (by have := HBW.out; simp; omega) ?_)
        intro a3 c3' w3 o3 b3
        have O3 := hide o3
        have B3 : Hid (Below w.heap.size w w3) := (bel_al (HBQ.out _) (Nat.le_refl _) _).trans b3
        clear o3 b3
        go_wp2
        go_roundw
        case rel => exact ⟨zs ++ [y], a3, r + 1, c3', i, (k + 1), rfl, by go_num, by go_num, by omega, by omega, by omega, O3.out, HN.out, HZN.out, B3.out⟩
        case measure => simp [intOf]; omega
    · have e1 : ¬ (k : Int) < (m : Int) := by omega
      have e3 : (m : Int) ≤ (k : Int) := by omega
      by_cases hin : i < n
      · obtain ⟨ba, oa, rfl, hca⟩ := row_at HR1.out hin
        have f1 := hca i hin wr HB.out
        have g1 := fun q => hca i hin (wr.drewN q) (HBQ.out q)
        have hx := HW1.out i
        have c1 : (i : Int) < (n : Int) := by omega
        have c2 : (0 : Int) ≤ (i : Int) := by omega
        have c3 : ¬ (n : Int) ≤ (i : Int) := by omega
        obtain ⟨x, HX⟩ : ∃ x, Hid (l1.getD i 0 = x) := ⟨_, rfl⟩
        rw [HX.out] at f1 hx
        simp only [HX.out] at g1
        have HWx := hide hx
        obtain ⟨x0, x1⟩ := hx
        have HN : Hid (uni l1 l2 = (zs ++ [x]) ++ uni (l1.drop (i + 1)) (l2.drop k)) := by
          have := mg_left HE.out (by rw [HL1.out]; exact hin) (by rw [HL2.out]; omega)
          rwa [HX.out] at this
        clear hca
        have HZN : Hid (∀ z ∈ zs ++ [x], W64 z) := by
          intro z hz
          rcases List.mem_append.1 hz with hz | hz
          · exact HZ.out z hz
          · simp only [List.mem_singleton] at hz; subst hz; exact HWx.out
        clear HE HZ
        go_wp2
        have e4 : decide (m ≤ k) = true := decide_eq_true (by omega)
        have c4 : decide (i < n) = true := decide_eq_true (by omega)
        have c5 : decide (n ≤ i) = false := decide_eq_false (by omega)
        go_big_quiet (fail)
        go_wp2_with (at_builtin; refine wpList_append_words _ rfl _ _ 25 rfl w.heap.size 26 i0 Try.underlying25 HI.out.1 HI.out.2.1 HI.out.2.2.1 HI.out.2.2.2 az r cz zs rfl ((HOQ.out _).alloc _) (some ⟨wr.heap.size, 0, none⟩) 1 1 [x] rfl (one_row _ x (wf_of_u64 HWx.out) _ _) (fun e => by cases e) (by omega) (by have := HBW.out; simp; omega) ?_)
        intro a3 c3' w3 o3 b3
        have O3 := hide o3
        have B3 : Hid (Below w.heap.size w w3) := (bel_al (HBQ.out _) (Nat.le_refl _) _).trans b3
        clear o3 b3
        go_wp2
        go_roundw
        case rel => exact ⟨zs ++ [x], a3, r + 1, c3', (i + 1), k, rfl, by go_num, by go_num, by omega, by omega, by omega, O3.out, HN.out, HZN.out, B3.out⟩
        case measure => simp [intOf]; omega
      · have c1 : ¬ (i : Int) < (n : Int) := by omega
        have HEnd : Hid ((uni l1 l2).take 1024 = zs) := mg_end HE.out (by rw [HL1.out]; omega) (by rw [HL2.out]; omega) (by rw [HRL.out]; omega)
        have HRow := hide (OwnU.rowU HO.out (by omega) HZ.out)
        clear HE HZ
        go_wp2
        go_ret
        rw [HEnd.out]
        exact ⟨az, cz, by rw [HRL.out]; rfl, by rw [HRL.out]; exact HRow.out, by rw [HRL.out]; exact HO.out, HB.out⟩
theorem refmerge_any (a b : Option Addr) (n m ca cb : Nat) (l1 l2 : List Int) (w : World) (hr1 : Row .u64 w a n l1) (hr2 : Row .u64 w b m l2) (hup1 : Up l1) (hup2 : Up l2) (hn : n ≤ 1024) (hm : m ≤ 1024) :
    Calls Try.prog 40 #[.slice a n ca, .slice b m cb] w fun e w' => BackU w w' e a ((uni l1 l2).take 1024) := by
  refine (refmerge_own a b n m ca cb l1 l2 w hr1 hr2 hup1 hup2 hn hm).mono ?_
  rintro e w' ⟨a', c', rfl, h1, h2, h3⟩
  exact ⟨a', c', rfl, h1, (Own.capped h2).1, (Own.capped h2).2, h3, Or.inr (fun x hx => own_lies h2 hx)⟩
end Go.Proofs.Ytadcaonkmncgoaa
