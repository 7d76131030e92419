/-
  What the laws of layer 15 ask of cal, one contract for each function (each is paid where the code is walked); the document's example.
  Conditions: as each theorem says.
-/
import Derived.Test.YtejflcfcbjadhaaDoorCalM
import Derived.Test.YtejflcfcbjadhaaDoorCalR
namespace Go.Proofs.YtejflcfcbjadhaaDoor
open Go.RowKit
set_option maxRecDepth 20000

structure CaChk : Prop where
  chk : ∀ (c : Cf) (w : World), CfW c → Calls Tryd.prog 9 #[cfV c] w fun e w' => e = .returned (.bool (chkC c)) ∧ Below w.heap.size w w'
structure CaRes : Prop where
  res : ∀ (l : Int) (w : World), TbW w → (Lit.int .i64 l).wf = true → Calls Tryd.prog 11 #[.int .i64 l] w fun e w' => e = .returned (.int .i64 (resC l)) ∧ Below w.heap.size w w'
structure CaFlo : Prop where
  flo : ∀ (a l : Int) (w : World), TbW w → (Lit.int .i64 a).wf = true → (Lit.int .i64 l).wf = true → Calls Tryd.prog 14 #[.int .i64 a, .int .i64 l] w fun e w' => e = .returned (.int .i64 (floorC a l)) ∧ Below w.heap.size w w'
structure CaHor : Prop where
  hor : ∀ (c : Cf) (now l : Int) (w : World), CfW c → (Lit.int .i64 now).wf = true → (Lit.int .i64 l).wf = true → Calls Tryd.prog 17 #[cfV c, .int .i64 now, .int .i64 l] w fun e w' => ∃ x, e = .returned (.int .i64 x) ∧ (okC c → 0 ≤ now → now ≤ 1099511627776 → x = horC c now l) ∧ Below w.heap.size w w'
structure CaLev : Prop where
  lev : ∀ (c : Cf) (now day : Int) (w : World), CfW c → (Lit.int .i64 now).wf = true → (Lit.int .i64 day).wf = true → Calls Tryd.prog 16 #[cfV c, .int .i64 now, .int .i64 day] w fun e w' => ∃ x, e = .returned (.int .i64 x) ∧ (okC c → 0 ≤ now → now ≤ 1099511627776 → x = levC c now day) ∧ Below w.heap.size w w'
structure CaCoa : Prop where
  coa : ∀ (s t : Int) (w : World), TbW w → (Lit.int .i64 s).wf = true → (Lit.int .i64 t).wf = true → Calls Tryd.prog 20 #[.int .i64 s, .int .i64 t] w fun e w' => e = .returned (.int .i64 (coaC s t)) ∧ Below w.heap.size w w'
/-- The same, where the config may be and now is within bounds. -/
theorem CaHor.at' (I : CaHor) (c : Cf) (now l : Int) (w : World) (hc : CfW c) (hl : (Lit.int .i64 l).wf = true) (ok : okC c) (h0 : 0 ≤ now) (h1 : now ≤ 1099511627776) :
    Calls Tryd.prog 17 #[cfV c, .int .i64 now, .int .i64 l] w fun e w' => e = .returned (.int .i64 (horC c now l)) ∧ Below w.heap.size w w' :=
  (I.hor c now l w hc (by simp [Lit.wf, IntKind.min, IntKind.max, IntKind.signed, IntKind.bits]; omega) hl).mono fun e w' h => by
    obtain ⟨x, h2, h3, h4⟩ := h
    rw [← h3 ok h0 h1]
    exact ⟨h2, h4⟩
theorem CaLev.at' (I : CaLev) (c : Cf) (now day : Int) (w : World) (hc : CfW c) (hl : (Lit.int .i64 day).wf = true) (ok : okC c) (h0 : 0 ≤ now) (h1 : now ≤ 1099511627776) :
    Calls Tryd.prog 16 #[cfV c, .int .i64 now, .int .i64 day] w fun e w' => e = .returned (.int .i64 (levC c now day)) ∧ Below w.heap.size w w' :=
  (I.lev c now day w hc (by simp [Lit.wf, IntKind.min, IntKind.max, IntKind.signed, IntKind.bits]; omega) hl).mono fun e w' h => by
    obtain ⟨x, h2, h3, h4⟩ := h
    rw [← h3 ok h0 h1]
    exact ⟨h2, h4⟩
theorem wf64 {x : Int} (h0 : -9223372036854775808 ≤ x) (h1 : x ≤ 9223372036854775807) : (Lit.int .i64 x).wf = true := by
  simp [Lit.wf, IntKind.min, IntKind.max, IntKind.signed, IntKind.bits]
  omega

/-- The example's config. -/
def exC : Cf := ⟨0, 1, 2, 3, 4⟩
theorem exC_ok : okC exC := by decide
theorem exC_w : CfW exC := ⟨by decide, by decide, by decide, by decide, by decide⟩
theorem conf_any (w : World) : Calls Tryd.prog 26 #[] w fun e w' => e = .returned (.agg #[.int .i64 0, .int .i64 1, .int .i64 2, .int .i64 3, .int .i64 4]) ∧ Below w.heap.size w w' := by
  have BA := hide ((Below.refl w.heap.size w).alloc (Nat.le_refl _) (.cells #[.int .i64 0, .int .i64 1, .int .i64 2, .int .i64 3, .int .i64 4] 24))
  go_enter Tryd.func26, Tryd.ntmps26
  go_wp2
  refine bodyPost_ret (v := .agg #[.int .i64 0, .int .i64 1, .int .i64 2, .int .i64 3, .int .i64 4]) ?_ rfl ?_
  · simp [results, Tryd.results26, go_sem]
  · exact ⟨rfl, BA.out⟩

set_option maxHeartbeats 4000000 in
theorem awakeC_of (R : CaRes) (H : CaHor) (L : CaLev) (w : World) (tb : TbW w) : Calls Tryd.prog 13 #[] w fun e w' => e = .returned (.bool true) ∧ Below w.heap.size w w' := by
  have HC : Hid (∀ u, Calls Tryd.prog 26 #[] u fun e w' => e = .returned (.agg #[.int .i64 0, .int .i64 1, .int .i64 2, .int .i64 3, .int .i64 4]) ∧ Below u.heap.size u w') := fun u => conf_any u
  have HH : Hid (∀ u, Calls Tryd.prog 17 #[.agg #[.int .i64 0, .int .i64 1, .int .i64 2, .int .i64 3, .int .i64 4], .int .i64 86405, .int .i64 0] u fun e w' => e = .returned (.int .i64 77760) ∧ Below u.heap.size u w') := fun u => H.at' exC 86405 0 u exC_w (by decide) exC_ok (by decide) (by decide)
  have H9 : Hid (∀ u, Calls Tryd.prog 16 #[.agg #[.int .i64 0, .int .i64 1, .int .i64 2, .int .i64 3, .int .i64 4], .int .i64 86405, .int .i64 9] u fun e w' => e = .returned (.int .i64 0) ∧ Below u.heap.size u w') := fun u => L.at' exC 86405 9 u exC_w (by decide) exC_ok (by decide) (by decide)
  have H8 : Hid (∀ u, Calls Tryd.prog 16 #[.agg #[.int .i64 0, .int .i64 1, .int .i64 2, .int .i64 3, .int .i64 4], .int .i64 86405, .int .i64 8] u fun e w' => e = .returned (.int .i64 1) ∧ Below u.heap.size u w') := fun u => L.at' exC 86405 8 u exC_w (by decide) exC_ok (by decide) (by decide)
  have H6 : Hid (∀ u, Calls Tryd.prog 16 #[.agg #[.int .i64 0, .int .i64 1, .int .i64 2, .int .i64 3, .int .i64 4], .int .i64 86405, .int .i64 6] u fun e w' => e = .returned (.int .i64 3) ∧ Below u.heap.size u w') := fun u => L.at' exC 86405 6 u exC_w (by decide) exC_ok (by decide) (by decide)
  have H5 : Hid (∀ u, Calls Tryd.prog 16 #[.agg #[.int .i64 0, .int .i64 1, .int .i64 2, .int .i64 3, .int .i64 4], .int .i64 86405, .int .i64 5] u fun e w' => e = .returned (.int .i64 4) ∧ Below u.heap.size u w') := fun u => L.at' exC 86405 5 u exC_w (by decide) exC_ok (by decide) (by decide)
  have HR : Hid (∀ u, Below w.heap.size w u → Calls Tryd.prog 11 #[.int .i64 1] u fun e w' => e = .returned (.int .i64 6) ∧ Below u.heap.size u w') := fun u b => R.res 1 u (tb.bel b) (by decide)
  have B0 : Hid (Below w.heap.size w w) := Below.refl _ _
  clear R H L tb
  go_enter Tryd.func13, Tryd.ntmps13
  go_wp2_with fail
  with_reducible refine (HC.out _).mono ?_
  rintro e u ⟨rfl, b⟩
  have B1 := hide (bel_to B0.out (Nat.le_refl _) b)
  clear b B0
  go_wp2_with fail
  with_reducible refine (HH.out _).mono ?_
  rintro e u ⟨rfl, b⟩
  have B2 := hide (bel_to B1.out (Nat.le_refl _) b)
  clear b B1
  go_wp2_with fail
  with_reducible refine (HC.out _).mono ?_
  rintro e u ⟨rfl, b⟩
  have B3 := hide (bel_to B2.out (Nat.le_refl _) b)
  clear b B2
  go_wp2_with fail
  with_reducible refine (H9.out _).mono ?_
  rintro e u ⟨rfl, b⟩
  have B4 := hide (bel_to B3.out (Nat.le_refl _) b)
  clear b B3
  go_wp2_with fail
  with_reducible refine (HC.out _).mono ?_
  rintro e u ⟨rfl, b⟩
  have B5 := hide (bel_to B4.out (Nat.le_refl _) b)
  clear b B4
  go_wp2_with fail
  with_reducible refine (H8.out _).mono ?_
  rintro e u ⟨rfl, b⟩
  have B6 := hide (bel_to B5.out (Nat.le_refl _) b)
  clear b B5
  go_wp2_with fail
  with_reducible refine (HC.out _).mono ?_
  rintro e u ⟨rfl, b⟩
  have B7 := hide (bel_to B6.out (Nat.le_refl _) b)
  clear b B6
  go_wp2_with fail
  with_reducible refine (H6.out _).mono ?_
  rintro e u ⟨rfl, b⟩
  have B8 := hide (bel_to B7.out (Nat.le_refl _) b)
  clear b B7
  go_wp2_with fail
  with_reducible refine (HC.out _).mono ?_
  rintro e u ⟨rfl, b⟩
  have B9 := hide (bel_to B8.out (Nat.le_refl _) b)
  clear b B8
  go_wp2_with fail
  with_reducible refine (H5.out _).mono ?_
  rintro e u ⟨rfl, b⟩
  have B10 := hide (bel_to B9.out (Nat.le_refl _) b)
  clear b B9
  go_wp2_with fail
  with_reducible refine (HR.out _ B10.out).mono ?_
  rintro e u ⟨rfl, b⟩
  have B11 := hide (bel_to B10.out (Nat.le_refl _) b)
  clear b B10
  go_wp2
  go_ret
  exact ⟨rfl, B11.out⟩
end Go.Proofs.YtejflcfcbjadhaaDoor
