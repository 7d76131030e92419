/-
  The laws' awake over matchers: the document's examples hold: a contract, for every world.
  Conditions: none.
-/
import Derived.Test.YthebcmkainplnaaMatF
import Derived.Test.YthebcmkainplnaaLabC
namespace Go.Proofs.Ythebcmkainplnaa
open Go.RowKit
set_option maxRecDepth 20000

def exIs : Mt := .mk 1 ⟨#[97]⟩ ⟨#[120]⟩ [] []
def exNot : Mt := .mk 7 .empty .empty [] [exIs]
def exAnd : Mt := .mk 5 .empty .empty [] [zeroM, exNot]
def exIsnt : Mt := .mk 2 ⟨#[97]⟩ ⟨#[49]⟩ [] []
def exL : List Lb := [(⟨#[98]⟩, ⟨#[50]⟩)]
theorem exAnd_chk : chkM exAnd = true := by decide +kernel
theorem exIsnt_chk : chkM exIsnt = true := by decide +kernel
theorem exAnd_text : bar (textM exAnd) = ⟨#[38, 40, 42, 44, 33, 40, 97, 61, 34, 120, 34, 41, 41]⟩ := by decide +kernel
theorem exAnd_eval : evalM exL exAnd = true := by decide +kernel
theorem exIsnt_eval : evalM exL exIsnt = true := by decide +kernel
theorem exIsnt_see (w : World) : SeeM (fun _ => True) w exIsnt ⟨2, ⟨#[97]⟩, ⟨#[49]⟩, none, 0, 0, none, 0, 0⟩ := by
  rw [seeM_iff]
  refine ⟨rfl, rfl, rfl, ⟨by decide, by decide, by decide, by decide, fun _ => rfl, by decide, by decide, fun _ => rfl⟩, ⟨rfl, by decide, ?_, Or.inl rfl⟩, rfl, Or.inl rfl⟩
  intro s hs
  cases hs
theorem exIs_see (w : World) : SeeM (fun _ => True) w exIs ⟨1, ⟨#[97]⟩, ⟨#[120]⟩, none, 0, 0, none, 0, 0⟩ := by
  rw [seeM_iff]
  refine ⟨rfl, rfl, rfl, ⟨by decide, by decide, by decide, by decide, fun _ => rfl, by decide, by decide, fun _ => rfl⟩, ⟨rfl, by decide, ?_, Or.inl rfl⟩, rfl, Or.inl rfl⟩
  intro s hs
  cases hs
/-- A row of matchers that lie one behind the other shows a matcher that has them for kids. -/
theorem see_kids {S : Nat → Prop} {w : World} {op : Int} {ks : List Mt} {hs : List Hm} {b n : Nat} (ho : (Lit.int .i64 op).wf = true) (hn : ks.length = n) (hb : n * 88 ≤ 140737488355328) (hS : S b) (h : ∀ i k, ks[i]? = some k → ∃ h', hs[i]? = some h' ∧ five w b (i * 5) h' ∧ SeeM S w k h') :
    SeeM S w (.mk op .empty .empty [] ks) ⟨op, ⟨#[]⟩, ⟨#[]⟩, none, 0, 0, some ⟨b, 0, none⟩, n, n⟩ := by
  rw [seeM_iff]
  refine ⟨rfl, rfl, rfl, ⟨ho, by show (0 : Nat) ≤ _; decide, by show (0 : Nat) ≤ _; decide, Nat.le_refl _, fun _ => rfl, hb, Nat.le_refl _, fun h => by cases h⟩, ⟨rfl, by show (0 : Nat) * 16 ≤ _; omega, ?_, Or.inl rfl⟩, hn, Or.inr ⟨b, 0, rfl, hS, fun i k hi => ?_⟩⟩
  · intro s hs
    cases hs
  · obtain ⟨h', -, h2, h3⟩ := h i k hi
    exact ⟨h', by rw [Nat.zero_add]; exact h2, h3⟩

/-- The example's matcher, as the call lays it. -/
theorem exAnd_see (w : World) : SeeM (fun _ => True) ((((w.alloc (.cells #[.string ⟨#[98]⟩, .string ⟨#[50]⟩] 53)).alloc (.cells #[.int .i64 1, .string ⟨#[97]⟩, .string ⟨#[120]⟩, .slice none 0 0, .slice none 0 0] 25)).alloc (.cells #[.int .i64 0, .string ⟨#[]⟩, .string ⟨#[]⟩, .slice none 0 0, .slice none 0 0, .int .i64 7, .string ⟨#[]⟩, .string ⟨#[]⟩, .slice none 0 0, .slice (some ⟨w.heap.size + 1, 0, none⟩) 1 1] 25)).alloc (.cells #[.int .i64 5, .string ⟨#[]⟩, .string ⟨#[]⟩, .slice none 0 0, .slice (some ⟨w.heap.size + 1 + 1, 0, none⟩) 2 2] 25)) exAnd ⟨5, ⟨#[]⟩, ⟨#[]⟩, none, 0, 0, some ⟨w.heap.size + 1 + 1, 0, none⟩, 2, 2⟩ := by
  refine see_kids (hs := [⟨0, ⟨#[]⟩, ⟨#[]⟩, none, 0, 0, none, 0, 0⟩, ⟨7, ⟨#[]⟩, ⟨#[]⟩, none, 0, 0, some ⟨w.heap.size + 1, 0, none⟩, 1, 1⟩]) (by decide) rfl (by decide) trivial ?_
  intro i k hi
  match i, hi with
  | 0, hi =>
    obtain rfl : zeroM = k := by simpa using hi
    refine ⟨_, rfl, ?_, seeM_zero _ _⟩
    intro j v hj
    match j, hj with
    | 0, hj => simp [Hm.cells] at hj; subst hj; simp [go_sem]
    | 1, hj => simp [Hm.cells] at hj; subst hj; simp [go_sem]
    | 2, hj => simp [Hm.cells] at hj; subst hj; simp [go_sem]
    | 3, hj => simp [Hm.cells] at hj; subst hj; simp [go_sem]
    | 4, hj => simp [Hm.cells] at hj; subst hj; simp [go_sem]
  | 1, hi =>
    obtain rfl : exNot = k := by simpa using hi
    refine ⟨_, rfl, ?_, ?_⟩
    · intro j v hj
      match j, hj with
      | 0, hj => simp [Hm.cells] at hj; subst hj; simp [go_sem]
      | 1, hj => simp [Hm.cells] at hj; subst hj; simp [go_sem]
      | 2, hj => simp [Hm.cells] at hj; subst hj; simp [go_sem]
      | 3, hj => simp [Hm.cells] at hj; subst hj; simp [go_sem]
      | 4, hj => simp [Hm.cells] at hj; subst hj; simp [go_sem]
    · refine see_kids (hs := [⟨1, ⟨#[97]⟩, ⟨#[120]⟩, none, 0, 0, none, 0, 0⟩]) (by decide) rfl (by decide) trivial ?_
      intro i k hi
      match i, hi with
      | 0, hi =>
        obtain rfl : exIs = k := by simpa using hi
        refine ⟨_, rfl, ?_, exIs_see _⟩
        intro j v hj
        match j, hj with
        | 0, hj => simp [Hm.cells] at hj; subst hj; simp [go_sem]
        | 1, hj => simp [Hm.cells] at hj; subst hj; simp [go_sem]
        | 2, hj => simp [Hm.cells] at hj; subst hj; simp [go_sem]
        | 3, hj => simp [Hm.cells] at hj; subst hj; simp [go_sem]
        | 4, hj => simp [Hm.cells] at hj; subst hj; simp [go_sem]
      | i + 1, hi => simp at hi
  | i + 2, hi => simp at hi

set_option maxHeartbeats 2000000 in
theorem awakeM_any (w : World) :
    Calls Try.prog 10 #[] w fun e w' => e = .returned (.bool true) ∧ Below w.heap.size w w' := by
  obtain ⟨W, hW⟩ : ∃ W, Hid (((((w.alloc (.cells #[.string ⟨#[98]⟩, .string ⟨#[50]⟩] 53)).alloc (.cells #[.int .i64 1, .string ⟨#[97]⟩, .string ⟨#[120]⟩, .slice none 0 0, .slice none 0 0] 25)).alloc (.cells #[.int .i64 0, .string ⟨#[]⟩, .string ⟨#[]⟩, .slice none 0 0, .slice none 0 0, .int .i64 7, .string ⟨#[]⟩, .string ⟨#[]⟩, .slice none 0 0, .slice (some ⟨w.heap.size + 1, 0, none⟩) 1 1] 25)).alloc (.cells #[.int .i64 5, .string ⟨#[]⟩, .string ⟨#[]⟩, .slice none 0 0, .slice (some ⟨w.heap.size + 1 + 1, 0, none⟩) 2 2] 25)) = W) := ⟨_, rfl⟩
  have SA := hide (exAnd_see w)
  rw [hW.out] at SA
  have BX : Hid (BoxM W (w.heap.size + 1 + 1 + 1) ⟨5, ⟨#[]⟩, ⟨#[]⟩, none, 0, 0, some ⟨w.heap.size + 1 + 1, 0, none⟩, 2, 2⟩) := by
    rw [← hW.out]
    have := boxM_new (((w.alloc (.cells #[.string ⟨#[98]⟩, .string ⟨#[50]⟩] 53)).alloc (.cells #[.int .i64 1, .string ⟨#[97]⟩, .string ⟨#[120]⟩, .slice none 0 0, .slice none 0 0] 25)).alloc (.cells #[.int .i64 0, .string ⟨#[]⟩, .string ⟨#[]⟩, .slice none 0 0, .slice none 0 0, .int .i64 7, .string ⟨#[]⟩, .string ⟨#[]⟩, .slice none 0 0, .slice (some ⟨w.heap.size + 1, 0, none⟩) 1 1] 25)) ⟨5, ⟨#[]⟩, ⟨#[]⟩, none, 0, 0, some ⟨w.heap.size + 1 + 1, 0, none⟩, 2, 2⟩
    rwa [show (((w.alloc (.cells #[.string ⟨#[98]⟩, .string ⟨#[50]⟩] 53)).alloc (.cells #[.int .i64 1, .string ⟨#[97]⟩, .string ⟨#[120]⟩, .slice none 0 0, .slice none 0 0] 25)).alloc (.cells #[.int .i64 0, .string ⟨#[]⟩, .string ⟨#[]⟩, .slice none 0 0, .slice none 0 0, .int .i64 7, .string ⟨#[]⟩, .string ⟨#[]⟩, .slice none 0 0, .slice (some ⟨w.heap.size + 1, 0, none⟩) 1 1] 25)).heap.size = w.heap.size + 1 + 1 + 1 by simp] at this
  have LW : Hid (Below w.heap.size w W) := by
    rw [← hW.out]
    exact bel_al (bel_al (bel_al (bel_al (Below.refl _ _) (Nat.le_refl _) _) (Nat.le_refl _) _) (Nat.le_refl _) _) (Nat.le_refl _) _
  have RL : Hid (RowL W (some ⟨w.heap.size, 0, none⟩) 1 exL) := by
    rw [← hW.out]
    exact (((lab_row1 w ⟨#[98]⟩ ⟨#[50]⟩ (by decide) (by decide)).alloc _).alloc _).alloc _
  have T1 := hide (fun u (hu : Below W.heap.size W u) => evalT_any exL (fun _ => True) exIsnt ⟨2, ⟨#[97]⟩, ⟨#[49]⟩, none, 0, 0, none, 0, 0⟩ (some ⟨w.heap.size, 0, none⟩) 1 1 u (exIsnt_see u) exIsnt_chk (RL.out.below hu (Nat.le_refl _)))
  have T2 := hide (fun u (hu : Below W.heap.size W u) => textT_any (fun _ => True) exAnd _ u (SA.out.below hu) exAnd_chk)
  have T3 := hide (fun u (hu : Below W.heap.size W u) => chkM_any (fun _ => True) exAnd _ u (SA.out.below hu))
  have T4 := hide (fun u (hu : Below W.heap.size W u) => evalT_any exL (fun _ => True) exAnd _ (some ⟨w.heap.size, 0, none⟩) 1 1 u (SA.out.below hu) exAnd_chk (RL.out.below hu (Nat.le_refl _)))
  rw [exIsnt_eval] at T1
  rw [exAnd_text] at T2
  rw [exAnd_chk] at T3
  rw [exAnd_eval] at T4
  dsimp only at T1 T2 T3 T4
  clear SA RL
  go_enter Try.func10, Try.ntmps10
  go_upto_region 3 with fail
  rw [hW.out]
  clear hW
  go_wp2_with fail
  with_reducible refine (T1.out _ (Below.refl _ _)).mono ?_
  rintro e v1 ⟨rfl, k1⟩
  have K1 := hide k1
  have B1 := hide (BX.out.block (k1.block _ BX.out.lt))
  obtain ⟨b0, b1, b2, b3, b4, _⟩ := B1.out.all
  dsimp only at b0 b1 b2 b3 b4
  clear k1 T1
  go_wp2_with fail
  with_reducible refine (T2.out _ K1.out).mono ?_
  rintro e v2 ⟨rfl, k2⟩
  have K2 := hide (bel_to K1.out (Nat.le_refl _) k2)
  have B2 := hide (B1.out.block (k2.block _ B1.out.lt))
  clear b0 b1 b2 b3 b4 k2 T2 B1 K1
  obtain ⟨b0, b1, b2, b3, b4, _⟩ := B2.out.all
  dsimp only at b0 b1 b2 b3 b4
  go_wp2_with fail
  with_reducible refine (T3.out _ K2.out).mono ?_
  rintro e v3 ⟨rfl, k3⟩
  have K3 := hide (bel_to K2.out (Nat.le_refl _) k3)
  have B3 := hide (B2.out.block (k3.block _ B2.out.lt))
  clear b0 b1 b2 b3 b4 k3 T3 B2 K2
  obtain ⟨b0, b1, b2, b3, b4, _⟩ := B3.out.all
  dsimp only at b0 b1 b2 b3 b4
  go_wp2_with fail
  with_reducible refine (T4.out _ K3.out).mono ?_
  rintro e v4 ⟨rfl, k4⟩
  have K4 := hide (bel_to K3.out (Nat.le_refl _) k4)
  have L4 := hide (bel_to LW.out (Nat.le_refl _) K4.out)
  clear b0 b1 b2 b3 b4 k4 T4 B3 K3
  go_wp2
  go_ret
  exact ⟨rfl, L4.out⟩
end Go.Proofs.Ythebcmkainplnaa
