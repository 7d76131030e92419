/-
  The document's example of layer 14 holds (awake), over what is asked of the index.
  Conditions: the index does what is asked.
-/
import Derived.Test.YtpffhpnmbpjifaaGreatIdxL
namespace Go.Proofs.YtpffhpnmbpjifaaGreat
open Go.RowKit
set_option maxRecDepth 20000

def exA : List Lb := [(⟨#[97]⟩, ⟨#[49]⟩)]
theorem exA_chk : chkL exA = true := by decide +kernel
theorem exA_id : idN [] exA = 0 ∧ idE [] exA = 0 ∧ idL [] exA = [exA] := id_new exA_chk rfl (by decide)
theorem exA_post : postX [exA] ⟨#[98]⟩ ⟨#[]⟩ = [0] := by decide +kernel
theorem rowA (w : World) : RowL (w.alloc (.cells #[.string ⟨#[97]⟩, .string ⟨#[49]⟩] 52)) (some ⟨w.heap.size, 0, none⟩) 1 exA := by
  refine ⟨rfl, by decide, ?_, Or.inr ⟨_, _, rfl, ?_⟩⟩
  · intro x hx
    simp only [exA, List.mem_cons, List.not_mem_nil, or_false] at hx
    subst hx
    exact ⟨by decide, by decide⟩
  · intro i x hx
    match i, hx with
    | 0, hx => obtain rfl : _ = x := by simpa [exA] using hx
               exact ⟨by simp [go_sem], by simp [go_sem]⟩
    | i + 1, hx => simp [exA] at hx
theorem one_sl (w : World) (k : Int) (hk : (Lit.int .i64 k).wf = true) : SlI (w.alloc (.cells #[.int .i64 k] 3)) (some ⟨w.heap.size, 0, none⟩) 1 1 [k] := ⟨(one_introw w k _).2 hk, Nat.le_refl _, fun h => by cases h⟩

set_option maxHeartbeats 2000000 in
theorem awakeX_of {At : World → Nat → (Nat → Prop) → Lx → Prop} (I : IxI At) (w : World) :
    Calls Tryz.prog 7 #[] w fun e w' => e = .returned (.bool true) ∧ Below w.heap.size w w' := by
  have NW := hide (I.new w)
  have HI := hide I
  clear I
  go_enter Tryz.func7, Tryz.ntmps7
  go_wp2_with fail
  with_reducible refine NW.out.mono ?_
  rintro e u1 ⟨g, rfl, S, h1, h2, h3⟩
  obtain ⟨u2, hu2⟩ : ∃ u2, Hid (u1.alloc (.cells #[.string ⟨#[97]⟩, .string ⟨#[49]⟩] 52) = u2) := ⟨_, rfl⟩
  have B2 : Hid (Below u1.heap.size u1 u2) := by rw [← hu2.out]; exact (Below.refl _ _).alloc (Nat.le_refl _) _
  have RA : Hid (RowL u2 (some ⟨u1.heap.size, 0, none⟩) 1 exA) := by rw [← hu2.out]; exact rowA u1
  have C1 := hide (HI.out.id g S [] (some ⟨u1.heap.size, 0, none⟩) 1 1 exA u2 (HI.out.below h1 B2.out) good_nil (by decide) RA.out (by decide) (fun h => by cases h) (fun b off e _ hS => by
    simp only [Option.some.injEq, Addr.mk.injEq, and_true] at e
    have := HI.out.lt h1 b hS
    omega))
  rw [exA_id.1, exA_id.2.1, exA_id.2.2] at C1
  have HS := hide h2
  have BW := hide (bel_to h3 (Nat.le_refl _) B2.out)
  clear h1 h2 h3 NW RA
  go_wp2_with fail
  rw [hu2.out]
  with_reducible refine C1.out.mono ?_
  rintro e u3 ⟨rfl, S', a1, a2, a3⟩
  have B3 : Hid (Below w.heap.size w u3) := BW.out.trans (a3.below BW.out.size (fun j hj h => by have := HS.out j h; omega))
  have A1 := hide a1
  have PO := hide (HI.out.post g S' [exA] ⟨#[98]⟩ ⟨#[]⟩ u3 a1 (by decide) (by decide))
  rw [exA_post] at PO
  clear a1 a2 a3 C1 hu2 B2 BW
  go_wp2_with fail
  with_reducible refine PO.out.mono ?_
  rintro e u4 ⟨a4, n4, c4, rfl, o4, b4⟩
  obtain ⟨u5, hu5⟩ : ∃ u5, Hid (u4.alloc (.cells #[.int .i64 0] 3) = u5) := ⟨_, rfl⟩
  have B5 : Hid (Below u4.heap.size u4 u5) := by rw [← hu5.out]; exact (Below.refl _ _).alloc (Nat.le_refl _) _
  have S5 : Hid (SlI u5 (some ⟨u4.heap.size, 0, none⟩) 1 1 [0]) := by rw [← hu5.out]; exact one_sl u4 0 (by decide)
  have R5 := hide ((MineI.sl o4 (by have := o4.len; simp at this; omega) (by decide)).below B5.out (Nat.le_refl _))
  have BW5 := hide (bel_to (bel_to B3.out (Nat.le_refl _) b4) (Nat.le_refl _) B5.out)
  have A5 := hide (HI.out.below (HI.out.below A1.out b4) B5.out)
  have SA := hide (samei_any a4 n4 c4 [0] _ 1 1 [0] u5 R5.out S5.out)
  rw [decide_eq_true rfl] at SA
  clear o4 b4 PO A1 B3
  go_wp2_with fail
  rw [hu5.out]
  with_reducible refine SA.out.mono ?_
  rintro e u6 ⟨rfl, b6⟩
  have BW6 := hide (bel_to BW5.out (Nat.le_refl _) b6)
  have LN := hide (HI.out.len g S' [exA] u6 (HI.out.below A5.out b6))
  have hl1 : ([exA].length : Int) = 1 := rfl
  rw [hl1] at LN
  clear b6 SA hu5 hl1
  go_wp2_with fail
  with_reducible refine LN.out.mono ?_
  rintro e u7 ⟨rfl, b7⟩
  have BW7 := hide (bel_to BW6.out (Nat.le_refl _) b7)
  clear b7 LN
  go_wp2
  go_ret
  exact ⟨rfl, BW7.out⟩
end Go.Proofs.YtpffhpnmbpjifaaGreat
