/-
  The document's examples of layer 4 (the law's own 'awake'): a contract, for every world.
  Conditions: none.
-/
import Derived.Test.YtbpmmeagpefglaaVintD
namespace Go.Proofs.Ytbpmmeagpefglaa
open Go.RowKit

theorem fits_wf {zs : List Int} (h : Bytes8 zs) : ∀ z ∈ zs, (Lit.int .u8 z).wf = true := fun z hz => wf_of_u8 (h z hz).1 (h z hz).2
theorem words_wf {zs : List Int} (h : ∀ z ∈ zs, W64 z) : ∀ z ∈ zs, (Lit.int .u64 z).wf = true := fun z hz => wf_of_u64 (h z hz)

/-- 'string(x)' of bytes of the call's own. -/
theorem mine_string {w : World} {base n cap : Nat} {a : Option Addr} {zs : List Int} (h : Mine w base a n cap zs) (hn : n ≤ 281474976710656) (hz : Bytes8 zs) :
    (convert 25 9 (.slice a n cap)).run Try.prog w = .ok (.string (strOfNums zs)) w := row_string (h.row hn (fits_wf hz))

def two : Obj := .cells #[.int .u8 128, .int .u8 0] 5
theorem two_row (w : World) : Row .u8 (w.alloc two) (some ⟨w.heap.size, 0, none⟩) 2 [128, 0] := by
  refine ⟨rfl, by omega, by decide, Or.inr ⟨w.heap.size, 0, rfl, fun i hi => ?_⟩⟩
  unfold two
  rw [World.cell?_alloc_mark, Nat.zero_add]
  match i, hi with
  | 0, _ => rfl
  | 1, _ => rfl
  | n + 2, h => omega
def three : Obj := .cells #[.int .u64 5, .int .u64 6, .int .u64 9] 27
theorem three_row (w : World) : Row .u64 (w.alloc three) (some ⟨w.heap.size, 0, none⟩) 3 [5, 6, 9] := by
  refine ⟨rfl, by omega, by decide, Or.inr ⟨w.heap.size, 0, rfl, fun i hi => ?_⟩⟩
  unfold three
  rw [World.cell?_alloc_mark, Nat.zero_add]
  match i, hi with
  | 0, _ => rfl
  | 1, _ => rfl
  | 2, _ => rfl
  | n + 3, h => omega

theorem ex_get : getS [128, 0] 0 = none := by decide
theorem ex_put : putS 128 = [128, 1] := by decide
theorem ex_rise : putR [5, 6, 9] = [3, 5, 0, 2] := by decide
theorem ex_a : numsOf ⟨#[97]⟩ = [97] := by decide
theorem ex_text : putT [97] = [1, 97] := by decide
theorem ex_s1 : strOfNums [128, 1] = ⟨#[128, 1]⟩ := by decide
theorem ex_s2 : strOfNums [3, 5, 0, 2] = ⟨#[3, 5, 0, 2]⟩ := by decide
theorem ex_s3 : strOfNums [1, 97] = ⟨#[1, 97]⟩ := by decide

set_option maxHeartbeats 1000000 in
theorem awake_any (w : World) :
    Calls Try.prog 9 #[] w fun e w' => e = .returned (.bool true) ∧ Below w.heap.size w w' := by
  have G := hide (get_any 0 (some ⟨w.heap.size, 0, none⟩) 2 2 [128, 0] (w.alloc two) (by decide) (by omega) (two_row w))
  rw [ex_get] at G
  simp only [gotE] at G
  have P1 := hide (fun w1 => put_any 128 none 0 0 [] w1 ⟨by decide, by decide⟩ (by omega) (by omega) (nil_row .u8 w1 none))
  rw [ex_put] at P1
  have P2 := hide (fun (w1 : World) => putrise_any none 0 0 [] (some ⟨w1.heap.size, 0, none⟩) 3 3 [5, 6, 9] (w1.alloc three) (by omega) (by omega) (nil_row .u8 _ none) (three_row w1))
  rw [ex_rise] at P2
  have P3 := hide (fun w1 => puttext_any ⟨#[97]⟩ none 0 0 [] w1 (by decide) (by omega) (nil_row .u8 w1 none))
  rw [ex_a, ex_text] at P3
  go_enter Try.func9, Try.ntmps9
  go_wp2_with fail
  refine G.out.mono ?_
  rintro e w0 ⟨rfl, rfl⟩
  go_wp2_with fail
  refine (P1.out _).mono ?_
  rintro e w1 ⟨a1, c1, rfl, h1, b1⟩
  have hs1 : (convert 25 9 (.slice a1 2 c1)).run Try.prog w1 = _ := mine_string h1 (by decide) (by unfold Bytes8; decide)
  rw [List.nil_append, ex_s1] at hs1
  have B1 := hide b1
  clear h1 b1
  go_wp2_with fail
  refine (P2.out _).mono ?_
  rintro e w2 ⟨a2, c2, rfl, h1, b2⟩
  have hs2 : (convert 25 9 (.slice a2 4 c2)).run Try.prog w2 = _ := mine_string h1 (by decide) (by unfold Bytes8; decide)
  rw [List.nil_append, ex_s2] at hs2
  have B2 := hide b2
  clear h1 b2 hs1
  go_wp2_with fail
  refine (P3.out _).mono ?_
  rintro e w3 ⟨a3, c3, rfl, h1, b3⟩
  have hs3 : (convert 25 9 (.slice a3 2 c3)).run Try.prog w3 = _ := mine_string h1 (by decide) (by unfold Bytes8; decide)
  rw [List.nil_append, ex_s3] at hs3
  have B3 := hide b3
  clear h1 b3 hs2
  go_wp2
  go_ret
  refine ⟨rfl, ?_⟩
  exact bel_to (bel_to (bel_al (bel_to (bel_al (Below.refl _ _) (Nat.le_refl _) _) (Nat.le_refl _) B1.out) (Nat.le_refl _) _) (Nat.le_refl _) B2.out) (Nat.le_refl _) B3.out
end Go.Proofs.Ytbpmmeagpefglaa
