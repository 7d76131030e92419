/-
  What the laws' own Place comes to: the number's place among n, 0 to n - 1; it changes nothing.
  Conditions: both are numbers of 64 bits with a sign; n is above 0.
-/
import Derived.Test.YthlkmjaflomflaaGreatVfsXa
import Derived.Test.YthlkmjaflomflaaGreatRows
import Derived.WalkKit
import Derived.WalkSpells
namespace Go.Proofs.YthlkmjaflomflaaGreat
open Go.RowKit
set_option maxRecDepth 20000

theorem tmod_place {v n : Int} (h : 0 < n) : -n < v.tmod n ∧ v.tmod n < n ∧ (v.tmod n < 0 → v % n = v.tmod n + n) ∧ (0 ≤ v.tmod n → v % n = v.tmod n) := by
  have e := Int.tmod_eq_emod (a := v) (b := n)
  have h0 := Int.emod_nonneg v (show n ≠ 0 by omega)
  have h1 := Int.emod_lt_of_pos v h
  split at e
  · exact ⟨by omega, by omega, by omega, by omega⟩
  · rename_i hn
    have hp : v % n ≠ 0 := fun hz => hn (Or.inr (Int.dvd_of_emod_eq_zero hz))
    exact ⟨by omega, by omega, by omega, by omega⟩

set_option maxHeartbeats 400000 in
theorem place_any (v n : Int) (h0 : 0 < n) (h1 : n ≤ 9223372036854775807) (w : World) :
    Calls Tryz.prog 13 #[.int .i64 v, .int .i64 n] w fun e w' => e = .returned (.int .i64 (v % n)) ∧ w' = w := by
  have e1 : (n == 0) = false := beq_eq_false_iff_ne.2 (by omega)
  obtain ⟨t0, t1, t2, t3⟩ := tmod_place (v := v) h0
  have T2 : Hid (v.tmod n < 0 → v % n = v.tmod n + n) := t2
  have T3 : Hid (0 ≤ v.tmod n → v % n = v.tmod n) := t3
  clear t2 t3
  by_cases hs : v.tmod n < 0
  · go_enter Tryz.func13, Tryz.ntmps13
    go_wp2
    go_ret
    exact ⟨congrArg (fun x => Ending.returned (.int .i64 x)) (T2.out hs).symm, rfl⟩
  · go_enter Tryz.func13, Tryz.ntmps13
    go_wp2
    go_ret
    exact ⟨congrArg (fun x => Ending.returned (.int .i64 x)) (T3.out (by omega)).symm, rfl⟩
end Go.Proofs.YthlkmjaflomflaaGreat
