/-
  What the laws that hold the program against the document's own answers share: a new reader, sums of texts, the reader's end.
  Conditions: the lengths are below 2^48.
-/
import Derived.Test.YtemgapgggeanjaaVintX
import Derived.Test.YtemgapgggeanjaaVintE
import Derived.Test.YtemgapgggeanjaaVintV
import Derived.Laws.Concat
namespace Go.Proofs.Ytemgapgggeanjaa
open Go.RowKit

theorem rb_new (w : World) (a : Option Addr) (n cap : Nat) (p : Int) : RB (w.alloc (.cells #[.slice a n cap, .int .i64 p, .bool false] 31)) w.heap.size a n cap p false := heap_alloc_new w _

theorem add_str (xs ys : List Int) (h : xs.length + ys.length ≤ 281474976710656) (w : World) :
    (Op.stringOp .add (strOfNums xs) (strOfNums ys)).run Try.prog w = .ok (.string (strOfNums (xs ++ ys))) w := by
  rw [run_string_add_sum (P := Try.prog) w _ _ (by rw [strOfNums_size, strOfNums_size]; omega), strOf_append]

theorem refput_str (v : Int) (w : World) (hv : W64 v) :
    Calls Try.prog 10 #[.int .u64 v] w fun e w' => ∃ a' cap', e = .returned (.slice a' (putS v).length cap') ∧
      (convert 23 9 (.slice a' (putS v).length cap')).run Try.prog w' = .ok (.string (strOfNums (putS v))) w' ∧ Below w.heap.size w w' := by
  refine (refput_any v w hv).mono ?_
  rintro e w' ⟨a', cap', rfl, h1, h2⟩
  have := (putS_len v).2
  exact ⟨a', cap', rfl, mine_string h1 (by omega) (putS_byte hv), h2⟩
end Go.Proofs.Ytemgapgggeanjaa
