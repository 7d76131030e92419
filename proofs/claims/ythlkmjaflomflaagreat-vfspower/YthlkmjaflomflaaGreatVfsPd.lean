/-
  A call of the laws at both file systems (do): all of them: contracts, for every world (written by gen/vfspb.gen.py).
  Conditions: both lie in memory, apart; the call may be read.
-/
import Derived.Test.YthlkmjaflomflaaGreatVfsPb
import Derived.Test.YthlkmjaflomflaaGreatVfsPc
import Derived.Test.YthlkmjaflomflaaGreatVfsPe
namespace Go.Proofs.YthlkmjaflomflaaGreat
open Go.RowKit Go.Maps
set_option maxRecDepth 20000
set_option linter.unusedVariables false


theorem do_any (w u : World) (g h : Nat) (F G : Fs) (m : Nat) (x : OpV) (ht : TwoV w.heap.size w u g h F G) (hF : LimB m F) (hG : LimB m G) (hm : m ≤ 400000000) (hx : OpW w x) (hd : x.data.length ≤ 500) :
    Calls Tryz.prog 8 #[.pointer (some ⟨g, 0, none⟩), .pointer (some ⟨h, 0, none⟩), .agg #[.int .i64 x.k, .int .i64 x.a, .int .i64 x.b, .int .i64 x.n, .slice x.d.1 x.d.2.1 x.d.2.2, .slice x.p.1 x.p.2.1 x.p.2.2]] u fun e u' => DoP w F G x g h e u' := by
  have q1 := Int.emod_nonneg x.k (show (10 : Int) ≠ 0 by omega)
  have q2 := Int.emod_lt_of_pos x.k (show (0 : Int) < 10 by omega)
  have q3 : x.k % 10 = 0 ∨ x.k % 10 = 1 ∨ x.k % 10 = 2 ∨ x.k % 10 = 3 ∨ x.k % 10 = 4 ∨ x.k % 10 = 5 ∨ x.k % 10 = 6 ∨ x.k % 10 = 7 ∨ x.k % 10 = 8 ∨ x.k % 10 = 9 := by omega
  rcases q3 with e | e | e | e | e | e | e | e | e | e
  · exact do0_any w u g h F G m x ht hF hG hm hx hd e
  · exact do1_any w u g h F G m x ht hF hG hm hx hd e
  · exact do2_any w u g h F G m x ht hF hG hm hx hd e
  · exact do3_any w u g h F G m x ht hF hG hm hx hd e
  · exact do4_any w u g h F G m x ht hF hG hm hx hd e
  · exact do5_any w u g h F G m x ht hF hG hm hx hd e
  · exact do6_any w u g h F G m x ht hF hG hm hx hd e
  · exact do7_any w u g h F G m x ht hF hG hm hx hd e
  · exact do8_any w u g h F G m x ht hF hG hm hx hd e
  · exact do9_any w u g h F G m x ht hF hG hm hx hd e
end Go.Proofs.YthlkmjaflomflaaGreat
