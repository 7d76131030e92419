/-
  What the laws' own collector takes of an iterator of windows that goes on as long as it asks: a contract, for every world.
  Conditions: it asks for 1 to 1000 of them.
-/
import Derived.Test.YtejflcfcbjadhaaDoorCalW
namespace Go.Proofs.YtejflcfcbjadhaaDoor
open Go.RowKit
set_option maxRecDepth 20000

theorem eqlW_in (w : World) (d : Nat) (f : Fn) (c b : Array Value) : (Op.equalIn (d + 1) 36 (.func f c b) .nilFunc).run Tryd.prog w = .ok false w := by
  simp [Op.equalIn, run_underlying Tryd.underlying36]
theorem eqlW (w : World) (f : Fn) (c b : Array Value) : (binOp .eql 36 (.func f c b) .nilFunc).run Tryd.prog w = .ok (.bool false) w := by
  simp only [binOp]
  simp [Op.equal, Op.maxDepth, eqlW_in w 9999 f c b]

set_option maxHeartbeats 2000000 in
theorem windows_of (f : Nat) (eg : ∀ args w, (callFunc f args).run Tryd.prog w = .ok (.enter f args) w) (caps : Array Value) (w : World) (l : List (Int × Int)) (hG : GoesW f caps w l) : TellsW (.func (.func f) #[] caps) w l := by
  intro u hu most h1 h2
  have hq := eqlW
  obtain ⟨W1, hW1⟩ : ∃ W, Hid (u.alloc (.cells #[.int .i64 most] 3) = W) := ⟨_, rfl⟩
  obtain ⟨W2, hW2⟩ : ∃ W, Hid (W1.alloc (.cells #[.slice none 0 0] 38) = W) := ⟨_, rfl⟩
  have S1 : Hid (W1.heap.size = u.heap.size + 1) := by rw [← hW1.out]; show _ = _; simp
  have B1 : Hid (Below u.heap.size u W1) := by rw [← hW1.out]; exact (Below.refl _ _).alloc (Nat.le_refl _) _
  have B2 : Hid (Below u.heap.size u W2) := by rw [← hW2.out]; exact bel_al B1.out (Nat.le_refl _) _
  have C0 : Hid (CollW W2 u.heap.size (u.heap.size + 1) u.heap.size [] most (.slice none 0 0)) := by
    refine ⟨?_, ?_, World.ownsRow_nil _ _ _ _, by omega⟩
    · rw [← hW2.out, ← S1.out]
      exact Boxed.new W1 38 (.slice none 0 0)
    · rw [← hW2.out, ← hW1.out]
      exact (Boxed.new u 3 (.int .i64 most)).alloc _
  have cm := C0.out.bm.cell
  have G := hide (hG W2 u.heap.size (u.heap.size + 1) u.heap.size most (.slice none 0 0) (bel_to hu (Nat.le_refl _) B2.out) hu.size C0.out h1 h2)
  generalize l.take most.toNat = X at *
  have t1 : ¬ most < 1 := by omega
  clear hG hu C0 h1 h2
  go_enter Tryd.func25, Tryd.ntmps25
  go_upto_region 2 with fail
  rw [hW1.out, hW2.out]
  clear hW1 hW2
  rw [← S1.out] at G
  go_wp2_with fail
  rw [S1.out] at G
  with_reducible refine G.out.mono ?_
  rintro e W' ⟨rfl, ⟨v', hC⟩, HB⟩
  obtain ⟨al, cl, rfl⟩ := row_formW hC.rl
  have hl := hC.bl.cell
  have RL := hide hC.rl
  have HB3 : Hid (Below u.heap.size u W') := Below.trans B2.out HB
  clear hC HB G
  go_wp2
  go_ret
  exact ⟨_, _, _, rfl, rfl, RL.out, HB3.out⟩
end Go.Proofs.YtejflcfcbjadhaaDoor
