/-
  What the law's own collector of frames ('all') comes to: a contract, for every world.
  Conditions: the slice shows its bytes; at least one frame is asked for; there is room for the lists.
-/
import Derived.Test.YtbpmmeagpefglaaFrameM
namespace Go.Proofs.Ytbpmmeagpefglaa
open Go.RowKit Go.Shelf

theorem equalIn_func (w : World) (d : Nat) (f : Fn) (c b : Array Value) : (Op.equalIn (d + 1) 70 (.func f c b) .nilFunc).run Try.prog w = .ok false w := by
  simp [Op.equalIn, run_underlying Try.underlying70]
theorem eql_func (w : World) (f : Fn) (c b : Array Value) : (binOp .eql 70 (.func f c b) .nilFunc).run Try.prog w = .ok (.bool false) w := by
  simp only [binOp]
  simp [Op.equal, Op.maxDepth, equalIn_func w 9999 f c b]

set_option maxHeartbeats 1000000 in
theorem allof_any (a : Option Addr) (n cap : Nat) (zs : List Int) (w : World) (hr : Row .u8 w a n zs) (hn : n ≤ 140737488355328) :
    Calls Try.prog 37 #[.slice a n cap] w fun e w' => ∃ Bk a' c', e = .returned (.func (.func 45) #[] #[.pointer (some ⟨Bk, 0, none⟩)]) ∧ Boxed w' Bk 25 (.slice a' n c') ∧ Mine w' w.heap.size a' n c' zs ∧ Below w.heap.size w w' := by
  have C := hide (clone_any a n cap zs w hr hn)
  clear hr
  go_enter Try.func37, Try.ntmps37
  go_wp2_with fail
  refine C.out.mono ?_
  rintro e w1 ⟨a1, c1, rfl, o1, k1⟩
  have O1 := hide (o1.alloc (.cells #[.slice a1 n c1] 25))
  have B1 := hide (Boxed.new w1 25 (.slice a1 n c1))
  have K1 := hide (bel_al k1 (Nat.le_refl _) (.cells #[.slice a1 n c1] 25))
  clear o1 k1 C
  go_wp2
  go_ret
  exact ⟨_, a1, c1, rfl, B1, O1, K1⟩

theorem row_mono {w : World} {base base' : Nat} {e : TypeId} {v : Value} {n : Nat} {xs : List Value} (h : w.ownsRow base e 1 v n xs) (hb : base' ≤ base) : w.ownsRow base' e 1 v n xs := by
  refine ⟨h.1, ?_⟩
  rcases h.2 with h1 | ⟨g, c, cur, h1, h2, h3⟩
  · exact Or.inl h1
  · exact Or.inr ⟨g, c, cur, h1, Nat.le_trans hb h2, h3⟩

set_option maxHeartbeats 2000000 in
set_option maxRecDepth 100000 in
theorem all_any (most : Int) (a : Option Addr) (n cap : Nat) (zs : List Int) (w : World) (hr : Row .u8 w a n zs) (hn : n ≤ 140737488355328) (hn16 : (n + 2) * 16 ≤ 140737488355328) (hm : 1 ≤ most) :
    Calls Try.prog 23 #[.slice a n cap, .int .i64 most] w fun e w' => ∃ a1 c1 a2 c2, e = .returned (.tuple #[.slice a1 ((framesS zs).take most.toNat).length c1, .slice a2 ((framesS zs).take most.toNat).length c2]) ∧
      w'.ownsRow w.heap.size 3 1 (.slice a1 ((framesS zs).take most.toNat).length c1) ((framesS zs).take most.toNat).length ((startsOf ((framesS zs).take most.toNat)).map (Value.int .i64)) ∧
      w'.ownsRow w.heap.size 9 1 (.slice a2 ((framesS zs).take most.toNat).length c2) ((framesS zs).take most.toNat).length ((textsS zs ((framesS zs).take most.toNat)).map Value.string) ∧ Below w.heap.size w w' := by
  have HZ : Hid (Bytes8 zs) := hr.bytes
  have A := hide (allof_any a n cap zs (w.alloc (.cells #[.int .i64 most] 3)) (hr.alloc _) hn)
  have BM := hide (Boxed.new w 3 (.int .i64 most))
  have KM := hide (bel_al (Below.refl w.heap.size w) (Nat.le_refl _) (.cells #[.int .i64 most] 3))
  have hl1 := startsOf_len ((framesS zs).take most.toNat)
  have hl2 := textsS_len zs ((framesS zs).take most.toNat)
  have HAG := hide (fun w1 W0 Bk Ba Bl Bm a' c' h1 h2 h3 h4 h5 => allgo_any w1 W0 Bk Ba Bl Bm a' n c' zs most (.slice none 0 0) (.slice none 0 0) h1 h2 hn16 h3 h4 h5 hm)
  clear hr
  generalize startsOf ((framesS zs).take most.toNat) = S at *
  generalize textsS zs ((framesS zs).take most.toNat) = X at *
  generalize ((framesS zs).take most.toNat).length = L at *
  have HL1 := hide hl1
  have HL2 := hide hl2
  clear hl1 hl2
  go_enter Try.func23, Try.ntmps23
  go_wp2_with fail
  refine A.out.mono ?_
  rintro e w1 ⟨Bk, a1, c1, rfl, bk, o1, k1⟩
  have BM1 := hide (boxed_below BM.out k1)
  have hcm := BM1.out.cell
  have K1 : Hid (Below w.heap.size w w1) := bel_to KM.out (Nat.le_refl _) k1
  have hcap := o1.capped.1
  have R1 := hide (o1.row8 (by omega) HZ.out)
  have BK := hide bk
  have HSZ : Hid (w.heap.size ≤ w1.heap.size) := K1.out.size
  clear o1 k1 A BM KM bk
  have t1 : ¬ (most < 1) := by omega
  have hq := eql_func
  have C0 : Hid (Coll ((w1.alloc (.cells #[.slice none 0 0] 48)).alloc (.cells #[.slice none 0 0] 23)) w1.heap.size w1.heap.size (w1.heap.size + 1) w.heap.size [] [] most (.slice none 0 0) (.slice none 0 0)) := by
    refine ⟨(Boxed.new w1 _ _).alloc _, ?_, (BM1.out.alloc _).alloc _, World.ownsRow_nil _ _ _ _, World.ownsRow_nil _ _ _ _, Nat.le_refl _, by omega, fun g h => by simp [Value.ownBlock] at h⟩
    have := Boxed.new (w1.alloc (.cells #[.slice none 0 0] 48)) 23 (.slice none 0 0)
    rwa [World.size_alloc] at this
  have KK := hide (bel_al (bel_al (Below.refl w1.heap.size w1) (Nat.le_refl _) (.cells #[.slice none 0 0] 48)) (Nat.le_refl _) (.cells #[.slice none 0 0] 23))
  have BK0 := hide ((BK.out.alloc (.cells #[.slice none 0 0] 48)).alloc (.cells #[.slice none 0 0] 23))
  have G := hide (HAG.out w1 _ Bk w1.heap.size (w1.heap.size + 1) w.heap.size a1 c1 hcap R1.out KK.out BK0.out C0.out)
  clear HAG BK0 C0 BK BM1
  go_wp2_with fail
  refine G.out.mono ?_
  rintro e w2 ⟨rfl, ⟨va, vl, hC⟩, k2⟩
  have ra := hC.ra
  have rl := hC.rl
  rw [HL1.out] at ra
  rw [HL2.out] at rl
  obtain ⟨a3, c3, rfl⟩ := row_form ra
  obtain ⟨a4, c4, rfl⟩ := row_form rl
  have hca := hC.ba.cell
  have hcl := hC.bl.cell
  have RA := hide (row_mono ra HSZ.out)
  have RL := hide (row_mono rl HSZ.out)
  have K2 : Hid (Below w.heap.size w w2) := K1.out.trans ((KK.out.trans k2).mono HSZ.out)
  clear hC ra rl k2 G KK hq hcm
  generalize w1.heap.size = B at *
  go_upto_region 7 with fail
  go_region
  go_wp2
  go_ret2
  exact ⟨a3, c3, a4, c4, rfl, RA.out, RL.out, K2.out.drew⟩
end Go.Proofs.Ytbpmmeagpefglaa
