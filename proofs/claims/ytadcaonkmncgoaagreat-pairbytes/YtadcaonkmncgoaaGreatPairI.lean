/-
  Observations in plain words, and what the laws ask of the program's own functions on sketches (contracts, for every world; what was there before stays), and the laws' awake over them.
  Conditions: the sketches and the observations lie in memory.
-/
import Derived.Test.YtadcaonkmncgoaaGreatPairMz
import Derived.Test.YtadcaonkmncgoaaGreatFnvK
import Derived.Test.YtadcaonkmncgoaaGreatPairW
namespace Go.Proofs.YtadcaonkmncgoaaGreat
open Go.RowKit
set_option maxRecDepth 20000

/-- A sketch that came in by value. -/
theorem see_of {w : World} {a : Option Addr} {n c : Nat} {hs : Bks} {k : Option Addr} {m d : Nat} {ks : List Int} {g : Gz} (wh : IsBks w a n c hs) (wk : IsRow .u64 w k m d ks) (wg : GW g) : SeeP w ⟨a, n, c, k, m, d⟩ ⟨hs, ks.take m, g⟩ := by
  obtain ⟨h1, h2, h3, h4⟩ := wh
  obtain ⟨r1, r2, r3, r4⟩ := row_of wk
  have r5 : d * 8 ≤ 140737488351232 := by simpa [kb] using r2
  exact ⟨h4, r4, wg, h2, r1, fun x => (h3 x).2, r3, by show n * 16 ≤ _; omega, by show m * 8 ≤ _; omega⟩
/-- An observation. -/
structure Ob where
  v : Int
  t : ByteArray
  b : Int
def addP (s : Sp) (o : Ob) : Sp := ⟨insS (bucketS o.v) 1 s.hist, hashK 1024 s.keys (fnvOf (numsOf o.t)), addG s.g o.b⟩
def ofP (l : List Ob) : Sp := l.foldl addP zeroP
def ob0 : Ob := ⟨0, .empty, 0⟩
/-- A slice of n observations. -/
def RowO (w : World) (a : Option Addr) (n : Nat) (l : List Ob) : Prop :=
  l.length = n ∧ n * 32 ≤ 140737488355328 ∧ (∀ o ∈ l, Word o.v ∧ Word o.b ∧ o.t.size ≤ 9223372036854775807) ∧
  (n = 0 ∨ ∃ b off, a = some ⟨b, off, none⟩ ∧ ∀ i, i < n → w.cell? ⟨b, off + i * 3, none⟩ = some (.int .u64 (l.getD i ob0).v) ∧ w.cell? ⟨b, off + i * 3 + 1, none⟩ = some (.string (l.getD i ob0).t) ∧ w.cell? ⟨b, off + i * 3 + 2, none⟩ = some (.int .u64 (l.getD i ob0).b))

structure PaE : Prop where
  empty : ∀ h s w, SeeP w h s → Calls Tryz.prog 32 #[(Value.agg #[.slice (Hd.a h) (Hd.n h) (Hd.c h), .slice (Hd.k h) (Hd.m h) (Hd.d h), .int .u64 (Gz.n s.g), .int .u64 (Gz.nans s.g), .int .u64 (Gz.lo s.g), .int .u64 (Gz.hi s.g)])] w fun e w' => e = .returned (.bool (emptyP s)) ∧ Below w.heap.size w w'
/-- What Merge answers of two that may be, and of two that may not. -/
def MergedP (w w' : World) (e : Ending) (s s' : Sp) : Prop :=
  Below w.heap.size w w' ∧ if (chkP s && chkP s') = true then ∃ h2, e = .returned (.tuple #[(Value.agg #[.slice (Hd.a h2) (Hd.n h2) (Hd.c h2), .slice (Hd.k h2) (Hd.m h2) (Hd.d h2), .int .u64 (Gz.n ((mergeP s s').g)), .int .u64 (Gz.nans ((mergeP s s').g)), .int .u64 (Gz.lo ((mergeP s s').g)), .int .u64 (Gz.hi ((mergeP s s').g))]), .int .i64 0]) ∧ MadeP w' w.heap.size h2 (mergeP s s')
    else ∃ h2, e = .returned (.tuple #[(Value.agg #[.slice (Hd.a h2) (Hd.n h2) (Hd.c h2), .slice (Hd.k h2) (Hd.m h2) (Hd.d h2), .int .u64 (Gz.n g0), .int .u64 (Gz.nans g0), .int .u64 (Gz.lo g0), .int .u64 (Gz.hi g0)]), .int .i64 5]) ∧ MadeP w' w.heap.size h2 zeroP
structure PaO : Prop where
  of : ∀ a n cap l w, RowO w a n l → Calls Tryz.prog 31 #[.slice a n cap] w fun e w' => ∃ h, e = .returned (Value.agg #[.slice (Hd.a h) (Hd.n h) (Hd.c h), .slice (Hd.k h) (Hd.m h) (Hd.d h), .int .u64 (Gz.n ((ofP l).g)), .int .u64 (Gz.nans ((ofP l).g)), .int .u64 (Gz.lo ((ofP l).g)), .int .u64 (Gz.hi ((ofP l).g))]) ∧ MadeP w' w.heap.size h (ofP l) ∧ Below w.heap.size w w'

theorem ofP_one : (ofP [⟨300, ⟨#[97]⟩, 0⟩]).hist = [(278, 1)] ∧ (ofP [⟨300, ⟨#[97]⟩, 0⟩]).keys.length = 1 ∧ (ofP [⟨300, ⟨#[97]⟩, 0⟩]).g.n = 1 := ⟨by decide +kernel, by decide +kernel, by decide +kernel⟩

set_option maxHeartbeats 2000000 in
theorem awakeP_any (O : PaO) (E : PaE) (w : World) :
    Calls Tryz.prog 12 #[] w fun e w' => e = .returned (.bool true) ∧ Below w.heap.size w w' := by
  have R1 : Hid (RowO (w.alloc (.cells #[.int .u64 300, .string ⟨#[97]⟩, .int .u64 0] 69)) (some ⟨w.heap.size, 0, none⟩) 1 [⟨300, ⟨#[97]⟩, 0⟩]) := by
    refine ⟨rfl, by decide, ?_, Or.inr ⟨_, _, rfl, ?_⟩⟩
    · intro o ho
      rw [List.mem_singleton.1 ho]
      exact ⟨⟨by decide, by decide⟩, ⟨by decide, by decide⟩, by decide⟩
    · intro i hi
      have : i = 0 := by omega
      subst this
      exact ⟨by simp [go_sem], by simp [go_sem], by simp [go_sem]⟩
  have C1 := hide (O.of _ 1 1 _ _ R1.out)
  have C2 := hide (fun W => O.of none 0 0 [] W ⟨rfl, by decide, by simp, Or.inl rfl⟩)
  obtain ⟨h1, h2, h3⟩ := ofP_one
  have HH := hide h1
  have H2 := hide h2
  have H3 := hide h3
  have e1 : emptyP (ofP [⟨300, ⟨#[97]⟩, 0⟩]) = false := by unfold emptyP; rw [h1]; rfl
  have E1 := hide (fun h W (q : SeeP W h (ofP [⟨300, ⟨#[97]⟩, 0⟩])) => E.empty h _ W q)
  have E2 := hide (fun h W (q : SeeP W h (ofP [])) => E.empty h _ W q)
  rw [e1] at E1
  have e2 : emptyP (ofP []) = true := by decide
  rw [e2] at E2
  generalize ofP [⟨300, ⟨#[97]⟩, 0⟩] = s at *
  generalize ofP [] = z at *
  clear R1 e1 e2 h1 h2 h3
  go_enter Tryz.func12, Tryz.ntmps12
  go_wp2_with fail
  with_reducible refine C1.out.mono ?_
  rintro e v1 ⟨h, rfl, m1, b1⟩
  have L1 : Hid (Below w.heap.size w v1) := bel_to (bel_al (Below.refl w.heap.size w) (Nat.le_refl _) _) (Nat.le_refl _) b1
  have M1 := hide m1.see
  clear m1 b1 C1
  go_wp2_with fail
  obtain ⟨k, hk⟩ : ∃ k, Hid (v1.heap.size = k) := ⟨_, rfl⟩
  have B1 := hide (SBox.new v1 28 h s.g)
  have M2 := hide (M1.out.alloc (.cells #[.slice h.a h.n h.c, .slice h.k h.m h.d, .int .u64 s.g.n, .int .u64 s.g.nans, .int .u64 s.g.lo, .int .u64 s.g.hi] 28))
  have L2 : Hid (Below w.heap.size w (v1.alloc (.cells #[.slice h.a h.n h.c, .slice h.k h.m h.d, .int .u64 s.g.n, .int .u64 s.g.nans, .int .u64 s.g.lo, .int .u64 s.g.hi] 28))) := L1.out.alloc L1.out.size _
  generalize v1.alloc (.cells #[.slice h.a h.n h.c, .slice h.k h.m h.d, .int .u64 s.g.n, .int .u64 s.g.nans, .int .u64 s.g.lo, .int .u64 s.g.hi] 28) = v2 at B1 M2 L2 ⊢
  rw [hk.out] at B1
  rw [hk.out]
  clear L1 M1 hk
  with_reducible refine (C2.out _).mono ?_
  rintro e v3 ⟨h', rfl, m3, b3⟩
  have B3 := hide (B1.out.below b3 B1.out.lt)
  have Q3 := hide (M2.out.below b3 (Nat.le_refl _))
  have L3 : Hid (Below w.heap.size w v3) := bel_to L2.out (Nat.le_refl _) b3
  have M3 := hide m3.see
  clear m3 b3 B1 M2 L2
  go_wp2_with fail
  with_reducible refine (E2.out _ _ M3.out).mono ?_
  rintro e v4 ⟨rfl, b4⟩
  have B4 := hide (B3.out.below b4 B3.out.lt)
  have Q4 := hide (Q3.out.below b4 (Nat.le_refl _))
  have L4 : Hid (Below w.heap.size w v4) := bel_to L3.out (Nat.le_refl _) b4
  clear b4 B3 Q3 L3 M3
  obtain ⟨_, ⟨c0, c1, c2, c3, c4, c5⟩, _⟩ := B4.out
  go_wp2_with fail
  with_reducible refine (E1.out _ _ Q4.out).mono ?_
  rintro e v5 ⟨rfl, b5⟩
  have B5 := hide (B4.out.below b5 B4.out.lt)
  have Q5 := hide (Q4.out.below b5 (Nat.le_refl _))
  have L5 : Hid (Below w.heap.size w v5) := bel_to L4.out (Nat.le_refl _) b5
  clear b5 B4 Q4 L4 c0 c1 c2 c3 c4 c5
  obtain ⟨_, ⟨c0, c1, c2, c3, c4, c5⟩, _⟩ := B5.out
  obtain ⟨r1, _, _, r4⟩ := Q5.out.rh
  have r5 := Q5.out.rk.1
  rw [HH.out] at r1 r4
  have n1 : h.n = 1 := r1.symm
  have n2 : h.m = 1 := r5.symm.trans H2.out
  rcases r4 with r4 | ⟨bb, off, ha, hc⟩
  · omega
  obtain ⟨f0, _⟩ := hc 0 (by omega)
  rw [ha, n1] at c0
  rw [n2] at c1
  rw [H3.out] at c2
  simp only [Nat.zero_mul, Nat.add_zero, List.getD_cons_zero] at f0
  clear hc n1 n2 r1 r5 ha
  go_wp2
  go_ret
  exact ⟨rfl, L5.out⟩
end Go.Proofs.YtadcaonkmncgoaaGreat
