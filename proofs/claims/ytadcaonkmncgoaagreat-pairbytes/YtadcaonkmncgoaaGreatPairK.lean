/-
  Sketches in plain words: a histogram's buckets, a sketch's hashes, a gauge; when one may be, two put together, none; how one lies in a struct's six cells.
  Conditions: where a law speaks of sketches put together, they may be ones ('chkP').
-/
import Derived.Test.YtadcaonkmncgoaaGreatGaugeAz
import Derived.Test.YtadcaonkmncgoaaGreatHistB
import Derived.Test.YtadcaonkmncgoaaGreatHistPz
import Derived.Test.YtadcaonkmncgoaaGreatKmvAz
namespace Go.Proofs.YtadcaonkmncgoaaGreat
open Go.RowKit
set_option maxRecDepth 20000

/-- A sketch. -/
structure Sp where
  hist : Bks
  keys : List Int
  g : Gz
deriving DecidableEq
/-- How its two lists lie: address, length, capacity, each. -/
structure Hd where
  a : Option Addr
  n : Nat
  c : Nat
  k : Option Addr
  m : Nat
  d : Nat
def zeroP : Sp := ⟨[], [], g0⟩
def hd0 : Hd := ⟨none, 0, 0, none, 0, 0⟩
def chkP (s : Sp) : Bool := checkS s.hist && (chkK s.keys && chkG s.g)
def emptyP (s : Sp) : Bool := decide (s.hist.length = 0) && (decide (s.keys.length = 0) && (s.g.n == 0 && s.g.nans == 0))
def mergeP (s t : Sp) : Sp := ⟨mrg s.hist t.hist, (uni s.keys t.keys).take 1024, mergeG s.g t.g⟩

/-- What a walk is told of a sketch that lies in memory. -/
structure SeeP (w : World) (h : Hd) (s : Sp) : Prop where
  rh : RowB w h.a h.n s.hist
  rk : Row .u64 w h.k h.m s.keys
  g : GW s.g
  hc : h.n ≤ h.c
  kc : h.m ≤ h.d
  nh : h.a = none → h.c = 0
  nk : h.k = none → h.d = 0
  sh : h.n * 16 ≤ 140737488355328
  sk : h.m * 8 ≤ 140737488355328
/-- A sketch whose two lists are memory of the call's own. -/
structure MadeP (w : World) (base : Nat) (h : Hd) (s : Sp) : Prop where
  oh : OwnB w base h.a h.n h.c s.hist
  ok : OwnU w base h.k h.m h.d s.keys
  see : SeeP w h s
section
variable {w w' : World} {B base : Nat} {h : Hd} {s : Sp}
theorem SeeP.below (q : SeeP w h s) (hb : Below B w w') (hB : w.heap.size ≤ B) : SeeP w' h s :=
  ⟨q.rh.below hb hB, q.rk.below hb hB, q.g, q.hc, q.kc, q.nh, q.nk, q.sh, q.sk⟩
theorem SeeP.drew (q : SeeP w h s) : SeeP w.drew h s := q.below (Below.refl w.heap.size w).drew (Nat.le_refl _)
theorem SeeP.alloc (q : SeeP w h s) (o : Obj) : SeeP (w.alloc o) h s := q.below ((Below.refl w.heap.size w).alloc (Nat.le_refl _) o) (Nat.le_refl _)
theorem see_zero (w : World) : SeeP w hd0 zeroP := ⟨⟨rfl, by decide, (fun x hx => by cases hx), Or.inl rfl⟩, nil_row _ _ _, g0W, Nat.le_refl _, Nat.le_refl _, fun _ => rfl, fun _ => rfl, by decide, by decide⟩
end

/-- A sketch in memory of the call's own: six cells. -/
structure SBox (w : World) (b : Nat) (h : Hd) (g : Gz) : Prop where
  lt : b < w.heap.size
  cells : ((World.cell? w ⟨b, 0, none⟩ = some (.slice (Hd.a h) (Hd.n h) (Hd.c h))) ∧ (World.cell? w ⟨b, 1, none⟩ = some (.slice (Hd.k h) (Hd.m h) (Hd.d h))) ∧ (World.cell? w ⟨b, 2, none⟩ = some (.int .u64 (Gz.n g))) ∧ (World.cell? w ⟨b, 3, none⟩ = some (.int .u64 (Gz.nans g))) ∧ (World.cell? w ⟨b, 4, none⟩ = some (.int .u64 (Gz.lo g))) ∧ (World.cell? w ⟨b, 5, none⟩ = some (.int .u64 (Gz.hi g))))
  free : ∀ i, w.frozen? ⟨b, i, none⟩ = false
theorem SBox.new (w : World) (t : TypeId) (h : Hd) (g : Gz) : SBox (w.alloc (.cells #[.slice h.a h.n h.c, .slice h.k h.m h.d, .int .u64 g.n, .int .u64 g.nans, .int .u64 g.lo, .int .u64 g.hi] t)) w.heap.size h g := by
  refine ⟨by simp [go_sem], ⟨by simp [go_sem], by simp [go_sem], by simp [go_sem], by simp [go_sem], by simp [go_sem], by simp [go_sem]⟩, fun i => ?_⟩
  simp [go_sem]
section
variable {w w' : World} {B b : Nat} {h : Hd} {g : Gz}
theorem SBox.below (q : SBox w b h g) (hb : Below B w w') (hB : b < B) : SBox w' b h g := by
  obtain ⟨l, ⟨c0, c1, c2, c3, c4, c5⟩, f⟩ := q
  exact ⟨Nat.lt_of_lt_of_le l hb.size, ⟨(hb.cell hB).trans c0, (hb.cell hB).trans c1, (hb.cell hB).trans c2, (hb.cell hB).trans c3, (hb.cell hB).trans c4, (hb.cell hB).trans c5⟩, fun i => (hb.frozen hB).trans (f i)⟩
theorem SBox.alloc (q : SBox w b h g) (o : Obj) : SBox (w.alloc o) b h g := q.below ((Below.refl w.heap.size w).alloc (Nat.le_refl _) o) q.lt
theorem SBox.drew (q : SBox w b h g) : SBox w.drew b h g := q.below (Below.refl w.heap.size w).drew q.lt
end
end Go.Proofs.YtadcaonkmncgoaaGreat
