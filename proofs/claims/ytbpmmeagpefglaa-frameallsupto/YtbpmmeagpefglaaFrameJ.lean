/-
  What frame.Ends comes to: a contract, for every world.
  Conditions: the slice shows its bytes.
-/
import Derived.Test.YtbpmmeagpefglaaFrameI
namespace Go.Proofs.Ytbpmmeagpefglaa
open Go.RowKit Go.Shelf
attribute [local go_sem] Oper.semAt_some

/-- The place behind the last frame. -/
def endOf (l : List (Nat × Nat)) : Nat := match l.getLast? with
  | none => 0
  | some p => p.1 + p.2
theorem endOf_snoc (l : List (Nat × Nat)) (p : Nat × Nat) : endOf (l ++ [p]) = p.1 + p.2 := by simp [endOf]
/-- The place where there is no frame. -/
def endS (zs : List Int) : Nat := endOf (framesS zs)

theorem kept_t {n0 Bn : Nat} {A B C : World} (h : Kept n0 Bn A B) (k : Kept n0 Bn B C) : Kept n0 Bn A C := ⟨h.1.trans k.1, k.2.trans h.2⟩
theorem kept_b {n0 Bn : Nat} {w : World} (hn : n0 ≤ w.heap.size) (hB : Bn < w.heap.size) (W : World) (l : Nat) (o o' : Obj) (hl : w.heap.size ≤ l) (h : W.heap[l]? = some o) (h1 : o.isCells = false) (h2 : o.isWalk = false) : Kept n0 Bn W (W.putObj l o') :=
  ⟨belowK_b hn W l o o' hl h h1 h2, World.putObj_heap_other (by omega)⟩

set_option maxHeartbeats 2000000 in
set_option maxRecDepth 100000 in
theorem ends_any (a : Option Addr) (n cap : Nat) (zs : List Int) (w : World) (hc : n ≤ cap) (hr : Row .u8 w a n zs) :
    Calls Try.prog 21 #[.slice a n cap] w fun e w' => e = .returned (.tuple #[.int .i64 (endS zs), .bool (decide (endS zs = n))]) ∧ Below w.heap.size w w' := by
  have hn := hr.2.1
  have HR := hide hr
  clear hr
  refine (callsIn_wide (n := 9)).1 ?_
  refine callsIn_of_wp_marks Try.func21 rfl trivial ?_ rfl
  simp only [Try.ntmps21, List.size_toArray, List.length_cons, List.length_nil, Nat.reduceAdd, Nat.reduceSub, Array.replicate_succ, Array.replicate_zero, List.push_toArray, List.append_toArray, List.nil_append, List.cons_append]
  gi_wp2_with fail
  refine ⟨trivial, (callsIn_wide.2 (frames_any a n cap _)).mono ?_⟩
  rintro e w2 ⟨rfl, rfl⟩
  gi_wp2_with fail
  have hmx : Try.prog.follows .mixedOrders = true := by kernel_rfl
  have hb1 : Boxed ((w.alloc (.cells #[.int .i64 0] 3)).alloc (.cells #[.slice a n cap] 25)) w.heap.size 3 (.int .i64 0) := (Boxed.new w 3 _).alloc _
  have hb2 : Boxed ((w.alloc (.cells #[.int .i64 0] 3)).alloc (.cells #[.slice a n cap] 25)) (w.heap.size + 1) 25 (.slice a n cap) := by
    have := Boxed.new (w.alloc (.cells #[.int .i64 0] 3)) 25 (.slice a n cap)
    rwa [World.size_alloc] at this
  have hB0 : Below w.heap.size w ((w.alloc (.cells #[.int .i64 0] 3)).alloc (.cells #[.slice a n cap] 25)) := ((Below.refl _ w).alloc (Nat.le_refl _) _).alloc (by simp) _
  have hsz : ((w.alloc (.cells #[.int .i64 0] 3)).alloc (.cells #[.slice a n cap] 25)).heap.size = w.heap.size + 2 := by simp
  obtain ⟨W0, hW0⟩ : ∃ W0, (w.alloc (.cells #[.int .i64 0] 3)).alloc (.cells #[.slice a n cap] 25) = W0 := ⟨_, rfl⟩
  rw [hW0] at hb1 hb2 hB0 hsz ⊢
  clear hW0
  refine wpIn_rangeFunc_ownF rfl (by omega) (gf := 44) (lb := #[.pointer (some ⟨w.heap.size + 1, 0, none⟩)]) rfl trivial (enters_of Try.func44 (by kernel_rfl) rfl)
    (frames_stops 8 (by omega) w W0 (w.heap.size + 1) a n cap zs hc HR.out hB0 hb2) kept_t (kept_b (by omega) (by omega)) (Below.refl _ _) (fun _ => rfl)
    (fun pre W => Boxed W w.heap.size 3 (.int .i64 (endOf (pre.map (·.1)))) ∧ Below w.heap.size w W)
    (fun _ _ _ => False)
    (OwnFrom.and (Own.from (boxed_own _ _ _) _) (ownFrom_below (Nat.le_refl _) (by omega)))
    (fun _ _ _ _ _ hs _ _ => hs)
    ⟨hb1, hB0⟩
    (fun x => { tmps := #[.slice a n cap, undef, .int .i64 0, .bool false, .pointer (some ⟨w.heap.size, 0, none⟩), .int .i64 ((x.1.1 : Int) + x.1.2), .slice a n cap, .func (.func 44) #[] #[.pointer (some ⟨w.heap.size + 1, 0, none⟩)], .int .i64 ((x.1.1 : Int) + x.1.2), .slice (a.map (·.add x.1.1)) x.1.2 (cap - x.1.1), undef, undef, undef, undef, undef, undef], defers := [] }) ?assign ?body ?done ?stop
  case assign =>
    intro l x W K hK
    simp only [encB]
    gi_wp2
    exact hK
  case body =>
    rintro l pre x W ⟨hb, hB⟩ _
    have hcell := hb.cell
    have hfz := hb.frozen
    gi_wp2
    refine ⟨KeepsOthers.setCell _ _ _, ⟨(Below.refl w.heap.size W).setCell (p := ⟨w.heap.size, 0, none⟩) (Nat.le_refl _) _, Below.heap_setCell _ _ _ _ (by simp)⟩, ?_, hB.setCell (p := ⟨w.heap.size, 0, none⟩) (Nat.le_refl _) _⟩
    rw [List.map_append, List.map_cons, List.map_nil, endOf_snoc]
    exact hb.set _
  case done =>
    rintro D xs W hD hS ⟨hb, hB⟩ hK
    rw [hS] at hb
    have hcell := hb.cell
    obtain ⟨E, hE⟩ : ∃ E, endOf (framesS zs) = E := ⟨_, rfl⟩
    rw [hE] at hcell
    have HE : Hid (endS zs = E) := hE
    clear hE hb hS
    gi_wp2_with fail
    refine wpIn_wide.2 ?_
    go_region
    gi_wp2
    have hK' : W.drew.heap[D]? = some (.deferred (some [])) := hK
    have hB' : Below w.heap.size w W.drew := hB.drew
    have hq : (((E : Int) == (n : Int)) : Bool) = decide (E = n) := by
      by_cases e : E = n
      · rw [decide_eq_true e, e]; simp
      · rw [decide_eq_false e]; simp; omega
    rw [hq]
    refine ⟨by simp, .inl ⟨_, _, rfl, run_takeDeferred hK', ?_⟩⟩
    refine ⟨.tuple #[.int .i64 E, .bool (decide (E = n))], ?_, by rw [HE.out], hB'.trans (belowK_b (w := w) (Nat.le_refl _) _ D _ _ (by omega) hK' rfl rfl)⟩
    simp [results, Try.f21, go_sem]
  case stop =>
    rintro D c pre W _ _ h _
    exact h.elim
end Go.Proofs.Ytbpmmeagpefglaa
