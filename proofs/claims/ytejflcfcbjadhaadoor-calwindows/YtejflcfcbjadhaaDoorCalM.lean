/-
  A config in memory, and what the document's Res, Floor, Horizon, Coarsest, Windows tell: contracts, for every world.
  Conditions: as each theorem says.
-/
import Derived.Test.YtejflcfcbjadhaaDoorCalK
import Derived.Test.YtejflcfcbjadhaaDoorChK
import Derived.Test.YtejflcfcbjadhaaDoorRows
import Derived.WalkKit
import Derived.Deep.Cut
import Derived.BigQuiet
import Derived.Deep.QuietTactic
namespace Go.Proofs.YtejflcfcbjadhaaDoor
open Go.RowKit
set_option maxRecDepth 20000

/-- A config as a value. -/
abbrev cfV (c : Cf) : Value := .agg #[.int .i64 c.sl, .int .i64 c.k0, .int .i64 c.k1, .int .i64 c.k2, .int .i64 c.k3]
/-- The table of slots lies in its variable. -/
def TbW (w : World) : Prop := w.cell? ⟨0, 0, none⟩ = some (.int .i64 1) ∧ w.cell? ⟨0, 1, none⟩ = some (.int .i64 6) ∧ w.cell? ⟨0, 2, none⟩ = some (.int .i64 360) ∧ w.cell? ⟨0, 3, none⟩ = some (.int .i64 8640)
theorem cell_lt {w : World} {p : Addr} {v : Value} (h : w.cell? p = some v) : p.block < w.heap.size := by
  apply Classical.byContradiction
  intro h2
  have h3 : w.heap[p.block]? = none := Array.getElem?_eq_none (by omega)
  simp [World.cell?, h3] at h
theorem TbW.bel {w u : World} (q : TbW w) (b : Below w.heap.size w u) : TbW u := by
  obtain ⟨h0, h1, h2, h3⟩ := q
  have l := cell_lt h0
  exact ⟨(b.cell l).trans h0, (b.cell (p := ⟨0, 1, none⟩) l).trans h1, (b.cell (p := ⟨0, 2, none⟩) l).trans h2, (b.cell (p := ⟨0, 3, none⟩) l).trans h3⟩
theorem TbW.alloc {w : World} (q : TbW w) (o : Obj) : TbW (w.alloc o) := q.bel ((Below.refl _ _).alloc (Nat.le_refl _) _)
/-- A config in a box. -/
def BoxC (w : World) (g : Nat) (c : Cf) : Prop := w.heap[g]? = some (.cells #[.int .i64 c.sl, .int .i64 c.k0, .int .i64 c.k1, .int .i64 c.k2, .int .i64 c.k3] 24 (0, 0))
section
variable {w w' : World} {g : Nat} {c : Cf}
theorem BoxC.all (q : BoxC w g c) : w.cell? ⟨g, 0, none⟩ = some (.int .i64 c.sl) ∧ w.cell? ⟨g, 1, none⟩ = some (.int .i64 c.k0) ∧ w.cell? ⟨g, 2, none⟩ = some (.int .i64 c.k1) ∧ w.cell? ⟨g, 3, none⟩ = some (.int .i64 c.k2) ∧ w.cell? ⟨g, 4, none⟩ = some (.int .i64 c.k3) := by
  refine ⟨?_, ?_, ?_, ?_, ?_⟩
  · rw [cell_of_row w g 0 _ _ (0, 0) q]; rfl
  · rw [cell_of_row w g 1 _ _ (0, 0) q]; rfl
  · rw [cell_of_row w g 2 _ _ (0, 0) q]; rfl
  · rw [cell_of_row w g 3 _ _ (0, 0) q]; rfl
  · rw [cell_of_row w g 4 _ _ (0, 0) q]; rfl
theorem BoxC.lt (q : BoxC w g c) : g < w.heap.size := (Array.getElem?_eq_some_iff.1 q).1
theorem BoxC.below {B : Nat} (q : BoxC w g c) (b : Below B w w') (h : g < B) : BoxC w' g c := (b.block g h).trans q
theorem boxC_new (w : World) (c : Cf) : BoxC (w.alloc (.cells #[.int .i64 c.sl, .int .i64 c.k0, .int .i64 c.k1, .int .i64 c.k2, .int .i64 c.k3] 24)) w.heap.size c := heap_alloc_new w _
end

theorem rres_any (l : Int) (w : World) : Calls Tryd.prog 12 #[.int .i64 l] w fun e w' => e = .returned (.int .i64 (resC l)) ∧ w' = w := by
  by_cases h0 : l = 0
  · subst h0
    go_enter Tryd.func12, Tryd.ntmps12
    go_wp2
    go_ret
    exact ⟨rfl, rfl⟩
  · by_cases h1 : l = 1
    · subst h1
      go_enter Tryd.func12, Tryd.ntmps12
      go_wp2
      go_ret
      exact ⟨rfl, rfl⟩
    · by_cases h2 : l = 2
      · subst h2
        go_enter Tryd.func12, Tryd.ntmps12
        go_wp2
        go_ret
        exact ⟨rfl, rfl⟩
      · by_cases h3 : l = 3
        · subst h3
          go_enter Tryd.func12, Tryd.ntmps12
          go_wp2
          go_ret
          exact ⟨rfl, rfl⟩
        · have e : resC l = 0 := by unfold resC; rw [if_neg h0, if_neg h1, if_neg h2, if_neg h3]
          rw [e]
          have t0 : (l == 0) = false := by simpa using h0
          have t1 : (l == 1) = false := by simpa using h1
          have t2 : (l == 2) = false := by simpa using h2
          have t3 : (l == 3) = false := by simpa using h3
          clear e
          go_enter Tryd.func12, Tryd.ntmps12
          go_wp2
          go_ret
          exact ⟨rfl, rfl⟩

set_option maxHeartbeats 4000000 in
theorem rhor_any (c : Cf) (now l : Int) (w : World) (ok : okC c) (h0 : 0 ≤ now) (h1 : now ≤ 1099511627776) (hl : (Lit.int .i64 l).wf = true) :
    Calls Tryd.prog 18 #[cfV c, .int .i64 now, .int .i64 l] w fun e w' => e = .returned (.int .i64 (horC c now l)) ∧ Below w.heap.size w w' := by
  obtain ⟨W, hW⟩ : ∃ W, Hid (w.alloc (.cells #[.int .i64 c.sl, .int .i64 c.k0, .int .i64 c.k1, .int .i64 c.k2, .int .i64 c.k3] 24) = W) := ⟨_, rfl⟩
  have LW : Hid (Below w.heap.size w W) := by rw [← hW.out]; exact (Below.refl _ _).alloc (Nat.le_refl _) _
  have B : Hid (BoxC W w.heap.size c) := by rw [← hW.out]; exact boxC_new w c
  obtain ⟨b0, b1, b2, b3, b4⟩ := B.out.all
  by_cases ha : l < 0
  · rw [horC_of (c := c) (x := c.k0) (by unfold Cf.kp; rw [if_pos (by omega)])]
    have hk : 1 ≤ c.k0 ∧ c.k0 ≤ 100000 := by unfold okC at ok; omega
    obtain ⟨q, hq⟩ : ∃ q, q = now / 8640 := ⟨_, rfl⟩
    have hq0 : 0 ≤ q ∧ q ≤ 127258290 := by omega
    have hqd : now.tdiv 8640 = q := by rw [Int.tdiv_eq_ediv_of_nonneg h0]; exact hq.symm
    rw [← hq]
    clear hq ok hl
    by_cases hd : q - c.k0 < 0
    · rw [if_pos hd]
      go_enter Tryd.func18, Tryd.ntmps18
      go_upto_region 1 with fail
      rw [hW.out]
      clear hW B
      go_wp2
      go_ret
      exact ⟨rfl, LW.out⟩
    · rw [if_neg hd]
      go_enter Tryd.func18, Tryd.ntmps18
      go_upto_region 1 with fail
      rw [hW.out]
      clear hW B
      go_wp2
      go_ret
      exact ⟨by go_num, LW.out⟩
  · by_cases hb : 3 < l
    · rw [horC_of (c := c) (x := c.k3) (by unfold Cf.kp; rw [if_neg (by omega), if_neg (by omega), if_neg (by omega)])]
      have hk : 1 ≤ c.k3 ∧ c.k3 ≤ 100000 := by unfold okC at ok; omega
      obtain ⟨q, hq⟩ : ∃ q, q = now / 8640 := ⟨_, rfl⟩
      have hq0 : 0 ≤ q ∧ q ≤ 127258290 := by omega
      have hqd : now.tdiv 8640 = q := by rw [Int.tdiv_eq_ediv_of_nonneg h0]; exact hq.symm
      rw [← hq]
      clear hq ok hl
      by_cases hd : q - c.k3 < 0
      · rw [if_pos hd]
        go_enter Tryd.func18, Tryd.ntmps18
        go_upto_region 1 with fail
        rw [hW.out]
        clear hW B
        go_wp2
        go_ret
        exact ⟨rfl, LW.out⟩
      · rw [if_neg hd]
        go_enter Tryd.func18, Tryd.ntmps18
        go_upto_region 1 with fail
        rw [hW.out]
        clear hW B
        go_wp2
        go_ret
        exact ⟨by go_num, LW.out⟩
    · have hc : l = 0 ∨ l = 1 ∨ l = 2 ∨ l = 3 := by omega
      clear ha hb
      rcases hc with rfl | rfl | rfl | rfl
      · rw [horC_of (c := c) (x := c.k0) (by unfold Cf.kp; rw [if_pos (by omega)])]
        have hk : 1 ≤ c.k0 ∧ c.k0 ≤ 100000 := by unfold okC at ok; omega
        obtain ⟨q, hq⟩ : ∃ q, q = now / 8640 := ⟨_, rfl⟩
        have hq0 : 0 ≤ q ∧ q ≤ 127258290 := by omega
        have hqd : now.tdiv 8640 = q := by rw [Int.tdiv_eq_ediv_of_nonneg h0]; exact hq.symm
        rw [← hq]
        clear hq ok hl
        by_cases hd : q - c.k0 < 0
        · rw [if_pos hd]
          go_enter Tryd.func18, Tryd.ntmps18
          go_upto_region 1 with fail
          rw [hW.out]
          clear hW B
          go_wp2
          go_ret
          exact ⟨rfl, LW.out⟩
        · rw [if_neg hd]
          go_enter Tryd.func18, Tryd.ntmps18
          go_upto_region 1 with fail
          rw [hW.out]
          clear hW B
          go_wp2
          go_ret
          exact ⟨by go_num, LW.out⟩
      · rw [horC_of (c := c) (x := c.k1) (by unfold Cf.kp; rw [if_neg (by omega), if_pos (by omega)])]
        have hk : 1 ≤ c.k1 ∧ c.k1 ≤ 100000 := by unfold okC at ok; omega
        obtain ⟨q, hq⟩ : ∃ q, q = now / 8640 := ⟨_, rfl⟩
        have hq0 : 0 ≤ q ∧ q ≤ 127258290 := by omega
        have hqd : now.tdiv 8640 = q := by rw [Int.tdiv_eq_ediv_of_nonneg h0]; exact hq.symm
        rw [← hq]
        clear hq ok hl
        by_cases hd : q - c.k1 < 0
        · rw [if_pos hd]
          go_enter Tryd.func18, Tryd.ntmps18
          go_upto_region 1 with fail
          rw [hW.out]
          clear hW B
          go_wp2
          go_ret
          exact ⟨rfl, LW.out⟩
        · rw [if_neg hd]
          go_enter Tryd.func18, Tryd.ntmps18
          go_upto_region 1 with fail
          rw [hW.out]
          clear hW B
          go_wp2
          go_ret
          exact ⟨by go_num, LW.out⟩
      · rw [horC_of (c := c) (x := c.k2) (by unfold Cf.kp; rw [if_neg (by omega), if_neg (by omega), if_pos (by omega)])]
        have hk : 1 ≤ c.k2 ∧ c.k2 ≤ 100000 := by unfold okC at ok; omega
        obtain ⟨q, hq⟩ : ∃ q, q = now / 8640 := ⟨_, rfl⟩
        have hq0 : 0 ≤ q ∧ q ≤ 127258290 := by omega
        have hqd : now.tdiv 8640 = q := by rw [Int.tdiv_eq_ediv_of_nonneg h0]; exact hq.symm
        rw [← hq]
        clear hq ok hl
        by_cases hd : q - c.k2 < 0
        · rw [if_pos hd]
          go_enter Tryd.func18, Tryd.ntmps18
          go_upto_region 1 with fail
          rw [hW.out]
          clear hW B
          go_wp2
          go_ret
          exact ⟨rfl, LW.out⟩
        · rw [if_neg hd]
          go_enter Tryd.func18, Tryd.ntmps18
          go_upto_region 1 with fail
          rw [hW.out]
          clear hW B
          go_wp2
          go_ret
          exact ⟨by go_num, LW.out⟩
      · rw [horC_of (c := c) (x := c.k3) (by unfold Cf.kp; rw [if_neg (by omega), if_neg (by omega), if_neg (by omega)])]
        have hk : 1 ≤ c.k3 ∧ c.k3 ≤ 100000 := by unfold okC at ok; omega
        obtain ⟨q, hq⟩ : ∃ q, q = now / 8640 := ⟨_, rfl⟩
        have hq0 : 0 ≤ q ∧ q ≤ 127258290 := by omega
        have hqd : now.tdiv 8640 = q := by rw [Int.tdiv_eq_ediv_of_nonneg h0]; exact hq.symm
        rw [← hq]
        clear hq ok hl
        by_cases hd : q - c.k3 < 0
        · rw [if_pos hd]
          go_enter Tryd.func18, Tryd.ntmps18
          go_upto_region 1 with fail
          rw [hW.out]
          clear hW B
          go_wp2
          go_ret
          exact ⟨rfl, LW.out⟩
        · rw [if_neg hd]
          go_enter Tryd.func18, Tryd.ntmps18
          go_upto_region 1 with fail
          rw [hW.out]
          clear hW B
          go_wp2
          go_ret
          exact ⟨by go_num, LW.out⟩
end Go.Proofs.YtejflcfcbjadhaaDoor
