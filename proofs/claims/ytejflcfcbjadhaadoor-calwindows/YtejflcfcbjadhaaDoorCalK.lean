/-
  Slots, days, levels and horizons in plain words. No function is named.
  Conditions: as each theorem says.
-/
import Derived.RowKit3
namespace Go.Proofs.YtejflcfcbjadhaaDoor

/-- A config: its slack, and how many days each level is kept. -/
structure Cf where
  sl : Int
  k0 : Int
  k1 : Int
  k2 : Int
  k3 : Int
/-- Numbers as numbers may be. -/
structure CfW (c : Cf) : Prop where
  sl : (Lit.int .i64 c.sl).wf = true
  k0 : (Lit.int .i64 c.k0).wf = true
  k1 : (Lit.int .i64 c.k1).wf = true
  k2 : (Lit.int .i64 c.k2).wf = true
  k3 : (Lit.int .i64 c.k3).wf = true
/-- How many days a level is kept, held at the ends. -/
def Cf.kp (c : Cf) (l : Int) : Int := if l < 1 then c.k0 else if l < 2 then c.k1 else if l < 3 then c.k2 else c.k3
/-- May it be? -/
def okC (c : Cf) : Prop := 0 ≤ c.sl ∧ c.sl ≤ 8640000 ∧ 1 ≤ c.k0 ∧ c.k0 ≤ c.k1 ∧ c.k1 ≤ c.k2 ∧ c.k2 ≤ c.k3 ∧ c.k3 ≤ 100000
instance (c : Cf) : Decidable (okC c) := by unfold okC; infer_instance
def chkC (c : Cf) : Bool := decide (okC c)
def resC (l : Int) : Int := if l = 0 then 1 else if l = 1 then 6 else if l = 2 then 360 else if l = 3 then 8640 else 0
/-- Rounded down to a multiple; where there is none, the least one. -/
def floorC (a l : Int) : Int := if resC l = 0 then a else if a < -9223372036854775808 + a % resC l then a + (resC l - a % resC l) else a - a % resC l
/-- The first day that a level still has. -/
def dayC (c : Cf) (now l : Int) : Int := if now / 8640 - c.kp l < 0 then 0 else now / 8640 - c.kp l
def horC (c : Cf) (now l : Int) : Int := dayC c now l * 8640
def levC (c : Cf) (now day : Int) : Int := if dayC c now 0 ≤ day then 0 else if dayC c now 1 ≤ day then 1 else if dayC c now 2 ≤ day then 2 else if dayC c now 3 ≤ day then 3 else 4
def coaC (s t : Int) : Int := if s % 8640 = 0 ∧ t % 8640 = 0 then 3 else if s % 360 = 0 ∧ t % 360 = 0 then 2 else if s % 6 = 0 ∧ t % 6 = 0 then 1 else 0
/-- How many windows. -/
def winC (s t n : Int) : Int := if t < 1 ∨ n < 1 ∨ s < 0 ∨ 1099511627776 < s ∨ 1099511627776 < t ∨ 1099511627776 < n then 0 else if (1099511627776 - s) / t < n then 0 else n
/-- Windows, one behind the other. -/
def winL (s t : Int) (k : Nat) : List (Int × Int) := (List.range k).map fun (i : Nat) => (s + (i : Int) * t, s + (i : Int) * t + t)
theorem winL_len (s t : Int) (k : Nat) : (winL s t k).length = k := by simp [winL]
theorem winL_take (s t : Int) (k m : Nat) : (winL s t k).take m = winL s t (min m k) := by
  unfold winL
  rw [← List.map_take, List.take_range]
theorem winL_more (s t : Int) (k : Nat) : winL s t (k + 1) = winL s t k ++ [(s + (k : Int) * t, s + (k : Int) * t + t)] := by
  unfold winL
  rw [List.range_succ, List.map_append]
  rfl
theorem resC_cases (l : Int) : resC l = 0 ∨ resC l = 1 ∨ resC l = 6 ∨ resC l = 360 ∨ resC l = 8640 := by
  unfold resC
  split
  · omega
  · split
    · omega
    · split
      · omega
      · split
        · omega
        · omega
/-- What has been rounded down stays. -/
theorem floorC_mult {a l : Int} (h0 : -9223372036854775808 ≤ a) (h1 : a ≤ 9223372036854775807) : floorC (floorC a l) l = floorC a l ∧ -9223372036854775808 ≤ floorC a l ∧ floorC a l ≤ 9223372036854775807 := by
  unfold floorC
  rcases resC_cases l with e | e | e | e | e <;> rw [e]
  all_goals
    repeat' split
    all_goals omega
/-- By an exact division: two roundings are one. -/
theorem floorC_nest {a lo hi : Int} (h0 : 0 ≤ a) (hl : 0 ≤ lo) (hh : hi ≤ 3) (h : lo ≤ hi) : floorC (floorC a lo) hi = floorC a hi ∧ floorC a hi ≤ a ∧ a - floorC a hi < resC hi ∧ resC hi % resC lo = 0 ∧ 0 ≤ floorC a lo ∧ floorC a lo ≤ a ∧ 1 ≤ resC lo ∧ 1 ≤ resC hi := by
  have hlo : lo = 0 ∨ lo = 1 ∨ lo = 2 ∨ lo = 3 := by omega
  have hhi : hi = 0 ∨ hi = 1 ∨ hi = 2 ∨ hi = 3 := by omega
  rcases hlo with rfl | rfl | rfl | rfl <;> rcases hhi with rfl | rfl | rfl | rfl <;> simp only [floorC, resC] <;> simp <;> omega
section
variable {c : Cf} {now day : Int}
theorem okC.kp (h : okC c) (l : Int) : 1 ≤ c.kp l ∧ c.kp l ≤ 100000 := by
  unfold okC at h
  unfold Cf.kp
  repeat' split
  all_goals omega
theorem okC.kp_up (h : okC c) {l l' : Int} (hl : l ≤ l') : c.kp l ≤ c.kp l' := by
  unfold okC at h
  unfold Cf.kp
  repeat' split
  all_goals omega
theorem horC_of {l x : Int} (h : c.kp l = x) : horC c now l = (if now / 8640 - x < 0 then 0 else now / 8640 - x) * 8640 := by unfold horC dayC; rw [h]
theorem dayC_down (h : okC c) {l l' : Int} (hl : l ≤ l') : dayC c now l' ≤ dayC c now l := by
  have := h.kp_up hl
  unfold dayC
  repeat' split
  all_goals omega
theorem dayC_up {l now' : Int} (hn : now ≤ now') : dayC c now l ≤ dayC c now' l := by
  unfold dayC
  repeat' split
  all_goals omega
theorem dayC_nn (l : Int) : 0 ≤ dayC c now l := by
  unfold dayC
  repeat' split
  all_goals omega
theorem dayC_now (h : okC c) (hn : 0 ≤ now) (l : Int) : dayC c now l * 8640 ≤ now ∧ dayC c now l ≤ now / 8640 := by
  have := h.kp l
  unfold dayC
  repeat' split
  all_goals omega
theorem levC_le (c : Cf) (now day : Int) : 0 ≤ levC c now day ∧ levC c now day ≤ 4 := by
  unfold levC
  repeat' split
  all_goals omega
/-- Told by its horizons. -/
theorem levC_iff (h : okC c) {l : Int} (h0 : 0 ≤ l) (h3 : l ≤ 3) : levC c now day ≤ l ↔ dayC c now l ≤ day := by
  have a1 := dayC_down (now := now) h (l := 0) (l' := 1) (by omega)
  have a2 := dayC_down (now := now) h (l := 1) (l' := 2) (by omega)
  have a3 := dayC_down (now := now) h (l := 2) (l' := 3) (by omega)
  have hl : l = 0 ∨ l = 1 ∨ l = 2 ∨ l = 3 := by omega
  unfold levC
  rcases hl with rfl | rfl | rfl | rfl
  all_goals
    repeat' split
    all_goals omega
theorem levC_first {k : Nat} (hk : k ≤ 3) (h : ∀ j : Nat, j < k → ¬ dayC c now j ≤ day) (hd : dayC c now k ≤ day) : levC c now day = k := by
  have hc : k = 0 ∨ k = 1 ∨ k = 2 ∨ k = 3 := by omega
  unfold levC
  rcases hc with rfl | rfl | rfl | rfl
  · have d0 : dayC c now 0 ≤ day := hd
    rw [if_pos d0]; rfl
  · have a0 : ¬ dayC c now 0 ≤ day := h 0 (by omega)
    have d0 : dayC c now 1 ≤ day := hd
    rw [if_neg a0, if_pos d0]; rfl
  · have a0 : ¬ dayC c now 0 ≤ day := h 0 (by omega)
    have a1 : ¬ dayC c now 1 ≤ day := h 1 (by omega)
    have d0 : dayC c now 2 ≤ day := hd
    rw [if_neg a0, if_neg a1, if_pos d0]; rfl
  · have a0 : ¬ dayC c now 0 ≤ day := h 0 (by omega)
    have a1 : ¬ dayC c now 1 ≤ day := h 1 (by omega)
    have a2 : ¬ dayC c now 2 ≤ day := h 2 (by omega)
    have d0 : dayC c now 3 ≤ day := hd
    rw [if_neg a0, if_neg a1, if_neg a2, if_pos d0]; rfl
theorem levC_gone (h : ∀ j : Nat, j < 4 → ¬ dayC c now j ≤ day) : levC c now day = 4 := by
  have a0 : ¬ dayC c now 0 ≤ day := h 0 (by omega)
  have a1 : ¬ dayC c now 1 ≤ day := h 1 (by omega)
  have a2 : ¬ dayC c now 2 ≤ day := h 2 (by omega)
  have a3 : ¬ dayC c now 3 ≤ day := h 3 (by omega)
  unfold levC
  rw [if_neg a0, if_neg a1, if_neg a2, if_neg a3]
theorem levC_up {now' : Int} (hn : now ≤ now') : levC c now day ≤ levC c now' day := by
  have a0 := dayC_up (c := c) (l := 0) hn
  have a1 := dayC_up (c := c) (l := 1) hn
  have a2 := dayC_up (c := c) (l := 2) hn
  have a3 := dayC_up (c := c) (l := 3) hn
  unfold levC
  repeat' split
  all_goals omega
theorem levC_day {day' : Int} (hd : day ≤ day') : levC c now day' ≤ levC c now day := by
  unfold levC
  repeat' split
  all_goals omega
theorem levC_now (h : okC c) (hn : 0 ≤ now) : levC c now (now / 8640) = 0 := by
  have := dayC_now (c := c) h hn 0
  unfold levC
  rw [if_pos this.2]
/-- A day lasts. -/
theorem levC_lasts (h : okC c) {l at' : Int} (h0 : 0 ≤ l) (h3 : l ≤ 3) (hd : 0 ≤ day) (ha : 0 ≤ at') (hb : at' < 8640) :
    levC c ((day + c.kp l) * 8640 + at') day ≤ l ∧ ¬ levC c ((day + c.kp l) * 8640 + at' + 8640) day ≤ l := by
  have hk := h.kp l
  constructor
  · rw [levC_iff h h0 h3]
    unfold dayC
    split <;> omega
  · rw [levC_iff h h0 h3]
    unfold dayC
    split <;> omega
end
/-- The coarsest level divides both, and none above does. -/
theorem coaC_le (s t : Int) : 0 ≤ coaC s t ∧ coaC s t ≤ 3 := by
  unfold coaC
  repeat' split
  all_goals omega
theorem coaC_div (s t : Int) : s % resC (coaC s t) = 0 ∧ t % resC (coaC s t) = 0 := by
  unfold coaC resC
  repeat' split
  all_goals omega
theorem coaC_most {s t k : Int} (h : coaC s t < k) (h3 : k ≤ 3) : ¬ (s % resC k = 0 ∧ t % resC k = 0) := by
  have hk : k = 1 ∨ k = 2 ∨ k = 3 := by have := coaC_le s t; omega
  rcases hk with rfl | rfl | rfl <;> simp only [resC] <;> simp <;> unfold coaC at h <;> (repeat' split at h) <;> omega
end Go.Proofs.YtejflcfcbjadhaaDoor
