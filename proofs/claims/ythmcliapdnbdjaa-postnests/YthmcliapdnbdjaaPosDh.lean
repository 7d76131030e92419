/-
  Lists laid as a heap by their first numbers, plainly and in memory; what holds on the way of Most. No function is named.
  Conditions: as each theorem says.
-/
import Derived.Test.YthmcliapdnbdjaaPosDk
import Derived.Test.YthmcliapdnbdjaaPosM
import Derived.Test.YthmcliapdnbdjaaChK
namespace Go.Proofs.Ythmcliapdnbdjaa
open Go.RowKit
set_option maxRecDepth 20000

/-- A slice and the list that it shows. -/
structure Sg where
  a : Option Addr
  n : Nat
  c : Nat
  l : List Int
def sg0 : Sg := ⟨none, 0, 0, []⟩
def Sg.val (s : Sg) : Value := .slice s.a s.n s.c
/-- It shows a list that is not empty. -/
def SgOk (w : World) (s : Sg) : Prop := SlI w s.a s.n s.c s.l ∧ s.l ≠ []
/-- The one at a place; its first number. -/
def sgA (d : List Sg) (i : Nat) : Sg := d.getD i sg0
def ky (d : List Sg) (i : Nat) : Int := (sgA d i).l.headD 0
theorem sgA_mem {d : List Sg} {i : Nat} (h : i < d.length) : sgA d i ∈ d := by
  unfold sgA
  rw [List.getD_eq_getElem?_getD, List.getElem?_eq_getElem h]
  exact List.getElem_mem h
theorem sgA_is {d : List Sg} {i : Nat} (h : i < d.length) : sgA d i = d[i] := by
  unfold sgA
  rw [List.getD_eq_getElem?_getD, List.getElem?_eq_getElem h]
  rfl
theorem sgA_set {d : List Sg} {i j : Nat} {s : Sg} (h : i < d.length) : sgA (d.set i s) j = if j = i then s else sgA d j := by
  unfold sgA
  rw [List.getD_eq_getElem?_getD, List.getElem?_set, List.getD_eq_getElem?_getD]
  by_cases e : i = j
  · subst e
    rw [if_pos rfl, if_pos rfl, if_pos h]
    rfl
  · rw [if_neg e, if_neg (fun q => e q.symm)]
def Kid (i c : Nat) : Prop := c = 2 * i + 1 ∨ c = 2 * i + 2
/-- A heap from place s on. -/
def HeapF (s : Nat) (d : List Sg) : Prop := ∀ i, s ≤ i → ∀ c, Kid i c → c < d.length → ky d i ≤ ky d c
/-- A heap from place s on but for the one at place p. -/
structure HeapB (s p : Nat) (d : List Sg) : Prop where
  other : ∀ i, s ≤ i → i ≠ p → ∀ c, Kid i c → c < d.length → ky d i ≤ ky d c
  over : ∀ i, s ≤ i → Kid i p → ∀ c, Kid p c → c < d.length → ky d i ≤ ky d c
def swpS (d : List Sg) (i j : Nat) : List Sg := (d.set i (sgA d j)).set j (sgA d i)
theorem swpS_perm {d : List Sg} {i j : Nat} (hi : i < d.length) (hj : j < d.length) : (swpS d i j).Perm d := by
  unfold swpS
  rw [sgA_is hi, sgA_is hj]
  exact List.set_set_perm hi hj
theorem len_swpS (d : List Sg) (i j : Nat) : (swpS d i j).length = d.length := by unfold swpS; simp
theorem ky_swp {d : List Sg} {i j : Nat} (hi : i < d.length) (hj : j < d.length) (k : Nat) : ky (swpS d i j) k = if k = j then ky d i else if k = i then ky d j else ky d k := by
  unfold ky swpS
  rw [sgA_set (by simpa using hj), sgA_set hi]
  split
  · rfl
  · split
    · rfl
    · rfl
theorem HeapB.stop1 {s p : Nat} {d : List Sg} (h : HeapB s p d) (hb : d.length ≤ 2 * p + 1) : HeapF s d := by
  intro i hi c hc hl
  by_cases e : i = p
  · subst e
    unfold Kid at hc
    omega
  · exact h.other i hi e c hc hl
theorem HeapB.stop {s p b : Nat} {d : List Sg} (h : HeapB s p d) (hm : ∀ c, Kid p c → c < d.length → ky d b ≤ ky d c) (hle : ky d p ≤ ky d b) : HeapF s d := by
  intro i hi c hc hl
  by_cases e : i = p
  · subst e
    have := hm c hc hl
    omega
  · exact h.other i hi e c hc hl
theorem HeapB.down {s p b : Nat} {d : List Sg} (h : HeapB s p d) (hs : s ≤ p) (hb : Kid p b) (hbl : b < d.length) (hm : ∀ c, Kid p c → c < d.length → ky d b ≤ ky d c) (hlt : ¬ ky d p ≤ ky d b) : HeapB s b (swpS d p b) := by
  have hpb : p < b := by unfold Kid at hb; omega
  have hp : p < d.length := by omega
  have K := ky_swp hp hbl
  refine ⟨fun i hi hne c hc hl => ?_, fun i hi hk c hc hl => ?_⟩
  · rw [len_swpS] at hl
    rw [K, K, if_neg hne]
    by_cases e : i = p
    · subst e
      rw [if_pos rfl]
      by_cases e2 : c = b
      · rw [if_pos e2]
        omega
      · rw [if_neg e2, if_neg (by unfold Kid at hc; omega)]
        exact hm c hc hl
    · rw [if_neg e, if_neg (by unfold Kid at hc hb; omega)]
      by_cases e3 : c = p
      · rw [if_pos e3]
        rw [e3] at hc
        exact h.over i hi hc b hb hbl
      · rw [if_neg e3]
        exact h.other i hi e c hc hl
  · rw [len_swpS] at hl
    have e : i = p := by unfold Kid at hk hb; omega
    subst e
    rw [K, K, if_neg (by omega), if_pos rfl, if_neg (by unfold Kid at hc; omega), if_neg (by unfold Kid at hc; omega)]
    exact h.other b (by omega) (by omega) c hc hl
theorem heap_least {d : List Sg} (h : HeapF 0 d) : ∀ i, i < d.length → ky d 0 ≤ ky d i := by
  intro i
  induction i using Nat.strongRecOn with
  | _ i ih =>
    intro hi
    by_cases e : i = 0
    · rw [e]
      exact Int.le_refl _
    · have h1 := ih ((i - 1) / 2) (by omega) (by omega)
      have h2 := h ((i - 1) / 2) (by omega) i (by unfold Kid; omega) hi
      omega
theorem heap_begin (d : List Sg) {s : Nat} (hs : d.length ≤ 2 * s + 1) : HeapF s d := by
  intro i hi c hc hl
  unfold Kid at hc
  omega
theorem heap_but {d : List Sg} {s : Nat} (h : HeapF (s + 1) d) : HeapB s s d :=
  ⟨fun i hi hne => h i (by omega), fun i hi hk => by unfold Kid at hk; omega⟩
/-- The first one exchanged. -/
theorem heap_first {d d' : List Sg} (h : HeapF 0 d) (hl : d'.length ≤ d.length) (he : ∀ i, 1 ≤ i → i < d'.length → sgA d' i = sgA d i) : HeapB 0 0 d' := by
  refine ⟨fun i _ hne c hc hcl => ?_, fun i _ hk => by unfold Kid at hk; omega⟩
  have h1 := h i (by omega) c hc (by omega)
  unfold Kid at hc
  unfold ky at h1 ⊢
  rwa [he i (by omega) (by omega), he c (by omega) (by omega)]

/-- In how many of them. -/
def cntS (d : List Sg) (x : Int) : Nat := cntI (d.map (·.l)) x
theorem cntS_perm {d d' : List Sg} (h : d'.Perm d) (x : Int) : cntS d' x = cntS d x := by
  unfold cntS cntI
  exact (h.map _).countP_eq _
theorem cntS_zero {d : List Sg} {x : Int} : cntS d x = 0 ↔ ∀ s ∈ d, x ∉ s.l := by
  unfold cntS cntI
  rw [List.countP_eq_zero]
  simp
theorem cntS_cons (s : Sg) (d : List Sg) (x : Int) : cntS (s :: d) x = cntS d x + if x ∈ s.l then 1 else 0 := by
  unfold cntS
  rw [List.map_cons, cntI_cons]
theorem cntS_le (d : List Sg) (x : Int) : cntS d x ≤ d.length := by
  have := cntI_le (d.map (·.l)) x
  unfold cntS
  simpa using this
/-- All their numbers. -/
def totS (d : List Sg) : Nat := (d.map (·.l.length)).sum
theorem totS_perm {d d' : List Sg} (h : d'.Perm d) : totS d' = totS d := (h.map _).sum_nat
/-- One number passed: of the first one. -/
def Passed (w : World) (d d' : List Sg) : Prop := ∃ (s0 s1 : Sg) (rest : List Sg) (v : Int) (t : List Int), d = s0 :: rest ∧ s0.l = v :: t ∧ s1.l = t ∧ (t ≠ [] → SgOk w s1) ∧ d'.Perm (if t = [] then rest else s1 :: rest)
theorem Passed.tot {w : World} {d d' : List Sg} (h : Passed w d d') : totS d' < totS d := by
  obtain ⟨s0, s1, rest, v, t, rfl, h1, h2, -, h3⟩ := h
  rw [totS_perm h3]
  unfold totS
  split
  · rw [List.map_cons, List.sum_cons, h1, List.length_cons]
    omega
  · rw [List.map_cons, List.sum_cons, List.map_cons, List.sum_cons, h1, h2, List.length_cons]
    omega
theorem Passed.cnt {w : World} {d d' : List Sg} (h : Passed w d d') (hu : ∀ s ∈ d, upI s.l) (x : Int) : cntS d x = cntS d' x + if x = ky d 0 then 1 else 0 := by
  obtain ⟨s0, s1, rest, v, t, rfl, h1, h2, -, h3⟩ := h
  have hk : ky (s0 :: rest) 0 = v := by show s0.l.headD 0 = v; rw [h1]; rfl
  have hut : upI (v :: t) := h1 ▸ hu s0 (by simp)
  rw [hk, cntS_perm h3, cntS_cons, h1]
  have e : (if x ∈ v :: t then 1 else 0) = (if x ∈ t then 1 else 0) + if x = v then 1 else 0 := by
    by_cases hx : x = v
    · subst hx
      have hn : x ∉ t := fun q => by have := upI_head hut x q; omega
      simp [hn]
    · by_cases ht : x ∈ t <;> simp [hx, ht]
  rw [e]
  by_cases ht : t = []
  · rw [if_pos ht, ht]
    simp
  · rw [if_neg ht, cntS_cons, h2]
    omega
theorem Passed.ok {w : World} {d d' : List Sg} (h : Passed w d d') (hu : ∀ s ∈ d, SgOk w s) : ∀ s ∈ d', SgOk w s := by
  obtain ⟨s0, s1, rest, v, t, rfl, h1, h2, h4, h3⟩ := h
  intro s hs
  rw [h3.mem_iff] at hs
  split at hs
  · exact hu s (by simp [hs])
  · rename_i ht
    rcases List.mem_cons.1 hs with e | e
    · rw [e]
      exact h4 ht
    · exact hu s (by simp [e])
theorem Passed.sub {w : World} {d d' : List Sg} (h : Passed w d d') : ∀ s ∈ d', ∃ s' ∈ d, (∀ y ∈ s.l, y ∈ s'.l) ∧ (upI s'.l → upI s.l) := by
  obtain ⟨s0, s1, rest, v, t, rfl, h1, h2, h4, h3⟩ := h
  intro s hs
  rw [h3.mem_iff] at hs
  split at hs
  · exact ⟨s, by simp [hs], fun y hy => hy, id⟩
  · rcases List.mem_cons.1 hs with e | e
    · refine ⟨s0, by simp, fun y hy => ?_, fun q => ?_⟩
      · rw [e, h2] at hy
        rw [h1]
        exact List.mem_cons_of_mem _ hy
      · rw [e, h2]
        rw [h1] at q
        exact upI_tail q
    · exact ⟨s, by simp [e], fun y hy => hy, id⟩

/-- On the way of Most, ahead of a number. -/
structure MoI (ls : List (List Int)) (k : Int) (d : List Sg) (out : List Int) : Prop where
  up : ∀ s ∈ d, upI s.l ∧ s.l ≠ []
  uo : upI out
  lo : ∀ x ∈ out, ∀ s ∈ d, ∀ y ∈ s.l, x < y
  gone : ∀ x, cntS d x = 0 → (x ∈ out ↔ k ≤ (cntI ls x : Int))
  here : ∀ x, cntS d x ≠ 0 → cntS d x = cntI ls x
/-- While a number v is passed: n - 1 times so far. -/
structure MoJ (ls : List (List Int)) (k : Int) (v : Int) (n : Nat) (d : List Sg) (out : List Int) : Prop where
  up : ∀ s ∈ d, upI s.l ∧ s.l ≠ []
  min : ∀ s ∈ d, ∀ y ∈ s.l, v ≤ y
  uo : upI out
  lo : ∀ x ∈ out, x ≤ v
  vin : v ∈ out ↔ k < (n : Int)
  cnt : cntS d v + n = cntI ls v + 1
  gone : ∀ x, x ≠ v → cntS d x = 0 → (x ∈ out ↔ k ≤ (cntI ls x : Int))
  here : ∀ x, x ≠ v → cntS d x ≠ 0 → cntS d x = cntI ls x
theorem head_of {l : List Int} (h : l ≠ []) : ∃ p t, l = p :: t := by
  cases l with
  | nil => exact absurd rfl h
  | cons p t => exact ⟨p, t, rfl⟩
theorem ky_min {d : List Sg} (h : HeapF 0 d) (hu : ∀ s ∈ d, upI s.l ∧ s.l ≠ []) : ∀ s ∈ d, ∀ y ∈ s.l, ky d 0 ≤ y := by
  intro s hs y hy
  obtain ⟨i, hi, e⟩ := List.mem_iff_getElem.1 hs
  have h1 := heap_least h i hi
  obtain ⟨p, t, e2⟩ := head_of (hu s hs).2
  have h2 : ky d i = p := by
    unfold ky
    rw [sgA_is hi, e, e2]
    rfl
  have hup := (hu s hs).1
  rw [e2] at hy hup
  rcases List.mem_cons.1 hy with e3 | e3
  · omega
  · have := upI_head hup y e3
    omega
theorem ky_mem {d : List Sg} (hd : 0 < d.length) (hu : ∀ s ∈ d, upI s.l ∧ s.l ≠ []) : ky d 0 ∈ (sgA d 0).l := by
  obtain ⟨p, t, e⟩ := head_of (hu _ (sgA_mem hd)).2
  unfold ky
  rw [e]
  simp
theorem MoI.begin {ls : List (List Int)} {k : Int} {d : List Sg} {out : List Int} (h : MoI ls k d out) (hk : 1 ≤ k) (hh : HeapF 0 d) (hd : 0 < d.length) : MoJ ls k (ky d 0) 1 d out := by
  have hm := ky_mem hd h.up
  have hlo : ∀ x ∈ out, x < ky d 0 := fun x hx => h.lo x hx _ (sgA_mem hd) _ hm
  have hc : cntS d (ky d 0) ≠ 0 := fun e => (cntS_zero.1 e) _ (sgA_mem hd) hm
  refine ⟨h.up, ky_min hh h.up, h.uo, fun x hx => by have := hlo x hx; omega, ?_, ?_, fun x _ => h.gone x, fun x _ => h.here x⟩
  · constructor
    · intro q
      have := hlo _ q
      omega
    · intro q
      omega
  · rw [h.here _ hc]
theorem MoJ.step {ls : List (List Int)} {k v : Int} {n : Nat} {d d' : List Sg} {out : List Int} {w : World} (h : MoJ ls k v n d out) (hp : Passed w d d') (hv : ky d 0 = v) : MoJ ls k v (n + 1) d' (if (n : Int) = k then out ++ [v] else out) := by
  have hc := hp.cnt (fun s hs => (h.up s hs).1)
  rw [hv] at hc
  have hne : ∀ s ∈ d', s.l ≠ [] := by
    obtain ⟨s0, s1, rest, v', t, rfl, h1, h2, h4, h3⟩ := hp
    intro s hs
    rw [h3.mem_iff] at hs
    split at hs
    · exact (h.up s (by simp [hs])).2
    · rename_i ht
      rcases List.mem_cons.1 hs with e | e
      · rw [e, h2]
        exact ht
      · exact (h.up s (by simp [e])).2
  refine ⟨fun s hs => ?_, fun s hs y hy => ?_, ?_, ?_, ?_, ?_, fun x hx h0 => ?_, fun x hx h0 => ?_⟩
  · obtain ⟨s', q1, q2, q3⟩ := hp.sub s hs
    exact ⟨q3 (h.up s' q1).1, hne s hs⟩
  · obtain ⟨s', q1, q2, q3⟩ := hp.sub s hs
    exact h.min s' q1 y (q2 y hy)
  · split
    · rename_i e
      refine upI_snoc.2 ⟨h.uo, fun y hy => ?_⟩
      have h1 := h.lo y hy
      have h2 : y ≠ v := fun q => by
        rw [q] at hy
        have := h.vin.1 hy
        omega
      omega
    · exact h.uo
  · intro x hx
    split at hx
    · rcases List.mem_append.1 hx with e | e
      · exact h.lo x e
      · rw [List.mem_singleton] at e
        omega
    · exact h.lo x hx
  · have h1 := h.vin
    split
    · constructor
      · intro _
        omega
      · intro _
        simp
    · rw [h1]
      omega
  · have h1 := hc v
    have h2 := h.cnt
    rw [if_pos rfl] at h1
    omega
  · have h1 := hc x
    rw [if_neg hx, Nat.add_zero] at h1
    rw [← h.gone x hx (by omega)]
    split
    · rw [List.mem_append, List.mem_singleton]
      exact ⟨fun q => q.elim id (fun e => absurd e hx), Or.inl⟩
    · exact Iff.rfl
  · have h1 := hc x
    rw [if_neg hx, Nat.add_zero] at h1
    rw [← h1]
    exact h.here x hx (by omega)
theorem MoJ.done {ls : List (List Int)} {k v : Int} {n : Nat} {d : List Sg} {out : List Int} (h : MoJ ls k v (n + 1) d out) (hh : HeapF 0 d) (he : d.length = 0 ∨ ky d 0 ≠ v) : MoI ls k d out := by
  have hlt : ∀ s ∈ d, ∀ y ∈ s.l, v < y := by
    intro s hs y hy
    rcases he with e | e
    · rw [List.length_eq_zero_iff.1 e] at hs
      cases hs
    · have hd : 0 < d.length := by
        obtain ⟨i, hi, -⟩ := List.mem_iff_getElem.1 hs
        omega
      have h1 := h.min _ (sgA_mem hd) _ (ky_mem hd h.up)
      have h2 := ky_min hh h.up s hs y hy
      omega
  have hz : cntS d v = 0 := cntS_zero.2 (fun s hs q => by have := hlt s hs v q; omega)
  have hc := h.cnt
  refine ⟨h.up, h.uo, fun x hx s hs y hy => ?_, fun x h0 => ?_, fun x h0 => ?_⟩
  · have h1 := h.lo x hx
    have h2 := hlt s hs y hy
    omega
  · by_cases e : x = v
    · subst e
      rw [h.vin]
      omega
    · exact h.gone x e h0
  · by_cases e : x = v
    · subst e
      exact absurd hz h0
    · exact h.here x e h0
theorem MoI.end' {ls : List (List Int)} {k : Int} {d : List Sg} {out : List Int} (h : MoI ls k d out) (hk : 1 ≤ k) (hu : ∀ l ∈ ls, upI l) (hd : d.length = 0) : out = mostS ls k := by
  refine upI_ext h.uo (upI_most _ _) (fun x => ?_)
  have h0 : cntS d x = 0 := by
    rw [List.length_eq_zero_iff.1 hd]
    rfl
  rw [h.gone x h0, mem_most]
  exact ⟨fun q => ⟨hk, hu, q⟩, fun q => q.2.2⟩
theorem moI_start {ls : List (List Int)} {k : Int} {d : List Sg} (hk : 1 ≤ k) (hu : ∀ l ∈ ls, upI l) (hd : (d.map (·.l)).Perm (ls.filter (fun l => !l.isEmpty))) : MoI ls k d [] := by
  have hc : ∀ x, cntS d x = cntI ls x := by
    intro x
    unfold cntS cntI
    rw [hd.countP_eq, List.countP_filter]
    refine List.countP_congr (fun l _ => ?_)
    cases l with
    | nil => simp
    | cons p t => simp
  have hm : ∀ s ∈ d, s.l ∈ ls ∧ s.l ≠ [] := by
    intro s hs
    have h1 : s.l ∈ d.map (·.l) := List.mem_map.2 ⟨s, hs, rfl⟩
    rw [hd.mem_iff, List.mem_filter] at h1
    refine ⟨h1.1, fun e => ?_⟩
    rw [e] at h1
    simp at h1
  refine ⟨fun s hs => ⟨hu _ (hm s hs).1, (hm s hs).2⟩, upI_nil, fun x hx => (by cases hx), fun x h0 => ?_, fun x _ => hc x⟩
  rw [hc x] at h0
  rw [h0]
  constructor
  · intro q
    cases q
  · intro q
    omega
/-- How many there can be. -/
theorem MoJ.few {ls : List (List Int)} {k v : Int} {n : Nat} {d : List Sg} {out : List Int} (h : MoJ ls k v n d out) : n ≤ ls.length + 1 := by
  have h1 := h.cnt
  have h2 := cntI_le ls v
  omega

/-- Block g holds c cells of slices, of which the first show these. -/
structure SRw (w : World) (g c : Nat) (d : List Sg) : Prop where
  fits : d.length ≤ c
  heap : ∃ cur, w.heap[g]? = some (.cells cur 22 (0, 0)) ∧ cur.size = c ∧ ∀ i, i < d.length → cur[i]? = some (sgA d i).val
section
variable {w w' : World} {g c : Nat} {d : List Sg}
theorem SRw.lt (h : SRw w g c d) : g < w.heap.size := by
  obtain ⟨cur, h1, _⟩ := h.heap
  exact (Array.getElem?_eq_some_iff.1 h1).1
theorem SRw.cell (h : SRw w g c d) {i : Nat} (hi : i < d.length) : w.cell? ⟨g, i, none⟩ = some (.slice (sgA d i).a (sgA d i).n (sgA d i).c) := by
  obtain ⟨cur, h1, _, h3⟩ := h.heap
  rw [cell_of_row w g i _ _ (0, 0) h1]
  exact h3 i hi
theorem SRw.frozen (h : SRw w g c d) (i : Nat) : w.frozen? ⟨g, i, none⟩ = false := by
  obtain ⟨cur, h1, _⟩ := h.heap
  exact frozen_of_row w g i _ _ h1
theorem SRw.block (h : SRw w g c d) (e : w'.heap[g]? = w.heap[g]?) : SRw w' g c d := by
  obtain ⟨cur, h1, h2⟩ := h.heap
  exact ⟨h.fits, cur, e.trans h1, h2⟩
theorem SRw.drew (h : SRw w g c d) : SRw w.drew g c d := h.block rfl
theorem SRw.drewN (h : SRw w g c d) (q : Nat) : SRw (w.drewN q) g c d := h.block rfl
theorem SRw.ch {S : Nat → Prop} (h : SRw w g c d) (k : Ch S w w') (hn : ¬ S g) : SRw w' g c d := h.block (k.block g h.lt hn)
theorem SRw.below (h : SRw w g c d) (k : Below w.heap.size w w') : SRw w' g c d := h.block (k.block g h.lt)
theorem SRw.set (h : SRw w g c d) {i : Nat} (hi : i < d.length) (s : Sg) : SRw (w.setCell ⟨g, i, none⟩ s.val) g c (d.set i s) := by
  obtain ⟨cur, h1, h2, h3⟩ := h.heap
  refine ⟨by simpa using h.fits, cur.setIfInBounds i s.val, heap_setCell_same w g i _ _ _ h1, by simpa using h2, fun k hk => ?_⟩
  have hk' : k < d.length := by simpa using hk
  rw [sgA_set hi]
  by_cases e : i = k
  · subst e
    have hic : i < cur.size := by have := h.fits; omega
    rw [Array.getElem?_setIfInBounds, if_pos rfl, if_pos hic, if_pos rfl]
  · rw [Array.getElem?_setIfInBounds, if_neg e, h3 k hk', if_neg (fun q => e q.symm)]
theorem SRw.swap (h : SRw w g c d) {i j : Nat} (hi : i < d.length) (hj : j < d.length) :
    SRw ((w.setCell ⟨g, i, none⟩ (sgA d j).val).setCell ⟨g, j, none⟩ (sgA d i).val) g c (swpS d i j) := by
  unfold swpS
  exact (h.set hi _).set (by simpa using hj) _
theorem SRw.take (h : SRw w g c d) (k : Nat) : SRw w g c (d.take k) := by
  obtain ⟨cur, h1, h2, h3⟩ := h.heap
  refine ⟨by rw [List.length_take]; have := h.fits; omega, cur, h1, h2, fun i hi => ?_⟩
  rw [List.length_take] at hi
  rw [h3 i (by omega)]
  unfold sgA
  rw [List.getD_eq_getElem?_getD, List.getD_eq_getElem?_getD, List.getElem?_take, if_pos (by omega)]
theorem SRw.cellsT (h : SRw w g c d) : CellsT w g 22 := by
  obtain ⟨cur, h1, _⟩ := h.heap
  exact ⟨cur, _, h1⟩
theorem ch_swapG (h : Ch (fun k => k = g) w w') (i j : Nat) (u v : Value) : Ch (fun k => k = g) w ((w'.setCell ⟨g, i, none⟩ u).setCell ⟨g, j, none⟩ v) := h.trans ((ch_set w' g i u).trans (ch_set _ g j v))
theorem ch_drewG {S : Nat → Prop} {a b : World} (h : Ch S a b) : Ch S a b.drew := ⟨h.os, h.tape, h.output, h.size, h.block⟩
/-- The lists' own row as such a block. -/
theorem own_srw {base n cap : Nat} {a : Option Addr} (h : w.ownsRow base 22 1 (.slice a n cap) n (d.map Sg.val)) :
    (a = none ∧ n = 0 ∧ cap = 0 ∧ d = []) ∨ ∃ g, a = some ⟨g, 0, none⟩ ∧ base ≤ g ∧ SRw w g cap d := by
  have hl : d.length = n := by simpa using h.1
  rcases h.2 with ⟨h1, h2⟩ | ⟨g, c, cur, h1, hb, hg, h4, h5, h6, h7⟩
  · simp only [Value.slice.injEq] at h1
    exact Or.inl ⟨h1.1, h2, h1.2.2, List.length_eq_zero_iff.1 (by omega)⟩
  · simp only [Value.slice.injEq, true_and] at h1
    obtain ⟨rfl, rfl⟩ := h1
    refine Or.inr ⟨g, rfl, hb, ⟨by omega, cur, hg, by omega, fun i hi => ?_⟩⟩
    have e : (cur.toList.take (n * 1))[i]? = (d.map Sg.val)[i]? := by rw [h7]
    rw [List.getElem?_take, if_pos (by omega), List.getElem?_map, List.getElem?_eq_getElem hi, Array.getElem?_toList] at e
    rw [e, sgA_is hi]
    rfl
end
end Go.Proofs.Ythmcliapdnbdjaa
