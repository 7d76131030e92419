/-
  Sets of labels by numbers, plainly: which number a set has, who has which value, who is meant, which values there are. No function is named.
  Conditions: as each theorem says.
-/
import Derived.Test.YtpffhpnmbpjifaaGreatLabZa
namespace Go.Proofs.YtpffhpnmbpjifaaGreat

abbrev Lx := List (List Lb)
/-- The first place of a set. -/
def findX : Lx → List Lb → Option Nat
  | [], _ => none
  | x :: t, l => if x = l then some 0 else (findX t l).map (· + 1)
theorem findX_some {L : Lx} {l : List Lb} {k : Nat} (h : findX L l = some k) : L[k]? = some l := by
  induction L generalizing k with
  | nil => cases h
  | cons x t ih =>
    unfold findX at h
    split at h
    · rename_i e
      cases h
      rw [e]
      rfl
    · cases hf : findX t l with
      | none => rw [hf] at h; cases h
      | some j =>
        rw [hf] at h
        cases h
        exact ih hf
theorem findX_mem {L : Lx} {l : List Lb} (h : l ∈ L) : ∃ k, findX L l = some k := by
  induction L with
  | nil => cases h
  | cons x t ih =>
    unfold findX
    split
    · exact ⟨0, rfl⟩
    · rename_i hne
      rcases List.mem_cons.1 h with e | e
      · exact absurd e.symm hne
      · obtain ⟨k, hk⟩ := ih e
        exact ⟨k + 1, by rw [hk]; rfl⟩
theorem findX_none {L : Lx} {l : List Lb} (h : findX L l = none) : l ∉ L := fun hm => by
  obtain ⟨k, hk⟩ := findX_mem hm
  rw [hk] at h
  cases h
theorem findX_out {L : Lx} {l : List Lb} (h : l ∉ L) : findX L l = none := by
  cases hf : findX L l with
  | none => rfl
  | some k => exact absurd (List.mem_of_getElem? (findX_some hf)) h
/-- By going through. -/
theorem findX_at {L : Lx} {l : List Lb} {k : Nat} (h1 : L[k]? = some l) (h2 : l ∉ L.take k) : findX L l = some k := by
  induction L generalizing k with
  | nil => simp at h1
  | cons x t ih =>
    cases k with
    | zero =>
      simp at h1
      unfold findX
      rw [if_pos h1]
    | succ k =>
      rw [List.take_succ_cons, List.mem_cons, not_or] at h2
      unfold findX
      rw [if_neg (fun e => h2.1 e.symm), ih (by simpa using h1) h2.2]
      rfl
theorem findX_lt {L : Lx} {l : List Lb} {k : Nat} (h : findX L l = some k) : k < L.length := (List.getElem?_eq_some_iff.1 (findX_some h)).1
/-- The number that Find tells. -/
def findN (L : Lx) (l : List Lb) : Int := match findX L l with
  | some k => (k : Int)
  | none => -1
/-- What ID answers, and the sets behind it. -/
def idN (L : Lx) (l : List Lb) : Int := if chkL l = true then (match findX L l with
  | some k => (k : Int)
  | none => if 4096 ≤ L.length then -1 else (L.length : Int)) else -1
def idE (L : Lx) (l : List Lb) : Int := if chkL l = true then (match findX L l with
  | some _ => 0
  | none => if 4096 ≤ L.length then 2 else 0) else 5
def idL (L : Lx) (l : List Lb) : Lx := if chkL l = true then (match findX L l with
  | some _ => L
  | none => if 4096 ≤ L.length then L else L ++ [l]) else L
theorem id_no {L : Lx} {l : List Lb} (h : chkL l = false) : idN L l = -1 ∧ idE L l = 5 ∧ idL L l = L := by
  unfold idN idE idL
  simp [h]
theorem id_has {L : Lx} {l : List Lb} {k : Nat} (h : chkL l = true) (hf : findX L l = some k) : idN L l = k ∧ idE L l = 0 ∧ idL L l = L := by
  unfold idN idE idL
  simp [h, hf]
theorem id_full {L : Lx} {l : List Lb} (h : chkL l = true) (hf : findX L l = none) (hl : 4096 ≤ L.length) : idN L l = -1 ∧ idE L l = 2 ∧ idL L l = L := by
  unfold idN idE idL
  simp [h, hf, hl]
theorem id_new {L : Lx} {l : List Lb} (h : chkL l = true) (hf : findX L l = none) (hl : L.length < 4096) : idN L l = L.length ∧ idE L l = 0 ∧ idL L l = L ++ [l] := by
  have : ¬ 4096 ≤ L.length := by omega
  unfold idN idE idL
  simp [h, hf, this]
/-- Sets that may be. -/
def GoodX (L : Lx) : Prop := ∀ l ∈ L, chkL l = true
theorem good_nil : GoodX [] := fun l h => by cases h
theorem good_id {L : Lx} (h : GoodX L) (l : List Lb) : GoodX (idL L l) := by
  cases hc : chkL l with
  | false => rw [(id_no hc).2.2]; exact h
  | true =>
    cases hf : findX L l with
    | some k => rw [(id_has hc hf).2.2]; exact h
    | none =>
      by_cases hl : 4096 ≤ L.length
      · rw [(id_full hc hf hl).2.2]; exact h
      · rw [(id_new hc hf (by omega)).2.2]
        intro x hx
        rcases List.mem_append.1 hx with e | e
        · exact h x e
        · rw [List.mem_singleton] at e
          rw [e]
          exact hc
theorem len_id (L : Lx) (l : List Lb) : (idL L l).length ≤ L.length + 1 ∧ L.length ≤ (idL L l).length := by
  cases hc : chkL l with
  | false => rw [(id_no hc).2.2]; omega
  | true =>
    cases hf : findX L l with
    | some k => rw [(id_has hc hf).2.2]; omega
    | none =>
      by_cases hl : 4096 ≤ L.length
      · rw [(id_full hc hf hl).2.2]; omega
      · rw [(id_new hc hf (by omega)).2.2, List.length_append]
        simp
/-- The sets laid one behind the other. -/
def laidX (sets : Lx) : Lx := sets.foldl idL []
theorem laidX_step {sets : Lx} {k : Nat} {l : List Lb} (h : sets[k]? = some l) : laidX (sets.take (k + 1)) = idL (laidX (sets.take k)) l := by
  obtain ⟨hk, e⟩ := List.getElem?_eq_some_iff.1 h
  unfold laidX
  rw [List.take_succ_eq_append_getElem hk, List.foldl_append, e]
  rfl
theorem laidX_good (sets : Lx) : GoodX (laidX sets) ∧ (laidX sets).length ≤ sets.length := by
  have h : ∀ (m : Lx) (L : Lx), GoodX L → GoodX (m.foldl idL L) ∧ (m.foldl idL L).length ≤ L.length + m.length := by
    intro m
    induction m with
    | nil => intro L hL; exact ⟨hL, by simp⟩
    | cons x t ih =>
      intro L hL
      obtain ⟨h1, h2⟩ := ih (idL L x) (good_id hL x)
      refine ⟨h1, ?_⟩
      have := (len_id L x).1
      rw [List.foldl_cons, List.length_cons]
      omega
  obtain ⟨h1, h2⟩ := h sets [] good_nil
  simp only [List.length_nil, Nat.zero_add] at h2
  exact ⟨h1, h2⟩
/-- The places of those that a test takes. -/
def idxs (p : List Lb → Bool) : Nat → Lx → List Int
  | _, [] => []
  | k, x :: t => if p x = true then (k : Int) :: idxs p (k + 1) t else idxs p (k + 1) t
theorem idxs_append (p : List Lb → Bool) (k : Nat) (L M : Lx) : idxs p k (L ++ M) = idxs p k L ++ idxs p (k + L.length) M := by
  induction L generalizing k with
  | nil => simp [idxs]
  | cons x t ih =>
    rw [List.cons_append, idxs, idxs, ih (k + 1), List.length_cons, show k + 1 + t.length = k + (t.length + 1) by omega]
    split
    · rfl
    · rfl
theorem idxs_step {p : List Lb → Bool} {L : Lx} {k : Nat} {l : List Lb} (h : L[k]? = some l) : idxs p 0 (L.take (k + 1)) = idxs p 0 (L.take k) ++ (if p l = true then [(k : Int)] else []) := by
  obtain ⟨hk, e⟩ := List.getElem?_eq_some_iff.1 h
  rw [List.take_succ_eq_append_getElem hk, idxs_append, List.length_take, Nat.zero_add, Nat.min_eq_left (by omega), e]
  unfold idxs
  split
  · rfl
  · rfl
theorem idxs_len (p : List Lb → Bool) (k : Nat) (L : Lx) : (idxs p k L).length ≤ L.length := by
  induction L generalizing k with
  | nil => simp [idxs]
  | cons x t ih =>
    unfold idxs
    have := ih (k + 1)
    split
    · simp only [List.length_cons]; omega
    · simp only [List.length_cons]; omega
theorem mem_idxs {p : List Lb → Bool} {L : Lx} {j : Int} : ∀ {k : Nat}, j ∈ idxs p k L ↔ ∃ i l, L[i]? = some l ∧ p l = true ∧ j = ((k + i : Nat) : Int) := by
  induction L with
  | nil => intro k; simp [idxs]
  | cons x t ih =>
    intro k
    have e : j ∈ idxs p k (x :: t) ↔ (p x = true ∧ j = (k : Int)) ∨ j ∈ idxs p (k + 1) t := by
      rw [idxs]
      split
      · rename_i h
        rw [List.mem_cons]
        simp [h]
      · rename_i h
        simp [h]
    rw [e, ih]
    constructor
    · rintro (⟨h1, h2⟩ | ⟨i, l, h1, h2, h3⟩)
      · exact ⟨0, x, rfl, h1, by omega⟩
      · exact ⟨i + 1, l, by simpa using h1, h2, by omega⟩
    · rintro ⟨i, l, h1, h2, h3⟩
      cases i with
      | zero =>
        simp at h1
        subst h1
        exact Or.inl ⟨h2, by omega⟩
      | succ i => exact Or.inr ⟨i, l, by simpa using h1, h2, by omega⟩
theorem idxs_wf (p : List Lb → Bool) (L : Lx) : ∀ z ∈ idxs p 0 L, 0 ≤ z ∧ z < L.length := by
  intro z hz
  obtain ⟨i, l, h1, -, h3⟩ := mem_idxs.1 hz
  have := (List.getElem?_eq_some_iff.1 h1).1
  omega
/-- Who has a value. -/
def valP (nm v : ByteArray) (l : List Lb) : Bool := decide (valL l nm = v)
def postX (L : Lx) (nm v : ByteArray) : List Int := idxs (valP nm v) 0 L
/-- Who is meant. -/
def evalP (m : Mt) (l : List Lb) : Bool := evalM l m
def selX (L : Lx) (m : Mt) : List Int := idxs (evalP m) 0 L
/-- One value more, by bytes. -/
abbrev Vn := ByteArray × Nat
def insV (v : ByteArray) : List Vn → List Vn
  | [] => [(v, 1)]
  | x :: t => if Op.bytesLess x.1.toList v.toList = true then x :: insV v t else if x.1 = v then (x.1, x.2 + 1) :: t else (v, 1) :: x :: t
def addV (acc : List Vn) (v : ByteArray) : List Vn := if v = .empty then acc else insV v acc
/-- The values of a name, and how many have each. -/
def valsX (L : Lx) (nm : ByteArray) : List Vn := L.foldl (fun acc l => addV acc (valL l nm)) []
theorem valsX_step {L : Lx} {nm : ByteArray} {k : Nat} {l : List Lb} (h : L[k]? = some l) : valsX (L.take (k + 1)) nm = addV (valsX (L.take k) nm) (valL l nm) := by
  obtain ⟨hk, e⟩ := List.getElem?_eq_some_iff.1 h
  unfold valsX
  rw [List.take_succ_eq_append_getElem hk, List.foldl_append, e]
  rfl
theorem len_insV (v : ByteArray) (l : List Vn) : (insV v l).length ≤ l.length + 1 := by
  induction l with
  | nil => simp [insV]
  | cons x t ih =>
    unfold insV
    split
    · simp only [List.length_cons]; omega
    · split
      · simp
      · simp
theorem len_valsX (L : Lx) (nm : ByteArray) : (valsX L nm).length ≤ L.length := by
  have h : ∀ (m : Lx) (acc : List Vn), (m.foldl (fun acc l => addV acc (valL l nm)) acc).length ≤ acc.length + m.length := by
    intro m
    induction m with
    | nil => intro acc; simp
    | cons x t ih =>
      intro acc
      have h1 := ih (addV acc (valL x nm))
      have h2 : (addV acc (valL x nm)).length ≤ acc.length + 1 := by
        unfold addV
        split
        · omega
        · exact len_insV _ _
      rw [List.foldl_cons, List.length_cons]
      omega
  have := h L []
  simp only [List.length_nil, Nat.zero_add] at this
  exact this
/-- Each above the one ahead, by bytes. -/
def upV (l : List Vn) : Prop := l.Pairwise (fun x y => Op.bytesLess x.1.toList y.1.toList = true)
theorem mem_insV {v : ByteArray} {l : List Vn} {y : Vn} (h : y ∈ insV v l) : y.1 = v ∨ y ∈ l := by
  induction l with
  | nil =>
    simp [insV] at h
    exact Or.inl (by rw [h])
  | cons x t ih =>
    unfold insV at h
    split at h
    · rcases List.mem_cons.1 h with e | e
      · exact Or.inr (by simp [e])
      · rcases ih e with e | e
        · exact Or.inl e
        · exact Or.inr (List.mem_cons_of_mem _ e)
    · split at h
      · rename_i hx
        rcases List.mem_cons.1 h with e | e
        · exact Or.inl (by rw [e]; exact hx)
        · exact Or.inr (List.mem_cons_of_mem _ e)
      · rcases List.mem_cons.1 h with e | e
        · exact Or.inl (by rw [e])
        · exact Or.inr e
theorem up_insV {v : ByteArray} {l : List Vn} (h : upV l) : upV (insV v l) := by
  induction l with
  | nil => exact List.pairwise_singleton _ _
  | cons x t ih =>
    obtain ⟨h1, h2⟩ := List.pairwise_cons.1 h
    unfold insV
    split
    · rename_i hl
      refine List.pairwise_cons.2 ⟨fun y hy => ?_, ih h2⟩
      rcases mem_insV hy with e | e
      · rw [e]; exact hl
      · exact h1 y e
    · rename_i hl
      split
      · exact List.pairwise_cons.2 ⟨h1, h2⟩
      · rename_i hx
        have hv : Op.bytesLess v.toList x.1.toList = true := by
          rcases less_tri v.toList x.1.toList with e | e | e
          · exact e
          · exact absurd (ba_ext e).symm hx
          · exact absurd e hl
        refine List.pairwise_cons.2 ⟨fun y hy => ?_, h⟩
        rcases List.mem_cons.1 hy with e | e
        · rw [e]; exact hv
        · exact less_trans hv (h1 y e)
/-- How many of a value. -/
def cntV (l : List Vn) (v : ByteArray) : Nat := ((l.find? (fun x => decide (x.1 = v))).map (·.2)).getD 0
theorem cnt_insV {v : ByteArray} {l : List Vn} (h : upV l) (u : ByteArray) : cntV (insV v l) u = cntV l u + if u = v then 1 else 0 := by
  induction l with
  | nil =>
    by_cases e : u = v
    · subst e
      simp [insV, cntV]
    · have e2 : ¬ v = u := fun q => e q.symm
      simp [insV, cntV, e, e2]
  | cons x t ih =>
    obtain ⟨h1, h2⟩ := List.pairwise_cons.1 h
    unfold insV
    split
    · rename_i hl
      by_cases e : x.1 = u
      · have hne : u ≠ v := fun q => by rw [e, q, less_irrefl] at hl; cases hl
        unfold cntV
        rw [List.find?_cons_of_pos (by simp [e]), List.find?_cons_of_pos (by simp [e]), if_neg hne, Nat.add_zero]
      · have := ih h2
        unfold cntV at this ⊢
        rw [List.find?_cons_of_neg (by simp [e]), List.find?_cons_of_neg (by simp [e])]
        exact this
    · rename_i hl
      split
      · rename_i hx
        by_cases e : x.1 = u
        · have hv : u = v := by rw [← e, hx]
          unfold cntV
          rw [List.find?_cons_of_pos (by simp [e]), List.find?_cons_of_pos (by simp [e]), if_pos hv]
          rfl
        · have hne : u ≠ v := fun q => e (by rw [hx, q])
          unfold cntV
          rw [List.find?_cons_of_neg (by simp [e]), List.find?_cons_of_neg (by simp [e]), if_neg hne, Nat.add_zero]
      · rename_i hx
        by_cases e : v = u
        · subst e
          have hno : ∀ y ∈ x :: t, ¬ (decide (y.1 = v) = true) := by
            intro y hy q
            rw [decide_eq_true_eq] at q
            rcases List.mem_cons.1 hy with e2 | e2
            · rw [e2] at q; exact hx q
            · have := h1 y e2
              rw [q] at this
              exact hl this
          unfold cntV
          rw [List.find?_cons_of_pos (by simp), if_pos rfl, List.find?_eq_none.2 hno]
          rfl
        · unfold cntV
          rw [List.find?_cons_of_neg (by simp [e]), if_neg (fun q => e q.symm), Nat.add_zero]
theorem up_addV {v : ByteArray} {l : List Vn} (h : upV l) : upV (addV l v) := by
  unfold addV
  split
  · exact h
  · exact up_insV h
theorem valsX_laws (L : Lx) (nm : ByteArray) : upV (valsX L nm) ∧ ∀ u, u ≠ .empty → cntV (valsX L nm) u = (postX L nm u).length := by
  have key : ∀ k, k ≤ L.length → upV (valsX (L.take k) nm) ∧ ∀ u, u ≠ .empty → cntV (valsX (L.take k) nm) u = (postX (L.take k) nm u).length := by
    intro k
    induction k with
    | zero => intro _; exact ⟨List.Pairwise.nil, fun u _ => rfl⟩
    | succ k ih =>
      intro hk
      obtain ⟨h1, h2⟩ := ih (by omega)
      have hx : L[k]? = some L[k] := List.getElem?_eq_getElem (by omega)
      rw [valsX_step hx]
      refine ⟨up_addV h1, fun u hu => ?_⟩
      unfold postX
      rw [idxs_step hx, List.length_append]
      have h3 := h2 u hu
      unfold postX at h3
      rw [← h3]
      unfold addV
      by_cases e : valL L[k] nm = .empty
      · rw [if_pos e]
        have : ¬ valP nm u L[k] = true := by unfold valP; rw [decide_eq_true_eq, e]; exact fun q => hu q.symm
        rw [if_neg this]
        rfl
      · rw [if_neg e, cnt_insV h1]
        by_cases q : u = valL L[k] nm
        · have : valP nm u L[k] = true := by unfold valP; rw [decide_eq_true_eq, q]
          rw [if_pos q, if_pos this]
          rfl
        · have : ¬ valP nm u L[k] = true := by unfold valP; rw [decide_eq_true_eq]; exact fun z => q z.symm
          rw [if_neg q, if_neg this]
          rfl
  have := key L.length (Nat.le_refl _)
  rwa [List.take_length] at this
end Go.Proofs.YtpffhpnmbpjifaaGreat
