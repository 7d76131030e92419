/-
  Pending units kept as what takes them back; names that may be, each once; turns that find what they move; names in the order of their files: in plain words. No function is named.
  Conditions: as each theorem says.
-/
import Derived.Test.YthlkmjaflomflaaVfsK
namespace Go.Proofs.Ythlkmjaflomflaa
set_option linter.unusedVariables false

/-- Pending units in one: so many bytes appended, or what a cut took. -/
abbrev Pu := Nat × List Int
/-- Pending units behind bytes, in such groups. -/
inductive Pd (b : List Int) : List Un → List Pu → Prop
  | nil : Pd b [] []
  | app (us : List Un) (ps : List Pu) (l : List Int) : Pd b us ps → l ≠ [] → Pd b (us ++ moreU l) (ps ++ [(l.length, [])])
  | cut (us : List Un) (ps : List Pu) (n : Nat) : Pd b us ps → n ≤ (unsB b us).length → Pd b (us ++ [⟨0, true, (n : Int)⟩]) (ps ++ [(0, (unsB b us).drop n)])
/-- How many units they are. -/
def puN (p : Pu) : Nat := if 0 < p.1 then p.1 else 1
theorem moreU_len (l : List Int) : (moreU l).length = l.length := by unfold moreU; simp
theorem moreU_app (l r : List Int) : moreU (l ++ r) = moreU l ++ moreU r := by unfold moreU; simp
theorem Pd.none {b : List Int} {us : List Un} (h : Pd b us []) : us = [] := by
  generalize hp : ([] : List Pu) = ps at h
  cases h with
  | nil => rfl
  | app us ps l h1 h2 => simp at hp
  | cut us ps n h1 h2 => simp at hp
theorem Pd.last {b : List Int} {us : List Un} {ps : List Pu} {p : Pu} (h : Pd b us (ps ++ [p])) :
    (0 < p.1 ∧ p.2 = [] ∧ ∃ us' l, us = us' ++ moreU l ∧ l.length = p.1 ∧ Pd b us' ps) ∨ (p.1 = 0 ∧ ∃ us' n, us = us' ++ [⟨0, true, (n : Int)⟩] ∧ n ≤ (unsB b us').length ∧ p.2 = (unsB b us').drop n ∧ Pd b us' ps) := by
  generalize hp : ps ++ [p] = qs at h
  cases h with
  | nil => simp at hp
  | app us ps' l h1 h2 =>
    obtain ⟨rfl, e⟩ := List.append_inj' hp rfl
    obtain rfl := List.singleton_inj.1 e
    exact Or.inl ⟨List.length_pos_iff.2 h2, rfl, us, l, rfl, rfl, h1⟩
  | cut us ps' n h1 h2 =>
    obtain ⟨rfl, e⟩ := List.append_inj' hp rfl
    obtain rfl := List.singleton_inj.1 e
    exact Or.inr ⟨rfl, us, n, rfl, h2, rfl, h1⟩
theorem Pd.sum {b : List Int} {us : List Un} {ps : List Pu} (h : Pd b us ps) : (ps.map puN).sum = us.length := by
  induction h with
  | nil => rfl
  | app us ps l h1 h2 ih =>
    have := List.length_pos_iff.2 h2
    simp [puN, ih, moreU_len, this]
  | cut us ps n h1 h2 ih => simp [puN, ih]
theorem Pd.len {b : List Int} {us : List Un} {ps : List Pu} (h : Pd b us ps) : ps.length ≤ us.length := by
  induction h with
  | nil => exact Nat.le_refl _
  | app us ps l h1 h2 ih =>
    have := List.length_pos_iff.2 h2
    simp [moreU_len]
    omega
  | cut us ps n h1 h2 ih => simp; exact ih
theorem Pd.more {b : List Int} {us : List Un} {ps : List Pu} {p : Pu} (h : Pd b us (ps ++ [p])) (hp : 0 < p.1) (l : List Int) : Pd b (us ++ moreU l) (ps ++ [(p.1 + l.length, p.2)]) := by
  rcases h.last with ⟨_, e2, us', l', rfl, e, h1⟩ | ⟨e, _⟩
  · have h2 : l' ≠ [] := by intro q; subst q; simp at e; omega
    have := Pd.app us' ps (l' ++ l) h1 (by simp [h2])
    rw [moreU_app, ← List.append_assoc, List.length_append, e] at this
    rw [e2]
    exact this
  · omega
/-- Units are taken back: so many groups are left, so many units to go, these bytes. -/
def BkJ (b : List Int) (us : List Un) (ps : List Pu) (q : Nat) (i : Nat) (back : Int) (d : List Int) : Prop :=
  (back ≤ 0 ∧ d = unsB b (us.take q)) ∨ (0 < back ∧ ∃ us' vs, us = us' ++ vs ∧ Pd b us' (ps.take i) ∧ back = (us'.length : Int) - q ∧ d = unsB b us')
theorem bkJ_start {b : List Int} {us : List Un} {ps : List Pu} (h : Pd b us ps) (q : Nat) : BkJ b us ps q ps.length ((us.length : Int) - q) (unsB b us) := by
  unfold BkJ
  by_cases e : (us.length : Int) - q ≤ 0
  · exact Or.inl ⟨e, by rw [List.take_of_length_le (by omega)]⟩
  · exact Or.inr ⟨by omega, us, [], by simp, by rw [List.take_length]; exact h, rfl, rfl⟩
theorem bkJ_end {b : List Int} {us : List Un} {ps : List Pu} {q i : Nat} {back : Int} {d : List Int} (h : BkJ b us ps q i back d) (hb : back ≤ 0) : d = unsB b (us.take q) := by
  rcases h with ⟨_, h⟩ | ⟨h, _⟩
  · exact h
  · omega
theorem bkJ_pos {b : List Int} {us : List Un} {ps : List Pu} {q i : Nat} {back : Int} {d : List Int} (h : BkJ b us ps q i back d) (hb : 0 < back) : 0 < i := by
  rcases h with ⟨h, _⟩ | ⟨_, us', vs, _, hp, e, _⟩
  · omega
  · by_cases hi : i = 0
    · subst hi
      have := Pd.none (by simpa using hp)
      subst this
      simp at e
      omega
    · omega
theorem unsB_pre {us vs : List Un} {k : Nat} (hk : k ≤ us.length) : (us ++ vs).take k = us.take k := by rw [List.take_append_of_le_length hk]
/-- One group is taken back, or its end. -/
theorem bkJ_step {b : List Int} {us : List Un} {ps : List Pu} {q i : Nat} {back : Int} {d : List Int} {p : Pu} (h : BkJ b us ps q (i + 1) back d) (hb : 0 < back) (hp : ps[i]? = some p) :
    (0 < p.1 → min back p.1 ≤ d.length ∧ BkJ b us ps q i (back - min back p.1) (d.take (d.length - (min back p.1).toNat))) ∧ (p.1 = 0 → BkJ b us ps q i (back - min back 1) (d ++ p.2)) := by
  rcases h with ⟨h, _⟩ | ⟨_, us', vs, hus, hpd, e, rfl⟩
  · omega
  · have ht : ps.take (i + 1) = ps.take i ++ [p] := by
      obtain ⟨hk, e⟩ := List.getElem?_eq_some_iff.1 hp
      rw [List.take_succ_eq_append_getElem hk, e]
    rw [ht] at hpd
    rcases hpd.last with ⟨h1, _, us2, l, rfl, hl, h2⟩ | ⟨h1, us2, n, rfl, hn, hp2, h2⟩
    · refine ⟨fun _ => ?_, fun e => by omega⟩
      rw [List.length_append, moreU_len, hl] at e
      rw [unsB_app, unsB_more]
      have hlen : (unsB b us2 ++ l).length = (unsB b us2).length + p.1 := by rw [List.length_append, hl]
      refine ⟨by rw [hlen]; omega, ?_⟩
      by_cases hc : back ≤ p.1
      · rw [Int.min_eq_left hc]
        refine Or.inl ⟨by omega, ?_⟩
        have e1 : us.take q = us2 ++ moreU (l.take (q - us2.length)) := by
          rw [hus, List.take_append_of_le_length (by simp [moreU_len]; omega), List.take_append, List.take_of_length_le (by omega)]
          unfold moreU
          rw [List.map_take]
        rw [e1, unsB_app, unsB_more, hlen, List.take_append, List.take_of_length_le (show (unsB b us2).length ≤ _ by omega)]
        congr 1
        congr 1
        omega
      · rw [Int.min_eq_right (by omega)]
        refine Or.inr ⟨by omega, us2, moreU l ++ vs, by rw [hus, List.append_assoc], h2, by omega, ?_⟩
        rw [hlen, List.take_append_of_le_length (by omega), List.take_of_length_le (by omega)]
    · refine ⟨fun e => by omega, fun _ => ?_⟩
      rw [List.length_append] at e
      simp only [List.length_singleton] at e
      have hd : unsB b (us2 ++ [⟨0, true, (n : Int)⟩]) ++ p.2 = unsB b us2 := by
        rw [unsB_app, hp2]
        unfold unsB
        rw [List.foldl_cons, List.foldl_nil]
        unfold unB
        simp
      rw [hd, Int.min_eq_right (by omega)]
      by_cases hc : back = 1
      · refine Or.inl ⟨by omega, ?_⟩
        rw [hus, List.append_assoc, List.take_append_of_le_length (by omega), List.take_of_length_le (by omega)]
      · exact Or.inr ⟨by omega, us2, [⟨0, true, (n : Int)⟩] ++ vs, by rw [hus, List.append_assoc], h2, by omega, rfl⟩

theorem fileD_cons_ne {d : Dn} {t : ByteArray} (h : ¬ d.nm = t) (r : List Dn) : fileD (d :: r) t = fileD r t := by
  unfold fileD
  conv => lhs; unfold findD
  rw [if_neg h]
  cases findD r t <;> simp
theorem fileD_cons_eq {d : Dn} {t : ByteArray} (h : d.nm = t) (r : List Dn) : fileD (d :: r) t = some d.f := by
  unfold fileD findD
  rw [if_pos h]; simp
theorem findD_wout (l : List Dn) (s t : ByteArray) : fileD (wout l s) t = if t = s then none else fileD l t := by
  induction l with
  | nil => simp [wout, fileD, findD]
  | cons d r ih =>
    unfold wout at ih ⊢
    by_cases e : d.nm = s
    · rw [List.filter_cons_of_neg (by simp [e]), ih]
      by_cases h : t = s
      · rw [if_pos h, if_pos h]
      · rw [if_neg h, if_neg h, fileD_cons_ne (by rw [e]; exact fun q => h q.symm)]
    · rw [List.filter_cons_of_pos (by simp [e])]
      by_cases h : d.nm = t
      · have : ¬ t = s := by rw [← h]; exact e
        rw [if_neg this, fileD_cons_eq h, fileD_cons_eq h]
      · rw [fileD_cons_ne h, fileD_cons_ne h, ih]
theorem fileD_snoc (l : List Dn) (s : ByteArray) (f : Nat) (t : ByteArray) : fileD (l ++ [⟨s, f⟩]) t = (fileD l t).or (if t = s then some f else none) := by
  induction l with
  | nil =>
    rw [List.nil_append]
    by_cases h : s = t
    · rw [fileD_cons_eq h, if_pos h.symm]; rfl
    · rw [fileD_cons_ne h, if_neg (fun e => h e.symm)]; rfl
  | cons d r ih =>
    rw [List.cons_append]
    by_cases h : d.nm = t
    · rw [fileD_cons_eq h, fileD_cons_eq h]; rfl
    · rw [fileD_cons_ne h, fileD_cons_ne h, ih]
theorem fileD_mem {l : List Dn} {s : ByteArray} {f : Nat} (h : fileD l s = some f) : (⟨s, f⟩ : Dn) ∈ l := by
  induction l with
  | nil => simp [fileD, findD] at h
  | cons d r ih =>
    by_cases e : d.nm = s
    · rw [fileD_cons_eq e] at h
      obtain rfl := Option.some.inj h
      subst e
      simp
    · rw [fileD_cons_ne e] at h
      exact List.mem_cons_of_mem _ (ih h)
theorem fileD_none {l : List Dn} {s : ByteArray} (h : fileD l s = none) : ∀ d ∈ l, ¬ d.nm = s := by
  induction l with
  | nil => intro d hd; simp at hd
  | cons x r ih =>
    intro d hd e
    by_cases q : x.nm = s
    · rw [fileD_cons_eq q] at h; simp at h
    · rw [fileD_cons_ne q] at h
      rcases List.mem_cons.1 hd with rfl | hd
      · exact q e
      · exact ih h d hd e
theorem fileD_isNone (l : List Dn) (s : ByteArray) : (findD l s).isNone = (fileD l s).isNone := by
  unfold fileD
  cases h : findD l s with
  | none => rfl
  | some k =>
    obtain ⟨d, h1, _, _⟩ := findD_some h
    simp [h1]
/-- Names that may be, each once; files, each once. -/
structure NamesD (l : List Dn) : Prop where
  may : ∀ d ∈ l, mayN d.nm = true
  once : (l.map (·.nm)).Nodup
  files : (l.map (·.f)).Nodup
theorem namesD_nil : NamesD [] := ⟨fun d hd => by simp at hd, by simp, by simp⟩
theorem fileD_at {l : List Dn} (h : NamesD l) {d : Dn} (hd : d ∈ l) : fileD l d.nm = some d.f := by
  have h2 := h.once
  clear h
  induction l with
  | nil => simp at hd
  | cons x r ih =>
    rw [List.map_cons, List.nodup_cons] at h2
    by_cases e : x.nm = d.nm
    · rcases List.mem_cons.1 hd with rfl | hd
      · exact fileD_cons_eq rfl _
      · exact absurd (List.mem_map.2 ⟨d, hd, e.symm⟩) h2.1
    · rw [fileD_cons_ne e]
      rcases List.mem_cons.1 hd with rfl | hd
      · exact absurd rfl e
      · exact ih hd h2.2
theorem NamesD.less {l : List Dn} (h : NamesD l) (s : ByteArray) : NamesD (wout l s) := by
  unfold wout
  exact ⟨fun d hd => h.may d (List.mem_filter.1 hd).1, h.once.sublist (List.filter_sublist.map _), h.files.sublist (List.filter_sublist.map _)⟩
theorem NamesD.snoc {l : List Dn} (h : NamesD l) {s : ByteArray} {f : Nat} (hs : mayN s = true) (hn : ∀ d ∈ l, ¬ d.nm = s) (hf : ∀ d ∈ l, ¬ d.f = f) : NamesD (l ++ [⟨s, f⟩]) := by
  refine ⟨fun d hd => ?_, ?_, ?_⟩
  · rcases List.mem_append.1 hd with hd | hd
    · exact h.may d hd
    · obtain rfl := List.mem_singleton.1 hd; exact hs
  · rw [List.map_append, List.nodup_append]
    refine ⟨h.once, by simp, fun a ha b hb => ?_⟩
    obtain ⟨d, hd, rfl⟩ := List.mem_map.1 ha
    obtain rfl : b = s := by simpa using hb
    exact hn d hd
  · rw [List.map_append, List.nodup_append]
    refine ⟨h.files, by simp, fun a ha b hb => ?_⟩
    obtain ⟨d, hd, rfl⟩ := List.mem_map.1 ha
    obtain rfl : b = f := by simpa using hb
    exact hf d hd
/-- A turn as it may be. -/
def OkT1 (l : List Dn) (t : Tn) : Prop := (t.nm.size ≤ 64 ∧ t.to.size ≤ 64) ∧ (t.k = 0 → mayN t.nm = true ∧ ∀ d ∈ l, ¬ d.f = t.f) ∧ (t.k = 1 → mayN t.to = true ∧ (fileD l t.nm).isSome = true)
def OkT : List Dn → List Tn → Prop
  | _, [] => True
  | l, t :: r => OkT1 l t ∧ OkT (turnD l t) r
theorem okT_app (ts rs : List Tn) : ∀ l : List Dn, OkT l (ts ++ rs) ↔ OkT l ts ∧ OkT (turnsD l ts) rs := by
  induction ts with
  | nil => intro l; simp [OkT, turnsD]
  | cons t r ih =>
    intro l
    simp only [List.cons_append, OkT, ih, turnsD, List.foldl_cons]
    exact and_assoc.symm
theorem wout_name {l : List Dn} {s : ByteArray} : ∀ d ∈ wout l s, ¬ d.nm = s := fun _ hd => (wout_mem hd).2
theorem inj_of_nodup {α β : Type} {g : α → β} : ∀ {l : List α}, (l.map g).Nodup → ∀ {x y : α}, x ∈ l → y ∈ l → g x = g y → x = y := by
  intro l
  induction l with
  | nil => intro _ x y hx; simp at hx
  | cons a r ih =>
    intro h x y hx hy e
    rw [List.map_cons, List.nodup_cons] at h
    rcases List.mem_cons.1 hx with e1 | hx2
    · rcases List.mem_cons.1 hy with e2 | hy2
      · rw [e1, e2]
      · exact absurd (List.mem_map.2 ⟨y, hy2, by rw [← e, e1]⟩) h.1
    · rcases List.mem_cons.1 hy with e2 | hy2
      · exact absurd (List.mem_map.2 ⟨x, hx2, by rw [e, e2]⟩) h.1
      · exact ih h.2 hx2 hy2 e
theorem NamesD.other {l : List Dn} (h : NamesD l) {s : ByteArray} {f : Nat} (hf : fileD l s = some f) : ∀ d ∈ wout l s, ¬ d.f = f := by
  intro d hd e
  obtain ⟨h1, h2⟩ := wout_mem hd
  have := inj_of_nodup h.files h1 (fileD_mem hf) e
  rw [this] at h2
  exact h2 rfl
theorem NamesD.turn {l : List Dn} (h : NamesD l) {t : Tn} (ht : OkT1 l t) : NamesD (turnD l t) := by
  unfold turnD
  split
  · rename_i e
    obtain ⟨h1, h2⟩ := ht.2.1 e
    exact (h.less _).snoc h1 wout_name (fun d hd => h2 d (wout_mem hd).1)
  · split
    · rename_i e
      obtain ⟨h1, h2⟩ := ht.2.2 e
      split
      · exact h
      · rename_i f hf
        split
        · exact h
        · exact ((h.less _).less _).snoc h1 wout_name (fun d hd => h.other hf d (wout_mem hd).1)
    · exact h.less _
theorem NamesD.turns {ts : List Tn} : ∀ {l : List Dn}, NamesD l → OkT l ts → NamesD (turnsD l ts) := by
  induction ts with
  | nil => intro l h _; exact h
  | cons t r ih =>
    intro l h ht
    unfold turnsD
    rw [List.foldl_cons]
    exact ih (h.turn ht.1) ht.2
/-- What a name's file is behind a turn. -/
theorem fileD_turn {l : List Dn} {t : Tn} (ht : OkT1 l t) (s : ByteArray) : fileD (turnD l t) s = if t.k = 0 then (if s = t.nm then some t.f else fileD l s) else if t.k = 1 then (if s = t.to then fileD l t.nm else if s = t.nm then none else fileD l s) else if s = t.nm then none else fileD l s := by
  unfold turnD
  split
  · rw [fileD_snoc, findD_wout]
    by_cases e : s = t.nm
    · rw [if_pos e, if_pos e, if_pos e]; rfl
    · rw [if_neg e, if_neg e, if_neg e]; cases fileD l s <;> rfl
  · split
    · rename_i h
      obtain ⟨_, h2⟩ := ht.2.2 h
      split
      · rename_i hn; rw [hn] at h2; simp at h2
      · rename_i f hf
        split
        · rename_i e
          by_cases q : s = t.to
          · rw [if_pos q, q, ← e]
          · rw [if_neg q, if_neg (by rw [e]; exact q)]
        · rename_i e
          rw [fileD_snoc, findD_wout, findD_wout]
          by_cases q : s = t.to
          · rw [if_pos q, if_pos q, if_pos q, hf]; rfl
          · rw [if_neg q, if_neg q, if_neg q]
            by_cases z : s = t.nm
            · rw [if_pos z]; rfl
            · rw [if_neg z]; cases fileD l s <;> rfl
    · rw [findD_wout]
/-- As the landed one keeps it. -/
structure GoodN (F : Fs) : Prop where
  sure : NamesD F.sure
  turns : OkT F.sure F.turns
theorem GoodN.dir {F : Fs} (h : GoodN F) : NamesD (dirF F) := h.sure.turns h.turns
theorem goodN0 : GoodN fs0 := ⟨namesD_nil, trivial⟩
theorem okT_take {l : List Dn} {ts : List Tn} (h : OkT l ts) (n : Nat) : OkT l (ts.take n) := by
  rw [← List.take_append_drop n ts, okT_app] at h
  exact h.1
theorem okT_at {l : List Dn} {ts : List Tn} (h : OkT l ts) {i : Nat} {t : Tn} (hi : ts[i]? = some t) : OkT1 (turnsD l (ts.take i)) t := by
  obtain ⟨hk, e⟩ := List.getElem?_eq_some_iff.1 hi
  have := okT_take h (i + 1)
  rw [List.take_succ_eq_append_getElem hk, okT_app, e] at this
  exact this.2.1
theorem turnsD_take {l : List Dn} {ts : List Tn} {i : Nat} {t : Tn} (hi : ts[i]? = some t) : turnsD l (ts.take (i + 1)) = turnD (turnsD l (ts.take i)) t := by
  obtain ⟨hk, e⟩ := List.getElem?_eq_some_iff.1 hi
  unfold turnsD
  rw [List.take_succ_eq_append_getElem hk, List.foldl_append, e]
  rfl
theorem GoodN.like {F G : Fs} (h : GoodN F) (e2 : G.sure = F.sure) (e3 : G.turns = F.turns) : GoodN G := ⟨by rw [e2]; exact h.sure, by rw [e2, e3]; exact h.turns⟩
theorem GoodN.sync {F : Fs} (h : GoodN F) : GoodN { F with sure := dirF F, turns := [] } := ⟨h.dir, trivial⟩
theorem GoodN.push {F : Fs} (h : GoodN F) {t : Tn} (ht : OkT1 (dirF F) t) (fs : List Fi) : GoodN { F with files := fs, turns := F.turns ++ [t] } := ⟨h.sure, by
  show OkT F.sure (F.turns ++ [t])
  rw [okT_app]
  exact ⟨h.turns, ht, trivial⟩⟩
/-- Rows in order of a key, of the same things, are one row. -/
theorem sorted_one {α : Type} (key : α → Nat) : ∀ {l r : List α}, l.Pairwise (fun x y => key x < key y) → r.Pairwise (fun x y => key x < key y) → (∀ x, x ∈ l ↔ x ∈ r) → l = r := by
  intro l
  induction l with
  | nil =>
    intro r _ _ h
    cases r with
    | nil => rfl
    | cons y t => exact absurd ((h y).2 (by simp)) (by simp)
  | cons x t ih =>
    intro r hl hr h
    cases r with
    | nil => exact absurd ((h x).1 (by simp)) (by simp)
    | cons y u =>
      rw [List.pairwise_cons] at hl hr
      have e : x = y := by
        rcases List.mem_cons.1 ((h x).1 (by simp)) with e | e
        · exact e
        · rcases List.mem_cons.1 ((h y).2 (by simp)) with e' | e'
          · exact e'.symm
          · have := hr.1 x e
            have := hl.1 y e'
            omega
      subst e
      congr 1
      refine ih hl.2 hr.2 (fun z => ⟨fun hz => ?_, fun hz => ?_⟩)
      · rcases List.mem_cons.1 ((h z).1 (by simp [hz])) with e | e
        · subst e; have := hl.1 z hz; omega
        · exact e
      · rcases List.mem_cons.1 ((h z).2 (by simp [hz])) with e | e
        · subst e; have := hr.1 z hz; omega
        · exact e
theorem keptF_mem {d : List Dn} {m : Nat} (h : FilesIn m d) (x : Dn) : x ∈ keptF d m ↔ x ∈ d := by
  unfold keptF
  rw [List.mem_flatMap]
  constructor
  · rintro ⟨k, _, hk⟩
    exact (List.mem_filter.1 hk).1
  · intro hx
    exact ⟨x.f, List.mem_range.2 (h x hx), List.mem_filter.2 ⟨hx, by simp⟩⟩
theorem filter_one {d : List Dn} (hn : (d.map (·.f)).Nodup) (k : Nat) : (d.filter fun x => decide (x.f = k)).Pairwise (fun x y => x.f < y.f) := by
  rw [List.pairwise_filter]
  refine (List.pairwise_map.1 hn).imp ?_
  intro x y hxy hx hy
  simp only [decide_eq_true_eq] at hx hy
  omega
theorem keptF_sorted {d : List Dn} (hn : (d.map (·.f)).Nodup) : ∀ m, (keptF d m).Pairwise (fun x y => x.f < y.f)
  | 0 => by simp [keptF]
  | m + 1 => by
    unfold keptF
    rw [List.range_succ, List.flatMap_append, List.pairwise_append]
    refine ⟨keptF_sorted hn m, by simpa using filter_one hn m, fun x hx y hy => ?_⟩
    obtain ⟨k, hk, hx⟩ := List.mem_flatMap.1 hx
    have h1 := List.mem_range.1 hk
    have h2 := (List.mem_filter.1 hx).2
    rw [List.flatMap_cons, List.flatMap_nil, List.append_nil] at hy
    have h3 := (List.mem_filter.1 hy).2
    simp only [decide_eq_true_eq] at h2 h3
    omega
end Go.Proofs.Ythlkmjaflomflaa
