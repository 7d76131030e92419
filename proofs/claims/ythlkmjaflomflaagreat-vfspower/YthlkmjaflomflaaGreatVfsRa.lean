/-
  The document's file system in the making: a file of certain bytes more, a certain name more; what a crash leaves, name by name.
  Conditions: as each theorem says.
-/
import Derived.Test.YthlkmjaflomflaaGreatVfsN
import Derived.Test.YthlkmjaflomflaaGreatVfsXb
namespace Go.Proofs.YthlkmjaflomflaaGreat
open Go.RowKit
set_option maxRecDepth 20000
set_option linter.unusedVariables false

/-- A file of certain bytes more. -/
theorem file_pushed {u2 u4 : World} {g : Nat} {S : Nat → Prop} {G : Fs} {af : Option Addr} {cf : Nat} {as' : Option Addr} {cs : Nat} {at' : Option Addr} {ct : Nat} {hs : List (H3 × H3)} (B : RB u2 g S G af cf as' cs at' ct hs) {N g' c' base : Nat} (hN : G.files.length = N) {x : H3} {b : List Int} (hbase : base ≤ u2.heap.size) (ob : OwnB u2 base x.1 x.2.1 x.2.2 b)
    (o : OwnF u4 0 (some ⟨g', 0, none⟩) (N + 1) c' (hs ++ [(x, (none, 0, 0))])) (gr : Ch (fun j => (Value.slice af G.files.length cf).ownBlock = some j) u2 u4) (lies : (Value.slice af G.files.length cf).ownBlock = some g' ∨ u2.heap.size ≤ g') :
    RB (u4.setCell ⟨g, 0, none⟩ (.slice (some ⟨g', 0, none⟩) (N + 1) c')) g (fun j => S j ∨ (base ≤ j ∧ j < u4.heap.size)) { G with files := G.files ++ [⟨b, []⟩] } (some ⟨g', 0, none⟩) c' as' cs at' ct (hs ++ [(x, (none, 0, 0))]) := by
  subst hN
  have hl : (G.files ++ [(⟨b, []⟩ : Fi)]).length = G.files.length + 1 := by simp
  rw [← hl] at o ⊢
  have hhl := OwnG.len fiV_len (by decide) B.files
  have hb : g' < u4.heap.size := (OwnG.cellsT o g' rfl).1.lt
  have kF : ∀ j, (Value.slice af G.files.length cf).ownBlock = some j → CellsT u2 j 83 := fun j e => (OwnG.cellsT B.files j e).1
  refine B.putFiles (gr.more (fun j _ e => kF j e)) o ?_ (fun j hj => Or.inl hj) ?_ ?_ ?_
  · intro b2 hb2
    simp [Value.ownBlock] at hb2
    subst hb2
    rcases lies with e | e
    · exact Or.inl (B.filesS _ e)
    · exact Or.inr ⟨Nat.le_trans hbase e, hb⟩
  · rintro j (e | e)
    · exact Nat.lt_of_lt_of_le (B.lt j e) gr.size
    · exact e.2
  · intro i y z hi hy
    by_cases hlt : i < hs.length
    · rw [List.getElem?_append_left hlt] at hi
      rw [List.getElem?_append_left (by omega)] at hy
      have m := B.each i y z hi hy
      exact ⟨OwnG.ch m.sure gr (fun b hb e => (OwnG.cellsT m.sure b hb).1.ne (kF b e) (by decide) rfl), OwnG.ch m.us gr (fun b hb e => (OwnG.cellsT m.us b hb).1.ne (kF b e) (by decide) rfl), fun b hb => Or.inl (m.sureS b hb), fun b hb => Or.inl (m.usS b hb)⟩
    · have hi2 := (List.getElem?_eq_some_iff.1 hi).1
      have e9 : i = hs.length := by simp at hi2; omega
      subst e9
      rw [List.getElem?_append_right (Nat.le_refl _), Nat.sub_self] at hi
      rw [List.getElem?_append_right (by omega), hhl, Nat.sub_self] at hy
      simp at hi hy
      subst hi hy
      have o2 := OwnG.ch ob gr (fun b hb e => (OwnG.cellsT ob b hb).1.ne (kF b e) (by decide) rfl)
      exact ⟨OwnG.mono o2 (Nat.zero_le _), ownG_nil _ _, fun b hb => Or.inr ⟨(OwnG.cellsT o2 b hb).2, (OwnG.cellsT o2 b hb).1.lt⟩, fun b hb => by simp [h3V, Value.ownBlock] at hb⟩
  · intro i j y z b2 hij hi hj hby hbz
    have c1 : i < hs.length := by
      apply Classical.byContradiction
      intro h
      have hi2 := (List.getElem?_eq_some_iff.1 hi).1
      have e9 : i = hs.length := by simp at hi2; omega
      subst e9
      rw [List.getElem?_append_right (Nat.le_refl _), Nat.sub_self] at hi
      simp at hi
      subst hi
      simp [h3V, Value.ownBlock] at hby
    have c2 : j < hs.length := by
      apply Classical.byContradiction
      intro h
      have hi2 := (List.getElem?_eq_some_iff.1 hj).1
      have e9 : j = hs.length := by simp at hi2; omega
      subst e9
      rw [List.getElem?_append_right (Nat.le_refl _), Nat.sub_self] at hj
      simp at hj
      subst hj
      simp [h3V, Value.ownBlock] at hbz
    rw [List.getElem?_append_left c1] at hi
    rw [List.getElem?_append_left c2] at hj
    exact B.apart i j y z b2 hij hi hj hby hbz
/-- A certain name more. -/
theorem sure_pushed {u2 u4 : World} {g : Nat} {S : Nat → Prop} {G : Fs} {af : Option Addr} {cf : Nat} {as' : Option Addr} {cs : Nat} {at' : Option Addr} {ct : Nat} {hs : List (H3 × H3)} (B : RB u2 g S G af cf as' cs at' ct hs) {N g' c' : Nat} (hN : G.sure.length = N) {d : Dn}
    (o : OwnD u4 0 (some ⟨g', 0, none⟩) (N + 1) c' (G.sure ++ [d])) (gr : Ch (fun j => (Value.slice as' G.sure.length cs).ownBlock = some j) u2 u4) (lies : (Value.slice as' G.sure.length cs).ownBlock = some g' ∨ u2.heap.size ≤ g') :
    RB (u4.setCell ⟨g, 1, none⟩ (.slice (some ⟨g', 0, none⟩) (N + 1) c')) g (fun j => S j ∨ (u2.heap.size ≤ j ∧ j < u4.heap.size)) { G with sure := G.sure ++ [d] } af cf (some ⟨g', 0, none⟩) c' at' ct hs := by
  subst hN
  have hl : (G.sure ++ [d]).length = G.sure.length + 1 := by simp
  rw [← hl] at o ⊢
  have hb : g' < u4.heap.size := (OwnG.cellsT o g' rfl).1.lt
  refine B.putSure (gr.more (fun j _ e => (OwnG.cellsT B.sure j e).1)) o ?_ (fun j hj => Or.inl hj) ?_
  · intro b hb2
    simp [Value.ownBlock] at hb2
    subst hb2
    rcases lies with e | e
    · exact Or.inl (B.sureS _ e)
    · exact Or.inr ⟨e, hb⟩
  · rintro j (e | e)
    · exact Nat.lt_of_lt_of_le (B.lt j e) gr.size
    · exact e.2
/-- A new file system's struct. -/
theorem rb_new (w w' : World) (hw : w' = w.alloc (.cells #[.slice none 0 0, .slice none 0 0, .slice none 0 0, .int .i64 0, .bool false, .int .i64 0, .int .i64 0, .bool false] 32)) : RB w' w.heap.size (fun j => j = w.heap.size) fs0 none 0 none 0 none 0 [] := by
  subst hw
  refine ⟨rfl, fun k hk => by rw [hk]; simp, heap_alloc_new w _, ownG_nil _ _, fun b hb => by simp [Value.ownBlock] at hb, fun i h x hi => by simp at hi, fun i j h h' b _ hi => by simp at hi, ownG_nil _ _, fun b hb => by simp [Value.ownBlock] at hb, ownG_nil _ _, fun b hb => by simp [Value.ownBlock] at hb⟩

/-- One in the making: all of it is newer than wA. -/
def MkR (wA wr : World) (gx : Nat) (G : Fs) : Prop := Below wA.heap.size wA wr ∧ ∃ (T : Nat → Prop) (af : Option Addr) (cf : Nat) (as' : Option Addr) (cs : Nat) (at' : Option Addr) (ct : Nat) (hs : List (H3 × H3)), (∀ j, T j → wA.heap.size ≤ j) ∧ RB wr gx T G af cf as' cs at' ct hs
theorem MkR.below {wA wr v : World} {gx : Nat} {G : Fs} (h : MkR wA wr gx G) (b : Below wr.heap.size wr v) : MkR wA v gx G := by
  obtain ⟨b0, T, af, cf, as', cs, at', ct, hs, h1, h2⟩ := h
  exact ⟨b0.trans (b.mono b0.size), T, af, cf, as', cs, at', ct, hs, h1, h2.below b⟩
theorem mkR_new (wA w' : World) (hw : w' = wA.alloc (.cells #[.slice none 0 0, .slice none 0 0, .slice none 0 0, .int .i64 0, .bool false, .int .i64 0, .int .i64 0, .bool false] 32)) : MkR wA w' wA.heap.size fs0 := by
  have R := rb_new wA w' hw
  subst hw
  exact ⟨(Below.refl _ _).alloc (Nat.le_refl _) _, _, _, _, _, _, _, _, _, fun j hj => by rw [hj]; exact Nat.le_refl _, R⟩
theorem MkR.made {wA wr : World} {gx : Nat} {G : Fs} (h : MkR wA wr gx G) (hg : GoodV G) : MadeV RAt wA wr gx G := by
  obtain ⟨b0, T, af, cf, as', cs, at', ct, hs, h1, h2⟩ := h
  exact ⟨T, ⟨hg, af, cf, as', cs, at', ct, hs, h2⟩, h1, b0⟩
section
variable {wA v w6 wC : World} {gx : Nat} {T : Nat → Prop} {G : Fs} {af : Option Addr} {cf : Nat} {as' : Option Addr} {cs : Nat} {at' : Option Addr} {ct : Nat} {hs : List (H3 × H3)}
/-- Behind the append of a file. -/
theorem file_up (R : RB v gx T G af cf as' cs at' ct hs) (HT : ∀ j, T j → wA.heap.size ≤ j) (bv : Below wA.heap.size wA v) (b6 : Below v.heap.size v w6) {o : Obj} {N gC cC : Nat} (hN : G.files.length = N) {x : H3} {b : List Int} (ob : OwnB w6 v.heap.size x.1 x.2.1 x.2.2 b)
    (oC : wC.ownsRow 0 83 2 (.slice (some ⟨gC, 0, none⟩) (N + 1) cC) (N + 1) (hs.flatMap fiV ++ fiV (x, (none, 0, 0)))) (grC : (w6.alloc o).grownBy wC (Value.slice af N cf).ownBlock) (atC : (Value.slice af N cf).ownBlock = some gC ∨ gC = (w6.alloc o).heap.size) :
    MkR wA (wC.setCell ⟨gx, 0, none⟩ (.slice (some ⟨gC, 0, none⟩) (N + 1) cC)) gx { G with files := G.files ++ [⟨b, []⟩] } ∧ wC.cell? ⟨gx, 0, none⟩ = some (.slice af N cf) ∧ wC.frozen? ⟨gx, 0, none⟩ = false ∧ Below wA.heap.size wA wC := by
  subst hN
  have R6 := R.below b6
  have gr : Ch (fun j => (Value.slice af G.files.length cf).ownBlock = some j) w6 wC := ((Ch.refl (fun j => (Value.slice af G.files.length cf).ownBlock = some j) w6).alloc _).trans (Ch.grown grC)
  have sz : wA.heap.size ≤ v.heap.size := bv.size
  have b6' : Below wA.heap.size wA w6 := bv.trans (b6.mono sz)
  have bC : Below wA.heap.size wA wC := b6'.trans (gr.below b6'.size (fun j hj e => by have := HT j (R.filesS j e); omega))
  have P := file_pushed R6 rfl b6.size ob (by
    show OwnG _ _ _ _ _ _ _ _ _
    unfold OwnG
    rw [List.flatMap_append, flat_one]
    exact oC) gr (by
    rcases atC with e | e
    · exact Or.inl e
    · exact Or.inr (by rw [e]; simp))
  have hne : ∀ e : (Value.slice af G.files.length cf).ownBlock = some gx, False := fun e => (OwnG.cellsT R6.files gx e).1.ne R6.cellsT (by decide) rfl
  obtain ⟨x0, -⟩ := R6.cells
  have k := gr.block gx (R6.lt gx R6.own) hne
  refine ⟨⟨bC.trans ((ch_set wC gx 0 _).below bC.size (fun j hj e => by have := HT gx R.own; omega)), _, _, _, _, _, _, _, _, ?_, P⟩, ?_, ?_, bC⟩
  · rintro j (e | e)
    · exact HT j e
    · exact Nat.le_trans sz e.1
  · simp only [World.cell?] at x0 ⊢
    rw [k]
    exact x0
  · have := R6.fz 0
    simp only [World.frozen?] at this ⊢
    rw [k]
    exact this
/-- Behind the append of a name. -/
theorem sure_up (R : RB v gx T G af cf as' cs at' ct hs) (HT : ∀ j, T j → wA.heap.size ≤ j) (bv : Below wA.heap.size wA v) (b6 : Below v.heap.size v w6) {N gC cC : Nat} (hN : G.sure.length = N) {d : Dn}
    (oC : wC.ownsRow 0 80 2 (.slice (some ⟨gC, 0, none⟩) (N + 1) cC) (N + 1) (G.sure.flatMap dnV ++ dnV d)) (grC : w6.grownBy wC (Value.slice as' N cs).ownBlock) (atC : (Value.slice as' N cs).ownBlock = some gC ∨ gC = w6.heap.size) :
    MkR wA (wC.setCell ⟨gx, 1, none⟩ (.slice (some ⟨gC, 0, none⟩) (N + 1) cC)) gx { G with sure := G.sure ++ [d] } ∧ wC.cell? ⟨gx, 1, none⟩ = some (.slice as' N cs) ∧ wC.frozen? ⟨gx, 1, none⟩ = false ∧ Below wA.heap.size wA wC ∧ wC.cell? ⟨gx, 0, none⟩ = some (.slice af G.files.length cf) := by
  subst hN
  have R6 := R.below b6
  have gr : Ch (fun j => (Value.slice as' G.sure.length cs).ownBlock = some j) w6 wC := Ch.grown grC
  have sz : wA.heap.size ≤ v.heap.size := bv.size
  have b6' : Below wA.heap.size wA w6 := bv.trans (b6.mono sz)
  have bC : Below wA.heap.size wA wC := b6'.trans (gr.below b6'.size (fun j hj e => by have := HT j (R.sureS j e); omega))
  have P := sure_pushed R6 rfl (by
    show OwnG _ _ _ _ _ _ _ _ _
    unfold OwnG
    rw [List.flatMap_append, flat_one]
    exact oC) gr (by
    rcases atC with e | e
    · exact Or.inl e
    · exact Or.inr (by rw [e]; exact Nat.le_refl _))
  have hne : ∀ e : (Value.slice as' G.sure.length cs).ownBlock = some gx, False := fun e => (OwnG.cellsT R6.sure gx e).1.ne R6.cellsT (by decide) rfl
  obtain ⟨x0, x1, -⟩ := R6.cells
  have k := gr.block gx (R6.lt gx R6.own) hne
  refine ⟨⟨bC.trans ((ch_set wC gx 1 _).below bC.size (fun j hj e => by have := HT gx R.own; omega)), _, _, _, _, _, _, _, _, ?_, P⟩, ?_, ?_, bC, ?_⟩
  · rintro j (e | e)
    · exact HT j e
    · have := b6'.size; omega
  · simp only [World.cell?] at x1 ⊢
    rw [k]
    exact x1
  · have := R6.fz 1
    simp only [World.frozen?] at this ⊢
    rw [k]
    exact this
  · simp only [World.cell?] at x0 ⊢
    rw [k]
    exact x0
end

/-- What a crash leaves of a file. -/
def crFi (F : Fs) (ps : List Int) (i : Nat) (x : Dn) : Fi := ⟨unsB (atF F x.f).sure ((atF F x.f).us.take (cutN (pickF ps i))), []⟩
/-- What it leaves of names. -/
def crL (F : Fs) (ps : List Int) (l : List Dn) : Fs := { fs0 with files := l.mapIdx fun i x => crFi F ps i x, sure := l.mapIdx fun i x => ⟨x.nm, i⟩ }
theorem crashF_cr (F : Fs) (ops : Int) (ps : List Int) : crashF F ops ps = crL F ps (keptF (turnsD F.sure (F.turns.take (cutN ops))) F.files.length) := rfl
theorem crL_nil (F : Fs) (ps : List Int) : crL F ps [] = fs0 := by unfold crL; simp [fs0]
theorem crL_push (F : Fs) (ps : List Int) (l : List Dn) (x : Dn) : crL F ps (l ++ [x]) = { crL F ps l with files := (crL F ps l).files ++ [crFi F ps l.length x], sure := (crL F ps l).sure ++ [⟨x.nm, l.length⟩] } := by
  unfold crL
  dsimp only
  rw [List.mapIdx_append, List.mapIdx_append]
  simp
theorem crL_filesLen (F : Fs) (ps : List Int) (l : List Dn) : (crL F ps l).files.length = l.length := by unfold crL; simp
theorem crL_sureLen (F : Fs) (ps : List Int) (l : List Dn) : (crL F ps l).sure.length = l.length := by unfold crL; simp
theorem crL_good {F : Fs} (h : GoodV F) (ps : List Int) (l : List Dn) : GoodV (crL F ps l) := by
  refine ⟨fun d hd => ?_, fun t ht => by simp [crL, fs0] at ht, fun x hx => ?_, fun x hx => ?_, by simp [crL, fs0], Or.inl rfl⟩
  · obtain ⟨i, hi, rfl⟩ := List.mem_mapIdx.1 hd
    show i < (l.mapIdx _).length
    rw [List.length_mapIdx]
    exact hi
  · obtain ⟨i, hi, rfl⟩ := List.mem_mapIdx.1 hx
    trivial
  · obtain ⟨i, hi, rfl⟩ := List.mem_mapIdx.1 hx
    have hm : (∀ z ∈ (atF F (l[i]).f).sure, 0 ≤ z ∧ z ≤ 255) ∧ ∀ u ∈ (atF F (l[i]).f).us, 0 ≤ u.b ∧ u.b ≤ 255 := by
      unfold atF
      rw [List.getD_eq_getElem?_getD]
      cases e : F.files[(l[i]).f]? with
      | none => exact ⟨fun z hz => by simp [emF] at hz, fun z hz => by simp [emF] at hz⟩
      | some y => exact h.byte y (List.mem_of_getElem? e)
    exact ⟨unsB_byte hm.1 (fun u hu => hm.2 u (List.mem_of_mem_take hu)), fun u hu => by simp [crFi] at hu⟩
/-- Files with names so far: all of the first k files, of the k-th one those of the first i names. -/
def curK (d : List Dn) (k i : Nat) : List Dn := keptF d k ++ (d.take i).filter fun x => decide (x.f = k)
theorem curK_zero (d : List Dn) (k : Nat) : curK d k 0 = keptF d k := by unfold curK; simp
theorem curK_full {d : List Dn} {k i : Nat} (h : d.length ≤ i) : curK d k i = keptF d (k + 1) := by
  unfold curK keptF
  rw [List.take_of_length_le h, List.range_succ, List.flatMap_append]
  simp
theorem curK_yes {d : List Dn} {k i : Nat} {x : Dn} (h : d[i]? = some x) (e : x.f = k) : curK d k (i + 1) = curK d k i ++ [x] := by
  obtain ⟨hi, e1⟩ := List.getElem?_eq_some_iff.1 h
  unfold curK
  rw [List.take_succ_eq_append_getElem hi, List.filter_append, e1, List.append_assoc]
  simp [e]
theorem curK_no {d : List Dn} {k i : Nat} {x : Dn} (h : d[i]? = some x) (e : ¬ x.f = k) : curK d k (i + 1) = curK d k i := by
  obtain ⟨hi, e1⟩ := List.getElem?_eq_some_iff.1 h
  unfold curK
  rw [List.take_succ_eq_append_getElem hi, List.filter_append, e1]
  simp [e]
theorem keptF_zero (d : List Dn) : keptF d 0 = [] := rfl
theorem curK_len (d : List Dn) (k i : Nat) : (curK d k i).length ≤ d.length := by
  have h1 := keptF_len d (k + 1)
  have h2 : keptF d (k + 1) = keptF d k ++ d.filter fun x => decide (x.f = k) := by
    unfold keptF
    rw [List.range_succ, List.flatMap_append]
    simp
  rw [h2, List.length_append] at h1
  unfold curK
  rw [List.length_append]
  have h3 : ((d.take i).filter fun x => decide (x.f = k)).length ≤ (d.filter fun x => decide (x.f = k)).length := (List.Sublist.filter _ (List.take_sublist i d)).length_le
  omega
theorem pickF_at {ps : List Int} {n : Nat} (h : ps.length = 0 → False) : pickF ps n = ps.getD (n % ps.length) 0 := by
  unfold pickF
  rw [if_neg (fun e => h e)]
end Go.Proofs.YthlkmjaflomflaaGreat
