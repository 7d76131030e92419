/-
  The landed file system in memory: files with their bytes and how pending units are taken back, names behind maps, turns: what this abides.
  Conditions: as each theorem says.
-/
import Derived.Test.YthlkmjaflomflaaGreatVfsXc
import Derived.Test.YthlkmjaflomflaaGreatVfsXb
namespace Go.Proofs.YthlkmjaflomflaaGreat
open Go.RowKit Go.Maps
set_option maxRecDepth 20000
set_option linter.unusedVariables false

/-- Pending units in one, as they lie. -/
def puV (p : Nat × H3) : List Value := [.int .i64 (p.1 : Int), .slice p.2.1 p.2.2.1 p.2.2.2]
theorem puV_len (p : Nat × H3) : (puV p).length = 2 := rfl
theorem puV_one1 (p : Nat × H3) : ∀ u ∈ puV p, u.oneCell' = true := by
  intro u hu
  simp [puV] at hu
  rcases hu with rfl | rfl <;> rfl
abbrev OwnP (w : World) (base : Nat) (a : Option Addr) (n cap : Nat) (l : List (Nat × H3)) : Prop := OwnG 128 2 puV w base a n cap l
/-- A file's block as a pointer. -/
def ptrV (fb : List Nat) (k : Nat) : Value := .pointer (some ⟨fb.getD k 0, 0, none⟩)
/-- A turn as it lies. -/
def tuV (fb : List Nat) (t : Tn) : List Value := if t.k = 0 then [.int .i64 0, .string .empty, .string t.nm, ptrV fb t.f] else [.int .i64 (t.k : Int), .string t.nm, .string t.to, .pointer none]
theorem tuV_len (fb : List Nat) (t : Tn) : (tuV fb t).length = 4 := by unfold tuV; split <;> rfl
theorem tuV_one1 (fb : List Nat) (t : Tn) : ∀ u ∈ tuV fb t, u.oneCell' = true := by
  intro u hu
  unfold tuV at hu
  split at hu <;> simp at hu
  · rcases hu with rfl | rfl | rfl | rfl <;> rfl
  · rcases hu with rfl | rfl | rfl | rfl <;> rfl
abbrev OwnTu (fb : List Nat) (w : World) (base : Nat) (a : Option Addr) (n cap : Nat) (l : List Tn) : Prop := OwnG 86 4 (tuV fb) w base a n cap l
/-- Where a file lies: its block, its bytes, its pending units and what they tell. -/
structure Fh where
  b : Nat
  d : H3
  p : H3
  ps : List Pu
  hp : List (Nat × H3)
/-- A file's blocks. -/
def SFh (h : Fh) (j : Nat) : Prop := j = h.b ∨ (h3V h.d).ownBlock = some j ∨ (h3V h.p).ownBlock = some j ∨ ∃ q ∈ h.hp, (h3V q.2).ownBlock = some j
/-- A file in memory: its bytes, and units kept as what takes them back. -/
structure FlP (w : World) (h : Fh) (k : Nat) (b : List Int) (su : List Int) (us : List Un) : Prop where
  str : w.heap[h.b]? = some (.cells #[.int .i64 (k : Int), .slice h.d.1 h.d.2.1 h.d.2.2, .slice h.p.1 h.p.2.1 h.p.2.2] 102 (0, 0))
  data : OwnB w 0 h.d.1 h.d.2.1 h.d.2.2 b
  pd : Pd su us h.ps
  pend : OwnP w 0 h.p.1 h.p.2.1 h.p.2.2 h.hp
  len : h.hp.length = h.ps.length
  each : ∀ (i : Nat) (q : Nat × H3) (r : Pu), h.hp[i]? = some q → h.ps[i]? = some r → q.1 = r.1 ∧ OwnB w 0 q.2.1 q.2.2.1 q.2.2.2 r.2 ∧ ∀ j, (h3V q.2).ownBlock = some j → ¬ (h3V h.d).ownBlock = some j
abbrev FlM (w : World) (h : Fh) (k : Nat) (x : Fi) : Prop := FlP w h k (bytF x) x.sure x.us
/-- The kinds of a file's blocks. -/
def Ty3 (w : World) (j : Nat) : Prop := CellsT w j 102 ∨ CellsT w j 128 ∨ CellsT w j 5
theorem Ty3.lt {w : World} {j : Nat} (h : Ty3 w j) : j < w.heap.size := by
  rcases h with h | h | h <;> exact h.lt
theorem MapB.ne3 {w : World} {b j : Nat} (h : MapB w b) (k : Ty3 w j) : b ≠ j := by
  rcases k with k | k | k <;> exact h.ne k
theorem ne_ty3 {w : World} {g j : Nat} {t : TypeId} (h : CellsT w g t) (k : Ty3 w j) (h1 : t ≠ 102) (h2 : t ≠ 128) (h3 : t ≠ 5) : g ≠ j := by
  rcases k with k | k | k
  · exact h.ne k h1
  · exact h.ne k h2
  · exact h.ne k h3
section
variable {w w' : World} {h : Fh} {k : Nat} {b su : List Int} {us : List Un}
theorem FlP.cells (m : FlP w h k b su us) : CellsT w h.b 102 := ⟨_, _, m.str⟩
theorem FlP.got (m : FlP w h k b su us) {q : Nat × H3} (hq : q ∈ h.hp) : ∃ (i : Nat) (r : Pu), h.hp[i]? = .some q ∧ h.ps[i]? = .some r := by
  obtain ⟨i, hi⟩ := List.mem_iff_getElem?.1 hq
  have hl := (List.getElem?_eq_some_iff.1 hi).1
  exact ⟨i, _, hi, List.getElem?_eq_getElem (by rw [← m.len]; exact hl)⟩
theorem FlP.kind (m : FlP w h k b su us) {j : Nat} (hj : SFh h j) : Ty3 w j := by
  rcases hj with rfl | hj | hj | ⟨q, hq, hj⟩
  · exact Or.inl m.cells
  · exact Or.inr (Or.inr (OwnG.cellsT m.data j hj).1)
  · exact Or.inr (Or.inl (OwnG.cellsT m.pend j hj).1)
  · obtain ⟨i, r, h1, h2⟩ := m.got hq
    exact Or.inr (Or.inr (OwnG.cellsT (m.each i q r h1 h2).2.1 j hj).1)
theorem FlP.lt (m : FlP w h k b su us) {j : Nat} (hj : SFh h j) : j < w.heap.size := (m.kind hj).lt
theorem FlP.ch {T : Nat → Prop} (m : FlP w h k b su us) (c : Ch T w w') (hn : ∀ j, SFh h j → ¬ T j) : FlP w' h k b su us :=
  ⟨(c.block h.b (m.lt (Or.inl rfl)) (hn _ (Or.inl rfl))).trans m.str, OwnG.ch m.data c (fun j hj => hn j (Or.inr (Or.inl hj))), m.pd, OwnG.ch m.pend c (fun j hj => hn j (Or.inr (Or.inr (Or.inl hj)))), m.len,
    fun i q r h1 h2 => ⟨(m.each i q r h1 h2).1, OwnG.ch (m.each i q r h1 h2).2.1 c (fun j hj => hn j (Or.inr (Or.inr (Or.inr ⟨q, List.mem_of_getElem? h1, hj⟩)))), (m.each i q r h1 h2).2.2⟩⟩
theorem FlP.below (m : FlP w h k b su us) (bl : Below w.heap.size w w') : FlP w' h k b su us := m.ch (Ch.of_below bl) (fun _ _ => id)
theorem FlP.c0 (m : FlP w h k b su us) : w.cell? ⟨h.b, 0, none⟩ = .some (.int .i64 (k : Int)) := by rw [cell_of_row w h.b 0 _ _ (0, 0) m.str]; rfl
theorem FlP.c1 (m : FlP w h k b su us) : w.cell? ⟨h.b, 1, none⟩ = .some (.slice h.d.1 h.d.2.1 h.d.2.2) := by rw [cell_of_row w h.b 1 _ _ (0, 0) m.str]; rfl
theorem FlP.c2 (m : FlP w h k b su us) : w.cell? ⟨h.b, 2, none⟩ = .some (.slice h.p.1 h.p.2.1 h.p.2.2) := by rw [cell_of_row w h.b 2 _ _ (0, 0) m.str]; rfl
theorem FlP.fz (m : FlP w h k b su us) (i : Nat) : w.frozen? ⟨h.b, i, none⟩ = false := frozen_of_row w h.b i _ _ m.str
end
/-- A file behind a call that turns its blocks alone. -/
def StepP (w w' : World) (h : Fh) (k : Nat) (b su : List Int) (us : List Un) : Prop := ∃ h', h'.b = h.b ∧ FlP w' h' k b su us ∧ (∀ j, SFh h' j → SFh h j ∨ w.heap.size ≤ j) ∧ Ch (SFh h) w w'
abbrev StepL (w w' : World) (h : Fh) (k : Nat) (x : Fi) : Prop := StepP w w' h k (bytF x) x.sure x.us
theorem stepP_join {w w1 w2 : World} {h h1 : Fh} {k : Nat} {b su : List Int} {us : List Un} (eb : h1.b = h.b) (q : ∀ j, SFh h1 j → SFh h j ∨ w.heap.size ≤ j) (c : Ch (SFh h) w w1) (st : StepP w1 w2 h1 k b su us) : StepP w w2 h k b su us := by
  obtain ⟨h2, e2, m2, q2, c2⟩ := st
  refine ⟨h2, e2.trans eb, m2, fun j hj => ?_, ⟨c2.os.trans c.os, c2.tape.trans c.tape, c2.output.trans c.output, Nat.le_trans c.size c2.size, fun j hj hn => ?_⟩⟩
  · rcases q2 j hj with e | e
    · exact q j e
    · exact Or.inr (Nat.le_trans c.size e)
  · rw [c2.block j (Nat.lt_of_lt_of_le hj c.size) (fun e => by
      rcases q j e with e | e
      · exact hn e
      · omega)]
    exact c.block j hj hn
/-- What a map of names tells. -/
def nmV (fb : List Nat) (l : List Dn) : ByteArray → Option Value := fun s => (fileD l s).map (ptrV fb)
/-- The struct's cells. -/
abbrev lfC (F : Fs) (bn bc : Nat) (at' : Option Addr) (ct : Nat) : Array Value := #[.map (some bn), .map (some bc), .slice at' F.turns.length ct, .int .i64 (F.files.length : Int), .int .i64 F.n, .bool F.armed, .int .i64 F.kind, .int .i64 F.after, .bool F.dark]
/-- The file system: the struct, its maps, its row of turns, each file. -/
structure LB (w : World) (g : Nat) (S : Nat → Prop) (F : Fs) (fb : List Nat) (fh : List Fh) (bn bc : Nat) (at' : Option Addr) (ct : Nat) : Prop where
  own : S g
  lt : ∀ k, S k → k < w.heap.size
  str : w.heap[g]? = some (.cells (lfC F bn bc at' ct) 67 (0, 0))
  names : MapS w bn (dirF F).length (nmV fb (dirF F))
  certain : MapS w bc F.sure.length (nmV fb F.sure)
  ne : bn ≠ bc
  bnS : S bn
  bcS : S bc
  turns : OwnTu fb w 0 at' F.turns.length ct F.turns
  turnsS : ∀ b, (Value.slice at' F.turns.length ct).ownBlock = some b → S b
  fbs : fh.map (·.b) = fb
  len : fh.length = F.files.length
  files : ∀ (i : Nat) (h : Fh) (x : Fi), fh[i]? = some h → F.files[i]? = some x → FlM w h i x
  filesS : ∀ (i : Nat) (h : Fh) (j : Nat), fh[i]? = some h → SFh h j → S j
  apart : ∀ (i i' : Nat) (h h' : Fh) (j : Nat), i ≠ i' → fh[i]? = some h → fh[i']? = some h' → SFh h j → ¬ SFh h' j
/-- A file system that is this one. -/
def LAt (w : World) (g : Nat) (S : Nat → Prop) (F : Fs) : Prop := GoodV F ∧ GoodN F ∧ ∃ fb fh bn bc at' ct, LB w g S F fb fh bn bc at' ct
section
variable {w w' : World} {g : Nat} {S : Nat → Prop} {F F' : Fs} {fb : List Nat} {fh : List Fh} {bn bc : Nat} {at' : Option Addr} {ct : Nat}
theorem LB.fileX (B : LB w g S F fb fh bn bc at' ct) {i : Nat} {h : Fh} (hi : fh[i]? = some h) : ∃ x, F.files[i]? = some x ∧ FlM w h i x := by
  have hl := (List.getElem?_eq_some_iff.1 hi).1
  have e : F.files[i]? = some (F.files[i]'(by rw [← B.len]; exact hl)) := List.getElem?_eq_getElem _
  exact ⟨_, e, B.files i h _ hi e⟩
theorem LB.fileAt (B : LB w g S F fb fh bn bc at' ct) {k : Nat} (hk : k < F.files.length) : ∃ h, fh[k]? = some h ∧ FlM w h k (atF F k) ∧ fb.getD k 0 = h.b := by
  have hl : k < fh.length := by rw [B.len]; exact hk
  refine ⟨_, List.getElem?_eq_getElem hl, B.files k _ _ (List.getElem?_eq_getElem hl) ?_, ?_⟩
  · unfold atF
    rw [List.getD_eq_getElem?_getD, List.getElem?_eq_getElem hk]
    rfl
  · rw [← B.fbs, List.getD_eq_getElem?_getD, List.getElem?_map, List.getElem?_eq_getElem hl]
    rfl
theorem LB.cellsT (B : LB w g S F fb fh bn bc at' ct) : CellsT w g 67 := ⟨_, _, B.str⟩
theorem LB.ch {T : Nat → Prop} (B : LB w g S F fb fh bn bc at' ct) (k : Ch T w w') (hn : ∀ j, S j → ¬ T j) : LB w' g S F fb fh bn bc at' ct :=
  ⟨B.own, fun j hj => Nat.lt_of_lt_of_le (B.lt j hj) k.size, (k.block g (B.lt g B.own) (hn g B.own)).trans B.str, B.names.ch k (hn _ B.bnS), B.certain.ch k (hn _ B.bcS), B.ne, B.bnS, B.bcS, OwnG.ch B.turns k (fun b hb => hn b (B.turnsS b hb)), B.turnsS,
    B.fbs, B.len, fun i h x h1 h2 => (B.files i h x h1 h2).ch k (fun j hj => hn j (B.filesS i h j h1 hj)), B.filesS, B.apart⟩
theorem LB.below (B : LB w g S F fb fh bn bc at' ct) (b : Below w.heap.size w w') : LB w' g S F fb fh bn bc at' ct := B.ch (Ch.of_below b) (fun _ _ => id)
theorem LB.c0 (B : LB w g S F fb fh bn bc at' ct) : w.cell? ⟨g, 0, none⟩ = some (.map (some bn)) := by rw [cell_of_row w g 0 _ _ (0, 0) B.str]; rfl
theorem LB.c1 (B : LB w g S F fb fh bn bc at' ct) : w.cell? ⟨g, 1, none⟩ = some (.map (some bc)) := by rw [cell_of_row w g 1 _ _ (0, 0) B.str]; rfl
theorem LB.c2 (B : LB w g S F fb fh bn bc at' ct) : w.cell? ⟨g, 2, none⟩ = some (.slice at' F.turns.length ct) := by rw [cell_of_row w g 2 _ _ (0, 0) B.str]; rfl
theorem LB.c3 (B : LB w g S F fb fh bn bc at' ct) : w.cell? ⟨g, 3, none⟩ = some (.int .i64 (F.files.length : Int)) := by rw [cell_of_row w g 3 _ _ (0, 0) B.str]; rfl
theorem LB.c4 (B : LB w g S F fb fh bn bc at' ct) : w.cell? ⟨g, 4, none⟩ = some (.int .i64 F.n) := by rw [cell_of_row w g 4 _ _ (0, 0) B.str]; rfl
theorem LB.c5 (B : LB w g S F fb fh bn bc at' ct) : w.cell? ⟨g, 5, none⟩ = some (.bool F.armed) := by rw [cell_of_row w g 5 _ _ (0, 0) B.str]; rfl
theorem LB.c6 (B : LB w g S F fb fh bn bc at' ct) : w.cell? ⟨g, 6, none⟩ = some (.int .i64 F.kind) := by rw [cell_of_row w g 6 _ _ (0, 0) B.str]; rfl
theorem LB.c7 (B : LB w g S F fb fh bn bc at' ct) : w.cell? ⟨g, 7, none⟩ = some (.int .i64 F.after) := by rw [cell_of_row w g 7 _ _ (0, 0) B.str]; rfl
theorem LB.c8 (B : LB w g S F fb fh bn bc at' ct) : w.cell? ⟨g, 8, none⟩ = some (.bool F.dark) := by rw [cell_of_row w g 8 _ _ (0, 0) B.str]; rfl
theorem LB.fz (B : LB w g S F fb fh bn bc at' ct) (i : Nat) : w.frozen? ⟨g, i, none⟩ = false := frozen_of_row w g i _ _ B.str
theorem LAt.keep {T : Nat → Prop} (h : LAt w g S F) (k : Ch T w w') (hn : ∀ j, S j → ¬ T j) : LAt w' g S F := by
  obtain ⟨h0, h1, fb, fh, bn, bc, at', ct, B⟩ := h
  exact ⟨h0, h1, fb, fh, bn, bc, at', ct, B.ch k hn⟩
theorem LAt.below (h : LAt w g S F) (b : Below w.heap.size w w') : LAt w' g S F := h.keep (Ch.of_below b) (fun _ _ => id)
theorem LAt.lt (h : LAt w g S F) : ∀ k, S k → k < w.heap.size := by
  obtain ⟨h0, h1, fb, fh, bn, bc, at', ct, B⟩ := h
  exact B.lt
theorem LAt.own (h : LAt w g S F) : S g := by
  obtain ⟨h0, h1, fb, fh, bn, bc, at', ct, B⟩ := h
  exact B.own
/-- The struct alone has turned. -/
theorem LB.scal (B : LB w g S F fb fh bn bc at' ct) (k : Ch (fun j => j = g) w w') (hstr : w'.heap[g]? = some (.cells (lfC F' bn bc at' ct) 67 (0, 0))) (e1 : F'.files = F.files) (e2 : F'.sure = F.sure) (e3 : F'.turns = F.turns) : LB w' g S F' fb fh bn bc at' ct := by
  have ed : dirF F' = dirF F := by unfold dirF; rw [e2, e3]
  refine ⟨B.own, fun j hj => Nat.lt_of_lt_of_le (B.lt j hj) k.size, hstr, ?_, ?_, B.ne, B.bnS, B.bcS, ?_, ?_, B.fbs, by rw [e1]; exact B.len, ?_, B.filesS, B.apart⟩
  · rw [ed]; exact B.names.ch k (B.names.isMap.ne B.cellsT)
  · rw [e2]; exact B.certain.ch k (B.certain.isMap.ne B.cellsT)
  · rw [e3]; exact OwnG.ch B.turns k (fun b hb => (OwnG.cellsT B.turns b hb).1.ne B.cellsT (by decide))
  · rw [e3]; exact B.turnsS
  · rw [e1]
    intro i h x h1 h2
    have m := B.files i h x h1 h2
    exact m.ch k (fun j hj => (ne_ty3 B.cellsT (m.kind hj) (by decide) (by decide) (by decide)).symm)
theorem nmV_some {fb : List Nat} {l : List Dn} {s : ByteArray} : (nmV fb l s).isSome = (fileD l s).isSome := by unfold nmV; rw [Option.isSome_map]
theorem names_mem {l : List Dn} (h : NamesD l) (s : ByteArray) : s ∈ l.map (·.nm) ↔ (nmV fb l s).isSome = true := by
  rw [nmV_some, List.mem_map]
  constructor
  · rintro ⟨d, hd, rfl⟩
    rw [fileD_at h hd]; rfl
  · intro q
    obtain ⟨f, hf⟩ := Option.isSome_iff_exists.1 q
    exact ⟨_, fileD_mem hf, rfl⟩
/-- A map of names has just as many. -/
theorem MapS.tightD {b n : Nat} {l : List Dn} (h : MapS w b n (nmV fb l)) (hl : NamesD l) : MapS w b l.length (nmV fb l) := by
  have := h.tight hl.once (names_mem hl)
  rwa [List.length_map] at this
/-- One file has turned. -/
theorem LB.step (B : LB w g S F fb fh bn bc at' ct) {k : Nat} {h h' : Fh} {x : Fi} (hk : fh[k]? = some h) (eb : h'.b = h.b) (m' : FlM w' h' k x) (hS : ∀ j, SFh h' j → SFh h j ∨ w.heap.size ≤ j) (c : Ch (SFh h) w w') :
    LB w' g (fun j => S j ∨ (w.heap.size ≤ j ∧ j < w'.heap.size)) { F with files := F.files.set k x } fb (fh.set k h') bn bc at' ct := by
  obtain ⟨x0, hx0, m⟩ := B.fileX hk
  have hkl := (List.getElem?_eq_some_iff.1 hk).1
  have hkf := (List.getElem?_eq_some_iff.1 hx0).1
  refine ⟨Or.inl B.own, ?_, ?_, ?_, ?_, B.ne, Or.inl B.bnS, Or.inl B.bcS, ?_, fun b hb => Or.inl (B.turnsS b hb), ?_, ?_, ?_, ?_, ?_⟩
  · rintro j (e | e)
    · exact Nat.lt_of_lt_of_le (B.lt j e) c.size
    · exact e.2
  · rw [c.block g (B.lt g B.own) (fun q => ne_ty3 B.cellsT (m.kind q) (by decide) (by decide) (by decide) rfl), B.str]
    unfold lfC
    dsimp only
    rw [List.length_set]
  · exact B.names.ch c (fun q => B.names.isMap.ne3 (m.kind q) rfl)
  · exact B.certain.ch c (fun q => B.certain.isMap.ne3 (m.kind q) rfl)
  · exact OwnG.ch B.turns c (fun b hb q => ne_ty3 (OwnG.cellsT B.turns b hb).1 (m.kind q) (by decide) (by decide) (by decide) rfl)
  · rw [List.map_set, eb, ← B.fbs]
    apply List.ext_getElem?
    intro i
    by_cases e : i = k
    · subst e
      rw [List.getElem?_set_self (by rw [List.length_map]; exact hkl), List.getElem?_map, hk]
      rfl
    · rw [List.getElem?_set_ne (Ne.symm e)]
  · dsimp only
    rw [List.length_set, List.length_set]
    exact B.len
  · intro i y z hi hz
    dsimp only at hz
    by_cases e : i = k
    · subst e
      rw [List.getElem?_set_self hkl] at hi
      rw [List.getElem?_set_self hkf] at hz
      obtain rfl := Option.some.inj hi
      obtain rfl := Option.some.inj hz
      exact m'
    · rw [List.getElem?_set_ne (Ne.symm e)] at hi hz
      exact (B.files i y z hi hz).ch c (fun j hj => B.apart i k y h j e hi hk hj)
  · intro i y j hi hj
    by_cases e : i = k
    · subst e
      rw [List.getElem?_set_self hkl] at hi
      obtain rfl := Option.some.inj hi
      rcases hS j hj with q | q
      · exact Or.inl (B.filesS i h j hk q)
      · exact Or.inr ⟨q, m'.lt hj⟩
    · rw [List.getElem?_set_ne (Ne.symm e)] at hi
      exact Or.inl (B.filesS i y j hi hj)
  · intro i i' y y' j hii hi hi' hj hj'
    by_cases e : i = k
    · subst e
      rw [List.getElem?_set_self hkl] at hi
      obtain rfl := Option.some.inj hi
      rw [List.getElem?_set_ne hii] at hi'
      rcases hS j hj with q | q
      · exact B.apart i i' h y' j hii hk hi' q hj'
      · have := B.lt j (B.filesS i' y' j hi' hj')
        omega
    · rw [List.getElem?_set_ne (Ne.symm e)] at hi
      by_cases e2 : i' = k
      · subst e2
        rw [List.getElem?_set_self hkl] at hi'
        obtain rfl := Option.some.inj hi'
        rcases hS j hj' with q | q
        · exact B.apart i i' y h j hii hi hk hj q
        · have := B.lt j (B.filesS i y j hi hj)
          omega
      · rw [List.getElem?_set_ne (Ne.symm e2)] at hi'
        exact B.apart i i' y y' j hii hi hi' hj hj'
end
end Go.Proofs.YthlkmjaflomflaaGreat
