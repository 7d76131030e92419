/-
  The document's file system: bytes put behind a file's (more): a contract, for every world; how a unit is put behind the others.
  Conditions: the file system lies in memory; as each theorem says.
-/
import Derived.Test.YthlkmjaflomflaaGreatVfsG
namespace Go.Proofs.YthlkmjaflomflaaGreat
open Go.RowKit
set_option maxRecDepth 20000
set_option linter.unusedVariables false

theorem Tryz.infoU16 : (Tryz.prog.info? 115).map (fun i => (i.zero, i.size, i.bytes)) = some (some (.agg #[.int .u8 0, .bool false, .int .i64 0]), 3, 16) := by kernel_rfl
theorem unV_one1 (x : Un) : ∀ u ∈ unV x, u.oneCell' = true := by rw [← flat_one unV x]; exact unV_one _
theorem un_cells (w : World) (b : Int) (c : Bool) (n : Int) (e : TypeId) : ∀ j u, (unV ⟨b, c, n⟩)[j]? = some u → (w.alloc (.cells #[.int .u8 b, .bool c, .int .i64 n] e)).cell? ((⟨w.heap.size, 0, none⟩ : Addr).add j) = some u := by
  intro j u h
  match j, h with
  | 0, h => simp [unV] at h; subst h; rw [Addr.add_lit, World.cell?_alloc_mark]; rfl
  | 1, h => simp [unV] at h; subst h; rw [Addr.add_lit, World.cell?_alloc_mark]; rfl
  | 2, h => simp [unV] at h; subst h; rw [Addr.add_lit, World.cell?_alloc_mark]; rfl
theorem fi_set1 : ∀ (l : List (H3 × H3)) (k : Nat) (h1 h2 h3 : H3), l[k]? = some (h1, h2) → (l.flatMap fiV).set (k * 2 + 1) (h3V h3) = (l.set k (h1, h3)).flatMap fiV
  | [], k, _, _, _, h => by simp at h
  | x :: t, 0, h1, h2, h3, h => by
    simp at h
    subst h
    rfl
  | x :: t, k + 1, h1, h2, h3, h => by
    rw [List.flatMap_cons, List.set_cons_succ, List.flatMap_cons, List.set_append_right _ _ (by rw [fiV_len]; omega), fiV_len, show (k + 1) * 2 + 1 - 2 = k * 2 + 1 by omega, fi_set1 t k h1 h2 h3 (by simpa using h)]
theorem StepV.trans {w w1 w' : World} {g : Nat} {S : Nat → Prop} {F1 F2 : Fs} (h : StepV RAt w w1 g S F1) (k : ∀ S', RAt w1 g S' F1 → (∀ j, S' j → S j ∨ w.heap.size ≤ j) → StepV RAt w1 w' g S' F2) : StepV RAt w w' g S F2 := by
  obtain ⟨S1, q1, q2, q3⟩ := h
  obtain ⟨S2, r1, r2, r3⟩ := k S1 q1 q2
  refine ⟨S2, r1, fun j hj => ?_, ⟨r3.os.trans q3.os, r3.tape.trans q3.tape, r3.output.trans q3.output, Nat.le_trans q3.size r3.size, fun j hj hn => ?_⟩⟩
  · rcases r2 j hj with e | e
    · exact q2 j e
    · exact Or.inr (Nat.le_trans q3.size e)
  · rw [r3.block j (Nat.lt_of_lt_of_le hj q3.size) (fun e => by
      rcases q2 j e with e | e
      · exact hn e
      · omega)]
    exact q3.block j hj hn
/-- A unit more. -/
theorem us_pushed {u u4 : World} {g : Nat} {S : Nat → Prop} {G : Fs} {gf : Nat} {cf : Nat} {as' : Option Addr} {cs : Nat} {at' : Option Addr} {ct : Nat} {hs : List (H3 × H3)} (B : RB u g S G (some ⟨gf, 0, none⟩) cf as' cs at' ct hs) (GG : GoodV G) {k : Nat} (hk : k < G.files.length) {h1 : H3} {a2 : Option Addr} {n2 c2 : Nat} (hh : hs[k]? = some (h1, (a2, n2, c2))) {x : Un} (hb : 0 ≤ x.b ∧ x.b ≤ 255) (hc : x.cut = true → 0 ≤ x.n ∧ x.n ≤ (bytF (atF G k)).length) {g' c' : Nat}
    (o : OwnU u4 0 (some ⟨g', 0, none⟩) (n2 + 1) c' ((atF G k).us ++ [x])) (gr : Ch (fun j => (Value.slice a2 n2 c2).ownBlock = some j) u u4) (lies : (Value.slice a2 n2 c2).ownBlock = some g' ∨ u.heap.size ≤ g') :
    StepV RAt u (u4.setCell ⟨gf, k * 2 + 1, none⟩ (.slice (some ⟨g', 0, none⟩) (n2 + 1) c')) g S (moreF G k [x]) := by
  have hg' : g' < u4.heap.size := (OwnG.cellsT o g' rfl).1.lt
  have cT : ∀ j, (Value.slice a2 n2 c2).ownBlock = some j → CellsT u j 115 ∧ S j := fun j hj => by
    have hx : G.files[k]? = some (atF G k) := by unfold atF; rw [List.getD_eq_getElem?_getD, List.getElem?_eq_getElem hk]; rfl
    have m := B.each k _ _ hh hx
    exact ⟨(OwnG.cellsT m.us j hj).1, m.usS j hj⟩
  have hfb : S gf := B.filesS gf rfl
  have cF : CellsT u gf 83 := (OwnG.cellsT B.files gf rfl).1
  have q1 : OwnF u4 0 (some ⟨gf, 0, none⟩) G.files.length cf hs := OwnG.ch B.files gr (fun b hb e => (cT b e).1.ne (OwnG.cellsT B.files b hb).1 (by decide) rfl)
  have cF4 : CellsT u4 gf 83 := (OwnG.cellsT q1 gf rfl).1
  have q2 : OwnD u4 0 as' G.sure.length cs G.sure := OwnG.ch B.sure gr (fun b hb e => (cT b e).1.ne (OwnG.cellsT B.sure b hb).1 (by decide) rfl)
  have q3 : OwnT u4 0 at' G.turns.length ct G.turns := OwnG.ch B.turns gr (fun b hb e => (cT b e).1.ne (OwnG.cellsT B.turns b hb).1 (by decide) rfl)
  have hstr : u4.heap[g]? = some (.cells (fsC8 G (some ⟨gf, 0, none⟩) cf as' cs at' ct) 32 (0, 0)) := (gr.block g (B.lt g B.own) (fun e => (cT g e).1.ne B.cellsT (by decide) rfl)).trans B.str
  have hgT : CellsT u4 g 32 := ⟨_, _, hstr⟩
  have ks : Ch (fun j => j = gf) u4 (u4.setCell ⟨gf, k * 2 + 1, none⟩ (.slice (some ⟨g', 0, none⟩) (n2 + 1) c')) := ch_set u4 gf _ _
  have hl : (moreF G k [x]).files.length = G.files.length := by unfold moreF; simp
  refine ⟨fun j => S j ∨ (u.heap.size ≤ j ∧ j < u4.heap.size), ⟨GG.more hk hb hc, some ⟨gf, 0, none⟩, cf, as', cs, at', ct, hs.set k (h1, (some ⟨g', 0, none⟩, n2 + 1, c')), ⟨Or.inl B.own, ?_, ?_, ?_, ?_, ?_, ?_, ?_, ?_, ?_, ?_⟩⟩, ?_, ?_⟩
  · rintro j (e | e)
    · exact Nat.lt_of_lt_of_le (B.lt j e) (Nat.le_trans gr.size ks.size)
    · exact Nat.lt_of_lt_of_le e.2 ks.size
  · rw [ks.block g hgT.lt (hgT.ne cF4 (by decide)), hstr]
    unfold fsC8
    rw [hl]
    rfl
  · rw [hl]
    have := (World.ownsRow.stored q1 (k * 2 + 1) (h3V (some ⟨g', 0, none⟩, n2 + 1, c'))).1
    rw [fi_set1 hs k h1 _ _ hh] at this
    exact this
  · rw [hl]
    exact fun b hb => Or.inl (B.filesS b hb)
  · intro i y z hi hz
    by_cases e : i = k
    · subst e
      have hz' : z = ⟨(atF G i).sure, (atF G i).us ++ [x]⟩ := by
        unfold moreF at hz
        dsimp only at hz
        rw [List.getElem?_set_self hk] at hz
        exact (Option.some.inj hz).symm
      have hy' : y = (h1, (some ⟨g', 0, none⟩, n2 + 1, c')) := by
        rw [List.getElem?_set_self (by have := (List.getElem?_eq_some_iff.1 hh).1; exact this)] at hi
        exact (Option.some.inj hi).symm
      subst hz' hy'
      have hx : G.files[i]? = some (atF G i) := by unfold atF; rw [List.getD_eq_getElem?_getD, List.getElem?_eq_getElem hk]; rfl
      have m := B.each i _ _ hh hx
      have m1 : OwnB u4 0 h1.1 h1.2.1 h1.2.2 (atF G i).sure := OwnG.ch m.sure gr (fun b hb e => (cT b e).1.ne (OwnG.cellsT m.sure b hb).1 (by decide) rfl)
      refine ⟨OwnG.ch m1 ks (fun b hb => (OwnG.cellsT m1 b hb).1.ne cF4 (by decide)), OwnG.ch o ks (fun b hb => (OwnG.cellsT o b hb).1.ne cF4 (by decide)), fun b hb => Or.inl (m.sureS b hb), fun b hb => ?_⟩
      simp [h3V, Value.ownBlock] at hb
      subst hb
      rcases lies with e | e
      · exact Or.inl (cT _ e).2
      · exact Or.inr ⟨e, hg'⟩
    · have hz' : G.files[i]? = some z := by
        unfold moreF at hz
        dsimp only at hz
        rwa [List.getElem?_set_ne (Ne.symm e)] at hz
      have hi' : hs[i]? = some y := by rwa [List.getElem?_set_ne (Ne.symm e)] at hi
      have m := B.each i _ _ hi' hz'
      have m1 : OwnB u4 0 y.1.1 y.1.2.1 y.1.2.2 z.sure := OwnG.ch m.sure gr (fun b hb e => (cT b e).1.ne (OwnG.cellsT m.sure b hb).1 (by decide) rfl)
      have m2 : OwnU u4 0 y.2.1 y.2.2.1 y.2.2.2 z.us := OwnG.ch m.us gr (fun b hb eb => B.apart i k y _ b e hi' hh hb eb)
      exact ⟨OwnG.ch m1 ks (fun b hb => (OwnG.cellsT m1 b hb).1.ne cF4 (by decide)), OwnG.ch m2 ks (fun b hb => (OwnG.cellsT m2 b hb).1.ne cF4 (by decide)), fun b hb => Or.inl (m.sureS b hb), fun b hb => Or.inl (m.usS b hb)⟩
  · intro i j y z b hij hi hj hby hbz
    have hkl := (List.getElem?_eq_some_iff.1 hh).1
    have old : ∀ (i : Nat) (y : H3 × H3), hs[i]? = some y → i ≠ k → (h3V y.2).ownBlock = some b → g' = b → False := fun i y hi' hne hb eg => by
      subst eg
      rcases lies with e | e
      · exact B.apart i k y _ g' hne hi' hh hb e
      · have hil : i < G.files.length := by have := (List.getElem?_eq_some_iff.1 hi').1; have := OwnG.len fiV_len (by decide) B.files; omega
        have hx : G.files[i]? = some (atF G i) := by unfold atF; rw [List.getD_eq_getElem?_getD, List.getElem?_eq_getElem hil]; rfl
        have := B.lt g' ((B.each i y _ hi' hx).usS g' hb)
        omega
    by_cases e : i = k
    · subst e
      rw [List.getElem?_set_self hkl] at hi
      rw [List.getElem?_set_ne hij] at hj
      obtain rfl := Option.some.inj hi
      simp [h3V, Value.ownBlock] at hby
      exact old j z hj (Ne.symm hij) hbz hby
    · rw [List.getElem?_set_ne (Ne.symm e)] at hi
      by_cases e2 : j = k
      · subst e2
        rw [List.getElem?_set_self hkl] at hj
        obtain rfl := Option.some.inj hj
        simp [h3V, Value.ownBlock] at hbz
        exact old i y hi e hby hbz
      · rw [List.getElem?_set_ne (Ne.symm e2)] at hj
        exact B.apart i j y z b hij hi hj hby hbz
  · exact OwnG.ch q2 ks (fun b hb => (OwnG.cellsT q2 b hb).1.ne cF4 (by decide))
  · exact fun b hb => Or.inl (B.sureS b hb)
  · exact OwnG.ch q3 ks (fun b hb => (OwnG.cellsT q3 b hb).1.ne cF4 (by decide))
  · exact fun b hb => Or.inl (B.turnsS b hb)
  · rintro j (e | e)
    · exact Or.inl e
    · exact Or.inr e.1
  · exact (gr.more (fun j _ e => (cT j e).2)).trans (ks.more (fun j _ e => e ▸ hfb))
end Go.Proofs.YthlkmjaflomflaaGreat
