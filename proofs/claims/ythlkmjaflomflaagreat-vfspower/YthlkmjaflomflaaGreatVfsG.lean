/-
  The document's file system: Create: a contract, for every world (written by gen/vfsg.gen.py); how its files are exchanged.
  Conditions: the file system lies in memory; as each theorem says.
-/
import Derived.Test.YthlkmjaflomflaaGreatVfsE
namespace Go.Proofs.YthlkmjaflomflaaGreat
open Go.RowKit
set_option maxRecDepth 20000
set_option linter.unusedVariables false

theorem Tryz.infoF16 : (Tryz.prog.info? 83).map (fun i => (i.zero, i.size, i.bytes)) = some (some (.agg #[.slice none 0 0, .slice none 0 0]), 2, 48) := by kernel_rfl
theorem fi_cells (w : World) (h : H3 × H3) (e : TypeId) : ∀ j u, (fiV h)[j]? = some u → (w.alloc (.cells #[.slice h.1.1 h.1.2.1 h.1.2.2, .slice h.2.1 h.2.2.1 h.2.2.2] e)).cell? ((⟨w.heap.size, 0, none⟩ : Addr).add j) = some u := by
  intro j u hj
  match j, hj with
  | 0, hj => simp [fiV] at hj; subst hj; rw [Addr.add_lit, World.cell?_alloc_mark]; rfl
  | 1, hj => simp [fiV] at hj; subst hj; rw [Addr.add_lit, World.cell?_alloc_mark]; rfl
section
variable {w w0 w' : World} {g : Nat} {S S' : Nat → Prop} {F F' : Fs} {af : Option Addr} {cf : Nat} {as' : Option Addr} {cs : Nat} {at' : Option Addr} {ct : Nat} {hs : List (H3 × H3)}
theorem RB.putFiles (h : RB w0 g S F af cf as' cs at' ct hs) (k : Ch (fun j => CellsT w0 j 83) w0 w) {fs : List Fi} {hs' : List (H3 × H3)} {a : Option Addr} {c : Nat} (o : OwnF w 0 a fs.length c hs') (hS : ∀ b, (Value.slice a fs.length c).ownBlock = some b → S' b) (hSS : ∀ j, S j → S' j) (hl : ∀ j, S' j → j < w.heap.size)
    (he : ∀ (i : Nat) (x : H3 × H3) (y : Fi), hs'[i]? = some x → fs[i]? = some y → FiM w S' x y) (hap : ∀ (i j : Nat) (x y : H3 × H3) (b : Nat), i ≠ j → hs'[i]? = some x → hs'[j]? = some y → (h3V x.2).ownBlock = some b → ¬ (h3V y.2).ownBlock = some b) :
    RB (w.setCell ⟨g, 0, none⟩ (.slice a fs.length c)) g S' { F with files := fs } a c as' cs at' ct hs' := by
  have ks : Ch (fun j => j = g) w (w.setCell ⟨g, 0, none⟩ (.slice a fs.length c)) := ch_set w g 0 _
  have hstr : w.heap[g]? = some (.cells (fsC8 F af cf as' cs at' ct) 32 (0, 0)) := (k.block g (h.lt g h.own) (fun e => e.ne h.cellsT (by decide) rfl)).trans h.str
  have hg : CellsT w g 32 := ⟨_, _, hstr⟩
  have q1 : OwnD w 0 as' F.sure.length cs F.sure := OwnG.ch h.sure k (fun b hb e => e.ne (OwnG.cellsT h.sure b hb).1 (by decide) rfl)
  have q2 : OwnT w 0 at' F.turns.length ct F.turns := OwnG.ch h.turns k (fun b hb e => e.ne (OwnG.cellsT h.turns b hb).1 (by decide) rfl)
  refine ⟨hSS _ h.own, fun j hj => Nat.lt_of_lt_of_le (hl j hj) ks.size, ?_, OwnG.ch o ks (fun b hb => (OwnG.cellsT o b hb).1.ne hg (by decide)), hS, ?_, hap, OwnG.ch q1 ks (fun b hb => (OwnG.cellsT q1 b hb).1.ne hg (by decide)), fun b hb => hSS b (h.sureS b hb), OwnG.ch q2 ks (fun b hb => (OwnG.cellsT q2 b hb).1.ne hg (by decide)), fun b hb => hSS b (h.turnsS b hb)⟩
  · rw [heap_setCell_same w g 0 _ _ _ hstr]; rfl
  · intro i x y hi hy
    have m := he i x y hi hy
    exact ⟨OwnG.ch m.sure ks (fun b hb => (OwnG.cellsT m.sure b hb).1.ne hg (by decide)), OwnG.ch m.us ks (fun b hb => (OwnG.cellsT m.us b hb).1.ne hg (by decide)), m.sureS, m.usS⟩
end
/-- An empty file's slices. -/
def em3 : H3 × H3 := ((none, 0, 0), (none, 0, 0))
/-- An empty file more. -/
theorem files_pushed {u2 u4 : World} {g : Nat} {S : Nat → Prop} {G : Fs} {af : Option Addr} {cf : Nat} {as' : Option Addr} {cs : Nat} {at' : Option Addr} {ct : Nat} {hs : List (H3 × H3)} (B : RB u2 g S G af cf as' cs at' ct hs) {N g' c' : Nat} (hN : G.files.length = N)
    (o : OwnF u4 0 (some ⟨g', 0, none⟩) (N + 1) c' (hs ++ [em3])) (gr : Ch (fun j => (Value.slice af G.files.length cf).ownBlock = some j) u2 u4) (lies : (Value.slice af G.files.length cf).ownBlock = some g' ∨ u2.heap.size ≤ g') :
    RB (u4.setCell ⟨g, 0, none⟩ (.slice (some ⟨g', 0, none⟩) (N + 1) c')) g (fun j => S j ∨ (u2.heap.size ≤ j ∧ j < u4.heap.size)) { G with files := G.files ++ [emF] } (some ⟨g', 0, none⟩) c' as' cs at' ct (hs ++ [em3]) := by
  subst hN
  have hl : (G.files ++ [emF]).length = G.files.length + 1 := by simp
  rw [← hl] at o ⊢
  have hhl := OwnG.len fiV_len (by decide) B.files
  have hb : g' < u4.heap.size := (OwnG.cellsT o g' rfl).1.lt
  refine B.putFiles (gr.more (fun j _ e => (OwnG.cellsT B.files j e).1)) o ?_ (fun j hj => Or.inl hj) ?_ ?_ ?_
  · intro b hb2
    simp [Value.ownBlock] at hb2
    subst hb2
    rcases lies with e | e
    · exact Or.inl (B.filesS _ e)
    · exact Or.inr ⟨e, hb⟩
  · rintro j (e | e)
    · exact Nat.lt_of_lt_of_le (B.lt j e) gr.size
    · exact e.2
  · intro i x y hi hy
    by_cases hlt : i < hs.length
    · rw [List.getElem?_append_left hlt] at hi
      rw [List.getElem?_append_left (by omega)] at hy
      have m := B.each i x y hi hy
      exact ⟨OwnG.ch m.sure gr (fun b hb e => (OwnG.cellsT m.sure b hb).1.ne (OwnG.cellsT B.files b e).1 (by decide) rfl), OwnG.ch m.us gr (fun b hb e => (OwnG.cellsT m.us b hb).1.ne (OwnG.cellsT B.files b e).1 (by decide) rfl), fun b hb => Or.inl (m.sureS b hb), fun b hb => Or.inl (m.usS b hb)⟩
    · have hi2 : i < (hs ++ [em3]).length := (List.getElem?_eq_some_iff.1 hi).1
      have e9 : i = hs.length := by simp at hi2; omega
      subst e9
      rw [List.getElem?_append_right (Nat.le_refl _), Nat.sub_self] at hi
      rw [List.getElem?_append_right (by omega), hhl, Nat.sub_self] at hy
      simp at hi hy
      subst hi hy
      exact ⟨ownG_nil _ _, ownG_nil _ _, fun b hb => by simp [em3, h3V, Value.ownBlock] at hb, fun b hb => by simp [em3, h3V, Value.ownBlock] at hb⟩
  · intro i j x y b hij hi hj hbx hby
    have c1 : i < hs.length := by
      apply Classical.byContradiction
      intro h
      have hi2 : i < (hs ++ [em3]).length := (List.getElem?_eq_some_iff.1 hi).1
      have e9 : i = hs.length := by simp at hi2; omega
      subst e9
      rw [List.getElem?_append_right (Nat.le_refl _), Nat.sub_self] at hi
      simp at hi
      subst hi
      simp [em3, h3V, Value.ownBlock] at hbx
    have c2 : j < hs.length := by
      apply Classical.byContradiction
      intro h
      have hi2 : j < (hs ++ [em3]).length := (List.getElem?_eq_some_iff.1 hj).1
      have e9 : j = hs.length := by simp at hi2; omega
      subst e9
      rw [List.getElem?_append_right (Nat.le_refl _), Nat.sub_self] at hj
      simp at hj
      subst hj
      simp [em3, h3V, Value.ownBlock] at hby
    rw [List.getElem?_append_left c1] at hi
    rw [List.getElem?_append_left c2] at hj
    exact B.apart i j x y b hij hi hj hbx hby
theorem GoodV.grow {G : Fs} (h : GoodV G) : GoodV { G with files := G.files ++ [emF] } := by
  refine ⟨fun d hd => ?_, fun t ht => ?_, fun x hx => ?_, fun x hx => ?_, h.aft, h.knd⟩
  · have := h.sure d hd
    simp
    omega
  · obtain ⟨q1, q2⟩ := h.turns t ht
    refine ⟨q1, fun e => ?_⟩
    have := q2 e
    simp
    omega
  · rcases List.mem_append.1 hx with e | e
    · exact h.cuts x e
    · obtain rfl := List.mem_singleton.1 e
      trivial
  · rcases List.mem_append.1 hx with e | e
    · exact h.byte x e
    · obtain rfl := List.mem_singleton.1 e
      exact ⟨fun z hz => by simp [emF] at hz, fun u hu => by simp [emF] at hu⟩

set_option maxHeartbeats 8000000 in
theorem rcreate_any (g : Nat) (S : Nat → Prop) (F : Fs) (s : ByteArray) (m : Nat) (w : World) (hF : RAt w g S F) (hL : Lim m F) (hm : m < 1073741824) (hs : s.size ≤ 9223372036854775807) :
    Calls Tryz.prog 26 #[.pointer (some ⟨g, 0, none⟩), .string s] w fun e w' => e = .returned (.int .i64 (createF F s).2) ∧ StepV RAt w w' g S (createF F s).1 := by
  obtain ⟨i1, hi1, hz10, hz11, hz12⟩ := info_parts Tryz.infoT16
  obtain ⟨i2, hi2, hz20, hz21, hz22⟩ := info_parts Tryz.infoF16
  have CA := hide (rcall_any g S F m w hF hL (by omega))
  have LC := hide hL.call
  have HG := hide hF.own
  rcases hq : callF F with ⟨G, o⟩
  rw [hq] at CA LC
  dsimp only at CA LC
  cases o with
  | some e1 =>
    rw [show callE F = e1 by unfold callE; rw [hq]; rfl, show callB F = true by unfold callB; rw [hq]; rfl] at CA
    have HP : Hid (∀ u, RAt u g S G → Ch (fun k => k = g) w u → (Ending.returned (.int .i64 e1) = .returned (.int .i64 (createF F s).2) ∧ StepV RAt w u g S (createF F s).1)) := fun u hu hc => by
      unfold createF
      rw [hq]
      exact ⟨rfl, stepV_same hu hc HG.out⟩
    clear hq hF hL
    go_enter Tryz.func26, Tryz.ntmps26
    go_wp2_with fail
    with_reducible refine CA.out.mono ?_
    rintro e u1 ⟨rfl, h1, k1⟩
    have H1 := hide (HP.out _ h1 k1)
    clear h1 k1 CA HP
    go_wp2
    go_ret
    exact H1.out
  | none =>
    rw [show callE F = 0 by unfold callE; rw [hq]; rfl, show callB F = false by unfold callB; rw [hq]; rfl] at CA
    have HP : Hid (∀ (x : Fs × Int) (u : World), createF F s = x → StepV RAt w u g S x.1 → (Ending.returned (.int .i64 x.2) = .returned (.int .i64 (createF F s).2) ∧ StepV RAt w u g S (createF F s).1)) := fun x u e hu => by
      rw [e]
      exact ⟨rfl, hu⟩
    have HC : Hid (∀ (u1 u : World) (X : Fs), Ch (fun k => k = g) w u1 → StepV RAt u1 u g S X → StepV RAt w u g S X) := fun u1 u X k q => StepV.after (k.more (fun j _ e => e ▸ HG.out)) q
    have M1 := hide (fun u => rmay_any s u hs)
    have DIx := hide (fun u hu => rdir_any g S G (m + 1) u hu LC.out (by omega))
    have hdl : (dirF G).length ≤ 2147483648 := by
      have h1 := turnsD_len G.turns G.sure
      have h2 := LC.out.sure
      have h3 := LC.out.turns
      unfold dirF
      omega
    cases hm1 : mayN s with
    | false =>
      have HX := hide (HP.out (G, 1))
      have HE : Hid (createF F s = (G, 1)) := by show _ = _; unfold createF; rw [hq]; dsimp only; rw [if_pos hm1]
      clear hq hF hL
      go_enter Tryz.func26, Tryz.ntmps26
      go_wp2_with fail
      with_reducible refine CA.out.mono ?_
      rintro e u1 ⟨rfl, h1, k1⟩
      have H1 := hide (HX.out _ HE.out (HC.out _ _ _ k1 (stepV_below h1 (Below.refl _ _))))
      clear h1 k1 CA HX HE HP HC DIx
      go_wp2_with fail
      with_reducible refine (M1.out _).mono ?_
      rintro e u ⟨rfl, hu⟩
      rw [hu, hm1]
      clear hu
      go_wp2
      go_ret
      exact H1.out
    | true =>
      by_cases hfull : (findD (dirF G) s).isNone = true ∧ 1024 ≤ (dirF G).length
      · have HX := hide (HP.out (G, 2))
        have HE : Hid (createF F s = (G, 2)) := by show _ = _; unfold createF; rw [hq]; dsimp only; rw [if_neg (by rw [hm1]; simp), if_pos hfull]
        obtain ⟨hfn, hfl⟩ := hfull
        have hfi : findI (dirF G) s = -1 := by unfold findI; rw [Option.isNone_iff_eq_none.1 hfn]
        have d2 : (1024 : Int) ≤ ((dirF G).length : Int) := by omega
        clear hq hF hL
        go_enter Tryz.func26, Tryz.ntmps26
        go_wp2_with fail
        with_reducible refine CA.out.mono ?_
        rintro e u1 ⟨rfl, h1, k1⟩
        have DI := hide (DIx.out u1 h1)
        have H1 := hide h1
        have K1 := hide k1
        clear h1 k1 CA DIx
        go_wp2_with fail
        with_reducible refine (M1.out _).mono ?_
        rintro e u ⟨rfl, hu⟩
        rw [hu, hm1]
        clear hu
        go_wp2_with fail
        with_reducible refine DI.out.mono ?_
        rintro e u2 ⟨a2, n2, c2, rfl, hn2, o2, b2⟩
        subst hn2
        have FI := hide (rfind16_any u1.heap.size a2 (dirF G).length c2 (dirF G) s u2 o2 (by omega))
        have H2 := hide (HX.out _ HE.out (HC.out _ _ _ K1.out (stepV_below (H1.out.below b2) b2)))
        rw [hfi] at FI
        clear o2 b2 DI H1 K1 HX HE HP HC hfn
        generalize (dirF G).length = nd at *
        go_wp2_with fail
        with_reducible refine FI.out.mono ?_
        rintro e u ⟨rfl, hu⟩
        rw [hu]
        clear hu
        go_wp2
        go_ret
        exact H2.out
      · have hgt := LC.out.turns
        have hgf := LC.out.files
        obtain ⟨NT, hNT⟩ : ∃ NT, Hid (G.turns.length = NT) := ⟨_, rfl⟩
        obtain ⟨NF, hNF⟩ : ∃ NF, Hid (G.files.length = NF) := ⟨_, rfl⟩
        rw [hNT.out] at hgt
        rw [hNF.out] at hgf
        have HX := hide (HP.out ({ G with files := G.files ++ [emF], turns := G.turns ++ [⟨0, s, ByteArray.empty, NF⟩] }, 0))
        have HE : Hid (createF F s = ({ G with files := G.files ++ [emF], turns := G.turns ++ [⟨0, s, ByteArray.empty, NF⟩] }, 0)) := by
          show _ = _
          unfold createF
          rw [hq]
          dsimp only
          rw [if_neg (by rw [hm1]; simp), if_neg hfull, hNF.out]
        obtain ⟨fx, hfx⟩ : ∃ fx, findI (dirF G) s = fx := ⟨_, rfl⟩
        have hdec : (decide (fx < 0) && decide ((1024 : Int) ≤ ((dirF G).length : Int))) = false := by
          rw [← hfx]
          unfold findI
          cases hfd : findD (dirF G) s with
          | some k =>
            dsimp only
            rw [decide_eq_false (by omega)]
            rfl
          | none =>
            rw [hfd] at hfull
            have : ¬ 1024 ≤ (dirF G).length := fun h => hfull ⟨rfl, h⟩
            rw [decide_eq_false (p := (1024 : Int) ≤ ((dirF G).length : Int)) (by omega), Bool.and_false]
        clear hq hF hL
        go_enter Tryz.func26, Tryz.ntmps26
        go_wp2_with fail
        with_reducible refine CA.out.mono ?_
        rintro e u1 ⟨rfl, h1, k1⟩
        have DI := hide (DIx.out u1 h1)
        have H1 := hide h1
        have K1 := hide k1
        clear h1 k1 CA DIx
        go_wp2_with fail
        with_reducible refine (M1.out _).mono ?_
        rintro e u ⟨rfl, hu⟩
        rw [hu, hm1]
        clear hu
        go_wp2_with fail
        with_reducible refine DI.out.mono ?_
        rintro e u2 ⟨a2, n2, c2, rfl, hn2, o2, b2⟩
        subst hn2
        have FI := hide (rfind16_any u1.heap.size a2 (dirF G).length c2 (dirF G) s u2 o2 (by omega))
        obtain ⟨GG, af, cf, as', cs, at', ct, hs', B0⟩ := H1.out
        have B := hide (B0.below b2)
        have GV := hide GG
        have K2 := hide (K1.out.trans ((Ch.of_below b2).more (fun _ _ h => h.elim)))
        obtain ⟨x0, -⟩ := B.out.cells
        rw [hNF.out] at x0
        have OF := hide B.out.files
        rw [hNF.out] at OF
        rw [hfx] at FI
        have NC := hide (fi_cells u2 em3 83)
        dsimp only [em3] at NC
        clear o2 b2 B0 GG H1 K1 hfx hfull
        generalize (dirF G).length = nd at *
        have HW : Hid (∀ X : Bool, X = X) := fun _ => rfl
        by_cases hf0 : fx < 0
        · have hn0 : ¬ (1024 : Int) ≤ (nd : Int) := by
            intro h
            rw [decide_eq_true hf0, decide_eq_true h] at hdec
            cases hdec
          clear hdec
          go_wp2_with fail
          with_reducible refine FI.out.mono ?_
          rintro e u ⟨rfl, hu⟩
          rw [hu]
          clear hu
          go_wp2_with (at_builtin; refine wpList_append_lies _ rfl _ _ 27 rfl 0 83 i2 (.agg #[.slice none 0 0, .slice none 0 0]) 2 48 Tryz.underlying27 hi2 hz20 hz21 hz22 rfl (by decide) (.slice af NF cf) NF (hs'.flatMap fiV) rfl (OwnG.alloc OF.out _) ⟨u2.heap.size, 0, none⟩ 1 1 (fiV em3) rfl rfl NC.out (fiV_one1 _) (by omega) (by unfold maxLen; omega) (by omega) (Nat.zero_le _) _ rfl ?_)
          intro gC0 cC0 w4 oC grC atC ltC
          have GR : Hid (Ch (fun j => (Value.slice af NF cf).ownBlock = some j) u2 w4) := ((Ch.refl (fun j => (Value.slice af NF cf).ownBlock = some j) u2).alloc _).trans (Ch.grown grC)
          obtain ⟨u5, hu5⟩ : ∃ u5, Hid (w4.setCell ⟨g, 0, none⟩ (.slice (some ⟨gC0, 0, none⟩) (NF + 1) cC0) = u5) := ⟨_, rfl⟩
          have R5 : Hid (RB u5 g (fun j => S j ∨ (u2.heap.size ≤ j ∧ j < w4.heap.size)) { G with files := G.files ++ [emF] } (some ⟨gC0, 0, none⟩) cC0 as' cs at' ct (hs' ++ [em3])) := by
            rw [← hu5.out]
            have e := hNF.out
            subst e
            refine files_pushed B.out rfl ?_ GR.out ?_
            · show OwnG _ _ _ _ _ _ _ _ _
              unfold OwnG
              rw [List.flatMap_append, flat_one]
              exact oC
            · rcases atC with e | e
              · exact Or.inl e
              · exact Or.inr (by rw [e]; simp)
          have GV5 := hide GV.out.grow
          have K5 : Hid (Ch S w u5) := by
            rw [← hu5.out]
            refine ((K2.out.more (fun j _ e => e ▸ HG.out)).trans (GR.out.more (fun j _ e => ?_))).trans ((ch_set w4 g 0 _).more (fun j _ e => e ▸ HG.out))
            have e2 := hNF.out
            subst e2
            exact B.out.filesS j e
          have Z2 : Hid (w.heap.size ≤ u2.heap.size) := K2.out.size
          have HFIN : Hid (∀ (u : World) (X : Fs), StepV RAt u5 u g (fun j => S j ∨ (u2.heap.size ≤ j ∧ j < w4.heap.size)) X → StepV RAt w u g S X) := fun u X q => by
            obtain ⟨S', q1, q2, q3⟩ := q
            have := Z2.out
            have hs5 := K5.out.size
            refine ⟨S', q1, fun j hj => ?_, ⟨q3.os.trans K5.out.os, q3.tape.trans K5.out.tape, q3.output.trans K5.out.output, Nat.le_trans hs5 q3.size, fun j hj hn => ?_⟩⟩
            · rcases q2 j hj with (e | e) | e
              · exact Or.inl e
              · exact Or.inr (by omega)
              · exact Or.inr (by omega)
            · rw [q3.block j (by omega) (fun e => by
                rcases e with e | e
                · exact hn e
                · omega)]
              exact K5.out.block j hj hn
          have y0 : w4.cell? ⟨g, 0, none⟩ = some (.slice af NF cf) ∧ w4.frozen? ⟨g, 0, none⟩ = false := by
            have k := GR.out.block g (B.out.lt g B.out.own) (fun e => (OwnG.cellsT OF.out g e).1.ne B.out.cellsT (by decide) rfl)
            have h1 := x0
            have h2 := B.out.fz 0
            simp only [World.cell?, World.frozen?] at h1 h2 ⊢
            rw [k]
            exact ⟨h1, h2⟩
          obtain ⟨y01, y02⟩ := y0
          have HFIN2 := HFIN
          clear oC grC atC ltC GR B GV K2 OF NC x0 HP HC FI
          go_upto_region 10 with fail
          rw [hu5.out]
          clear hu5 y01 y02
          obtain ⟨z0, -, x2, -⟩ := R5.out.cells
          dsimp only at z0 x2
          rw [List.length_append, hNF.out] at z0
          rw [hNT.out] at x2
          have z0 : u5.cell? ⟨g, 0, none⟩ = some (.slice (some ⟨gC0, 0, none⟩) (NF + 1) cC0) := z0
          have OT5 := hide R5.out.turns
          dsimp only at OT5
          rw [hNT.out] at OT5
          have NC5 := hide (tn_cells u5 0 s ByteArray.empty (NF : Int) ⟨0, s, ByteArray.empty, NF⟩ 109 rfl rfl rfl rfl)
          have w1 : IntKind.i64.wrap ((NF : Int) + 1 - 1) = (NF : Int) := by rw [IntKind.wrap_i64]; omega
          have w2 : (NF : Int) + 1 - 1 = (NF : Int) := by omega
          have w3 : IntKind.i64.wrap (NF : Int) = (NF : Int) := by rw [IntKind.wrap_i64]; omega
          refine wp_region_held_drew (S := fun u => u.cell? ⟨g, 0, none⟩ = some (.slice (some ⟨gC0, 0, none⟩) (NF + 1) cC0)) (by kernel_rfl) z0 (fun hHeld => ?_)
          refine held_take (i := 0) (d := (some 39)) (v := ?_) rfl rfl (by kernel_rfl) (by kernel_rfl) (by kernel_rfl) (fun _ _ _ h => h) (Or.inl ⟨by rfl, ?_⟩) (by first | assumption | rfl | trivial) ?_
          rotate_left 1
          · (intro w hSw; (try dsimp only at hSw); (try subst hSw); go_simp; try with_reducible rfl)
          simp only [Act.put, List.setIfInBounds_toArray, List.set_cons_zero, List.set_cons_succ]
          refine held_take (i := 1) (d := (some 40)) (v := ?_) rfl rfl (by kernel_rfl) (by kernel_rfl) (by kernel_rfl) (fun _ _ _ h => h) (Or.inl ⟨by rfl, ?_⟩) (by first | assumption | rfl | trivial) ?_
          rotate_left 1
          · (intro w hSw; (try dsimp only at hSw); (try subst hSw); go_simp; try with_reducible rfl)
          simp only [Act.put, List.setIfInBounds_toArray, List.set_cons_zero, List.set_cons_succ]
          refine held_take (i := 2) (d := (some 41)) (v := ?_) rfl rfl (by kernel_rfl) (by kernel_rfl) (by kernel_rfl) (fun _ _ _ h => h) (Or.inl ⟨by rfl, ?_⟩) (by first | assumption | rfl | trivial) ?_
          rotate_left 1
          · (intro w hSw; (try dsimp only at hSw); (try subst hSw); go_simp; try with_reducible rfl)
          simp only [Act.put, List.setIfInBounds_toArray, List.set_cons_zero, List.set_cons_succ]
          refine held_take (i := 3) (d := (some 42)) (v := ?_) rfl rfl (by kernel_rfl) (by kernel_rfl) (by kernel_rfl) (fun _ _ _ h => h) (Or.inl ⟨by rfl, ?_⟩) (by first | assumption | rfl | trivial) ?_
          rotate_left 1
          · (intro w hSw; (try dsimp only at hSw); (try subst hSw); go_simp; try with_reducible rfl)
          simp only [Act.put, List.setIfInBounds_toArray, List.set_cons_zero, List.set_cons_succ]
          refine held_take (i := 5) (d := (some 44)) (v := ?_) rfl rfl (by kernel_rfl) (by kernel_rfl) (by kernel_rfl) (fun _ _ _ h => h) (Or.inl ⟨by rfl, ?_⟩) (by first | assumption | rfl | trivial) ?_
          rotate_left 1
          · (intro w hSw; (try dsimp only at hSw); (try subst hSw); go_simp; try with_reducible rfl)
          simp only [Act.put, List.setIfInBounds_toArray, List.set_cons_zero, List.set_cons_succ]
          refine held_take (i := 6) (d := (some 45)) (v := ?_) rfl rfl (by kernel_rfl) (by kernel_rfl) (by kernel_rfl) (fun _ _ _ h => h) (Or.inl ⟨by rfl, ?_⟩) (by first | assumption | rfl | trivial) ?_
          rotate_left 1
          · (intro w hSw; (try dsimp only at hSw); (try subst hSw); go_simp; try with_reducible rfl)
          simp only [Act.put, List.setIfInBounds_toArray, List.set_cons_zero, List.set_cons_succ]
          refine held_take (i := 7) (d := (some 46)) (v := ?_) rfl rfl (by kernel_rfl) (by kernel_rfl) (by kernel_rfl) (fun _ _ _ h => h) (Or.inl ⟨by rfl, ?_⟩) (by first | assumption | rfl | trivial) ?_
          rotate_left 1
          · (intro w hSw; (try dsimp only at hSw); (try subst hSw); go_simp; try with_reducible rfl)
          simp only [Act.put, List.setIfInBounds_toArray, List.set_cons_zero, List.set_cons_succ]
          refine held_take (i := 8) (d := (some 47)) (v := ?_) rfl rfl (by kernel_rfl) (by kernel_rfl) (by kernel_rfl) (fun _ _ _ h => h) (Or.inl ⟨by rfl, ?_⟩) (by first | assumption | rfl | trivial) ?_
          rotate_left 1
          · (intro w hSw; (try dsimp only at hSw); (try subst hSw); go_simp; try with_reducible rfl)
          simp only [Act.put, List.setIfInBounds_toArray, List.set_cons_zero, List.set_cons_succ]
          refine held_take (i := 9) (d := (some 48)) (v := ?_) rfl rfl (by kernel_rfl) (by kernel_rfl) (by kernel_rfl) (fun _ _ _ h => h) (Or.inl ⟨by rfl, ?_⟩) (by first | assumption | rfl | trivial) ?_
          rotate_left 1
          · (intro w hSw; (try dsimp only at hSw); (try subst hSw); go_simp; try with_reducible rfl)
          simp only [Act.put, List.setIfInBounds_toArray, List.set_cons_zero, List.set_cons_succ]
          refine held_take (i := 10) (d := (some 49)) (v := ?_) rfl rfl (by kernel_rfl) (by kernel_rfl) (by kernel_rfl) (fun _ _ _ h => h) (Or.inl ⟨by rfl, ?_⟩) (by first | assumption | rfl | trivial) ?_
          rotate_left 1
          · (intro w hSw; (try dsimp only at hSw); (try subst hSw); go_simp; try with_reducible rfl)
          simp only [Act.put, List.setIfInBounds_toArray, List.set_cons_zero, List.set_cons_succ]
          refine held_take (i := 11) (d := (some 50)) (v := ?_) rfl rfl (by kernel_rfl) (by kernel_rfl) (by kernel_rfl) (fun _ _ _ h => h) (Or.inl ⟨by rfl, ?_⟩) (by first | assumption | rfl | trivial) ?_
          rotate_left 1
          · (intro w hSw; (try dsimp only at hSw); (try subst hSw); go_simp; try with_reducible rfl)
          simp only [Act.put, List.setIfInBounds_toArray, List.set_cons_zero, List.set_cons_succ]
          refine held_take (i := 12) (d := (some 51)) (v := ?_) rfl rfl (by kernel_rfl) (by kernel_rfl) (by kernel_rfl) (fun _ _ _ h => h) (Or.inl ⟨by rfl, ?_⟩) (by first | assumption | rfl | trivial) ?_
          rotate_left 1
          · (intro w hSw; (try dsimp only at hSw); (try subst hSw); go_simp; try with_reducible rfl)
          simp only [Act.put, List.setIfInBounds_toArray, List.set_cons_zero, List.set_cons_succ]
          obtain ⟨u6, hu6⟩ : ∃ u6, Hid ((u5.alloc (.cells #[.int .i64 0, .string s, .string (ByteArray.mk #[]), .int .i64 (NF : Int)] 109)).drew = u6) := ⟨_, rfl⟩
          have B4 : Hid (Below u5.heap.size u5 u6) := by rw [← hu6.out]; exact (bel_al (Below.refl _ _) (Nat.le_refl _) _).drew
          have OT4 : Hid (OwnT u6 0 at' NT ct G.turns) := OwnG.below OT5.out B4.out (Nat.le_refl _)
          have NC4 : Hid (∀ j u, (tnV ⟨0, s, ByteArray.empty, NF⟩)[j]? = some u → u6.cell? ((⟨u5.heap.size, 0, none⟩ : Addr).add j) = some u) := by rw [← hu6.out]; exact NC5.out
          have v0 : u6.cell? ⟨g, 0, none⟩ = some (.slice (some ⟨gC0, 0, none⟩) (NF + 1) cC0) := (B4.out.cell (p := ⟨g, 0, none⟩) (World.block_lt_of_cell? u5 _ z0)).trans z0
          have v2 : u6.cell? ⟨g, 2, none⟩ = some (.slice at' NT ct) := (B4.out.cell (p := ⟨g, 2, none⟩) (World.block_lt_of_cell? u5 _ x2)).trans x2
          refine held_pair (i := 4) (j := 13) (by kernel_rfl) rfl (by rfl) rfl (by rfl) (fun K1 hK1 => ?_) (fun K1 hK1 => ?_)
          · go_simp
            refine hK1.out _ _ z0 ?_
            clear hK1
            refine held_next (i := 13) (by kernel_rfl) rfl (by rfl) (fun K1 hK1 => ?_)
            go_simp
            rw [hu6.out]
            refine hK1.out _ _ v0 ?_
            clear hK1 hu6
            refine held_next (i := 14) (by kernel_rfl) rfl (by rfl) (fun K1 hK1 => ?_)
            refine wp_append_lies _ (.tmp 43) (.tmp 52) 29 rfl 0 109 i1 (.agg #[.int .i64 0, .string .empty, .string .empty, .int .i64 0]) 4 48 Tryz.underlying29 hi1 hz10 hz11 hz12 rfl (by decide) (.slice at' NT ct) NT (G.turns.flatMap tnV) rfl OT4.out ⟨u5.heap.size, 0, none⟩ 1 1 (tnV ⟨0, s, ByteArray.empty, NF⟩) rfl rfl NC4.out (tnV_one1 _) (by omega) (by unfold maxLen; omega) (by omega) (Nat.zero_le _) _ rfl ?_
            intro gC cC wC oC grC atC ltC
            have GR : Hid (Ch (fun j => (Value.slice at' NT ct).ownBlock = some j) u5 wC) := ((Ch.of_below B4.out).more (fun _ _ h => h.elim)).trans (Ch.grown grC)
            have GRX : Hid (StepV RAt u5 (wC.setCell ⟨g, 2, none⟩ (.slice (some ⟨gC, 0, none⟩) (NT + 1) cC)) g (fun j => S j ∨ (u2.heap.size ≤ j ∧ j < w4.heap.size)) { G with files := G.files ++ [emF], turns := G.turns ++ [⟨0, s, ByteArray.empty, NF⟩] }) := by
              have e := hNT.out
              subst e
              have e2 := hNF.out
              subst e2
              refine turns_pushed R5.out GV5.out ⟨by simp, fun _ => by simp⟩ rfl ?_ GR.out ?_
              · show OwnG _ _ _ _ _ _ _ _ _
                unfold OwnG
                dsimp only
                rw [List.flatMap_append, flat_one]
                exact oC
              · rcases atC with e | e
                · exact Or.inl e
                · exact Or.inr (by rw [e]; exact B4.out.size)
            have y2 : wC.cell? ⟨g, 2, none⟩ = some (.slice at' NT ct) ∧ wC.frozen? ⟨g, 2, none⟩ = false := by
              have k := GR.out.block g (R5.out.lt g R5.out.own) (fun e => (OwnG.cellsT OT5.out g e).1.ne R5.out.cellsT (by decide) rfl)
              have h1 := x2
              have h2 := R5.out.fz 2
              simp only [World.cell?, World.frozen?] at h1 h2 ⊢
              rw [k]
              exact ⟨h1, h2⟩
            obtain ⟨y3, y4⟩ := y2
            have VC : Hid (wC.cell? ⟨g, 0, none⟩ = some (.slice (some ⟨gC0, 0, none⟩) (NF + 1) cC0) ∧ (wC.setCell ⟨g, 2, none⟩ (.slice (some ⟨gC, 0, none⟩) (NT + 1) cC)).cell? ⟨g, 0, none⟩ = some (.slice (some ⟨gC0, 0, none⟩) (NF + 1) cC0)) := by
              have k := GR.out.block g (R5.out.lt g R5.out.own) (fun e => (OwnG.cellsT OT5.out g e).1.ne R5.out.cellsT (by decide) rfl)
              have h1 : wC.cell? ⟨g, 0, none⟩ = some (.slice (some ⟨gC0, 0, none⟩) (NF + 1) cC0) := by
                have h2 := z0
                simp only [World.cell?] at h2 ⊢
                rw [k]
                exact h2
              exact ⟨h1, (World.cell?_setCell_other wC ⟨g, 2, none⟩ ⟨g, 0, none⟩ _ (by simp)).trans h1⟩
            have H2 := hide (HX.out _ HE.out (HFIN.out _ _ GRX.out))
            clear oC grC atC ltC GR GRX OT4 NC4 B4
            go_simp
            refine hK1.out _ _ VC.out.1 ?_
            clear hK1
            have vc1 := VC.out.1
            refine held_take (i := 15) (d := (some 54)) (v := ?_) rfl rfl (by kernel_rfl) (by kernel_rfl) (by kernel_rfl) (fun _ _ _ h => h) (Or.inl ⟨by rfl, ?_⟩) (by first | assumption | rfl | trivial) ?_
            rotate_left 1
            · (intro w hSw; (try dsimp only at hSw); (try subst hSw); go_simp; try with_reducible rfl)
            simp only [Act.put, List.setIfInBounds_toArray, List.set_cons_zero, List.set_cons_succ]
            refine held_take (i := 16) (d := (some 55)) (v := ?_) rfl rfl (by kernel_rfl) (by kernel_rfl) (by kernel_rfl) (fun _ _ _ h => h) (Or.inl ⟨by rfl, ?_⟩) (by first | assumption | rfl | trivial) ?_
            rotate_left 1
            · (intro w hSw; (try dsimp only at hSw); (try subst hSw); go_simp; try with_reducible rfl)
            simp only [Act.put, List.setIfInBounds_toArray, List.set_cons_zero, List.set_cons_succ]
            refine held_next (i := 17) (by kernel_rfl) rfl (by rfl) (fun K1 hK1 => ?_)
            go_simp
            refine hK1.out _ _ VC.out.2 ?_
            clear hK1 hHeld
            refine wpAnyH_done (by kernel_rfl) ?_ _
            go_wp2
            go_ret
            exact H2.out
          · go_simp
            rw [hu6.out]
            refine hK1.out _ _ v0 ?_
            clear hK1 hu6
            refine held_next (i := 4) (by kernel_rfl) rfl (by rfl) (fun K1 hK1 => ?_)
            go_simp
            refine hK1.out _ _ v0 ?_
            clear hK1
            refine held_next (i := 14) (by kernel_rfl) rfl (by rfl) (fun K1 hK1 => ?_)
            refine wp_append_lies _ (.tmp 43) (.tmp 52) 29 rfl 0 109 i1 (.agg #[.int .i64 0, .string .empty, .string .empty, .int .i64 0]) 4 48 Tryz.underlying29 hi1 hz10 hz11 hz12 rfl (by decide) (.slice at' NT ct) NT (G.turns.flatMap tnV) rfl OT4.out ⟨u5.heap.size, 0, none⟩ 1 1 (tnV ⟨0, s, ByteArray.empty, NF⟩) rfl rfl NC4.out (tnV_one1 _) (by omega) (by unfold maxLen; omega) (by omega) (Nat.zero_le _) _ rfl ?_
            intro gC cC wC oC grC atC ltC
            have GR : Hid (Ch (fun j => (Value.slice at' NT ct).ownBlock = some j) u5 wC) := ((Ch.of_below B4.out).more (fun _ _ h => h.elim)).trans (Ch.grown grC)
            have GRX : Hid (StepV RAt u5 (wC.setCell ⟨g, 2, none⟩ (.slice (some ⟨gC, 0, none⟩) (NT + 1) cC)) g (fun j => S j ∨ (u2.heap.size ≤ j ∧ j < w4.heap.size)) { G with files := G.files ++ [emF], turns := G.turns ++ [⟨0, s, ByteArray.empty, NF⟩] }) := by
              have e := hNT.out
              subst e
              have e2 := hNF.out
              subst e2
              refine turns_pushed R5.out GV5.out ⟨by simp, fun _ => by simp⟩ rfl ?_ GR.out ?_
              · show OwnG _ _ _ _ _ _ _ _ _
                unfold OwnG
                dsimp only
                rw [List.flatMap_append, flat_one]
                exact oC
              · rcases atC with e | e
                · exact Or.inl e
                · exact Or.inr (by rw [e]; exact B4.out.size)
            have y2 : wC.cell? ⟨g, 2, none⟩ = some (.slice at' NT ct) ∧ wC.frozen? ⟨g, 2, none⟩ = false := by
              have k := GR.out.block g (R5.out.lt g R5.out.own) (fun e => (OwnG.cellsT OT5.out g e).1.ne R5.out.cellsT (by decide) rfl)
              have h1 := x2
              have h2 := R5.out.fz 2
              simp only [World.cell?, World.frozen?] at h1 h2 ⊢
              rw [k]
              exact ⟨h1, h2⟩
            obtain ⟨y3, y4⟩ := y2
            have VC : Hid (wC.cell? ⟨g, 0, none⟩ = some (.slice (some ⟨gC0, 0, none⟩) (NF + 1) cC0) ∧ (wC.setCell ⟨g, 2, none⟩ (.slice (some ⟨gC, 0, none⟩) (NT + 1) cC)).cell? ⟨g, 0, none⟩ = some (.slice (some ⟨gC0, 0, none⟩) (NF + 1) cC0)) := by
              have k := GR.out.block g (R5.out.lt g R5.out.own) (fun e => (OwnG.cellsT OT5.out g e).1.ne R5.out.cellsT (by decide) rfl)
              have h1 : wC.cell? ⟨g, 0, none⟩ = some (.slice (some ⟨gC0, 0, none⟩) (NF + 1) cC0) := by
                have h2 := z0
                simp only [World.cell?] at h2 ⊢
                rw [k]
                exact h2
              exact ⟨h1, (World.cell?_setCell_other wC ⟨g, 2, none⟩ ⟨g, 0, none⟩ _ (by simp)).trans h1⟩
            have H2 := hide (HX.out _ HE.out (HFIN.out _ _ GRX.out))
            clear oC grC atC ltC GR GRX OT4 NC4 B4
            go_simp
            refine hK1.out _ _ VC.out.1 ?_
            clear hK1
            have vc1 := VC.out.1
            refine held_take (i := 15) (d := (some 54)) (v := ?_) rfl rfl (by kernel_rfl) (by kernel_rfl) (by kernel_rfl) (fun _ _ _ h => h) (Or.inl ⟨by rfl, ?_⟩) (by first | assumption | rfl | trivial) ?_
            rotate_left 1
            · (intro w hSw; (try dsimp only at hSw); (try subst hSw); go_simp; try with_reducible rfl)
            simp only [Act.put, List.setIfInBounds_toArray, List.set_cons_zero, List.set_cons_succ]
            refine held_take (i := 16) (d := (some 55)) (v := ?_) rfl rfl (by kernel_rfl) (by kernel_rfl) (by kernel_rfl) (fun _ _ _ h => h) (Or.inl ⟨by rfl, ?_⟩) (by first | assumption | rfl | trivial) ?_
            rotate_left 1
            · (intro w hSw; (try dsimp only at hSw); (try subst hSw); go_simp; try with_reducible rfl)
            simp only [Act.put, List.setIfInBounds_toArray, List.set_cons_zero, List.set_cons_succ]
            refine held_next (i := 17) (by kernel_rfl) rfl (by rfl) (fun K1 hK1 => ?_)
            go_simp
            refine hK1.out _ _ VC.out.2 ?_
            clear hK1 hHeld
            refine wpAnyH_done (by kernel_rfl) ?_ _
            go_wp2
            go_ret
            exact H2.out
        · clear hdec
          go_wp2_with fail
          with_reducible refine FI.out.mono ?_
          rintro e u ⟨rfl, hu⟩
          rw [hu]
          clear hu
          go_wp2_with (at_builtin; refine wpList_append_lies _ rfl _ _ 27 rfl 0 83 i2 (.agg #[.slice none 0 0, .slice none 0 0]) 2 48 Tryz.underlying27 hi2 hz20 hz21 hz22 rfl (by decide) (.slice af NF cf) NF (hs'.flatMap fiV) rfl (OwnG.alloc OF.out _) ⟨u2.heap.size, 0, none⟩ 1 1 (fiV em3) rfl rfl NC.out (fiV_one1 _) (by omega) (by unfold maxLen; omega) (by omega) (Nat.zero_le _) _ rfl ?_)
          intro gC0 cC0 w4 oC grC atC ltC
          have GR : Hid (Ch (fun j => (Value.slice af NF cf).ownBlock = some j) u2 w4) := ((Ch.refl (fun j => (Value.slice af NF cf).ownBlock = some j) u2).alloc _).trans (Ch.grown grC)
          obtain ⟨u5, hu5⟩ : ∃ u5, Hid (w4.setCell ⟨g, 0, none⟩ (.slice (some ⟨gC0, 0, none⟩) (NF + 1) cC0) = u5) := ⟨_, rfl⟩
          have R5 : Hid (RB u5 g (fun j => S j ∨ (u2.heap.size ≤ j ∧ j < w4.heap.size)) { G with files := G.files ++ [emF] } (some ⟨gC0, 0, none⟩) cC0 as' cs at' ct (hs' ++ [em3])) := by
            rw [← hu5.out]
            have e := hNF.out
            subst e
            refine files_pushed B.out rfl ?_ GR.out ?_
            · show OwnG _ _ _ _ _ _ _ _ _
              unfold OwnG
              rw [List.flatMap_append, flat_one]
              exact oC
            · rcases atC with e | e
              · exact Or.inl e
              · exact Or.inr (by rw [e]; simp)
          have GV5 := hide GV.out.grow
          have K5 : Hid (Ch S w u5) := by
            rw [← hu5.out]
            refine ((K2.out.more (fun j _ e => e ▸ HG.out)).trans (GR.out.more (fun j _ e => ?_))).trans ((ch_set w4 g 0 _).more (fun j _ e => e ▸ HG.out))
            have e2 := hNF.out
            subst e2
            exact B.out.filesS j e
          have Z2 : Hid (w.heap.size ≤ u2.heap.size) := K2.out.size
          have HFIN : Hid (∀ (u : World) (X : Fs), StepV RAt u5 u g (fun j => S j ∨ (u2.heap.size ≤ j ∧ j < w4.heap.size)) X → StepV RAt w u g S X) := fun u X q => by
            obtain ⟨S', q1, q2, q3⟩ := q
            have := Z2.out
            have hs5 := K5.out.size
            refine ⟨S', q1, fun j hj => ?_, ⟨q3.os.trans K5.out.os, q3.tape.trans K5.out.tape, q3.output.trans K5.out.output, Nat.le_trans hs5 q3.size, fun j hj hn => ?_⟩⟩
            · rcases q2 j hj with (e | e) | e
              · exact Or.inl e
              · exact Or.inr (by omega)
              · exact Or.inr (by omega)
            · rw [q3.block j (by omega) (fun e => by
                rcases e with e | e
                · exact hn e
                · omega)]
              exact K5.out.block j hj hn
          have y0 : w4.cell? ⟨g, 0, none⟩ = some (.slice af NF cf) ∧ w4.frozen? ⟨g, 0, none⟩ = false := by
            have k := GR.out.block g (B.out.lt g B.out.own) (fun e => (OwnG.cellsT OF.out g e).1.ne B.out.cellsT (by decide) rfl)
            have h1 := x0
            have h2 := B.out.fz 0
            simp only [World.cell?, World.frozen?] at h1 h2 ⊢
            rw [k]
            exact ⟨h1, h2⟩
          obtain ⟨y01, y02⟩ := y0
          have HFIN2 := HFIN
          clear oC grC atC ltC GR B GV K2 OF NC x0 HP HC FI
          go_upto_region 10 with fail
          rw [hu5.out]
          clear hu5 y01 y02
          obtain ⟨z0, -, x2, -⟩ := R5.out.cells
          dsimp only at z0 x2
          rw [List.length_append, hNF.out] at z0
          rw [hNT.out] at x2
          have z0 : u5.cell? ⟨g, 0, none⟩ = some (.slice (some ⟨gC0, 0, none⟩) (NF + 1) cC0) := z0
          have OT5 := hide R5.out.turns
          dsimp only at OT5
          rw [hNT.out] at OT5
          have NC5 := hide (tn_cells u5 0 s ByteArray.empty (NF : Int) ⟨0, s, ByteArray.empty, NF⟩ 109 rfl rfl rfl rfl)
          have w1 : IntKind.i64.wrap ((NF : Int) + 1 - 1) = (NF : Int) := by rw [IntKind.wrap_i64]; omega
          have w2 : (NF : Int) + 1 - 1 = (NF : Int) := by omega
          have w3 : IntKind.i64.wrap (NF : Int) = (NF : Int) := by rw [IntKind.wrap_i64]; omega
          refine wp_region_held_drew (S := fun u => u.cell? ⟨g, 0, none⟩ = some (.slice (some ⟨gC0, 0, none⟩) (NF + 1) cC0)) (by kernel_rfl) z0 (fun hHeld => ?_)
          refine held_take (i := 0) (d := (some 39)) (v := ?_) rfl rfl (by kernel_rfl) (by kernel_rfl) (by kernel_rfl) (fun _ _ _ h => h) (Or.inl ⟨by rfl, ?_⟩) (by first | assumption | rfl | trivial) ?_
          rotate_left 1
          · (intro w hSw; (try dsimp only at hSw); (try subst hSw); go_simp; try with_reducible rfl)
          simp only [Act.put, List.setIfInBounds_toArray, List.set_cons_zero, List.set_cons_succ]
          refine held_take (i := 1) (d := (some 40)) (v := ?_) rfl rfl (by kernel_rfl) (by kernel_rfl) (by kernel_rfl) (fun _ _ _ h => h) (Or.inl ⟨by rfl, ?_⟩) (by first | assumption | rfl | trivial) ?_
          rotate_left 1
          · (intro w hSw; (try dsimp only at hSw); (try subst hSw); go_simp; try with_reducible rfl)
          simp only [Act.put, List.setIfInBounds_toArray, List.set_cons_zero, List.set_cons_succ]
          refine held_take (i := 2) (d := (some 41)) (v := ?_) rfl rfl (by kernel_rfl) (by kernel_rfl) (by kernel_rfl) (fun _ _ _ h => h) (Or.inl ⟨by rfl, ?_⟩) (by first | assumption | rfl | trivial) ?_
          rotate_left 1
          · (intro w hSw; (try dsimp only at hSw); (try subst hSw); go_simp; try with_reducible rfl)
          simp only [Act.put, List.setIfInBounds_toArray, List.set_cons_zero, List.set_cons_succ]
          refine held_take (i := 3) (d := (some 42)) (v := ?_) rfl rfl (by kernel_rfl) (by kernel_rfl) (by kernel_rfl) (fun _ _ _ h => h) (Or.inl ⟨by rfl, ?_⟩) (by first | assumption | rfl | trivial) ?_
          rotate_left 1
          · (intro w hSw; (try dsimp only at hSw); (try subst hSw); go_simp; try with_reducible rfl)
          simp only [Act.put, List.setIfInBounds_toArray, List.set_cons_zero, List.set_cons_succ]
          refine held_take (i := 5) (d := (some 44)) (v := ?_) rfl rfl (by kernel_rfl) (by kernel_rfl) (by kernel_rfl) (fun _ _ _ h => h) (Or.inl ⟨by rfl, ?_⟩) (by first | assumption | rfl | trivial) ?_
          rotate_left 1
          · (intro w hSw; (try dsimp only at hSw); (try subst hSw); go_simp; try with_reducible rfl)
          simp only [Act.put, List.setIfInBounds_toArray, List.set_cons_zero, List.set_cons_succ]
          refine held_take (i := 6) (d := (some 45)) (v := ?_) rfl rfl (by kernel_rfl) (by kernel_rfl) (by kernel_rfl) (fun _ _ _ h => h) (Or.inl ⟨by rfl, ?_⟩) (by first | assumption | rfl | trivial) ?_
          rotate_left 1
          · (intro w hSw; (try dsimp only at hSw); (try subst hSw); go_simp; try with_reducible rfl)
          simp only [Act.put, List.setIfInBounds_toArray, List.set_cons_zero, List.set_cons_succ]
          refine held_take (i := 7) (d := (some 46)) (v := ?_) rfl rfl (by kernel_rfl) (by kernel_rfl) (by kernel_rfl) (fun _ _ _ h => h) (Or.inl ⟨by rfl, ?_⟩) (by first | assumption | rfl | trivial) ?_
          rotate_left 1
          · (intro w hSw; (try dsimp only at hSw); (try subst hSw); go_simp; try with_reducible rfl)
          simp only [Act.put, List.setIfInBounds_toArray, List.set_cons_zero, List.set_cons_succ]
          refine held_take (i := 8) (d := (some 47)) (v := ?_) rfl rfl (by kernel_rfl) (by kernel_rfl) (by kernel_rfl) (fun _ _ _ h => h) (Or.inl ⟨by rfl, ?_⟩) (by first | assumption | rfl | trivial) ?_
          rotate_left 1
          · (intro w hSw; (try dsimp only at hSw); (try subst hSw); go_simp; try with_reducible rfl)
          simp only [Act.put, List.setIfInBounds_toArray, List.set_cons_zero, List.set_cons_succ]
          refine held_take (i := 9) (d := (some 48)) (v := ?_) rfl rfl (by kernel_rfl) (by kernel_rfl) (by kernel_rfl) (fun _ _ _ h => h) (Or.inl ⟨by rfl, ?_⟩) (by first | assumption | rfl | trivial) ?_
          rotate_left 1
          · (intro w hSw; (try dsimp only at hSw); (try subst hSw); go_simp; try with_reducible rfl)
          simp only [Act.put, List.setIfInBounds_toArray, List.set_cons_zero, List.set_cons_succ]
          refine held_take (i := 10) (d := (some 49)) (v := ?_) rfl rfl (by kernel_rfl) (by kernel_rfl) (by kernel_rfl) (fun _ _ _ h => h) (Or.inl ⟨by rfl, ?_⟩) (by first | assumption | rfl | trivial) ?_
          rotate_left 1
          · (intro w hSw; (try dsimp only at hSw); (try subst hSw); go_simp; try with_reducible rfl)
          simp only [Act.put, List.setIfInBounds_toArray, List.set_cons_zero, List.set_cons_succ]
          refine held_take (i := 11) (d := (some 50)) (v := ?_) rfl rfl (by kernel_rfl) (by kernel_rfl) (by kernel_rfl) (fun _ _ _ h => h) (Or.inl ⟨by rfl, ?_⟩) (by first | assumption | rfl | trivial) ?_
          rotate_left 1
          · (intro w hSw; (try dsimp only at hSw); (try subst hSw); go_simp; try with_reducible rfl)
          simp only [Act.put, List.setIfInBounds_toArray, List.set_cons_zero, List.set_cons_succ]
          refine held_take (i := 12) (d := (some 51)) (v := ?_) rfl rfl (by kernel_rfl) (by kernel_rfl) (by kernel_rfl) (fun _ _ _ h => h) (Or.inl ⟨by rfl, ?_⟩) (by first | assumption | rfl | trivial) ?_
          rotate_left 1
          · (intro w hSw; (try dsimp only at hSw); (try subst hSw); go_simp; try with_reducible rfl)
          simp only [Act.put, List.setIfInBounds_toArray, List.set_cons_zero, List.set_cons_succ]
          obtain ⟨u6, hu6⟩ : ∃ u6, Hid ((u5.alloc (.cells #[.int .i64 0, .string s, .string (ByteArray.mk #[]), .int .i64 (NF : Int)] 109)).drew = u6) := ⟨_, rfl⟩
          have B4 : Hid (Below u5.heap.size u5 u6) := by rw [← hu6.out]; exact (bel_al (Below.refl _ _) (Nat.le_refl _) _).drew
          have OT4 : Hid (OwnT u6 0 at' NT ct G.turns) := OwnG.below OT5.out B4.out (Nat.le_refl _)
          have NC4 : Hid (∀ j u, (tnV ⟨0, s, ByteArray.empty, NF⟩)[j]? = some u → u6.cell? ((⟨u5.heap.size, 0, none⟩ : Addr).add j) = some u) := by rw [← hu6.out]; exact NC5.out
          have v0 : u6.cell? ⟨g, 0, none⟩ = some (.slice (some ⟨gC0, 0, none⟩) (NF + 1) cC0) := (B4.out.cell (p := ⟨g, 0, none⟩) (World.block_lt_of_cell? u5 _ z0)).trans z0
          have v2 : u6.cell? ⟨g, 2, none⟩ = some (.slice at' NT ct) := (B4.out.cell (p := ⟨g, 2, none⟩) (World.block_lt_of_cell? u5 _ x2)).trans x2
          refine held_pair (i := 4) (j := 13) (by kernel_rfl) rfl (by rfl) rfl (by rfl) (fun K1 hK1 => ?_) (fun K1 hK1 => ?_)
          · go_simp
            refine hK1.out _ _ z0 ?_
            clear hK1
            refine held_next (i := 13) (by kernel_rfl) rfl (by rfl) (fun K1 hK1 => ?_)
            go_simp
            rw [hu6.out]
            refine hK1.out _ _ v0 ?_
            clear hK1 hu6
            refine held_next (i := 14) (by kernel_rfl) rfl (by rfl) (fun K1 hK1 => ?_)
            refine wp_append_lies _ (.tmp 43) (.tmp 52) 29 rfl 0 109 i1 (.agg #[.int .i64 0, .string .empty, .string .empty, .int .i64 0]) 4 48 Tryz.underlying29 hi1 hz10 hz11 hz12 rfl (by decide) (.slice at' NT ct) NT (G.turns.flatMap tnV) rfl OT4.out ⟨u5.heap.size, 0, none⟩ 1 1 (tnV ⟨0, s, ByteArray.empty, NF⟩) rfl rfl NC4.out (tnV_one1 _) (by omega) (by unfold maxLen; omega) (by omega) (Nat.zero_le _) _ rfl ?_
            intro gC cC wC oC grC atC ltC
            have GR : Hid (Ch (fun j => (Value.slice at' NT ct).ownBlock = some j) u5 wC) := ((Ch.of_below B4.out).more (fun _ _ h => h.elim)).trans (Ch.grown grC)
            have GRX : Hid (StepV RAt u5 (wC.setCell ⟨g, 2, none⟩ (.slice (some ⟨gC, 0, none⟩) (NT + 1) cC)) g (fun j => S j ∨ (u2.heap.size ≤ j ∧ j < w4.heap.size)) { G with files := G.files ++ [emF], turns := G.turns ++ [⟨0, s, ByteArray.empty, NF⟩] }) := by
              have e := hNT.out
              subst e
              have e2 := hNF.out
              subst e2
              refine turns_pushed R5.out GV5.out ⟨by simp, fun _ => by simp⟩ rfl ?_ GR.out ?_
              · show OwnG _ _ _ _ _ _ _ _ _
                unfold OwnG
                dsimp only
                rw [List.flatMap_append, flat_one]
                exact oC
              · rcases atC with e | e
                · exact Or.inl e
                · exact Or.inr (by rw [e]; exact B4.out.size)
            have y2 : wC.cell? ⟨g, 2, none⟩ = some (.slice at' NT ct) ∧ wC.frozen? ⟨g, 2, none⟩ = false := by
              have k := GR.out.block g (R5.out.lt g R5.out.own) (fun e => (OwnG.cellsT OT5.out g e).1.ne R5.out.cellsT (by decide) rfl)
              have h1 := x2
              have h2 := R5.out.fz 2
              simp only [World.cell?, World.frozen?] at h1 h2 ⊢
              rw [k]
              exact ⟨h1, h2⟩
            obtain ⟨y3, y4⟩ := y2
            have VC : Hid (wC.cell? ⟨g, 0, none⟩ = some (.slice (some ⟨gC0, 0, none⟩) (NF + 1) cC0) ∧ (wC.setCell ⟨g, 2, none⟩ (.slice (some ⟨gC, 0, none⟩) (NT + 1) cC)).cell? ⟨g, 0, none⟩ = some (.slice (some ⟨gC0, 0, none⟩) (NF + 1) cC0)) := by
              have k := GR.out.block g (R5.out.lt g R5.out.own) (fun e => (OwnG.cellsT OT5.out g e).1.ne R5.out.cellsT (by decide) rfl)
              have h1 : wC.cell? ⟨g, 0, none⟩ = some (.slice (some ⟨gC0, 0, none⟩) (NF + 1) cC0) := by
                have h2 := z0
                simp only [World.cell?] at h2 ⊢
                rw [k]
                exact h2
              exact ⟨h1, (World.cell?_setCell_other wC ⟨g, 2, none⟩ ⟨g, 0, none⟩ _ (by simp)).trans h1⟩
            have H2 := hide (HX.out _ HE.out (HFIN.out _ _ GRX.out))
            clear oC grC atC ltC GR GRX OT4 NC4 B4
            go_simp
            refine hK1.out _ _ VC.out.1 ?_
            clear hK1
            have vc1 := VC.out.1
            refine held_take (i := 15) (d := (some 54)) (v := ?_) rfl rfl (by kernel_rfl) (by kernel_rfl) (by kernel_rfl) (fun _ _ _ h => h) (Or.inl ⟨by rfl, ?_⟩) (by first | assumption | rfl | trivial) ?_
            rotate_left 1
            · (intro w hSw; (try dsimp only at hSw); (try subst hSw); go_simp; try with_reducible rfl)
            simp only [Act.put, List.setIfInBounds_toArray, List.set_cons_zero, List.set_cons_succ]
            refine held_take (i := 16) (d := (some 55)) (v := ?_) rfl rfl (by kernel_rfl) (by kernel_rfl) (by kernel_rfl) (fun _ _ _ h => h) (Or.inl ⟨by rfl, ?_⟩) (by first | assumption | rfl | trivial) ?_
            rotate_left 1
            · (intro w hSw; (try dsimp only at hSw); (try subst hSw); go_simp; try with_reducible rfl)
            simp only [Act.put, List.setIfInBounds_toArray, List.set_cons_zero, List.set_cons_succ]
            refine held_next (i := 17) (by kernel_rfl) rfl (by rfl) (fun K1 hK1 => ?_)
            go_simp
            refine hK1.out _ _ VC.out.2 ?_
            clear hK1 hHeld
            refine wpAnyH_done (by kernel_rfl) ?_ _
            go_wp2
            go_ret
            exact H2.out
          · go_simp
            rw [hu6.out]
            refine hK1.out _ _ v0 ?_
            clear hK1 hu6
            refine held_next (i := 4) (by kernel_rfl) rfl (by rfl) (fun K1 hK1 => ?_)
            go_simp
            refine hK1.out _ _ v0 ?_
            clear hK1
            refine held_next (i := 14) (by kernel_rfl) rfl (by rfl) (fun K1 hK1 => ?_)
            refine wp_append_lies _ (.tmp 43) (.tmp 52) 29 rfl 0 109 i1 (.agg #[.int .i64 0, .string .empty, .string .empty, .int .i64 0]) 4 48 Tryz.underlying29 hi1 hz10 hz11 hz12 rfl (by decide) (.slice at' NT ct) NT (G.turns.flatMap tnV) rfl OT4.out ⟨u5.heap.size, 0, none⟩ 1 1 (tnV ⟨0, s, ByteArray.empty, NF⟩) rfl rfl NC4.out (tnV_one1 _) (by omega) (by unfold maxLen; omega) (by omega) (Nat.zero_le _) _ rfl ?_
            intro gC cC wC oC grC atC ltC
            have GR : Hid (Ch (fun j => (Value.slice at' NT ct).ownBlock = some j) u5 wC) := ((Ch.of_below B4.out).more (fun _ _ h => h.elim)).trans (Ch.grown grC)
            have GRX : Hid (StepV RAt u5 (wC.setCell ⟨g, 2, none⟩ (.slice (some ⟨gC, 0, none⟩) (NT + 1) cC)) g (fun j => S j ∨ (u2.heap.size ≤ j ∧ j < w4.heap.size)) { G with files := G.files ++ [emF], turns := G.turns ++ [⟨0, s, ByteArray.empty, NF⟩] }) := by
              have e := hNT.out
              subst e
              have e2 := hNF.out
              subst e2
              refine turns_pushed R5.out GV5.out ⟨by simp, fun _ => by simp⟩ rfl ?_ GR.out ?_
              · show OwnG _ _ _ _ _ _ _ _ _
                unfold OwnG
                dsimp only
                rw [List.flatMap_append, flat_one]
                exact oC
              · rcases atC with e | e
                · exact Or.inl e
                · exact Or.inr (by rw [e]; exact B4.out.size)
            have y2 : wC.cell? ⟨g, 2, none⟩ = some (.slice at' NT ct) ∧ wC.frozen? ⟨g, 2, none⟩ = false := by
              have k := GR.out.block g (R5.out.lt g R5.out.own) (fun e => (OwnG.cellsT OT5.out g e).1.ne R5.out.cellsT (by decide) rfl)
              have h1 := x2
              have h2 := R5.out.fz 2
              simp only [World.cell?, World.frozen?] at h1 h2 ⊢
              rw [k]
              exact ⟨h1, h2⟩
            obtain ⟨y3, y4⟩ := y2
            have VC : Hid (wC.cell? ⟨g, 0, none⟩ = some (.slice (some ⟨gC0, 0, none⟩) (NF + 1) cC0) ∧ (wC.setCell ⟨g, 2, none⟩ (.slice (some ⟨gC, 0, none⟩) (NT + 1) cC)).cell? ⟨g, 0, none⟩ = some (.slice (some ⟨gC0, 0, none⟩) (NF + 1) cC0)) := by
              have k := GR.out.block g (R5.out.lt g R5.out.own) (fun e => (OwnG.cellsT OT5.out g e).1.ne R5.out.cellsT (by decide) rfl)
              have h1 : wC.cell? ⟨g, 0, none⟩ = some (.slice (some ⟨gC0, 0, none⟩) (NF + 1) cC0) := by
                have h2 := z0
                simp only [World.cell?] at h2 ⊢
                rw [k]
                exact h2
              exact ⟨h1, (World.cell?_setCell_other wC ⟨g, 2, none⟩ ⟨g, 0, none⟩ _ (by simp)).trans h1⟩
            have H2 := hide (HX.out _ HE.out (HFIN.out _ _ GRX.out))
            clear oC grC atC ltC GR GRX OT4 NC4 B4
            go_simp
            refine hK1.out _ _ VC.out.1 ?_
            clear hK1
            have vc1 := VC.out.1
            refine held_take (i := 15) (d := (some 54)) (v := ?_) rfl rfl (by kernel_rfl) (by kernel_rfl) (by kernel_rfl) (fun _ _ _ h => h) (Or.inl ⟨by rfl, ?_⟩) (by first | assumption | rfl | trivial) ?_
            rotate_left 1
            · (intro w hSw; (try dsimp only at hSw); (try subst hSw); go_simp; try with_reducible rfl)
            simp only [Act.put, List.setIfInBounds_toArray, List.set_cons_zero, List.set_cons_succ]
            refine held_take (i := 16) (d := (some 55)) (v := ?_) rfl rfl (by kernel_rfl) (by kernel_rfl) (by kernel_rfl) (fun _ _ _ h => h) (Or.inl ⟨by rfl, ?_⟩) (by first | assumption | rfl | trivial) ?_
            rotate_left 1
            · (intro w hSw; (try dsimp only at hSw); (try subst hSw); go_simp; try with_reducible rfl)
            simp only [Act.put, List.setIfInBounds_toArray, List.set_cons_zero, List.set_cons_succ]
            refine held_next (i := 17) (by kernel_rfl) rfl (by rfl) (fun K1 hK1 => ?_)
            go_simp
            refine hK1.out _ _ VC.out.2 ?_
            clear hK1 hHeld
            refine wpAnyH_done (by kernel_rfl) ?_ _
            go_wp2
            go_ret
            exact H2.out
end Go.Proofs.YthlkmjaflomflaaGreat
