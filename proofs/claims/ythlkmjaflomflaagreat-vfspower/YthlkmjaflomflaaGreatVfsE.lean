/-
  The document's file system: Rename, Remove: contracts, for every world (written by gen/vfse.gen.py); how a turn is put behind the others.
  Conditions: the file system lies in memory; as each theorem says.
-/
import Derived.Test.YthlkmjaflomflaaGreatVfsD
namespace Go.Proofs.YthlkmjaflomflaaGreat
open Go.RowKit
set_option maxRecDepth 20000
set_option linter.unusedVariables false

theorem Tryz.infoT16 : (Tryz.prog.info? 109).map (fun i => (i.zero, i.size, i.bytes)) = some (some (.agg #[.int .i64 0, .string .empty, .string .empty, .int .i64 0]), 4, 48) := by kernel_rfl
theorem tnV_one1 (x : Tn) : ∀ u ∈ tnV x, u.oneCell' = true := by rw [← flat_one tnV x]; exact tnV_one _
theorem tn_cells (w : World) (k : Int) (nm to : ByteArray) (f : Int) (t : Tn) (e : TypeId) (h1 : (t.k : Int) = k) (h2 : t.nm = nm) (h3 : t.to = to) (h4 : (t.f : Int) = f) : ∀ j u, (tnV t)[j]? = some u → (w.alloc (.cells #[.int .i64 k, .string nm, .string to, .int .i64 f] e)).cell? ((⟨w.heap.size, 0, none⟩ : Addr).add j) = some u := by
  subst h1 h2 h3 h4
  intro j u h
  match j, h with
  | 0, h => simp [tnV] at h; subst h; rw [Addr.add_lit, World.cell?_alloc_mark]; rfl
  | 1, h => simp [tnV] at h; subst h; rw [Addr.add_lit, World.cell?_alloc_mark]; rfl
  | 2, h => simp [tnV] at h; subst h; rw [Addr.add_lit, World.cell?_alloc_mark]; rfl
  | 3, h => simp [tnV] at h; subst h; rw [Addr.add_lit, World.cell?_alloc_mark]; rfl
/-- A turn more. -/
theorem turns_pushed {u2 u4 : World} {g : Nat} {S : Nat → Prop} {G : Fs} {af : Option Addr} {cf : Nat} {as' : Option Addr} {cs : Nat} {at' : Option Addr} {ct : Nat} {hs : List (H3 × H3)} (B : RB u2 g S G af cf as' cs at' ct hs) (GG : GoodV G) {t : Tn} (ht : t.k ≤ 2 ∧ (t.k = 0 → t.f < G.files.length)) {N g' c' : Nat} (hN : G.turns.length = N)
    (o : OwnT u4 0 (some ⟨g', 0, none⟩) (N + 1) c' (G.turns ++ [t])) (gr : Ch (fun j => (Value.slice at' G.turns.length ct).ownBlock = some j) u2 u4) (lies : (Value.slice at' G.turns.length ct).ownBlock = some g' ∨ u2.heap.size ≤ g') :
    StepV RAt u2 (u4.setCell ⟨g, 2, none⟩ (.slice (some ⟨g', 0, none⟩) (N + 1) c')) g S { G with turns := G.turns ++ [t] } := by
  subst hN
  have hl : (G.turns ++ [t]).length = G.turns.length + 1 := by simp
  rw [← hl] at o ⊢
  have hb : g' < u4.heap.size := (OwnG.cellsT o g' rfl).1.lt
  refine ⟨fun j => S j ∨ (u2.heap.size ≤ j ∧ j < u4.heap.size), ⟨?_, af, cf, as', cs, _, c', hs, B.putTurns (gr.more (fun j _ e => (OwnG.cellsT B.turns j e).1)) o ?_ (fun j hj => Or.inl hj) ?_⟩, fun j hj => ?_, ?_⟩
  · refine ⟨GG.sure, fun x hx => ?_, GG.cuts, GG.byte, GG.aft, GG.knd⟩
    rcases List.mem_append.1 hx with e | e
    · exact GG.turns x e
    · obtain rfl := List.mem_singleton.1 e
      exact ht
  · intro b hb2
    simp [Value.ownBlock] at hb2
    subst hb2
    rcases lies with e | e
    · exact Or.inl (B.turnsS _ e)
    · exact Or.inr ⟨e, hb⟩
  · rintro j (e | e)
    · exact Nat.lt_of_lt_of_le (B.lt j e) gr.size
    · exact e.2
  · rcases hj with e | e
    · exact Or.inl e
    · exact Or.inr e.1
  · exact (gr.more (fun j _ e => B.turnsS j e)).trans ((ch_set u4 g 2 _).more (fun j _ e => e ▸ B.own))

set_option maxHeartbeats 4000000 in
theorem rrename_any (g : Nat) (S : Nat → Prop) (F : Fs) (s t : ByteArray) (m : Nat) (w : World) (hF : RAt w g S F) (hL : Lim m F) (hm : m < 1073741824) (hs : s.size ≤ 9223372036854775807) (ht : t.size ≤ 9223372036854775807) :
    Calls Tryz.prog 32 #[.pointer (some ⟨g, 0, none⟩), .string s, .string t] w fun e w' => e = .returned (.int .i64 (renameF F s t).2) ∧ StepV RAt w w' g S (renameF F s t).1 := by
  obtain ⟨i1, hi1, hz10, hz11, hz12⟩ := info_parts Tryz.infoT16
  have CA := hide (rcall_any g S F m w hF hL (by omega))
  have LC := hide hL.call
  have HG := hide hF.own
  rcases hq : callF F with ⟨G, o⟩
  rw [hq] at CA LC
  dsimp only at CA LC
  cases o with
  | some e1 =>
    rw [show callE F = e1 by unfold callE; rw [hq]; rfl, show callB F = true by unfold callB; rw [hq]; rfl] at CA
    have HP : Hid (∀ u, RAt u g S G → Ch (fun k => k = g) w u → (Ending.returned (.int .i64 e1) = .returned (.int .i64 (renameF F s t).2) ∧ StepV RAt w u g S (renameF F s t).1)) := fun u hu hc => by
      unfold renameF
      rw [hq]
      exact ⟨rfl, stepV_same hu hc HG.out⟩
    clear hq hF hL
    go_enter Tryz.func32, Tryz.ntmps32
    go_wp2_with fail
    with_reducible refine CA.out.mono ?_
    rintro e u1 ⟨rfl, h1, k1⟩
    have H1 := hide (HP.out _ h1 k1)
    clear h1 k1 CA HP
    go_wp2
    go_ret
    exact H1.out
  | none =>
    rw [show callE F = 0 by unfold callE; rw [hq]; rfl, show callB F = false by unfold callB; rw [hq]; rfl] at CA
    have HP : Hid (∀ (x : Fs × Int) (u : World), renameF F s t = x → StepV RAt w u g S x.1 → (Ending.returned (.int .i64 x.2) = .returned (.int .i64 (renameF F s t).2) ∧ StepV RAt w u g S (renameF F s t).1)) := fun x u e hu => by
      rw [e]
      exact ⟨rfl, hu⟩
    have HC : Hid (∀ (u1 u : World) (X : Fs), Ch (fun k => k = g) w u1 → StepV RAt u1 u g S X → StepV RAt w u g S X) := fun u1 u X k q => StepV.after (k.more (fun j _ e => e ▸ HG.out)) q
    have M1 := hide (fun u => rmay_any s u hs)
    have M2 := hide (fun u => rmay_any t u ht)
    have FIx := hide (fun u hu => rfile_any g S G s (m + 1) u hu LC.out (by omega))
    cases hm1 : mayN s with
    | false =>
      have HX := hide (HP.out (G, 1))
      have HE : Hid (renameF F s t = (G, 1)) := by show _ = _; unfold renameF; rw [hq]; dsimp only; rw [if_pos (Or.inl hm1)]
      clear hq hF hL
      go_enter Tryz.func32, Tryz.ntmps32
      go_wp2_with fail
      with_reducible refine CA.out.mono ?_
      rintro e u1 ⟨rfl, h1, k1⟩
      have H1 := hide (HX.out _ HE.out (HC.out _ _ _ k1 (stepV_below h1 (Below.refl _ _))))
      clear h1 k1 CA HX HE HP HC
      go_wp2_with fail
      with_reducible refine (M1.out _).mono ?_
      rintro e u ⟨rfl, hu⟩
      rw [hu, hm1]
      clear hu
      go_wp2
      go_ret
      exact H1.out
    | true =>
      cases hm2 : mayN t with
      | false =>
        have HX := hide (HP.out (G, 1))
        have HE : Hid (renameF F s t = (G, 1)) := by show _ = _; unfold renameF; rw [hq]; dsimp only; rw [if_pos (Or.inr hm2)]
        clear hq hF hL
        go_enter Tryz.func32, Tryz.ntmps32
        go_wp2_with fail
        with_reducible refine CA.out.mono ?_
        rintro e u1 ⟨rfl, h1, k1⟩
        have H1 := hide (HX.out _ HE.out (HC.out _ _ _ k1 (stepV_below h1 (Below.refl _ _))))
        clear h1 k1 CA HX HE HP HC
        go_wp2_with fail
        with_reducible refine (M1.out _).mono ?_
        rintro e u ⟨rfl, hu⟩
        rw [hu, hm1]
        clear hu
        go_wp2_with fail
        with_reducible refine (M2.out _).mono ?_
        rintro e u ⟨rfl, hu⟩
        rw [hu, hm2]
        clear hu
        go_wp2
        go_ret
        exact H1.out
      | true =>
        cases hf : fileF G s with
        | none =>
          have HE : Hid (renameF F s t = (G, 3)) := by show _ = _; unfold renameF; rw [hq]; dsimp only; rw [if_neg (by rw [hm1, hm2]; simp), hf]
          rw [show fileI G s = -1 by unfold fileI; rw [hf]] at FIx
          have HX := hide (HP.out (G, 3))
          clear hq hF hL
          go_enter Tryz.func32, Tryz.ntmps32
          go_wp2_with fail
          with_reducible refine CA.out.mono ?_
          rintro e u1 ⟨rfl, h1, k1⟩
          have FI := hide (FIx.out u1 h1)
          have H1 := hide h1
          have K1 := hide k1
          clear h1 k1 CA FIx
          go_wp2_with fail
          with_reducible refine (M1.out _).mono ?_
          rintro e u ⟨rfl, hu⟩
          rw [hu, hm1]
          clear hu
          go_wp2_with fail
          with_reducible refine (M2.out _).mono ?_
          rintro e u ⟨rfl, hu⟩
          rw [hu, hm2]
          clear hu
          go_wp2_with fail
          with_reducible refine FI.out.mono ?_
          rintro e u2 ⟨rfl, b2⟩
          have H2 := hide (HX.out _ HE.out (HC.out _ _ _ K1.out (stepV_below (H1.out.below b2) b2)))
          clear b2 FI H1 K1 HX HE HP HC
          go_wp2
          go_ret
          exact H2.out
        | some q =>
          have HE : Hid (renameF F s t = ({ G with turns := G.turns ++ [⟨1, s, t, 0⟩] }, 0)) := by show _ = _; unfold renameF; rw [hq]; dsimp only; rw [if_neg (by rw [hm1, hm2]; simp), hf]
          rw [show fileI G s = (q : Int) by unfold fileI; rw [hf]] at FIx
          have HX := hide (HP.out ({ G with turns := G.turns ++ [⟨1, s, t, 0⟩] }, 0))
          have hgt := LC.out.turns
          obtain ⟨NT, hNT⟩ : ∃ NT, Hid (G.turns.length = NT) := ⟨_, rfl⟩
          rw [hNT.out] at hgt
          have q0 : ¬ (q : Int) < 0 := by omega
          clear hq hF hL
          go_enter Tryz.func32, Tryz.ntmps32
          go_wp2_with fail
          with_reducible refine CA.out.mono ?_
          rintro e u1 ⟨rfl, h1, k1⟩
          have FI := hide (FIx.out u1 h1)
          have H1 := hide h1
          have K1 := hide k1
          clear h1 k1 CA FIx
          go_wp2_with fail
          with_reducible refine (M1.out _).mono ?_
          rintro e u ⟨rfl, hu⟩
          rw [hu, hm1]
          clear hu
          go_wp2_with fail
          with_reducible refine (M2.out _).mono ?_
          rintro e u ⟨rfl, hu⟩
          rw [hu, hm2]
          clear hu
          go_wp2_with fail
          with_reducible refine FI.out.mono ?_
          rintro e u2 ⟨rfl, b2⟩
          obtain ⟨GG, af, cf, as', cs, at', ct, hs, B0⟩ := H1.out
          have B := hide (B0.below b2)
          have GV := hide GG
          have K2 := hide (K1.out.trans ((Ch.of_below b2).more (fun _ _ h => h.elim)))
          obtain ⟨-, -, x2, -⟩ := B.out.cells
          rw [hNT.out] at x2
          have OT := hide B.out.turns
          rw [hNT.out] at OT
          have NC := hide (tn_cells u2 1 s t 0 ⟨1, s, t, 0⟩ 109 rfl rfl rfl rfl)
          clear b2 FI B0 GG H1 K1
          go_wp2_with (at_builtin; refine wpList_append_lies _ rfl _ _ 29 rfl 0 109 i1 (.agg #[.int .i64 0, .string .empty, .string .empty, .int .i64 0]) 4 48 Tryz.underlying29 hi1 hz10 hz11 hz12 rfl (by decide) (.slice at' NT ct) NT (G.turns.flatMap tnV) rfl (OwnG.alloc OT.out _) ⟨u2.heap.size, 0, none⟩ 1 1 (tnV ⟨1, s, t, 0⟩) rfl rfl NC.out (tnV_one1 _) (by omega) (by unfold maxLen; omega) (by omega) (Nat.zero_le _) _ rfl ?_)
          intro gC cC wC oC grC atC ltC
          have GR : Hid (Ch (fun j => (Value.slice at' NT ct).ownBlock = some j) u2 wC) := ((Ch.refl (fun j => (Value.slice at' NT ct).ownBlock = some j) u2).alloc _).trans (Ch.grown grC)
          have GRX : Hid (StepV RAt u2 (wC.setCell ⟨g, 2, none⟩ (.slice (some ⟨gC, 0, none⟩) (NT + 1) cC)) g S { G with turns := G.turns ++ [⟨1, s, t, 0⟩] }) := by
            have e := hNT.out
            subst e
            refine turns_pushed B.out GV.out ⟨by simp, fun h => by simp at h⟩ rfl ?_ GR.out ?_
            · show OwnG _ _ _ _ _ _ _ _ _
              unfold OwnG
              rw [List.flatMap_append, flat_one]
              exact oC
            · rcases atC with e | e
              · exact Or.inl e
              · exact Or.inr (by rw [e]; simp)
          have y2 : wC.cell? ⟨g, 2, none⟩ = some (.slice at' NT ct) ∧ wC.frozen? ⟨g, 2, none⟩ = false := by
            have k := GR.out.block g (B.out.lt g B.out.own) (fun e => (OwnG.cellsT OT.out g e).1.ne B.out.cellsT (by decide) rfl)
            have h1 := x2
            have h2 := B.out.fz 2
            simp only [World.cell?, World.frozen?] at h1 h2 ⊢
            rw [k]
            exact ⟨h1, h2⟩
          obtain ⟨y3, y4⟩ := y2
          have H2 := hide (HX.out _ HE.out (StepV.after (K2.out.more (fun j _ e => e ▸ HG.out)) GRX.out))
          clear oC grC atC ltC GR GRX B GV K2 OT NC HX HE HP HC x2
          go_wp2
          go_ret
          exact H2.out

set_option maxHeartbeats 4000000 in
theorem rremove_any (g : Nat) (S : Nat → Prop) (F : Fs) (s : ByteArray) (m : Nat) (w : World) (hF : RAt w g S F) (hL : Lim m F) (hm : m < 1073741824) (hs : s.size ≤ 9223372036854775807) :
    Calls Tryz.prog 33 #[.pointer (some ⟨g, 0, none⟩), .string s] w fun e w' => e = .returned (.int .i64 (removeF F s).2) ∧ StepV RAt w w' g S (removeF F s).1 := by
  obtain ⟨i1, hi1, hz10, hz11, hz12⟩ := info_parts Tryz.infoT16
  have CA := hide (rcall_any g S F m w hF hL (by omega))
  have LC := hide hL.call
  have HG := hide hF.own
  rcases hq : callF F with ⟨G, o⟩
  rw [hq] at CA LC
  dsimp only at CA LC
  cases o with
  | some e1 =>
    rw [show callE F = e1 by unfold callE; rw [hq]; rfl, show callB F = true by unfold callB; rw [hq]; rfl] at CA
    have HP : Hid (∀ u, RAt u g S G → Ch (fun k => k = g) w u → (Ending.returned (.int .i64 e1) = .returned (.int .i64 (removeF F s).2) ∧ StepV RAt w u g S (removeF F s).1)) := fun u hu hc => by
      unfold removeF
      rw [hq]
      exact ⟨rfl, stepV_same hu hc HG.out⟩
    clear hq hF hL
    go_enter Tryz.func33, Tryz.ntmps33
    go_wp2_with fail
    with_reducible refine CA.out.mono ?_
    rintro e u1 ⟨rfl, h1, k1⟩
    have H1 := hide (HP.out _ h1 k1)
    clear h1 k1 CA HP
    go_wp2
    go_ret
    exact H1.out
  | none =>
    rw [show callE F = 0 by unfold callE; rw [hq]; rfl, show callB F = false by unfold callB; rw [hq]; rfl] at CA
    have HP : Hid (∀ (x : Fs × Int) (u : World), removeF F s = x → StepV RAt w u g S x.1 → (Ending.returned (.int .i64 x.2) = .returned (.int .i64 (removeF F s).2) ∧ StepV RAt w u g S (removeF F s).1)) := fun x u e hu => by
      rw [e]
      exact ⟨rfl, hu⟩
    have HC : Hid (∀ (u1 u : World) (X : Fs), Ch (fun k => k = g) w u1 → StepV RAt u1 u g S X → StepV RAt w u g S X) := fun u1 u X k q => StepV.after (k.more (fun j _ e => e ▸ HG.out)) q
    have M1 := hide (fun u => rmay_any s u hs)
    have FIx := hide (fun u hu => rfile_any g S G s (m + 1) u hu LC.out (by omega))
    cases hm1 : mayN s with
    | false =>
      have HX := hide (HP.out (G, 1))
      have HE : Hid (removeF F s = (G, 1)) := by show _ = _; unfold removeF; rw [hq]; dsimp only; rw [if_pos (hm1)]
      clear hq hF hL
      go_enter Tryz.func33, Tryz.ntmps33
      go_wp2_with fail
      with_reducible refine CA.out.mono ?_
      rintro e u1 ⟨rfl, h1, k1⟩
      have H1 := hide (HX.out _ HE.out (HC.out _ _ _ k1 (stepV_below h1 (Below.refl _ _))))
      clear h1 k1 CA HX HE HP HC
      go_wp2_with fail
      with_reducible refine (M1.out _).mono ?_
      rintro e u ⟨rfl, hu⟩
      rw [hu, hm1]
      clear hu
      go_wp2
      go_ret
      exact H1.out
    | true =>
      cases hf : fileF G s with
      | none =>
        have HE : Hid (removeF F s = (G, 3)) := by show _ = _; unfold removeF; rw [hq]; dsimp only; rw [if_neg (by rw [hm1]; simp), hf]
        rw [show fileI G s = -1 by unfold fileI; rw [hf]] at FIx
        have HX := hide (HP.out (G, 3))
        clear hq hF hL
        go_enter Tryz.func33, Tryz.ntmps33
        go_wp2_with fail
        with_reducible refine CA.out.mono ?_
        rintro e u1 ⟨rfl, h1, k1⟩
        have FI := hide (FIx.out u1 h1)
        have H1 := hide h1
        have K1 := hide k1
        clear h1 k1 CA FIx
        go_wp2_with fail
        with_reducible refine (M1.out _).mono ?_
        rintro e u ⟨rfl, hu⟩
        rw [hu, hm1]
        clear hu
        go_wp2_with fail
        with_reducible refine FI.out.mono ?_
        rintro e u2 ⟨rfl, b2⟩
        have H2 := hide (HX.out _ HE.out (HC.out _ _ _ K1.out (stepV_below (H1.out.below b2) b2)))
        clear b2 FI H1 K1 HX HE HP HC
        go_wp2
        go_ret
        exact H2.out
      | some q =>
        have HE : Hid (removeF F s = ({ G with turns := G.turns ++ [⟨2, s, ByteArray.empty, 0⟩] }, 0)) := by show _ = _; unfold removeF; rw [hq]; dsimp only; rw [if_neg (by rw [hm1]; simp), hf]
        rw [show fileI G s = (q : Int) by unfold fileI; rw [hf]] at FIx
        have HX := hide (HP.out ({ G with turns := G.turns ++ [⟨2, s, ByteArray.empty, 0⟩] }, 0))
        have hgt := LC.out.turns
        obtain ⟨NT, hNT⟩ : ∃ NT, Hid (G.turns.length = NT) := ⟨_, rfl⟩
        rw [hNT.out] at hgt
        have q0 : ¬ (q : Int) < 0 := by omega
        clear hq hF hL
        go_enter Tryz.func33, Tryz.ntmps33
        go_wp2_with fail
        with_reducible refine CA.out.mono ?_
        rintro e u1 ⟨rfl, h1, k1⟩
        have FI := hide (FIx.out u1 h1)
        have H1 := hide h1
        have K1 := hide k1
        clear h1 k1 CA FIx
        go_wp2_with fail
        with_reducible refine (M1.out _).mono ?_
        rintro e u ⟨rfl, hu⟩
        rw [hu, hm1]
        clear hu
        go_wp2_with fail
        with_reducible refine FI.out.mono ?_
        rintro e u2 ⟨rfl, b2⟩
        obtain ⟨GG, af, cf, as', cs, at', ct, hs, B0⟩ := H1.out
        have B := hide (B0.below b2)
        have GV := hide GG
        have K2 := hide (K1.out.trans ((Ch.of_below b2).more (fun _ _ h => h.elim)))
        obtain ⟨-, -, x2, -⟩ := B.out.cells
        rw [hNT.out] at x2
        have OT := hide B.out.turns
        rw [hNT.out] at OT
        have NC := hide (tn_cells u2 2 s ByteArray.empty 0 ⟨2, s, ByteArray.empty, 0⟩ 109 rfl rfl rfl rfl)
        clear b2 FI B0 GG H1 K1
        go_wp2_with (at_builtin; refine wpList_append_lies _ rfl _ _ 29 rfl 0 109 i1 (.agg #[.int .i64 0, .string .empty, .string .empty, .int .i64 0]) 4 48 Tryz.underlying29 hi1 hz10 hz11 hz12 rfl (by decide) (.slice at' NT ct) NT (G.turns.flatMap tnV) rfl (OwnG.alloc OT.out _) ⟨u2.heap.size, 0, none⟩ 1 1 (tnV ⟨2, s, ByteArray.empty, 0⟩) rfl rfl NC.out (tnV_one1 _) (by omega) (by unfold maxLen; omega) (by omega) (Nat.zero_le _) _ rfl ?_)
        intro gC cC wC oC grC atC ltC
        have GR : Hid (Ch (fun j => (Value.slice at' NT ct).ownBlock = some j) u2 wC) := ((Ch.refl (fun j => (Value.slice at' NT ct).ownBlock = some j) u2).alloc _).trans (Ch.grown grC)
        have GRX : Hid (StepV RAt u2 (wC.setCell ⟨g, 2, none⟩ (.slice (some ⟨gC, 0, none⟩) (NT + 1) cC)) g S { G with turns := G.turns ++ [⟨2, s, ByteArray.empty, 0⟩] }) := by
          have e := hNT.out
          subst e
          refine turns_pushed B.out GV.out ⟨by simp, fun h => by simp at h⟩ rfl ?_ GR.out ?_
          · show OwnG _ _ _ _ _ _ _ _ _
            unfold OwnG
            rw [List.flatMap_append, flat_one]
            exact oC
          · rcases atC with e | e
            · exact Or.inl e
            · exact Or.inr (by rw [e]; simp)
        have y2 : wC.cell? ⟨g, 2, none⟩ = some (.slice at' NT ct) ∧ wC.frozen? ⟨g, 2, none⟩ = false := by
          have k := GR.out.block g (B.out.lt g B.out.own) (fun e => (OwnG.cellsT OT.out g e).1.ne B.out.cellsT (by decide) rfl)
          have h1 := x2
          have h2 := B.out.fz 2
          simp only [World.cell?, World.frozen?] at h1 h2 ⊢
          rw [k]
          exact ⟨h1, h2⟩
        obtain ⟨y3, y4⟩ := y2
        have H2 := hide (HX.out _ HE.out (StepV.after (K2.out.more (fun j _ e => e ▸ HG.out)) GRX.out))
        clear oC grC atC ltC GR GRX B GV K2 OT NC HX HE HP HC x2
        go_wp2
        go_ret
        exact H2.out
end Go.Proofs.YthlkmjaflomflaaGreat
