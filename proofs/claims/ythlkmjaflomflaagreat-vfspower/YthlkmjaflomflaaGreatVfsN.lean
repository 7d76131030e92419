/-
  The document's file system: Sync: a contract, for every world (written by gen/vfsn.gen.py); how a file is made certain.
  Conditions: the file system lies in memory; as the theorem says.
-/
import Derived.Test.YthlkmjaflomflaaGreatVfsL
namespace Go.Proofs.YthlkmjaflomflaaGreat
open Go.RowKit
set_option maxRecDepth 20000
set_option linter.unusedVariables false

theorem fi_set0 : ∀ (l : List (H3 × H3)) (k : Nat) (h1 h2 h3 : H3), l[k]? = some (h1, h2) → (l.flatMap fiV).set (k * 2) (h3V h3) = (l.set k (h3, h2)).flatMap fiV
  | [], k, _, _, _, h => by simp at h
  | x :: t, 0, h1, h2, h3, h => by
    simp at h
    subst h
    rfl
  | x :: t, k + 1, h1, h2, h3, h => by
    rw [List.flatMap_cons, List.set_cons_succ, List.flatMap_cons, List.set_append_right _ _ (by rw [fiV_len]; omega), fiV_len, show (k + 1) * 2 - 2 = k * 2 by omega, fi_set0 t k h1 h2 h3 (by simpa using h)]
/-- Both of a file's cells. -/
theorem OwnF.put {w : World} {base gf n cap : Nat} {hs : List (H3 × H3)} (h : OwnF w base (some ⟨gf, 0, none⟩) n cap hs) {k : Nat} {h1 h2 : H3} (hh : hs[k]? = some (h1, h2)) (x y : H3) :
    OwnF ((w.setCell ⟨gf, k * 2, none⟩ (h3V x)).setCell ⟨gf, k * 2 + 1, none⟩ (h3V y)) base (some ⟨gf, 0, none⟩) n cap (hs.set k (x, y)) := by
  have q1 := (World.ownsRow.stored h (k * 2) (h3V x)).1
  rw [fi_set0 hs k h1 h2 x hh] at q1
  have q2 := (World.ownsRow.stored q1 (k * 2 + 1) (h3V y)).1
  have hkl := (List.getElem?_eq_some_iff.1 hh).1
  rw [fi_set1 (hs.set k (x, h2)) k x h2 y (by rw [List.getElem?_set_self hkl]), List.set_set] at q2
  exact q2
/-- A file made certain. -/
theorem file_put {u u4 : World} {g : Nat} {S : Nat → Prop} {G : Fs} {gf : Nat} {cf : Nat} {as' : Option Addr} {cs : Nat} {at' : Option Addr} {ct : Nat} {hs : List (H3 × H3)} (B : RB u g S G (some ⟨gf, 0, none⟩) cf as' cs at' ct hs) (GG : GoodV G) {k : Nat} (hk : k < G.files.length) {h1 h2 : H3} (hh : hs[k]? = some (h1, h2)) (b4 : Below u.heap.size u u4) {x : H3} (hx : x.2.1 = (bytF (atF G k)).length)
    (o : OwnB u4 u.heap.size x.1 x.2.1 x.2.2 (bytF (atF G k))) :
    StepV RAt u ((u4.setCell ⟨gf, k * 2, none⟩ (h3V x)).setCell ⟨gf, k * 2 + 1, none⟩ (.slice none 0 0)) g S { G with files := G.files.set k ⟨bytF (atF G k), []⟩ } := by
  have B4 := B.below b4
  have cF4 : CellsT u4 gf 83 := (OwnG.cellsT B4.files gf rfl).1
  have hfb : S gf := B.filesS gf rfl
  have ks : Ch (fun j => j = gf) u4 ((u4.setCell ⟨gf, k * 2, none⟩ (h3V x)).setCell ⟨gf, k * 2 + 1, none⟩ (.slice none 0 0)) := (ch_set u4 gf _ _).trans (ch_set _ gf _ _)
  have of := OwnF.put B4.files hh x (none, 0, 0)
  have hkl := (List.getElem?_eq_some_iff.1 hh).1
  refine ⟨fun j => S j ∨ (u.heap.size ≤ j ∧ j < u4.heap.size), ⟨GG.synced hk (unsB_byte (GG.byte _ (atF_mem hk)).1 (GG.byte _ (atF_mem hk)).2), some ⟨gf, 0, none⟩, cf, as', cs, at', ct, hs.set k (x, (none, 0, 0)), ⟨Or.inl B.own, ?_, ?_, ?_, ?_, ?_, ?_, ?_, ?_, ?_, ?_⟩⟩, ?_, ?_⟩
  · rintro j (e | e)
    · exact Nat.lt_of_lt_of_le (B4.lt j e) ks.size
    · exact Nat.lt_of_lt_of_le e.2 ks.size
  · rw [ks.block g B4.cellsT.lt (B4.cellsT.ne cF4 (by decide)), B4.str]
    unfold fsC8
    dsimp only
    rw [List.length_set]
  · dsimp only
    rw [List.length_set]
    exact of
  · dsimp only
    rw [List.length_set]
    exact fun b hb => Or.inl (B.filesS b hb)
  · intro i y z hi hz
    dsimp only at hz
    by_cases e : i = k
    · subst e
      rw [List.getElem?_set_self hk] at hz
      rw [List.getElem?_set_self hkl] at hi
      obtain rfl := Option.some.inj hz
      obtain rfl := Option.some.inj hi
      have o0 := OwnG.mono o (Nat.zero_le _)
      refine ⟨OwnG.ch o0 ks (fun b hb => (OwnG.cellsT o0 b hb).1.ne cF4 (by decide)), ownG_nil _ _, fun b hb => Or.inr ⟨(OwnG.cellsT o b hb).2, (OwnG.cellsT o b hb).1.lt⟩, fun b hb => by simp [h3V, Value.ownBlock] at hb⟩
    · rw [List.getElem?_set_ne (Ne.symm e)] at hz hi
      have m := B4.each i _ _ hi hz
      exact ⟨OwnG.ch m.sure ks (fun b hb => (OwnG.cellsT m.sure b hb).1.ne cF4 (by decide)), OwnG.ch m.us ks (fun b hb => (OwnG.cellsT m.us b hb).1.ne cF4 (by decide)), fun b hb => Or.inl (m.sureS b hb), fun b hb => Or.inl (m.usS b hb)⟩
  · intro i j y z b hij hi hj hby hbz
    by_cases e : i = k
    · subst e
      rw [List.getElem?_set_self hkl] at hi
      obtain rfl := Option.some.inj hi
      simp [h3V, Value.ownBlock] at hby
    · rw [List.getElem?_set_ne (Ne.symm e)] at hi
      by_cases e2 : j = k
      · subst e2
        rw [List.getElem?_set_self hkl] at hj
        obtain rfl := Option.some.inj hj
        simp [h3V, Value.ownBlock] at hbz
      · rw [List.getElem?_set_ne (Ne.symm e2)] at hj
        exact B.apart i j y z b hij hi hj hby hbz
  · exact OwnG.ch B4.sure ks (fun b hb => (OwnG.cellsT B4.sure b hb).1.ne cF4 (by decide))
  · exact fun b hb => Or.inl (B.sureS b hb)
  · exact OwnG.ch B4.turns ks (fun b hb => (OwnG.cellsT B4.turns b hb).1.ne cF4 (by decide))
  · exact fun b hb => Or.inl (B.turnsS b hb)
  · rintro j (e | e)
    · exact Or.inl e
    · exact Or.inr e.1
  · exact ((Ch.of_below b4).more (fun _ _ h => h.elim)).trans (ks.more (fun j _ e => e ▸ hfb))

set_option maxHeartbeats 8000000 in
theorem rsync_any (g : Nat) (S : Nat → Prop) (F : Fs) (s : ByteArray) (m : Nat) (w : World) (hF : RAt w g S F) (hL : Lim m F) (hm : m < 1073741824) (hs : s.size ≤ 9223372036854775807) :
    Calls Tryz.prog 30 #[.pointer (some ⟨g, 0, none⟩), .string s] w fun e w' => e = .returned (.int .i64 (syncF F s).2) ∧ StepV RAt w w' g S (syncF F s).1 := by
  have CA := hide (rcall_any g S F m w hF hL (by omega))
  have LC := hide hL.call
  have HG := hide hF.own
  rcases hq : callF F with ⟨G, o⟩
  rw [hq] at CA LC
  dsimp only at CA LC
  cases o with
  | some e1 =>
    rw [show callE F = e1 by unfold callE; rw [hq]; rfl, show callB F = true by unfold callB; rw [hq]; rfl] at CA
    have HP : Hid (∀ u, RAt u g S G → Ch (fun k => k = g) w u → (Ending.returned (.int .i64 e1) = .returned (.int .i64 (syncF F s).2) ∧ StepV RAt w u g S (syncF F s).1)) := fun u hu hc => by
      unfold syncF
      rw [hq]
      exact ⟨rfl, stepV_same hu hc HG.out⟩
    clear hq hF hL
    go_enter Tryz.func30, Tryz.ntmps30
    go_wp2_with fail
    with_reducible refine CA.out.mono ?_
    rintro e u1 ⟨rfl, h1, k1⟩
    have H1 := hide (HP.out _ h1 k1)
    clear h1 k1 CA HP
    go_wp2
    go_ret
    exact H1.out
  | none =>
    rw [show callE F = 0 by unfold callE; rw [hq]; rfl, show callB F = false by unfold callB; rw [hq]; rfl] at CA
    have HP : Hid (∀ (x : Fs × Int) (u : World), syncF F s = x → StepV RAt w u g S x.1 → (Ending.returned (.int .i64 x.2) = .returned (.int .i64 (syncF F s).2) ∧ StepV RAt w u g S (syncF F s).1)) := fun x u e hu => by
      rw [e]
      exact ⟨rfl, hu⟩
    have HC : Hid (∀ (u1 u : World) (X : Fs), Ch (fun k => k = g) w u1 → StepV RAt u1 u g S X → StepV RAt w u g S X) := fun u1 u X k q => StepV.after (k.more (fun j _ e => e ▸ HG.out)) q
    have M1 := hide (fun u => rmay_any s u hs)
    have FIx := hide (fun u hu => rfile_any g S G s (m + 1) u hu LC.out (by omega))
    cases hm1 : mayN s with
    | false =>
      have HX := hide (HP.out (G, 1))
      have HE : Hid (syncF F s = (G, 1)) := by show _ = _; unfold syncF; rw [hq]; dsimp only; rw [if_pos hm1]
      clear hq hF hL
      go_enter Tryz.func30, Tryz.ntmps30
      go_wp2_with fail
      with_reducible refine CA.out.mono ?_
      rintro e u1 ⟨rfl, h1, k1⟩
      have H1 := hide (HX.out _ HE.out (HC.out _ _ _ k1 (stepV_below h1 (Below.refl _ _))))
      clear h1 k1 CA HX HE HP HC FIx
      go_wp2_with fail
      with_reducible refine (M1.out _).mono ?_
      rintro e u ⟨rfl, hu⟩
      rw [hu, hm1]
      clear hu
      go_wp2
      go_ret
      exact H1.out
    | true =>
      cases hf : fileF G s with
      | none =>
        rw [show fileI G s = -1 by unfold fileI; rw [hf]] at FIx
        have HX := hide (HP.out (G, 3))
        have HE : Hid (syncF F s = (G, 3)) := by show _ = _; unfold syncF; rw [hq]; dsimp only; rw [if_neg (by rw [hm1]; simp), hf]
        clear hq hF hL
        go_enter Tryz.func30, Tryz.ntmps30
        go_wp2_with fail
        with_reducible refine CA.out.mono ?_
        rintro e u1 ⟨rfl, h1, k1⟩
        have FI := hide (FIx.out u1 h1)
        have H1 := hide h1
        have K1 := hide k1
        clear h1 k1 CA FIx
        go_wp2_with fail
        with_reducible refine (M1.out _).mono ?_
        rintro e u ⟨rfl, hu⟩
        rw [hu, hm1]
        clear hu
        go_wp2_with fail
        with_reducible refine FI.out.mono ?_
        rintro e u2 ⟨rfl, b2⟩
        have H2 := hide (HX.out _ HE.out (HC.out _ _ _ K1.out (stepV_below (H1.out.below b2) b2)))
        clear b2 FI H1 K1 HX HE HP HC
        go_wp2
        go_ret
        exact H2.out
      | some k =>
        rw [show fileI G s = (k : Int) by unfold fileI; rw [hf]] at FIx
        have q0 : ¬ (k : Int) < 0 := by omega
        have HX := hide (HP.out ({ G with files := G.files.set k ⟨bytF (atF G k), []⟩ }, 0))
        have HE : Hid (syncF F s = ({ G with files := G.files.set k ⟨bytF (atF G k), []⟩ }, 0)) := by show _ = _; unfold syncF; rw [hq]; dsimp only; rw [if_neg (by rw [hm1]; simp), hf]
        clear hq hF hL
        go_enter Tryz.func30, Tryz.ntmps30
        go_wp2_with fail
        with_reducible refine CA.out.mono ?_
        rintro e u1 ⟨rfl, h1, k1⟩
        have FI := hide (FIx.out u1 h1)
        have H1 := hide h1
        have K1 := hide k1
        clear h1 k1 CA FIx
        go_wp2_with fail
        with_reducible refine (M1.out _).mono ?_
        rintro e u ⟨rfl, hu⟩
        rw [hu, hm1]
        clear hu
        go_wp2_with fail
        with_reducible refine FI.out.mono ?_
        rintro e v ⟨rfl, b2⟩
        have K3 := hide (K1.out.trans ((Ch.of_below b2).more (fun _ _ h => h.elim)))
        obtain ⟨GV0, af, cf, as', cs, at', ct, hs', B0⟩ := H1.out.below b2
        have hkG : Hid (k < G.files.length) := GV0.file hf
        obtain ⟨gf, h1, h2, rfl, hcf, hh, e0, e1, hx⟩ := B0.fileAt hkG.out
        obtain ⟨hu2, BY0⟩ := rfull_any (m + 1) (by omega) hx (GV0.cuts _ (atF_mem hkG.out)) (LC.out.each _ (atF_mem hkG.out))
        obtain ⟨a1, n1, c1⟩ := h1
        obtain ⟨a2, n2, c2⟩ := h2
        dsimp only at e0 e1 hu2 BY0
        have BY := hide BY0
        have RV := hide B0
        have GV := hide GV0
        have HH := hide hh
        have hn2 : n2 ≤ m + 1 := by have := (LC.out.each _ (atF_mem hkG.out)).2; omega
        have CF : Hid (CellsT v gf 83) := (OwnG.cellsT B0.files gf rfl).1
        have CG : Hid (CellsT v g 32) := B0.cellsT
        obtain ⟨c0, -⟩ := B0.cells
        obtain ⟨NF, hNF⟩ : ∃ NF, G.files.length = NF := ⟨_, rfl⟩
        rw [hNF] at c0 hcf
        have hkN : k < NF := by have := hkG.out; omega
        have hNb : NF ≤ m + 1 := by have := LC.out.files; omega
        have k0 : (0 : Int) ≤ (k : Int) := by omega
        have k1' : (k : Int) < (NF : Int) := by omega
        clear b2 FI H1 K1 HP HC GV0 B0 hh hx hNF hu2 BY0 hf
        go_upto_region 9 with fail
        refine wp_region_held_drew (S := fun u => u.cell? ⟨g, 0, none⟩ = some (.slice (some ⟨gf, 0, none⟩) NF cf)) (by kernel_rfl) c0 (fun hHeld => ?_)
        refine held_take (i := 0) (d := (some 23)) (v := ?_) rfl rfl (by kernel_rfl) (by kernel_rfl) (by kernel_rfl) (fun _ _ _ h => h) (Or.inl ⟨by rfl, ?_⟩) (by first | assumption | rfl | trivial) ?_
        rotate_left 1
        · (intro w hSw; (try dsimp only at hSw); (try subst hSw); go_simp; try with_reducible rfl)
        simp only [Act.put, List.setIfInBounds_toArray, List.set_cons_zero, List.set_cons_succ]
        refine held_take (i := 1) (d := (some 24)) (v := ?_) rfl rfl (by kernel_rfl) (by kernel_rfl) (by kernel_rfl) (fun _ _ _ h => h) (Or.inl ⟨by rfl, ?_⟩) (by first | assumption | rfl | trivial) ?_
        rotate_left 1
        · (intro w hSw; (try dsimp only at hSw); (try subst hSw); go_simp; try with_reducible rfl)
        simp only [Act.put, List.setIfInBounds_toArray, List.set_cons_zero, List.set_cons_succ]
        refine held_take (i := 2) (d := (some 25)) (v := ?_) rfl rfl (by kernel_rfl) (by kernel_rfl) (by kernel_rfl) (fun _ _ _ h => h) (Or.inl ⟨by rfl, ?_⟩) (by first | assumption | rfl | trivial) ?_
        rotate_left 1
        · (intro w hSw; (try dsimp only at hSw); (try subst hSw); go_simp; try with_reducible rfl)
        simp only [Act.put, List.setIfInBounds_toArray, List.set_cons_zero, List.set_cons_succ]
        refine held_take (i := 3) (d := (some 26)) (v := ?_) rfl rfl (by kernel_rfl) (by kernel_rfl) (by kernel_rfl) (fun _ _ _ h => h) (Or.inl ⟨by rfl, ?_⟩) (by first | assumption | rfl | trivial) ?_
        rotate_left 1
        · (intro w hSw; (try dsimp only at hSw); (try subst hSw); go_simp; try with_reducible rfl)
        simp only [Act.put, List.setIfInBounds_toArray, List.set_cons_zero, List.set_cons_succ]
        refine held_take (i := 4) (d := (some 27)) (v := ?_) rfl rfl (by kernel_rfl) (by kernel_rfl) (by kernel_rfl) (fun _ _ _ h => h) (Or.inl ⟨by rfl, ?_⟩) (by first | assumption | rfl | trivial) ?_
        rotate_left 1
        · (intro w hSw; (try dsimp only at hSw); (try subst hSw); go_simp; try with_reducible rfl)
        simp only [Act.put, List.setIfInBounds_toArray, List.set_cons_zero, List.set_cons_succ]
        refine held_take (i := 5) (d := (some 28)) (v := ?_) rfl rfl (by kernel_rfl) (by kernel_rfl) (by kernel_rfl) (fun _ _ _ h => h) (Or.inl ⟨by rfl, ?_⟩) (by first | assumption | rfl | trivial) ?_
        rotate_left 1
        · (intro w hSw; (try dsimp only at hSw); (try subst hSw); go_simp; try with_reducible rfl)
        simp only [Act.put, List.setIfInBounds_toArray, List.set_cons_zero, List.set_cons_succ]
        refine held_take (i := 6) (d := (some 29)) (v := ?_) rfl rfl (by kernel_rfl) (by kernel_rfl) (by kernel_rfl) (fun _ _ _ h => h) (Or.inl ⟨by rfl, ?_⟩) (by first | assumption | rfl | trivial) ?_
        rotate_left 1
        · (intro w hSw; (try dsimp only at hSw); (try subst hSw); go_simp; try with_reducible rfl)
        simp only [Act.put, List.setIfInBounds_toArray, List.set_cons_zero, List.set_cons_succ]
        refine held_take (i := 7) (d := (some 30)) (v := ?_) rfl rfl (by kernel_rfl) (by kernel_rfl) (by kernel_rfl) (fun _ _ _ h => h) (Or.inl ⟨by rfl, ?_⟩) (by first | assumption | rfl | trivial) ?_
        rotate_left 1
        · (intro w hSw; (try dsimp only at hSw); (try subst hSw); go_simp; try with_reducible rfl)
        simp only [Act.put, List.setIfInBounds_toArray, List.set_cons_zero, List.set_cons_succ]
        refine held_take (i := 8) (d := (some 31)) (v := ?_) rfl rfl (by kernel_rfl) (by kernel_rfl) (by kernel_rfl) (fun _ _ _ h => h) (Or.inl ⟨by rfl, ?_⟩) (by first | assumption | rfl | trivial) ?_
        rotate_left 1
        · (intro w hSw; (try dsimp only at hSw); (try subst hSw); go_simp; try with_reducible rfl)
        simp only [Act.put, List.setIfInBounds_toArray, List.set_cons_zero, List.set_cons_succ]
        refine held_take (i := 9) (d := (some 32)) (v := ?_) rfl rfl (by kernel_rfl) (by kernel_rfl) (by kernel_rfl) (fun _ _ _ h => h) (Or.inl ⟨by rfl, ?_⟩) (by first | assumption | rfl | trivial) ?_
        rotate_left 1
        · (intro w hSw; (try dsimp only at hSw); (try subst hSw); go_simp; try with_reducible rfl)
        simp only [Act.put, List.setIfInBounds_toArray, List.set_cons_zero, List.set_cons_succ]
        refine held_take (i := 10) (d := (some 33)) (v := ?_) rfl rfl (by kernel_rfl) (by kernel_rfl) (by kernel_rfl) (fun _ _ _ h => h) (Or.inl ⟨by rfl, ?_⟩) (by first | assumption | rfl | trivial) ?_
        rotate_left 1
        · (intro w hSw; (try dsimp only at hSw); (try subst hSw); go_simp; try with_reducible rfl)
        simp only [Act.put, List.setIfInBounds_toArray, List.set_cons_zero, List.set_cons_succ]
        refine held_take (i := 12) (d := (some 35)) (v := ?_) rfl rfl (by kernel_rfl) (by kernel_rfl) (by kernel_rfl) (fun _ _ _ h => h) (Or.inl ⟨by rfl, ?_⟩) (by first | assumption | rfl | trivial) ?_
        rotate_left 1
        · (intro w hSw; (try dsimp only at hSw); (try subst hSw); go_simp; try with_reducible rfl)
        simp only [Act.put, List.setIfInBounds_toArray, List.set_cons_zero, List.set_cons_succ]
        refine held_take (i := 13) (d := (some 36)) (v := ?_) rfl rfl (by kernel_rfl) (by kernel_rfl) (by kernel_rfl) (fun _ _ _ h => h) (Or.inl ⟨by rfl, ?_⟩) (by first | assumption | rfl | trivial) ?_
        rotate_left 1
        · (intro w hSw; (try dsimp only at hSw); (try subst hSw); go_simp; try with_reducible rfl)
        simp only [Act.put, List.setIfInBounds_toArray, List.set_cons_zero, List.set_cons_succ]
        refine held_take (i := 14) (d := (some 37)) (v := ?_) rfl rfl (by kernel_rfl) (by kernel_rfl) (by kernel_rfl) (fun _ _ _ h => h) (Or.inl ⟨by rfl, ?_⟩) (by first | assumption | rfl | trivial) ?_
        rotate_left 1
        · (intro w hSw; (try dsimp only at hSw); (try subst hSw); go_simp; try with_reducible rfl)
        simp only [Act.put, List.setIfInBounds_toArray, List.set_cons_zero, List.set_cons_succ]
        refine held_take (i := 15) (d := (some 38)) (v := ?_) rfl rfl (by kernel_rfl) (by kernel_rfl) (by kernel_rfl) (fun _ _ _ h => h) (Or.inl ⟨by rfl, ?_⟩) (by first | assumption | rfl | trivial) ?_
        rotate_left 1
        · (intro w hSw; (try dsimp only at hSw); (try subst hSw); go_simp; try with_reducible rfl)
        simp only [Act.put, List.setIfInBounds_toArray, List.set_cons_zero, List.set_cons_succ]
        refine held_take (i := 16) (d := (some 39)) (v := ?_) rfl rfl (by kernel_rfl) (by kernel_rfl) (by kernel_rfl) (fun _ _ _ h => h) (Or.inl ⟨by rfl, ?_⟩) (by first | assumption | rfl | trivial) ?_
        rotate_left 1
        · (intro w hSw; (try dsimp only at hSw); (try subst hSw); go_simp; try with_reducible rfl)
        simp only [Act.put, List.setIfInBounds_toArray, List.set_cons_zero, List.set_cons_succ]
        refine held_take (i := 17) (d := (some 40)) (v := ?_) rfl rfl (by kernel_rfl) (by kernel_rfl) (by kernel_rfl) (fun _ _ _ h => h) (Or.inl ⟨by rfl, ?_⟩) (by first | assumption | rfl | trivial) ?_
        rotate_left 1
        · (intro w hSw; (try dsimp only at hSw); (try subst hSw); go_simp; try with_reducible rfl)
        simp only [Act.put, List.setIfInBounds_toArray, List.set_cons_zero, List.set_cons_succ]
        refine held_take (i := 18) (d := (some 41)) (v := ?_) rfl rfl (by kernel_rfl) (by kernel_rfl) (by kernel_rfl) (fun _ _ _ h => h) (Or.inl ⟨by rfl, ?_⟩) (by first | assumption | rfl | trivial) ?_
        rotate_left 1
        · (intro w hSw; (try dsimp only at hSw); (try subst hSw); go_simp; try with_reducible rfl)
        simp only [Act.put, List.setIfInBounds_toArray, List.set_cons_zero, List.set_cons_succ]
        refine held_pair (i := 11) (j := 19) (by kernel_rfl) rfl (by rfl) rfl (by rfl) (fun K1 hK1 => ?_) (fun K1 hK1 => ?_)
        · go_simp
          refine hK1.out _ _ c0 ?_
          clear hK1
          refine held_next (i := 19) (by kernel_rfl) rfl (by rfl) (fun K1 hK1 => ?_)
          go_simp
          refine hK1.out _ _ c0 ?_
          clear hK1
          refine held_take (i := 20) (d := (some 43)) (v := ?_) rfl rfl (by kernel_rfl) (by kernel_rfl) (by kernel_rfl) (fun _ _ _ h => h) (Or.inl ⟨by rfl, ?_⟩) (by first | assumption | rfl | trivial) ?_
          rotate_left 1
          · (intro w hSw; (try dsimp only at hSw); (try subst hSw); go_simp; try with_reducible rfl)
          simp only [Act.put, List.setIfInBounds_toArray, List.set_cons_zero, List.set_cons_succ]
          refine held_next (i := 21) (by kernel_rfl) rfl (by rfl) (fun K1 hK1 => ?_)
          go_simp
          with_reducible refine (BY.out _ (Below.refl _ _).drew).mono ?_
          rintro e u4 ⟨aA, mA, cA, rfl, hmA, oA, bA⟩
          have B4 : Hid (Below v.heap.size v u4) := bel_to (Below.refl _ _).drew (Nat.le_refl _) bA
          have v1 : u4.cell? ⟨g, 0, none⟩ = some (.slice (some ⟨gf, 0, none⟩) NF cf) := (B4.out.cell (p := ⟨g, 0, none⟩) (World.block_lt_of_cell? v _ c0)).trans c0
          have y0 : u4.cell? ⟨gf, k * 2, none⟩ = some (.slice a1 n1 c1) := (B4.out.cell (p := ⟨gf, k * 2, none⟩) (World.block_lt_of_cell? v _ e0)).trans e0
          have y1 : u4.cell? ⟨gf, k * 2 + 1, none⟩ = some (.slice a2 n2 c2) := (B4.out.cell (p := ⟨gf, k * 2 + 1, none⟩) (World.block_lt_of_cell? v _ e1)).trans e1
          have y2 : ∀ i, u4.frozen? ⟨gf, i, none⟩ = false := fun i => (B4.out.frozen (p := ⟨gf, i, none⟩) CF.out.lt).trans (World.ownsRow.frozenAt RV.out.files i)
          have y20 := y2 (k * 2)
          have y21 := y2 (k * 2 + 1)
          have GRX : Hid (StepV RAt v ((u4.setCell ⟨gf, k * 2, none⟩ (.slice aA mA cA)).setCell ⟨gf, k * 2 + 1, none⟩ (.slice none 0 0)) g S { G with files := G.files.set k ⟨bytF (atF G k), []⟩ }) := file_put (x := (aA, mA, cA)) RV.out GV.out hkG.out HH.out B4.out hmA oA
          have V2 : Hid (((u4.setCell ⟨gf, k * 2, none⟩ (.slice aA mA cA)).setCell ⟨gf, k * 2 + 1, none⟩ (.slice none 0 0)).cell? ⟨g, 0, none⟩ = some (.slice (some ⟨gf, 0, none⟩) NF cf)) :=
            (World.cell?_setCell_other _ ⟨gf, k * 2 + 1, none⟩ ⟨g, 0, none⟩ _ (fun e => CF.out.ne CG.out (by decide) (by simpa using congrArg Addr.block e))).trans ((World.cell?_setCell_other u4 ⟨gf, k * 2, none⟩ ⟨g, 0, none⟩ _ (fun e => CF.out.ne CG.out (by decide) (by simpa using congrArg Addr.block e))).trans v1)
          have H2 := hide (HX.out _ HE.out (StepV.after (K3.out.more (fun j _ e => e ▸ HG.out)) GRX.out))
          clear oA bA hmA GRX BY y2
          go_wp2_with fail
          refine hK1.out _ _ v1 ?_
          clear hK1
          refine held_take (i := 22) (d := (some 45)) (v := ?_) rfl rfl (by kernel_rfl) (by kernel_rfl) (by kernel_rfl) (fun _ _ _ h => h) (Or.inl ⟨by rfl, ?_⟩) (by first | assumption | rfl | trivial) ?_
          rotate_left 1
          · (intro w hSw; (try dsimp only at hSw); (try subst hSw); go_simp; try with_reducible rfl)
          simp only [Act.put, List.setIfInBounds_toArray, List.set_cons_zero, List.set_cons_succ]
          refine held_take (i := 23) (d := (some 46)) (v := ?_) rfl rfl (by kernel_rfl) (by kernel_rfl) (by kernel_rfl) (fun _ _ _ h => h) (Or.inl ⟨by rfl, ?_⟩) (by first | assumption | rfl | trivial) ?_
          rotate_left 1
          · (intro w hSw; (try dsimp only at hSw); (try subst hSw); go_simp; try with_reducible rfl)
          simp only [Act.put, List.setIfInBounds_toArray, List.set_cons_zero, List.set_cons_succ]
          refine held_next (i := 24) (by kernel_rfl) rfl (by rfl) (fun K1 hK1 => ?_)
          go_simp
          refine hK1.out _ _ V2.out ?_
          clear hK1 hHeld y0 y1 v1 V2 y20 y21
          refine wpAnyH_done (by kernel_rfl) ?_ _
          go_wp2
          go_ret
          exact H2.out
        · go_simp
          refine hK1.out _ _ c0 ?_
          clear hK1
          refine held_take (i := 20) (d := (some 43)) (v := ?_) rfl rfl (by kernel_rfl) (by kernel_rfl) (by kernel_rfl) (fun _ _ _ h => h) (Or.inl ⟨by rfl, ?_⟩) (by first | assumption | rfl | trivial) ?_
          rotate_left 1
          · (intro w hSw; (try dsimp only at hSw); (try subst hSw); go_simp; try with_reducible rfl)
          simp only [Act.put, List.setIfInBounds_toArray, List.set_cons_zero, List.set_cons_succ]
          refine held_next (i := 11) (by kernel_rfl) rfl (by rfl) (fun K1 hK1 => ?_)
          go_simp
          refine hK1.out _ _ c0 ?_
          clear hK1
          refine held_next (i := 21) (by kernel_rfl) rfl (by rfl) (fun K1 hK1 => ?_)
          go_simp
          with_reducible refine (BY.out _ (Below.refl _ _).drew).mono ?_
          rintro e u4 ⟨aA, mA, cA, rfl, hmA, oA, bA⟩
          have B4 : Hid (Below v.heap.size v u4) := bel_to (Below.refl _ _).drew (Nat.le_refl _) bA
          have v1 : u4.cell? ⟨g, 0, none⟩ = some (.slice (some ⟨gf, 0, none⟩) NF cf) := (B4.out.cell (p := ⟨g, 0, none⟩) (World.block_lt_of_cell? v _ c0)).trans c0
          have y0 : u4.cell? ⟨gf, k * 2, none⟩ = some (.slice a1 n1 c1) := (B4.out.cell (p := ⟨gf, k * 2, none⟩) (World.block_lt_of_cell? v _ e0)).trans e0
          have y1 : u4.cell? ⟨gf, k * 2 + 1, none⟩ = some (.slice a2 n2 c2) := (B4.out.cell (p := ⟨gf, k * 2 + 1, none⟩) (World.block_lt_of_cell? v _ e1)).trans e1
          have y2 : ∀ i, u4.frozen? ⟨gf, i, none⟩ = false := fun i => (B4.out.frozen (p := ⟨gf, i, none⟩) CF.out.lt).trans (World.ownsRow.frozenAt RV.out.files i)
          have y20 := y2 (k * 2)
          have y21 := y2 (k * 2 + 1)
          have GRX : Hid (StepV RAt v ((u4.setCell ⟨gf, k * 2, none⟩ (.slice aA mA cA)).setCell ⟨gf, k * 2 + 1, none⟩ (.slice none 0 0)) g S { G with files := G.files.set k ⟨bytF (atF G k), []⟩ }) := file_put (x := (aA, mA, cA)) RV.out GV.out hkG.out HH.out B4.out hmA oA
          have V2 : Hid (((u4.setCell ⟨gf, k * 2, none⟩ (.slice aA mA cA)).setCell ⟨gf, k * 2 + 1, none⟩ (.slice none 0 0)).cell? ⟨g, 0, none⟩ = some (.slice (some ⟨gf, 0, none⟩) NF cf)) :=
            (World.cell?_setCell_other _ ⟨gf, k * 2 + 1, none⟩ ⟨g, 0, none⟩ _ (fun e => CF.out.ne CG.out (by decide) (by simpa using congrArg Addr.block e))).trans ((World.cell?_setCell_other u4 ⟨gf, k * 2, none⟩ ⟨g, 0, none⟩ _ (fun e => CF.out.ne CG.out (by decide) (by simpa using congrArg Addr.block e))).trans v1)
          have H2 := hide (HX.out _ HE.out (StepV.after (K3.out.more (fun j _ e => e ▸ HG.out)) GRX.out))
          clear oA bA hmA GRX BY y2
          go_wp2_with fail
          refine hK1.out _ _ v1 ?_
          clear hK1
          refine held_take (i := 22) (d := (some 45)) (v := ?_) rfl rfl (by kernel_rfl) (by kernel_rfl) (by kernel_rfl) (fun _ _ _ h => h) (Or.inl ⟨by rfl, ?_⟩) (by first | assumption | rfl | trivial) ?_
          rotate_left 1
          · (intro w hSw; (try dsimp only at hSw); (try subst hSw); go_simp; try with_reducible rfl)
          simp only [Act.put, List.setIfInBounds_toArray, List.set_cons_zero, List.set_cons_succ]
          refine held_take (i := 23) (d := (some 46)) (v := ?_) rfl rfl (by kernel_rfl) (by kernel_rfl) (by kernel_rfl) (fun _ _ _ h => h) (Or.inl ⟨by rfl, ?_⟩) (by first | assumption | rfl | trivial) ?_
          rotate_left 1
          · (intro w hSw; (try dsimp only at hSw); (try subst hSw); go_simp; try with_reducible rfl)
          simp only [Act.put, List.setIfInBounds_toArray, List.set_cons_zero, List.set_cons_succ]
          refine held_next (i := 24) (by kernel_rfl) rfl (by rfl) (fun K1 hK1 => ?_)
          go_simp
          refine hK1.out _ _ V2.out ?_
          clear hK1 hHeld y0 y1 v1 V2 y20 y21
          refine wpAnyH_done (by kernel_rfl) ?_ _
          go_wp2
          go_ret
          exact H2.out
end Go.Proofs.YthlkmjaflomflaaGreat
