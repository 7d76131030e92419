/-
  The document's turns: what turned tells: a contract, for every world.
  Conditions: as each theorem says.
-/
import Derived.Test.YthlkmjaflomflaaGreatVfsXc
import Derived.Test.YthlkmjaflomflaaGreatVfsXb
import Derived.Deep.RegionHeld3
import Derived.Deep.Cut
import Derived.BigQuiet
import Derived.Deep.QuietTactic
namespace Go.Proofs.YthlkmjaflomflaaGreat
open Go.RowKit
set_option maxRecDepth 20000
set_option linter.unusedVariables false

abbrev OwnT (w : World) (base : Nat) (a : Option Addr) (n cap : Nat) (l : List Tn) : Prop := OwnG 109 4 tnV w base a n cap l
theorem OwnT.at' {w : World} {base n cap : Nat} {a : Option Addr} {l : List Tn} (h : OwnT w base a n cap l) {i : Nat} {t : Tn} (hi : l[i]? = some t) : ∃ g, a = some ⟨g, 0, none⟩ ∧ i < n ∧ n ≤ cap ∧ w.cell? ⟨g, i * 4, none⟩ = some (.int .i64 (t.k : Int)) ∧ w.cell? ⟨g, i * 4 + 1, none⟩ = some (.string t.nm) ∧ w.cell? ⟨g, i * 4 + 2, none⟩ = some (.string t.to) ∧ w.cell? ⟨g, i * 4 + 3, none⟩ = some (.int .i64 (t.f : Int)) := by
  obtain ⟨g, h1, h2, h3, h4⟩ := OwnG.at tnV_len (by decide) h hi
  exact ⟨g, h1, h2, h3, h4 0 _ rfl, h4 1 _ rfl, h4 2 _ rfl, h4 3 _ rfl⟩
theorem dnV_one1 (x : Dn) : ∀ u ∈ dnV x, u.oneCell' = true := by rw [← flat_one dnV x]; exact dnV_one _

set_option maxHeartbeats 4000000 in
theorem rturned_any (base : Nat) (a : Option Addr) (n c : Nat) (l : List Dn) (at_ : Option Addr) (nt ct : Nat) (ts : List Tn) (N : Int) (w : World) (hr : OwnD w base a n c l) (ht : OwnT w base at_ nt ct ts) (hn : n ≤ 549755813888) (hnt : nt ≤ 549755813888) (hk : ∀ t ∈ ts, t.k ≤ 2) (hN : (Lit.int .i64 N).wf = true) :
    Calls Tryz.prog 69 #[.slice a n c, .slice at_ nt ct, .int .i64 N] w fun e w' => ∃ a' m c', e = .returned (.slice a' m c') ∧ m = (turnsD l (ts.take N.toNat)).length ∧ OwnD w' w.heap.size a' m c' (turnsD l (ts.take N.toNat)) ∧ Below w.heap.size w w' := by
  obtain ⟨i1, hi1, hz10, hz11, hz12⟩ := info_parts Tryz.infoD16
  have HR := hide hr
  have HT := hide ht
  have HL := hide (OwnG.len dnV_len (by decide) hr)
  have HLT := hide (OwnG.len tnV_len (by decide) ht)
  have HK := hide hk
  obtain ⟨hN0, hN1⟩ := i64_of_wf hN
  have CA := hide (OwnG.cellsAll hr)
  have CB := hide (OwnG.capped hr).2
  clear hr ht hk hN
  go_enter Tryz.func69, Tryz.ntmps69
  go_wp2_with (at_builtin; refine wpList_app_g dnV_len (by decide) dnV_one1 _ rfl _ _ 28 rfl w.heap.size i1 (.agg #[.string .empty, .int .i64 0]) 24 Tryz.underlying28 hi1 hz10 hz11 hz12 rfl none 0 0 [] rfl (ownG_nil _ _) a n c l rfl HL.out CA.out CB.out (by omega) (by omega) (Nat.le_refl _) ?_)
  intro a1 c1 w1 o1 g1
  have O1 := hide o1
  have B1 : Hid (Below w.heap.size w w1) := (Ch.grown g1).below (Nat.le_refl _) (fun g hg hh => by simp [Value.ownBlock] at hh)
  clear o1 g1 CA CB HR
  go_wp2
  go_loopw [7, 0] (fun i x wr => ∃ (k m : Nat) (a' : Option Addr) (c' : Nat), k ≤ nt ∧ (k = 0 ∨ (k : Int) ≤ N) ∧ i = .int .i64 k ∧ x = .slice a' m c' ∧ m ≤ n + k ∧ Hid (OwnD wr w.heap.size a' m c' (turnsD l (ts.take k))) ∧ Hid (Below w.heap.size w wr)) (fun i _ _ => nt - (intOf i).toNat)
  case atStart => exact ⟨0, n, a1, c1, by omega, Or.inl rfl, rfl, rfl, by omega, O1.out, B1⟩
  case round =>
    obtain ⟨k, m, a', c', hk, hkN, rfl, rfl, hm, HO, HB⟩ := hrel
    obtain ⟨v, rfl⟩ : ∃ v, v = wr := ⟨wr, rfl⟩
    by_cases hlt : k < nt
    · by_cases hlN : (k : Int) < N
      · obtain ⟨t, htk⟩ : ∃ t, ts[k]? = some t := ⟨_, List.getElem?_eq_getElem (by rw [HLT.out]; exact hlt)⟩
        obtain ⟨g, rfl, -, hc, b0, b1, b2, b3⟩ := OwnT.at' (OwnG.below HT.out HB.out (Nat.le_refl _)) htk
        have hkt := HK.out t (List.mem_of_getElem? htk)
        have j1 : (0 : Int) ≤ (k : Int) := by omega
        have j2 : (k : Int) < (nt : Int) := by omega
        obtain ⟨tk, nm, to, tf⟩ := t
        dsimp only at b0 b1 b2 b3 hkt
        have HTK := hide (turnsD_take (l := l) htk)
        obtain ⟨z, hz⟩ : ∃ z : Int, (tk : Int) = z := ⟨_, rfl⟩
        rw [hz] at b0
        obtain ⟨cur, hcur⟩ : ∃ cur, Hid (turnsD l (ts.take k) = cur) := ⟨_, rfl⟩
        rw [hcur.out] at HO HTK
        have HCU := hide (OwnG.len dnV_len (by decide) HO.out)
        obtain ⟨V, hV⟩ : ∃ V, Hid (v.alloc (.cells #[.int .i64 z, .string nm, .string to, .int .i64 (tf : Int)] 109) = V) := ⟨_, rfl⟩
        have BV : Hid (Below v.heap.size v V) := by rw [← hV.out]; exact (Below.refl _ _).alloc (Nat.le_refl _) _
        have SV : Hid (w.heap.size ≤ V.heap.size) := Nat.le_trans HB.out.size BV.out.size
        have HBV : Hid (Below w.heap.size w V) := bel_to HB.out (Nat.le_refl _) BV.out
        have CV : Hid (V.heap[v.heap.size]? = some (.cells #[.int .i64 z, .string nm, .string to, .int .i64 (tf : Int)] 109 (0, 0))) := by rw [← hV.out]; exact heap_alloc_new v _
        have GV : Hid (v.heap.size < V.heap.size) := (Array.getElem?_eq_some_iff.1 CV.out).1
        have KS : Hid (∀ u, Below V.heap.size V u → u.cell? ⟨v.heap.size, 1, none⟩ = some (.string nm) ∧ u.cell? ⟨v.heap.size, 2, none⟩ = some (.string to) ∧ u.cell? ⟨v.heap.size, 3, none⟩ = some (.int .i64 (tf : Int))) := fun u hu => by
          have e := (hu.block v.heap.size GV.out).trans CV.out
          exact ⟨by rw [cell_of_row u v.heap.size 1 _ _ (0, 0) e]; rfl, by rw [cell_of_row u v.heap.size 2 _ _ (0, 0) e]; rfl, by rw [cell_of_row u v.heap.size 3 _ _ (0, 0) e]; rfl⟩
        have d0 : V.cell? ⟨v.heap.size, 0, none⟩ = some (.int .i64 z) := by rw [cell_of_row V v.heap.size 0 _ _ (0, 0) CV.out]; rfl
        obtain ⟨d1, d2, d3⟩ := KS.out V (Below.refl _ _)
        have OV : Hid (OwnD V w.heap.size a' m c' cur) := OwnG.below HO.out BV.out (Nat.le_refl _)
        have WO : Hid (∀ u, Below V.heap.size V u → Calls Tryz.prog 80 #[.slice a' m c', .string nm] u fun e w' => ∃ a'' m'' c'', e = .returned (.slice a'' m'' c'') ∧ m'' = (wout cur nm).length ∧ OwnD w' u.heap.size a'' m'' c'' (wout cur nm) ∧ Below u.heap.size u w') := fun u hu => rwithout_any w.heap.size a' m c' cur nm u (OwnG.below OV.out hu (Nat.le_refl _)) (by omega)
        go_upto_region 6 with fail
        rw [hV.out]
        clear b0 b1 b2 b3 hV htk
        have hzz : z = 0 ∨ z = 1 ∨ z = 2 := by omega
        rcases hzz with rfl | rfl | rfl
        · have HTU : Hid (turnsD l (ts.take (k + 1)) = wout cur nm ++ [⟨nm, tf⟩]) := by
            show _ = _
            rw [HTK.out]
            unfold turnD
            rw [if_pos (show tk = 0 by omega)]
          clear hz
          go_upto_region 8 with fail
          refine wp_region_held_drew (S := fun u => u.cell? ⟨v.heap.size, 1, none⟩ = some (.string nm) ∧ u.cell? ⟨v.heap.size, 2, none⟩ = some (.string to) ∧ u.cell? ⟨v.heap.size, 3, none⟩ = some (.int .i64 (tf : Int))) (by kernel_rfl) ⟨d1, d2, d3⟩ (fun hHeld => ?_)
          refine held_take (i := 0) (d := (some 32)) (v := ?_) rfl rfl (by kernel_rfl) (by kernel_rfl) (by kernel_rfl) (fun _ _ _ h => h) (Or.inl ⟨by rfl, ?_⟩) (by first | assumption | rfl | trivial) ?_
          rotate_left 1
          · (intro w hSw; (try dsimp only at hSw); (try subst hSw); go_simp; try with_reducible rfl)
          simp only [Act.put, List.setIfInBounds_toArray, List.set_cons_zero, List.set_cons_succ]
          refine held_take (i := 1) (d := (some 33)) (v := ?_) rfl rfl (by kernel_rfl) (by kernel_rfl) (by kernel_rfl) (fun _ _ _ h => h) (Or.inl ⟨by rfl, ?_⟩) (by first | assumption | rfl | trivial) ?_
          rotate_left 1
          · (intro w hSw; (try dsimp only at hSw); (try subst hSw); go_simp; try with_reducible rfl)
          simp only [Act.put, List.setIfInBounds_toArray, List.set_cons_zero, List.set_cons_succ]
          refine held_take (i := 2) (d := (some 34)) (v := ?_) rfl rfl (by kernel_rfl) (by kernel_rfl) (by kernel_rfl) (fun _ _ _ h => h) (Or.inl ⟨by rfl, ?_⟩) (by first | assumption | rfl | trivial) ?_
          rotate_left 1
          · (intro w hSw; (try dsimp only at hSw); (try subst hSw); go_simp; try with_reducible rfl)
          simp only [Act.put, List.setIfInBounds_toArray, List.set_cons_zero, List.set_cons_succ]
          refine held_take (i := 4) (d := (some 36)) (v := ?_) rfl rfl (by kernel_rfl) (by kernel_rfl) (by kernel_rfl) (fun _ _ _ h => h) (Or.inl ⟨by rfl, ?_⟩) (by first | assumption | rfl | trivial) ?_
          rotate_left 1
          · (intro w hSw; (try dsimp only at hSw); (try subst hSw); go_simp; try with_reducible rfl)
          simp only [Act.put, List.setIfInBounds_toArray, List.set_cons_zero, List.set_cons_succ]
          refine held_take (i := 5) (d := (some 37)) (v := ?_) rfl rfl (by kernel_rfl) (by kernel_rfl) (by kernel_rfl) (fun _ _ _ h => h) (Or.inl ⟨by rfl, ?_⟩) (by first | assumption | rfl | trivial) ?_
          rotate_left 1
          · (intro w hSw; (try dsimp only at hSw); (try subst hSw); go_simp; try with_reducible rfl)
          simp only [Act.put, List.setIfInBounds_toArray, List.set_cons_zero, List.set_cons_succ]
          refine held_take (i := 6) (d := (some 38)) (v := ?_) rfl rfl (by kernel_rfl) (by kernel_rfl) (by kernel_rfl) (fun _ _ _ h => h) (Or.inl ⟨by rfl, ?_⟩) (by first | assumption | rfl | trivial) ?_
          rotate_left 1
          · (intro w hSw; (try dsimp only at hSw); (try subst hSw); go_simp; try with_reducible rfl)
          simp only [Act.put, List.setIfInBounds_toArray, List.set_cons_zero, List.set_cons_succ]
          refine held_take (i := 7) (d := (some 39)) (v := ?_) rfl rfl (by kernel_rfl) (by kernel_rfl) (by kernel_rfl) (fun _ _ _ h => h) (Or.inl ⟨by rfl, ?_⟩) (by first | assumption | rfl | trivial) ?_
          rotate_left 1
          · (intro w hSw; (try dsimp only at hSw); (try subst hSw); go_simp; try with_reducible rfl)
          simp only [Act.put, List.setIfInBounds_toArray, List.set_cons_zero, List.set_cons_succ]
          refine held_take (i := 8) (d := (some 40)) (v := ?_) rfl rfl (by kernel_rfl) (by kernel_rfl) (by kernel_rfl) (fun _ _ _ h => h) (Or.inl ⟨by rfl, ?_⟩) (by first | assumption | rfl | trivial) ?_
          rotate_left 1
          · (intro w hSw; (try dsimp only at hSw); (try subst hSw); go_simp; try with_reducible rfl)
          simp only [Act.put, List.setIfInBounds_toArray, List.set_cons_zero, List.set_cons_succ]
          refine held_pair (i := 3) (j := 9) (by kernel_rfl) rfl (by rfl) rfl (by rfl) (fun K1 hK1 => ?_) (fun K1 hK1 => ?_)
          · go_simp
            with_reducible refine (WO.out _ (Below.refl _ _).drew).mono ?_
            rintro e wA ⟨aA, mA, cA, rfl, hmA, oA, bA⟩
            have BA : Hid (Below V.heap.size V wA) := (Below.refl _ _).drew.trans bA
            have OA : Hid (OwnD wA V.heap.size aA mA cA (wout cur nm)) := oA
            have hmA2 : mA ≤ n + k := by have := wout_len cur nm; have := HCU.out; omega
            have SA := hide (KS.out _ BA.out)
            clear oA bA hmA
            go_wp2_with fail
            refine hK1.out _ _ SA.out ?_
            clear hK1
            refine held_next (i := 9) (by kernel_rfl) rfl (by rfl) (fun K1 hK1 => ?_)
            go_simp
            obtain ⟨wB, hwB⟩ : ∃ wB, Hid (wA.alloc (.cells #[.string nm, .int .i64 (tf : Int)] 80) = wB) := ⟨_, rfl⟩
            rw [hwB.out]
            have BB : Hid (Below V.heap.size V wB) := by rw [← hwB.out]; exact bel_al BA.out (Nat.le_refl _) _
            obtain ⟨gB, hgB⟩ : ∃ gB, Hid (wA.heap.size = gB) := ⟨_, rfl⟩
            have NB : Hid (∀ j u, (dnV ⟨nm, tf⟩)[j]? = some u → wB.cell? ((⟨gB, 0, none⟩ : Addr).add j) = some u) := by rw [← hwB.out, ← hgB.out]; exact dn_cells wA ⟨nm, tf⟩ _
            have OB : Hid (OwnD wB w.heap.size aA mA cA (wout cur nm)) := by rw [← hwB.out]; exact (OA.out.alloc _).mono SV.out
            have LO : Hid (∀ g, (Value.slice aA mA cA).ownBlock = some g → V.heap.size ≤ g) := fun g hg => (OA.out.cellsT g hg).2
            have SB := hide (KS.out _ BB.out)
            rw [hgB.out]
            refine hK1.out _ _ SB.out ?_
            clear hK1 hwB OA BA SA hgB
            refine held_next (i := 10) (by kernel_rfl) rfl (by rfl) (fun K1 hK1 => ?_)
            refine wp_append_lies _ (.tmp 35) (.tmp 41) 28 rfl w.heap.size 80 i1 (.agg #[.string .empty, .int .i64 0]) 2 24 Tryz.underlying28 hi1 hz10 hz11 hz12 rfl (by decide) (.slice aA mA cA) mA ((wout cur nm).flatMap dnV) rfl OB.out ⟨gB, 0, none⟩ 1 1 (dnV ⟨nm, tf⟩) rfl rfl NB.out (dnV_one1 _) (by omega) (by unfold maxLen; omega) (by omega) (by have := BB.out.size; have := SV.out; omega) _ rfl ?_
            intro gC cC wC oC grC atC ltC
            have HQ : Hid (OwnD wC w.heap.size (some ⟨gC, 0, none⟩) (mA + 1) cC ((wout cur nm) ++ [⟨nm, tf⟩])) := by
              show OwnG _ _ _ _ _ _ _ _ _
              unfold OwnG
              rw [List.flatMap_append, flat_one]
              exact oC
            have BC : Hid (Below V.heap.size V wC) := BB.out.trans ((Ch.grown grC).below (by have := BB.out.size; omega) (fun g hg hh => by have := LO.out g hh; omega))
            have SC := hide (KS.out _ BC.out)
            clear oC grC atC ltC
            go_simp
            refine hK1.out _ _ SC.out ?_
            clear hK1
            refine held_take (i := 11) (d := (some 0)) (v := ?_) rfl rfl (by kernel_rfl) (by kernel_rfl) (by kernel_rfl) (fun _ _ _ h => h) (Or.inl ⟨by rfl, ?_⟩) (by first | assumption | rfl | trivial) ?_
            rotate_left 1
            · (intro w hSw; (try dsimp only at hSw); (try subst hSw); go_simp; try with_reducible rfl)
            simp only [Act.put, List.setIfInBounds_toArray, List.set_cons_zero]
            clear hHeld
            refine wpAnyH_done (by kernel_rfl) ?_ _
            rw [← HTU.out] at HQ
            have B9 := hide (bel_to HBV.out (Nat.le_refl _) BC.out)
            clear d0 d1 d2 d3 BC SC SB
            go_wp2
            go_roundw
            case rel => exact ⟨k + 1, mA + 1, _, cC, by omega, Or.inr (by omega), by go_num, by rfl, by omega, HQ, B9⟩
            case measure => simp [intOf]; omega
          · go_simp
            obtain ⟨wA0, hwB⟩ : ∃ wB, Hid ((V.alloc (.cells #[.string nm, .int .i64 (tf : Int)] 80)).drew = wB) := ⟨_, rfl⟩
            rw [hwB.out]
            have BA : Hid (Below V.heap.size V wA0) := by rw [← hwB.out]; exact (bel_al (Below.refl _ _) (Nat.le_refl _) _).drew
            obtain ⟨gB, hgB⟩ : ∃ gB, Hid (V.heap.size = gB) := ⟨_, rfl⟩
            have NA : Hid (∀ j u, (dnV ⟨nm, tf⟩)[j]? = some u → wA0.cell? ((⟨gB, 0, none⟩ : Addr).add j) = some u) := by rw [← hwB.out, ← hgB.out]; exact dn_cells V ⟨nm, tf⟩ _
            have GL : Hid (gB < wA0.heap.size) := by rw [← hwB.out, ← hgB.out]; show _ < _; simp
            have SA := hide (KS.out _ BA.out)
            have WO2 := hide (WO.out wA0 BA.out)
            rw [hgB.out]
            refine hK1.out _ _ SA.out ?_
            clear hK1 hwB
            refine held_next (i := 3) (by kernel_rfl) rfl (by rfl) (fun K1 hK1 => ?_)
            go_simp
            with_reducible refine WO2.out.mono ?_
            rintro e wB ⟨aA, mA, cA, rfl, hmA, oA, bA⟩
            have BB : Hid (Below V.heap.size V wB) := bel_to BA.out (Nat.le_refl _) bA
            have NB : Hid (∀ j u, (dnV ⟨nm, tf⟩)[j]? = some u → wB.cell? ((⟨gB, 0, none⟩ : Addr).add j) = some u) := fun j u hj => by
              have := NA.out j u hj
              rw [Addr.add_lit] at this ⊢
              rw [bA.cell (p := ⟨gB, 0 + j, none⟩) GL.out]
              exact this
            have OB : Hid (OwnD wB w.heap.size aA mA cA (wout cur nm)) := oA.mono (by have := BA.out.size; have := SV.out; omega)
            have LO : Hid (∀ g, (Value.slice aA mA cA).ownBlock = some g → V.heap.size ≤ g) := fun g hg => by have := (oA.cellsT g hg).2; have := BA.out.size; omega
            have hmA2 : mA ≤ n + k := by have := wout_len cur nm; have := HCU.out; omega
            have SB := hide (KS.out _ BB.out)
            clear oA bA hmA WO2 NA GL SA hgB
            go_wp2_with fail
            refine hK1.out _ _ SB.out ?_
            clear hK1 BA
            refine held_next (i := 10) (by kernel_rfl) rfl (by rfl) (fun K1 hK1 => ?_)
            refine wp_append_lies _ (.tmp 35) (.tmp 41) 28 rfl w.heap.size 80 i1 (.agg #[.string .empty, .int .i64 0]) 2 24 Tryz.underlying28 hi1 hz10 hz11 hz12 rfl (by decide) (.slice aA mA cA) mA ((wout cur nm).flatMap dnV) rfl OB.out ⟨gB, 0, none⟩ 1 1 (dnV ⟨nm, tf⟩) rfl rfl NB.out (dnV_one1 _) (by omega) (by unfold maxLen; omega) (by omega) (by have := BB.out.size; have := SV.out; omega) _ rfl ?_
            intro gC cC wC oC grC atC ltC
            have HQ : Hid (OwnD wC w.heap.size (some ⟨gC, 0, none⟩) (mA + 1) cC ((wout cur nm) ++ [⟨nm, tf⟩])) := by
              show OwnG _ _ _ _ _ _ _ _ _
              unfold OwnG
              rw [List.flatMap_append, flat_one]
              exact oC
            have BC : Hid (Below V.heap.size V wC) := BB.out.trans ((Ch.grown grC).below (by have := BB.out.size; omega) (fun g hg hh => by have := LO.out g hh; omega))
            have SC := hide (KS.out _ BC.out)
            clear oC grC atC ltC
            go_simp
            refine hK1.out _ _ SC.out ?_
            clear hK1
            refine held_take (i := 11) (d := (some 0)) (v := ?_) rfl rfl (by kernel_rfl) (by kernel_rfl) (by kernel_rfl) (fun _ _ _ h => h) (Or.inl ⟨by rfl, ?_⟩) (by first | assumption | rfl | trivial) ?_
            rotate_left 1
            · (intro w hSw; (try dsimp only at hSw); (try subst hSw); go_simp; try with_reducible rfl)
            simp only [Act.put, List.setIfInBounds_toArray, List.set_cons_zero]
            clear hHeld
            refine wpAnyH_done (by kernel_rfl) ?_ _
            rw [← HTU.out] at HQ
            have B9 := hide (bel_to HBV.out (Nat.le_refl _) BC.out)
            clear d0 d1 d2 d3 BC SC SB
            go_wp2
            go_roundw
            case rel => exact ⟨k + 1, mA + 1, _, cC, by omega, Or.inr (by omega), by go_num, by rfl, by omega, HQ, B9⟩
            case measure => simp [intOf]; omega
        · have FI := hide (rfind16_any w.heap.size a' m c' cur nm V OV.out (by omega))
          cases hfd : findD cur nm with
          | none =>
            have HTU : Hid (turnsD l (ts.take (k + 1)) = cur) := by
              show _ = _
              rw [HTK.out]
              unfold turnD fileD
              rw [if_neg (show ¬ tk = 0 by omega), if_pos (show tk = 1 by omega)]
              dsimp only
              rw [hfd]
              rfl
            rw [show findI cur nm = -1 by unfold findI; rw [hfd]] at FI
            have HQ : Hid (OwnD V w.heap.size a' m c' (turnsD l (ts.take (k + 1)))) := by rw [HTU.out]; exact OV.out
            clear hz hfd
            go_wp2_with fail
            with_reducible refine FI.out.mono ?_
            rintro e u ⟨rfl, hu⟩
            rw [hu]
            clear hu FI
            go_wp2
            go_roundw
            case rel => exact ⟨k + 1, m, a', c', by omega, Or.inr (by omega), by go_num, by rfl, by omega, HQ, HBV⟩
            case measure => simp [intOf]; omega
          | some q =>
            obtain ⟨dq, hdq, hdn, hql⟩ := findD_some hfd
            rw [show findI cur nm = (q : Int) by unfold findI; rw [hfd]] at FI
            have hqm : q < m := by have := HCU.out; omega
            have HFD : Hid (fileD cur nm = some dq.f) := by
              show _ = _
              unfold fileD
              rw [hfd]
              show (cur[q]?).map _ = _
              rw [hdq]
              rfl
            by_cases hnt' : nm = to
            · have HTU : Hid (turnsD l (ts.take (k + 1)) = cur) := by
                show _ = _
                rw [HTK.out]
                unfold turnD
                rw [if_neg (show ¬ tk = 0 by omega), if_pos (show tk = 1 by omega)]
                dsimp only
                rw [HFD.out]
                dsimp only
                rw [if_pos hnt']
              have HQ : Hid (OwnD V w.heap.size a' m c' (turnsD l (ts.take (k + 1)))) := by rw [HTU.out]; exact OV.out
              have t1 : (nm.toList != to.toList) = false := by rw [bne, eq_ba hnt']; rfl
              have t2 : (nm.toList == to.toList) = true := eq_ba hnt'
              have q0 : (0 : Int) ≤ (q : Int) := by omega
              clear hz hfd hnt' hdq hdn HFD
              go_wp2_with fail
              with_reducible refine FI.out.mono ?_
              rintro e u ⟨rfl, hu⟩
              rw [hu]
              clear hu FI
              go_wp2
              go_roundw
              case rel => exact ⟨k + 1, m, a', c', by omega, Or.inr (by omega), by go_num, by rfl, by omega, HQ, HBV⟩
              case measure => simp [intOf]; omega
            · have HTU : Hid (turnsD l (ts.take (k + 1)) = wout (wout cur nm) to ++ [⟨to, dq.f⟩]) := by
                show _ = _
                rw [HTK.out]
                unfold turnD
                rw [if_neg (show ¬ tk = 0 by omega), if_pos (show tk = 1 by omega)]
                dsimp only
                rw [HFD.out]
                dsimp only
                rw [if_neg hnt']
              have t1 : (nm.toList != to.toList) = true := by rw [bne, neq_ba hnt']; rfl
              have t2 : (nm.toList == to.toList) = false := neq_ba hnt'
              have q0 : (0 : Int) ≤ (q : Int) := by omega
              have q1 : (q : Int) < (m : Int) := by omega
              obtain ⟨gq, rfl, -, hqc, e0, e1⟩ := OwnD.at' OV.out hdq
              obtain ⟨fq, hfq⟩ : ∃ fq, dq.f = fq := ⟨_, rfl⟩
              rw [hfq] at e1 HTU
              clear hz hfd hnt' hdq hdn HFD e0 hfq
              go_wp2_with fail
              with_reducible refine FI.out.mono ?_
              rintro e u ⟨rfl, hu⟩
              rw [hu]
              clear hu FI
              go_upto_region 13 with fail
              have W2 : Hid (∀ (u : World) (aP : Option Addr) (mP cP : Nat), Below V.heap.size V u → OwnD u V.heap.size aP mP cP (wout cur nm) → mP ≤ 1099511627776 → Calls Tryz.prog 80 #[.slice aP mP cP, .string to] u fun e w' => ∃ a'' m'' c'', e = .returned (.slice a'' m'' c'') ∧ m'' = (wout (wout cur nm) to).length ∧ OwnD w' u.heap.size a'' m'' c'' (wout (wout cur nm) to) ∧ Below u.heap.size u w') := fun u aP mP cP _ ho hb => rwithout_any V.heap.size aP mP cP (wout cur nm) to u ho hb
              refine wp_region_held_drew (S := fun u => u.cell? ⟨v.heap.size, 1, none⟩ = some (.string nm) ∧ u.cell? ⟨v.heap.size, 2, none⟩ = some (.string to) ∧ u.cell? ⟨v.heap.size, 3, none⟩ = some (.int .i64 (tf : Int))) (by kernel_rfl) ⟨d1, d2, d3⟩ (fun hHeld => ?_)
              refine held_take (i := 0) (d := (some 63)) (v := ?_) rfl rfl (by kernel_rfl) (by kernel_rfl) (by kernel_rfl) (fun _ _ _ h => h) (Or.inl ⟨by rfl, ?_⟩) (by first | assumption | rfl | trivial) ?_
              rotate_left 1
              · (intro w hSw; (try dsimp only at hSw); (try subst hSw); go_simp; try with_reducible rfl)
              simp only [Act.put, List.setIfInBounds_toArray, List.set_cons_zero, List.set_cons_succ]
              refine held_take (i := 1) (d := (some 64)) (v := ?_) rfl rfl (by kernel_rfl) (by kernel_rfl) (by kernel_rfl) (fun _ _ _ h => h) (Or.inl ⟨by rfl, ?_⟩) (by first | assumption | rfl | trivial) ?_
              rotate_left 1
              · (intro w hSw; (try dsimp only at hSw); (try subst hSw); go_simp; try with_reducible rfl)
              simp only [Act.put, List.setIfInBounds_toArray, List.set_cons_zero, List.set_cons_succ]
              refine held_take (i := 2) (d := (some 65)) (v := ?_) rfl rfl (by kernel_rfl) (by kernel_rfl) (by kernel_rfl) (fun _ _ _ h => h) (Or.inl ⟨by rfl, ?_⟩) (by first | assumption | rfl | trivial) ?_
              rotate_left 1
              · (intro w hSw; (try dsimp only at hSw); (try subst hSw); go_simp; try with_reducible rfl)
              simp only [Act.put, List.setIfInBounds_toArray, List.set_cons_zero, List.set_cons_succ]
              refine held_take (i := 4) (d := (some 67)) (v := ?_) rfl rfl (by kernel_rfl) (by kernel_rfl) (by kernel_rfl) (fun _ _ _ h => h) (Or.inl ⟨by rfl, ?_⟩) (by first | assumption | rfl | trivial) ?_
              rotate_left 1
              · (intro w hSw; (try dsimp only at hSw); (try subst hSw); go_simp; try with_reducible rfl)
              simp only [Act.put, List.setIfInBounds_toArray, List.set_cons_zero, List.set_cons_succ]
              refine held_take (i := 5) (d := (some 68)) (v := ?_) rfl rfl (by kernel_rfl) (by kernel_rfl) (by kernel_rfl) (fun _ _ _ h => h) (Or.inl ⟨by rfl, ?_⟩) (by first | assumption | rfl | trivial) ?_
              rotate_left 1
              · (intro w hSw; (try dsimp only at hSw); (try subst hSw); go_simp; try with_reducible rfl)
              simp only [Act.put, List.setIfInBounds_toArray, List.set_cons_zero, List.set_cons_succ]
              refine held_take (i := 7) (d := (some 70)) (v := ?_) rfl rfl (by kernel_rfl) (by kernel_rfl) (by kernel_rfl) (fun _ _ _ h => h) (Or.inl ⟨by rfl, ?_⟩) (by first | assumption | rfl | trivial) ?_
              rotate_left 1
              · (intro w hSw; (try dsimp only at hSw); (try subst hSw); go_simp; try with_reducible rfl)
              simp only [Act.put, List.setIfInBounds_toArray, List.set_cons_zero, List.set_cons_succ]
              refine held_take (i := 8) (d := (some 71)) (v := ?_) rfl rfl (by kernel_rfl) (by kernel_rfl) (by kernel_rfl) (fun _ _ _ h => h) (Or.inl ⟨by rfl, ?_⟩) (by first | assumption | rfl | trivial) ?_
              rotate_left 1
              · (intro w hSw; (try dsimp only at hSw); (try subst hSw); go_simp; try with_reducible rfl)
              simp only [Act.put, List.setIfInBounds_toArray, List.set_cons_zero, List.set_cons_succ]
              refine held_take (i := 9) (d := (some 72)) (v := ?_) rfl rfl (by kernel_rfl) (by kernel_rfl) (by kernel_rfl) (fun _ _ _ h => h) (Or.inl ⟨by rfl, ?_⟩) (by first | assumption | rfl | trivial) ?_
              rotate_left 1
              · (intro w hSw; (try dsimp only at hSw); (try subst hSw); go_simp; try with_reducible rfl)
              simp only [Act.put, List.setIfInBounds_toArray, List.set_cons_zero, List.set_cons_succ]
              refine held_take (i := 10) (d := (some 73)) (v := ?_) rfl rfl (by kernel_rfl) (by kernel_rfl) (by kernel_rfl) (fun _ _ _ h => h) (Or.inl ⟨by rfl, ?_⟩) (by first | assumption | rfl | trivial) ?_
              rotate_left 1
              · (intro w hSw; (try dsimp only at hSw); (try subst hSw); go_simp; try with_reducible rfl)
              simp only [Act.put, List.setIfInBounds_toArray, List.set_cons_zero, List.set_cons_succ]
              refine held_pair (i := 3) (j := 11) (by kernel_rfl) rfl (by rfl) rfl (by rfl) (fun K1 hK1 => ?_) (fun K1 hK1 => ?_)
              · go_simp
                with_reducible refine (WO.out _ ((Below.refl _ _).drew)).mono ?_
                rintro e wP ⟨aP, mP, cP, rfl, hmP, oP, bP⟩
                have BP : Hid (Below V.heap.size V wP) := bel_to ((Below.refl _ _).drew) (Nat.le_refl _) bP
                have OP : Hid (OwnD wP V.heap.size aP mP cP (wout cur nm)) := oP.mono (Nat.le_refl _)
                have hmP2 : mP ≤ n + k := by have := wout_len cur nm; have := HCU.out; omega
                have SP := hide (KS.out _ BP.out)
                clear oP bP hmP
                go_wp2_with fail
                refine hK1.out _ _ SP.out ?_
                clear hK1
                refine held_pair (i := 6) (j := 11) (by kernel_rfl) rfl (by rfl) rfl (by rfl) (fun K1 hK1 => ?_) (fun K1 hK1 => ?_)
                · go_simp
                  with_reducible refine (W2.out _ aP mP cP (BP.out) (OP.out) (by omega)).mono ?_
                  rintro e wX ⟨aA, mA, cA, rfl, hmA, oA, bA⟩
                  have BX : Hid (Below V.heap.size V wX) := bel_to (BP.out) (Nat.le_refl _) bA
                  have OX : Hid (OwnD wX V.heap.size aA mA cA (wout (wout cur nm) to)) := oA.mono (by have := (BP.out).size; omega)
                  have hmA2 : mA ≤ n + k := by have h1 := wout_len (wout cur nm) to; have h2 := wout_len cur nm; have := HCU.out; omega
                  have SX := hide (KS.out _ BX.out)
                  clear oA bA hmA
                  go_wp2_with fail
                  refine hK1.out _ _ SX.out ?_
                  clear hK1
                  refine held_next (i := 11) (by kernel_rfl) rfl (by rfl) (fun K1 hK1 => ?_)
                  go_simp
                  obtain ⟨wB, hwB⟩ : ∃ wB, Hid (wX.alloc (.cells #[.string to, .int .i64 (fq : Int)] 80) = wB) := ⟨_, rfl⟩
                  rw [hwB.out]
                  have BB : Hid (Below V.heap.size V wB) := by rw [← hwB.out]; exact bel_al BX.out (Nat.le_refl _) _
                  obtain ⟨gB, hgB⟩ : ∃ gB, Hid (wX.heap.size = gB) := ⟨_, rfl⟩
                  have NB : Hid (∀ j u, (dnV ⟨to, fq⟩)[j]? = some u → wB.cell? ((⟨gB, 0, none⟩ : Addr).add j) = some u) := by rw [← hwB.out, ← hgB.out]; exact dn_cells wX ⟨to, fq⟩ _
                  have OB : Hid (OwnD wB w.heap.size aA mA cA (wout (wout cur nm) to)) := by rw [← hwB.out]; exact (OX.out.alloc _).mono SV.out
                  have LO : Hid (∀ g, (Value.slice aA mA cA).ownBlock = some g → V.heap.size ≤ g) := fun g hg => (OX.out.cellsT g hg).2
                  have SB := hide (KS.out _ BB.out)
                  rw [hgB.out]
                  refine hK1.out _ _ SB.out ?_
                  clear hK1 hwB OX BX SX hgB OP BP SP
                  refine held_next (i := 12) (by kernel_rfl) rfl (by rfl) (fun K1 hK1 => ?_)
                  refine wp_append_lies _ (.tmp 69) (.tmp 74) 28 rfl w.heap.size 80 i1 (.agg #[.string .empty, .int .i64 0]) 2 24 Tryz.underlying28 hi1 hz10 hz11 hz12 rfl (by decide) (.slice aA mA cA) mA ((wout (wout cur nm) to).flatMap dnV) rfl OB.out ⟨gB, 0, none⟩ 1 1 (dnV ⟨to, fq⟩) rfl rfl NB.out (dnV_one1 _) (by omega) (by unfold maxLen; omega) (by omega) (by have := BB.out.size; have := SV.out; omega) _ rfl ?_
                  intro gC cC wC oC grC atC ltC
                  have HQ : Hid (OwnD wC w.heap.size (some ⟨gC, 0, none⟩) (mA + 1) cC ((wout (wout cur nm) to) ++ [⟨to, fq⟩])) := by
                    show OwnG _ _ _ _ _ _ _ _ _
                    unfold OwnG
                    rw [List.flatMap_append, flat_one]
                    exact oC
                  have BC : Hid (Below V.heap.size V wC) := BB.out.trans ((Ch.grown grC).below (by have := BB.out.size; omega) (fun g hg hh => by have := LO.out g hh; omega))
                  have SC := hide (KS.out _ BC.out)
                  clear oC grC atC ltC
                  go_simp
                  refine hK1.out _ _ SC.out ?_
                  clear hK1
                  refine held_take (i := 13) (d := (some 0)) (v := ?_) rfl rfl (by kernel_rfl) (by kernel_rfl) (by kernel_rfl) (fun _ _ _ h => h) (Or.inl ⟨by rfl, ?_⟩) (by first | assumption | rfl | trivial) ?_
                  rotate_left 1
                  · (intro w hSw; (try dsimp only at hSw); (try subst hSw); go_simp; try with_reducible rfl)
                  simp only [Act.put, List.setIfInBounds_toArray, List.set_cons_zero]
                  clear hHeld
                  refine wpAnyH_done (by kernel_rfl) ?_ _
                  rw [← HTU.out] at HQ
                  have B9 := hide (bel_to HBV.out (Nat.le_refl _) BC.out)
                  clear d0 d1 d2 d3 BC SC SB
                  go_wp2
                  go_roundw
                  case rel => exact ⟨k + 1, mA + 1, _, cC, by omega, Or.inr (by omega), by go_num, by rfl, by omega, HQ, B9⟩
                  case measure => simp [intOf]; omega
                · go_simp
                  obtain ⟨wQ, hwB⟩ : ∃ wB, Hid (wP.alloc (.cells #[.string to, .int .i64 (fq : Int)] 80) = wB) := ⟨_, rfl⟩
                  rw [hwB.out]
                  have BQ : Hid (Below V.heap.size V wQ) := by rw [← hwB.out]; exact bel_al BP.out (Nat.le_refl _) _
                  obtain ⟨gB, hgB⟩ : ∃ gB, Hid (wP.heap.size = gB) := ⟨_, rfl⟩
                  have NA : Hid (∀ j u, (dnV ⟨to, fq⟩)[j]? = some u → wQ.cell? ((⟨gB, 0, none⟩ : Addr).add j) = some u) := by rw [← hwB.out, ← hgB.out]; exact dn_cells wP ⟨to, fq⟩ _
                  have GL : Hid (gB < wQ.heap.size) := by rw [← hwB.out, ← hgB.out]; show _ < _; simp
                  have OQ : Hid (OwnD wQ V.heap.size aP mP cP (wout cur nm)) := by rw [← hwB.out]; exact OP.out.alloc _
                  have SQ := hide (KS.out _ BQ.out)
                  rw [hgB.out]
                  refine hK1.out _ _ SQ.out ?_
                  clear hK1 hwB hgB OP BP SP
                  refine held_next (i := 6) (by kernel_rfl) rfl (by rfl) (fun K1 hK1 => ?_)
                  go_simp
                  with_reducible refine (W2.out _ aP mP cP (BQ.out) (OQ.out) (by omega)).mono ?_
                  rintro e wB ⟨aA, mA, cA, rfl, hmA, oA, bA⟩
                  have BX : Hid (Below V.heap.size V wB) := bel_to (BQ.out) (Nat.le_refl _) bA
                  have OX : Hid (OwnD wB V.heap.size aA mA cA (wout (wout cur nm) to)) := oA.mono (by have := (BQ.out).size; omega)
                  have hmA2 : mA ≤ n + k := by have h1 := wout_len (wout cur nm) to; have h2 := wout_len cur nm; have := HCU.out; omega
                  have SX := hide (KS.out _ BX.out)
                  have BB := BX
                  have NB : Hid (∀ j u, (dnV ⟨to, fq⟩)[j]? = some u → wB.cell? ((⟨gB, 0, none⟩ : Addr).add j) = some u) := fun j u hj => by
                    have := NA.out j u hj
                    rw [Addr.add_lit] at this ⊢
                    rw [bA.cell (p := ⟨gB, 0 + j, none⟩) GL.out]
                    exact this
                  have OB : Hid (OwnD wB w.heap.size aA mA cA (wout (wout cur nm) to)) := OX.out.mono SV.out
                  have LO : Hid (∀ g, (Value.slice aA mA cA).ownBlock = some g → V.heap.size ≤ g) := fun g hg => (OX.out.cellsT g hg).2
                  have SB := SX
                  clear oA bA hmA OX BX NA GL SQ SX
                  go_wp2_with fail
                  refine hK1.out _ _ SB.out ?_
                  clear hK1 BQ OQ
                  refine held_next (i := 12) (by kernel_rfl) rfl (by rfl) (fun K1 hK1 => ?_)
                  refine wp_append_lies _ (.tmp 69) (.tmp 74) 28 rfl w.heap.size 80 i1 (.agg #[.string .empty, .int .i64 0]) 2 24 Tryz.underlying28 hi1 hz10 hz11 hz12 rfl (by decide) (.slice aA mA cA) mA ((wout (wout cur nm) to).flatMap dnV) rfl OB.out ⟨gB, 0, none⟩ 1 1 (dnV ⟨to, fq⟩) rfl rfl NB.out (dnV_one1 _) (by omega) (by unfold maxLen; omega) (by omega) (by have := BB.out.size; have := SV.out; omega) _ rfl ?_
                  intro gC cC wC oC grC atC ltC
                  have HQ : Hid (OwnD wC w.heap.size (some ⟨gC, 0, none⟩) (mA + 1) cC ((wout (wout cur nm) to) ++ [⟨to, fq⟩])) := by
                    show OwnG _ _ _ _ _ _ _ _ _
                    unfold OwnG
                    rw [List.flatMap_append, flat_one]
                    exact oC
                  have BC : Hid (Below V.heap.size V wC) := BB.out.trans ((Ch.grown grC).below (by have := BB.out.size; omega) (fun g hg hh => by have := LO.out g hh; omega))
                  have SC := hide (KS.out _ BC.out)
                  clear oC grC atC ltC
                  go_simp
                  refine hK1.out _ _ SC.out ?_
                  clear hK1
                  refine held_take (i := 13) (d := (some 0)) (v := ?_) rfl rfl (by kernel_rfl) (by kernel_rfl) (by kernel_rfl) (fun _ _ _ h => h) (Or.inl ⟨by rfl, ?_⟩) (by first | assumption | rfl | trivial) ?_
                  rotate_left 1
                  · (intro w hSw; (try dsimp only at hSw); (try subst hSw); go_simp; try with_reducible rfl)
                  simp only [Act.put, List.setIfInBounds_toArray, List.set_cons_zero]
                  clear hHeld
                  refine wpAnyH_done (by kernel_rfl) ?_ _
                  rw [← HTU.out] at HQ
                  have B9 := hide (bel_to HBV.out (Nat.le_refl _) BC.out)
                  clear d0 d1 d2 d3 BC SC SB
                  go_wp2
                  go_roundw
                  case rel => exact ⟨k + 1, mA + 1, _, cC, by omega, Or.inr (by omega), by go_num, by rfl, by omega, HQ, B9⟩
                  case measure => simp [intOf]; omega
              · go_simp
                obtain ⟨w0, hwB⟩ : ∃ wB, Hid ((V.alloc (.cells #[.string to, .int .i64 (fq : Int)] 80)).drew = wB) := ⟨_, rfl⟩
                rw [hwB.out]
                have BZ : Hid (Below V.heap.size V w0) := by rw [← hwB.out]; exact (bel_al (Below.refl _ _) (Nat.le_refl _) _).drew
                obtain ⟨gB, hgB⟩ : ∃ gB, Hid (V.heap.size = gB) := ⟨_, rfl⟩
                have NZ : Hid (∀ j u, (dnV ⟨to, fq⟩)[j]? = some u → w0.cell? ((⟨gB, 0, none⟩ : Addr).add j) = some u) := by rw [← hwB.out, ← hgB.out]; exact dn_cells V ⟨to, fq⟩ _
                have GZ : Hid (gB < w0.heap.size) := by rw [← hwB.out, ← hgB.out]; show _ < _; simp
                have SZ := hide (KS.out _ BZ.out)
                rw [hgB.out]
                refine hK1.out _ _ SZ.out ?_
                clear hK1 hwB hgB
                refine held_next (i := 3) (by kernel_rfl) rfl (by rfl) (fun K1 hK1 => ?_)
                go_simp
                with_reducible refine (WO.out _ (BZ.out)).mono ?_
                rintro e wP ⟨aP, mP, cP, rfl, hmP, oP, bP⟩
                have BP : Hid (Below V.heap.size V wP) := bel_to (BZ.out) (Nat.le_refl _) bP
                have OP : Hid (OwnD wP V.heap.size aP mP cP (wout cur nm)) := oP.mono (by have := BZ.out.size; omega)
                have hmP2 : mP ≤ n + k := by have := wout_len cur nm; have := HCU.out; omega
                have SP := hide (KS.out _ BP.out)
                have NA : Hid (∀ j u, (dnV ⟨to, fq⟩)[j]? = some u → wP.cell? ((⟨gB, 0, none⟩ : Addr).add j) = some u) := fun j u hj => by
                  have := NZ.out j u hj
                  rw [Addr.add_lit] at this ⊢
                  rw [bP.cell (p := ⟨gB, 0 + j, none⟩) GZ.out]
                  exact this
                have GL : Hid (gB < wP.heap.size) := by have := GZ.out; have := bP.size; show _ < _; omega
                clear oP bP hmP NZ GZ SZ
                go_wp2_with fail
                refine hK1.out _ _ SP.out ?_
                clear hK1 BZ
                refine held_next (i := 6) (by kernel_rfl) rfl (by rfl) (fun K1 hK1 => ?_)
                go_simp
                with_reducible refine (W2.out _ aP mP cP (BP.out) (OP.out) (by omega)).mono ?_
                rintro e wB ⟨aA, mA, cA, rfl, hmA, oA, bA⟩
                have BX : Hid (Below V.heap.size V wB) := bel_to (BP.out) (Nat.le_refl _) bA
                have OX : Hid (OwnD wB V.heap.size aA mA cA (wout (wout cur nm) to)) := oA.mono (by have := (BP.out).size; omega)
                have hmA2 : mA ≤ n + k := by have h1 := wout_len (wout cur nm) to; have h2 := wout_len cur nm; have := HCU.out; omega
                have SX := hide (KS.out _ BX.out)
                have BB := BX
                have NB : Hid (∀ j u, (dnV ⟨to, fq⟩)[j]? = some u → wB.cell? ((⟨gB, 0, none⟩ : Addr).add j) = some u) := fun j u hj => by
                  have := NA.out j u hj
                  rw [Addr.add_lit] at this ⊢
                  rw [bA.cell (p := ⟨gB, 0 + j, none⟩) GL.out]
                  exact this
                have OB : Hid (OwnD wB w.heap.size aA mA cA (wout (wout cur nm) to)) := OX.out.mono SV.out
                have LO : Hid (∀ g, (Value.slice aA mA cA).ownBlock = some g → V.heap.size ≤ g) := fun g hg => (OX.out.cellsT g hg).2
                have SB := SX
                clear oA bA hmA OX BX NA GL SX
                go_wp2_with fail
                refine hK1.out _ _ SB.out ?_
                clear hK1 BP OP SP
                refine held_next (i := 12) (by kernel_rfl) rfl (by rfl) (fun K1 hK1 => ?_)
                refine wp_append_lies _ (.tmp 69) (.tmp 74) 28 rfl w.heap.size 80 i1 (.agg #[.string .empty, .int .i64 0]) 2 24 Tryz.underlying28 hi1 hz10 hz11 hz12 rfl (by decide) (.slice aA mA cA) mA ((wout (wout cur nm) to).flatMap dnV) rfl OB.out ⟨gB, 0, none⟩ 1 1 (dnV ⟨to, fq⟩) rfl rfl NB.out (dnV_one1 _) (by omega) (by unfold maxLen; omega) (by omega) (by have := BB.out.size; have := SV.out; omega) _ rfl ?_
                intro gC cC wC oC grC atC ltC
                have HQ : Hid (OwnD wC w.heap.size (some ⟨gC, 0, none⟩) (mA + 1) cC ((wout (wout cur nm) to) ++ [⟨to, fq⟩])) := by
                  show OwnG _ _ _ _ _ _ _ _ _
                  unfold OwnG
                  rw [List.flatMap_append, flat_one]
                  exact oC
                have BC : Hid (Below V.heap.size V wC) := BB.out.trans ((Ch.grown grC).below (by have := BB.out.size; omega) (fun g hg hh => by have := LO.out g hh; omega))
                have SC := hide (KS.out _ BC.out)
                clear oC grC atC ltC
                go_simp
                refine hK1.out _ _ SC.out ?_
                clear hK1
                refine held_take (i := 13) (d := (some 0)) (v := ?_) rfl rfl (by kernel_rfl) (by kernel_rfl) (by kernel_rfl) (fun _ _ _ h => h) (Or.inl ⟨by rfl, ?_⟩) (by first | assumption | rfl | trivial) ?_
                rotate_left 1
                · (intro w hSw; (try dsimp only at hSw); (try subst hSw); go_simp; try with_reducible rfl)
                simp only [Act.put, List.setIfInBounds_toArray, List.set_cons_zero]
                clear hHeld
                refine wpAnyH_done (by kernel_rfl) ?_ _
                rw [← HTU.out] at HQ
                have B9 := hide (bel_to HBV.out (Nat.le_refl _) BC.out)
                clear d0 d1 d2 d3 BC SC SB
                go_wp2
                go_roundw
                case rel => exact ⟨k + 1, mA + 1, _, cC, by omega, Or.inr (by omega), by go_num, by rfl, by omega, HQ, B9⟩
                case measure => simp [intOf]; omega
        · have HTU : Hid (turnsD l (ts.take (k + 1)) = wout cur nm) := by
            show _ = _
            rw [HTK.out]
            unfold turnD
            rw [if_neg (show ¬ tk = 0 by omega), if_neg (show ¬ tk = 1 by omega)]
          clear hz
          go_wp2_with fail
          with_reducible refine (WO.out _ (Below.refl _ _)).mono ?_
          rintro e wA ⟨aA, mA, cA, rfl, hmA, oA, bA⟩
          have hmA2 : mA ≤ n + k := by have := wout_len cur nm; have := HCU.out; omega
          have HQ : Hid (OwnD wA w.heap.size aA mA cA (turnsD l (ts.take (k + 1)))) := by rw [HTU.out]; exact oA.mono SV.out
          have B9 := hide (bel_to HBV.out (Nat.le_refl _) bA)
          clear oA bA hmA d0 d1 d2 d3
          go_wp2
          go_roundw
          case rel => exact ⟨k + 1, mA, aA, cA, by omega, Or.inr (by omega), by go_num, by rfl, by omega, HQ, B9⟩
          case measure => simp [intOf]; omega
      · have HE : Hid (turnsD l (ts.take N.toNat) = turnsD l (ts.take k)) := by
          have e1 : N.toNat = k := by rcases hkN with h | h <;> omega
          show _ = _
          rw [e1]
        have HM := hide (OwnG.len dnV_len (by decide) HO.out)
        go_wp2
        go_ret
        exact ⟨a', m, c', rfl, by rw [HE.out, HM.out], by rw [HE.out]; exact HO.out, HB.out⟩
    · have HE : Hid (turnsD l (ts.take N.toNat) = turnsD l (ts.take k)) := by
        have e1 : ts.length = k := by rw [HLT.out]; omega
        show _ = _
        rw [List.take_of_length_le (by omega), List.take_of_length_le (by omega)]
      have HM := hide (OwnG.len dnV_len (by decide) HO.out)
      have e4 : k = nt := by omega
      subst e4
      go_wp2
      go_ret
      exact ⟨a', m, c', rfl, by rw [HE.out, HM.out], by rw [HE.out]; exact HO.out, HB.out⟩
end Go.Proofs.YthlkmjaflomflaaGreat
