/-
  The document's file system: Crash: a contract, for every world (written by gen/vfsrb.gen.py).
  Conditions: the file system lies in memory, the picks are told.
-/
import Derived.Test.YthlkmjaflomflaaGreatVfsRa
import Derived.Deep.CutRange
import Derived.Deep.DeepCutAuto
import Derived.Deep.CutBlock
namespace Go.Proofs.YthlkmjaflomflaaGreat
open Go.RowKit
set_option maxRecDepth 20000
set_option linter.unusedVariables false

theorem FilesIn.at {m : Nat} {l : List Dn} (h : FilesIn m l) {i : Nat} {d : Dn} (hi : l[i]? = some d) : d.f < m := h d (List.mem_of_getElem? hi)

set_option maxHeartbeats 16000000 in
theorem rcrash_any (g : Nat) (S : Nat → Prop) (F : Fs) (ops : Int) (a : Option Addr) (n c : Nat) (ps : List Int) (m : Nat) (w : World) (hF : RAt w g S F) (hL : Lim m F) (hm : m ≤ 536870912) (ho : (Lit.int .i64 ops).wf = true) (hr : Row .i64 w a n ps) (hn : n ≤ 281474976710656) :
    Calls Tryz.prog 37 #[.pointer (some ⟨g, 0, none⟩), .int .i64 ops, .slice a n c] w fun e w' => ∃ g', e = .returned (.pointer (some ⟨g', 0, none⟩)) ∧ MadeV RAt w w' g' (crashF F ops ps) := by
  obtain ⟨i1, hi1, hz10, hz11, hz12⟩ := info_parts Tryz.infoF16
  obtain ⟨i2, hi2, hz20, hz21, hz22⟩ := info_parts Tryz.infoD16
  obtain ⟨GV, af, cf, as', cs, at', ct, hs, B⟩ := hF
  obtain ⟨c0, c1, c2, -⟩ := B.cells
  have l0 := hL.files
  have l1 := hL.sure
  have l2 := hL.turns
  have TU : Hid (∀ u, Below w.heap.size w u → Calls Tryz.prog 69 #[.slice as' F.sure.length cs, .slice at' F.turns.length ct, .int .i64 ops] u fun e w' => ∃ a n c, e = .returned (.slice a n c) ∧ n = (turnsD F.sure (F.turns.take (cutN ops))).length ∧ OwnD w' u.heap.size a n c (turnsD F.sure (F.turns.take (cutN ops))) ∧ Below u.heap.size u w') := fun u hu =>
    rturned_any 0 as' F.sure.length cs F.sure at' F.turns.length ct F.turns ops u (OwnG.below B.sure hu (Nat.le_refl _)) (OwnG.below B.turns hu (Nat.le_refl _)) (by omega) (by omega) (fun t ht => (GV.turns t ht).1) ho
  have HFI0 : FilesIn F.files.length (turnsD F.sure (F.turns.take (cutN ops))) := FilesIn.turns (fun t ht => (GV.turns t (List.mem_of_mem_take ht)).2) GV.sure
  have HDl0 : (turnsD F.sure (F.turns.take (cutN ops))).length ≤ 1073741824 := by
    have h1 := turnsD_len (F.turns.take (cutN ops)) F.sure
    rw [List.length_take] at h1
    omega
  have HCR : Hid (crashF F ops ps = crL F ps (keptF (turnsD F.sure (F.turns.take (cutN ops))) F.files.length)) := crashF_cr F ops ps
  rw [HCR.out]
  obtain ⟨D, hD⟩ : ∃ D, turnsD F.sure (F.turns.take (cutN ops)) = D := ⟨_, rfl⟩
  rw [hD] at TU HFI0 HDl0 ⊢
  obtain ⟨NF, hNF⟩ : ∃ NF, F.files.length = NF := ⟨_, rfl⟩
  have HNF := hide hNF
  have HB := hide B
  have HGV := hide GV
  have HFI := hide HFI0
  have HL := hide hL
  have HR := hide hr
  rw [hNF] at c0 l0
  have hl1 := l1
  generalize F.sure.length = n1 at *
  generalize F.turns.length = n2 at *
  clear B hL hD hNF HCR HFI0 hr
  go_enter Tryz.func37, Tryz.ntmps37
  go_upto_region 1 with fail
  refine wp_region_held_drew (S := fun u => u.cell? ⟨g, 1, none⟩ = some (.slice as' n1 cs) ∧ u.cell? ⟨g, 2, none⟩ = some (.slice at' n2 ct)) (by kernel_rfl) ⟨c1, c2⟩ (fun hHeld => ?_)
  refine held_take (i := 0) (d := (some 13)) (v := ?_) rfl rfl (by kernel_rfl) (by kernel_rfl) (by kernel_rfl) (fun _ _ _ h => h) (Or.inl ⟨by rfl, ?_⟩) (by first | assumption | rfl | trivial) ?_
  rotate_left 1
  · (intro w hSw; (try dsimp only at hSw); (try subst hSw); go_simp; try with_reducible rfl)
  simp only [Act.put, List.setIfInBounds_toArray, List.set_cons_zero, List.set_cons_succ]
  refine held_take (i := 1) (d := (some 14)) (v := ?_) rfl rfl (by kernel_rfl) (by kernel_rfl) (by kernel_rfl) (fun _ _ _ h => h) (Or.inl ⟨by rfl, ?_⟩) (by first | assumption | rfl | trivial) ?_
  rotate_left 1
  · (intro w hSw; (try dsimp only at hSw); (try subst hSw); go_simp; try with_reducible rfl)
  simp only [Act.put, List.setIfInBounds_toArray, List.set_cons_zero, List.set_cons_succ]
  refine held_take (i := 2) (d := (some 15)) (v := ?_) rfl rfl (by kernel_rfl) (by kernel_rfl) (by kernel_rfl) (fun _ _ _ h => h) (Or.inl ⟨by rfl, ?_⟩) (by first | assumption | rfl | trivial) ?_
  rotate_left 1
  · (intro w hSw; (try dsimp only at hSw); (try subst hSw); go_simp; try with_reducible rfl)
  simp only [Act.put, List.setIfInBounds_toArray, List.set_cons_zero, List.set_cons_succ]
  refine held_take (i := 3) (d := (some 16)) (v := ?_) rfl rfl (by kernel_rfl) (by kernel_rfl) (by kernel_rfl) (fun _ _ _ h => h) (Or.inl ⟨by rfl, ?_⟩) (by first | assumption | rfl | trivial) ?_
  rotate_left 1
  · (intro w hSw; (try dsimp only at hSw); (try subst hSw); go_simp; try with_reducible rfl)
  simp only [Act.put, List.setIfInBounds_toArray, List.set_cons_zero, List.set_cons_succ]
  refine held_take (i := 4) (d := (some 17)) (v := ?_) rfl rfl (by kernel_rfl) (by kernel_rfl) (by kernel_rfl) (fun _ _ _ h => h) (Or.inl ⟨by rfl, ?_⟩) (by first | assumption | rfl | trivial) ?_
  rotate_left 1
  · (intro w hSw; (try dsimp only at hSw); (try subst hSw); go_simp; try with_reducible rfl)
  simp only [Act.put, List.setIfInBounds_toArray, List.set_cons_zero, List.set_cons_succ]
  refine held_take (i := 5) (d := (some 18)) (v := ?_) rfl rfl (by kernel_rfl) (by kernel_rfl) (by kernel_rfl) (fun _ _ _ h => h) (Or.inl ⟨by rfl, ?_⟩) (by first | assumption | rfl | trivial) ?_
  rotate_left 1
  · (intro w hSw; (try dsimp only at hSw); (try subst hSw); go_simp; try with_reducible rfl)
  simp only [Act.put, List.setIfInBounds_toArray, List.set_cons_zero, List.set_cons_succ]
  refine held_take (i := 6) (d := (some 19)) (v := ?_) rfl rfl (by kernel_rfl) (by kernel_rfl) (by kernel_rfl) (fun _ _ _ h => h) (Or.inl ⟨by rfl, ?_⟩) (by first | assumption | rfl | trivial) ?_
  rotate_left 1
  · (intro w hSw; (try dsimp only at hSw); (try subst hSw); go_simp; try with_reducible rfl)
  simp only [Act.put, List.setIfInBounds_toArray, List.set_cons_zero, List.set_cons_succ]
  refine held_take (i := 7) (d := (some 20)) (v := ?_) rfl rfl (by kernel_rfl) (by kernel_rfl) (by kernel_rfl) (fun _ _ _ h => h) (Or.inl ⟨by rfl, ?_⟩) (by first | assumption | rfl | trivial) ?_
  rotate_left 1
  · (intro w hSw; (try dsimp only at hSw); (try subst hSw); go_simp; try with_reducible rfl)
  simp only [Act.put, List.setIfInBounds_toArray, List.set_cons_zero, List.set_cons_succ]
  refine held_take (i := 8) (d := (some 21)) (v := ?_) rfl rfl (by kernel_rfl) (by kernel_rfl) (by kernel_rfl) (fun _ _ _ h => h) (Or.inl ⟨by rfl, ?_⟩) (by first | assumption | rfl | trivial) ?_
  rotate_left 1
  · (intro w hSw; (try dsimp only at hSw); (try subst hSw); go_simp; try with_reducible rfl)
  simp only [Act.put, List.setIfInBounds_toArray, List.set_cons_zero, List.set_cons_succ]
  refine held_next (i := 9) (by kernel_rfl) rfl (by rfl) (fun K1 hK1 => ?_)
  go_simp
  with_reducible refine (TU.out _ (Below.refl _ _).drew).mono ?_
  rintro e wA ⟨aD, nd, cD, rfl, hnd, oD, bA⟩
  have BA : Hid (Below w.heap.size w wA) := (Below.refl _ _).drew.trans bA
  have OD : Hid (OwnD wA w.heap.size aD nd cD D) := oD
  have SA : Hid (wA.cell? ⟨g, 1, none⟩ = some (.slice as' n1 cs) ∧ wA.cell? ⟨g, 2, none⟩ = some (.slice at' n2 ct)) := ⟨(BA.out.cell (p := ⟨g, 1, none⟩) (World.block_lt_of_cell? w _ c1)).trans c1, (BA.out.cell (p := ⟨g, 2, none⟩) (World.block_lt_of_cell? w _ c2)).trans c2⟩
  have HND := hide hnd
  have hndb : nd ≤ 1073741824 := by omega
  have HBA : Hid (RB wA g S F af cf as' cs at' ct hs) := HB.out.ch ((Ch.of_below BA.out)) (fun _ _ => id)
  have RA : Hid (Row .i64 wA a n ps) := HR.out.below BA.out (Nat.le_refl _)
  have C0 : Hid (∀ u, Below wA.heap.size wA u → u.cell? ⟨g, 0, none⟩ = some (.slice af NF cf)) := fun u hu => by
    have h1 := (BA.out.cell (p := ⟨g, 0, none⟩) (World.block_lt_of_cell? w _ c0)).trans c0
    exact (hu.cell (p := ⟨g, 0, none⟩) (World.block_lt_of_cell? wA _ h1)).trans h1
  clear oD bA hnd HDl0
  go_wp2_with fail
  refine hK1.out _ _ SA.out ?_
  clear hK1
  refine held_take (i := 10) (d := (some 7)) (v := ?_) rfl rfl (by kernel_rfl) (by kernel_rfl) (by kernel_rfl) (fun _ _ _ h => h) (Or.inl ⟨by rfl, ?_⟩) (by first | assumption | rfl | trivial) ?_
  rotate_left 1
  · (intro w hSw; (try dsimp only at hSw); (try subst hSw); go_simp; try with_reducible rfl)
  simp only [Act.put, List.setIfInBounds_toArray, List.set_cons_zero, List.set_cons_succ]
  clear hHeld
  refine wpAnyH_done (by kernel_rfl) ?_ _
  clear SA c0 c1 c2 TU HB HR
  go_upto_region 3 with fail
  obtain ⟨gx, hgx⟩ : ∃ gx, Hid (wA.heap.size = gx) := ⟨_, rfl⟩
  obtain ⟨W0, hW0⟩ : ∃ W0, Hid (wA.alloc (.cells #[.slice none 0 0, .slice none 0 0, .slice none 0 0, .int .i64 0, .bool false, .int .i64 0, .int .i64 0, .bool false] 32) = W0) := ⟨_, rfl⟩
  have M0 : Hid (MkR wA W0 gx (crL F ps (curK D 0 0))) := by
    rw [curK_zero, keptF_zero, crL_nil, ← hgx.out]
    exact mkR_new wA W0 hW0.out.symm
  rw [hW0.out, hgx.out]
  clear hW0
  go_wp2
  go_loopw [9, 10] (fun x y wr => ∃ k : Nat, k ≤ NF ∧ y = .int .i64 (k : Int) ∧ x = .int .i64 ((curK D k 0).length : Int) ∧ Hid (MkR wA wr gx (crL F ps (curK D k 0)))) (fun _ y _ => NF - (intOf y).toNat)
  case atStart => exact ⟨0, by omega, rfl, rfl, M0.out⟩
  case round =>
    clear M0
    obtain ⟨k, hk, rfl, rfl, HM⟩ := hrel
    obtain ⟨v, rfl⟩ : ∃ v, v = wr := ⟨wr, rfl⟩
    have k0 := C0.out v HM.out.1
    by_cases hlt : k < NF
    · have i1' : (0 : Int) ≤ (k : Int) := by omega
      have i2' : (k : Int) < (NF : Int) := by omega
      have wk : IntKind.i64.wrap ((k : Int) + 1) = ((k + 1 : Nat) : Int) := by rw [IntKind.wrap_i64]; omega
      obtain ⟨NK, hNK⟩ : ∃ NK, (curK D k 0).length = NK := ⟨_, rfl⟩
      rw [hNK]
      have HNK := hide hNK
      clear hNK
      go_wp2
      clear k0
      go_loopw [9, 11] (fun x y wr => ∃ i : Nat, i ≤ nd ∧ y = .int .i64 (i : Int) ∧ x = .int .i64 ((curK D k i).length : Int) ∧ Hid (MkR wA wr gx (crL F ps (curK D k i)))) (fun _ y _ => nd - (intOf y).toNat)
      case atStart => exact ⟨0, by omega, rfl, by rw [HNK.out], HM.out⟩
      case round =>
        clear HM HNK
        obtain ⟨i, hi, rfl, rfl, HM⟩ := hrel
        obtain ⟨v, rfl⟩ : ∃ v, v = wr := ⟨wr, rfl⟩
        by_cases hlti : i < nd
        · obtain ⟨d, hd⟩ : ∃ d, D[i]? = some d := ⟨_, List.getElem?_eq_getElem (by rw [← HND.out]; exact hlti)⟩
          have HLN := hide (curK_len D k i)
          have HDF := hide (HFI.out.at hd)
          have HYE := hide (fun e => curK_yes (k := k) hd e)
          have HNO := hide (fun e => curK_no (k := k) hd e)
          have HND2 := hide HND.out
          obtain ⟨l, hl⟩ : ∃ l, curK D k i = l := ⟨_, rfl⟩
          rw [hl] at HM HLN HYE HNO ⊢
          obtain ⟨N, hN⟩ : ∃ N, l.length = N := ⟨_, rfl⟩
          rw [hN] at HLN ⊢
          have HN := hide hN
          obtain ⟨gd, rfl, -, hcd, x0, x1⟩ := OwnD.at' (OwnG.below OD.out HM.out.1 (Nat.le_refl _)) hd
          have KD : Hid (∀ u, Below wA.heap.size wA u → u.cell? ⟨gd, i * 2, none⟩ = some (.string d.nm)) := fun u hu => by
            obtain ⟨gd2, q1, -, -, q2, -⟩ := OwnD.at' (OwnG.below OD.out hu (Nat.le_refl _)) hd
            obtain rfl : gd = gd2 := by simpa using q1
            exact q2
          obtain ⟨nm, hnm⟩ : ∃ nm, d.nm = nm := ⟨_, rfl⟩
          obtain ⟨df, hdf⟩ : ∃ df, d.f = df := ⟨_, rfl⟩
          have HDE : Hid (d = ⟨nm, df⟩) := by rw [← hnm, ← hdf]; rfl
          rw [hnm] at x0 KD
          rw [hdf] at x1 HDF HYE HNO
          have HNB : N ≤ 1073741824 := by have := HLN.out; have := HND.out; omega
          have j1 : (0 : Int) ≤ (i : Int) := by omega
          have j2 : (i : Int) < (nd : Int) := by omega
          have wi : IntKind.i64.wrap ((i : Int) + 1) = ((i + 1 : Nat) : Int) := by rw [IntKind.wrap_i64]; omega
          clear hd hl hN hnm hdf x0 HLN
          by_cases hfe : df = k
          · subst hfe
            have t1 : ((df : Int) != (df : Int)) = false := by simp
            have HY := hide (HYE.out rfl)
            clear HYE HNO
            obtain ⟨P, hP⟩ : ∃ P, Hid (pickF ps N = P) := ⟨_, rfl⟩
            have HRV : Hid (Row .i64 v a n ps) := RA.out.below HM.out.1 (Nat.le_refl _)
            have wn : IntKind.i64.wrap ((N : Int) + 1) = ((N + 1 : Nat) : Int) := by rw [IntKind.wrap_i64]; omega
            have HP : Hid ((Lit.int .i64 P).wf = true) := by
              show _ = true
              rw [← hP.out]
              unfold pickF
              split
              · decide
              · rename_i hne
                have hlt2 : N % ps.length < ps.length := Nat.mod_lt _ (by omega)
                rw [List.getD_eq_getElem?_getD, List.getElem?_eq_getElem hlt2]
                exact HRV.out.2.2.1 _ (List.getElem_mem hlt2)
            go_upto_if 49 with fail
            go_cut [12] from 49 to 98 (fun x wx => x = .int .i64 P ∧ Hid (wx = v))
            case first =>
              by_cases h0 : n = 0
              · have hz : P = 0 := by
                  rw [← hP.out]
                  unfold pickF
                  rw [if_pos (by rw [HRV.out.1]; exact h0)]
                have hz2 : ¬ (0 : Int) < (n : Int) := by omega
                have hz3 : ¬ 0 < n := by omega
                have FN : Hid (Value.int .i64 0 = Value.int .i64 P) := by show _ = _; rw [hz]
                clear hz h0 hP HP HRV HM x1 HY KD
                go_wp2_with fail
                go_meet
                case rel => exact ⟨FN.out, rfl⟩
              · obtain ⟨q, hq, hqn⟩ : ∃ q : Nat, N % n = q ∧ q < n := ⟨_, rfl, Nat.mod_lt _ (by omega)⟩
                have hp : P = ps.getD q 0 := by
                  rw [← hP.out]
                  unfold pickF
                  rw [if_neg (by rw [HRV.out.1]; exact h0), HRV.out.1, hq]
                obtain ⟨b3, off3, rfl, cell3⟩ : ∃ b off, a = some ⟨b, off, none⟩ ∧ v.cell? ⟨b, off + q, none⟩ = some (.int .i64 (ps.getD q 0)) := by
                  rcases HRV.out.2.2.2 with e | ⟨b, off, rfl, hc⟩
                  · exact absurd e h0
                  · exact ⟨b, off, rfl, hc q hqn⟩
                rw [← hp] at cell3
                have hn3 : (0 : Int) < (n : Int) := by omega
                have hn4 : 0 < n := by omega
                have m1 : (N : Int).tmod (n : Int) = (q : Int) := by rw [Int.tmod_eq_emod_of_nonneg (by omega), ← hq]; omega
                have m2 : (N : Int) % (n : Int) = (q : Int) := by rw [← hq]; omega
                have m3 : IntKind.i64.wrap (q : Int) = (q : Int) := by rw [IntKind.wrap_i64]; omega
                have m4 : (0 : Int) ≤ (q : Int) := by omega
                have m5 : (q : Int) < (n : Int) := by omega
                have m6 : ((n : Int) == 0) = false := by simp; omega
                clear hp h0 hP HP HRV HM x1 HY KD hq
                go_wp2_with fail
                go_meet
                case rel => exact ⟨rfl, rfl⟩
            case rest =>
              obtain ⟨rfl, HWV⟩ := hcut
              rw [HWV.out]
              clear HWV
              obtain ⟨BV, T, bf, cg, bs, ch, bt, ck, hx, HT, R⟩ := HM.out
              have HRX := hide R
              have HTT := hide HT
              have BVV := hide BV
              have hGF := crL_filesLen F ps l
              rw [HN.out] at hGF
              have HGF := hide hGF
              have hGS := crL_sureLen F ps l
              rw [HN.out] at hGS
              have HGS := hide hGS
              obtain ⟨y0, y1, -⟩ := R.cells
              rw [hGF] at y0
              have OF : Hid (OwnF v 0 bf N cg hx) := by
                have := R.files
                rw [hGF] at this
                exact this
              obtain ⟨gf, h1, h2, hgf, hcf, hh, e0, e1, hxx⟩ := (HBA.out.below BV).fileAt (k := df) (by rw [HNF.out]; exact hlt)
              subst hgf
              obtain ⟨a1, n1', c1'⟩ := h1
              obtain ⟨a2, n2', c2'⟩ := h2
              dsimp only at e0 e1
              have HBY : Hid (∀ u, Below wA.heap.size wA u → Calls Tryz.prog 68 #[.agg #[.slice a1 n1' c1', .slice a2 n2' c2'], .int .i64 P] u fun e w' => ∃ a n c, e = .returned (.slice a n c) ∧ n = (unsB (atF F df).sure ((atF F df).us.take P.toNat)).length ∧ OwnB w' u.heap.size a n c (unsB (atF F df).sure ((atF F df).us.take P.toNat)) ∧ Below u.heap.size u w') := fun u hu => by
                have hkl : df < F.files.length := by rw [HNF.out]; exact hlt
                obtain ⟨gf2, h1', h2', q1, -, q3, -, -, hx2⟩ := HBA.out.fileAt (k := df) hkl
                rw [hh] at q3
                obtain ⟨rfl, rfl⟩ := Prod.mk.inj (Option.some.inj q3)
                have z1 := OwnG.len byV_len (by decide) hx2.sure
                have z2 := OwnG.len unV_len (by decide) hx2.us
                have z3 := HL.out.each _ (atF_mem hkl)
                dsimp only at z1 z2
                exact rbytes16_any 0 a1 n1' c1' (atF F df).sure a2 n2' c2' (atF F df).us P u (OwnG.below hx2.sure hu (Nat.le_refl _)) (OwnG.below hx2.us hu (Nat.le_refl _)) (HGV.out.cuts _ (atF_mem hkl)) (by omega) (by omega) HP.out
              have HFI2 : Hid ((⟨unsB (atF F df).sure ((atF F df).us.take P.toNat), []⟩ : Fi) = crFi F ps N d) := by
                rw [HDE.out]
                show _ = crFi F ps N ⟨nm, df⟩
                unfold crFi
                rw [hP.out]
                rfl
              have SK : Hid (∀ u, Below wA.heap.size wA u → (u.cell? ⟨g, 0, none⟩ = some (.slice (some ⟨gf, 0, none⟩) NF cf) ∧ u.cell? ⟨gf, df * 2, none⟩ = some (.slice a1 n1' c1') ∧ u.cell? ⟨gf, df * 2 + 1, none⟩ = some (.slice a2 n2' c2'))) := fun u hu => by
                refine ⟨C0.out u hu, ?_⟩
                obtain ⟨gf2, h1', h2', q1, -, q3, q4, q5, -⟩ := (HBA.out.below hu).fileAt (k := df) (by rw [HNF.out]; exact hlt)
                obtain rfl : gf = gf2 := by simpa using q1
                rw [hh] at q3
                obtain ⟨rfl, rfl⟩ := Prod.mk.inj (Option.some.inj q3)
                exact ⟨q4, q5⟩
              have HHB := hide (Nat.le_trans hcf (Nat.le_refl _))
              generalize unsB (atF F df).sure ((atF F df).us.take P.toNat) = BY at *
              rw [HNF.out] at HHB hcf
              clear R HT BV hGF hGS hh hxx HM x1 y1 e0 e1 hcf
              go_upto_region 15 with fail
              go_cut [] (fun wx => Hid (MkR wA wx gx { crL F ps l with files := (crL F ps l).files ++ [crFi F ps N d] }))
              case first =>
                have y0' : v.cell? ⟨gx, 0, none⟩ = some (.slice bf N cg) := y0
                have SV0 := SK.out v BVV.out
                obtain ⟨s0, s1, s2⟩ := SV0
                have b0 := HHB.out
                refine wp_region_held_drew (S := fun u => u.cell? ⟨g, 0, none⟩ = some (.slice (some ⟨gf, 0, none⟩) NF cf) ∧ u.cell? ⟨gf, df * 2, none⟩ = some (.slice a1 n1' c1') ∧ u.cell? ⟨gf, df * 2 + 1, none⟩ = some (.slice a2 n2' c2')) (by kernel_rfl) ⟨s0, s1, s2⟩ (fun hHeld => ?_)
                refine held_take (i := 0) (d := (some 59)) (v := ?_) rfl rfl (by kernel_rfl) (by kernel_rfl) (by kernel_rfl) (fun _ _ _ h => h) (Or.inl ⟨by rfl, ?_⟩) (by first | assumption | rfl | trivial) ?_
                rotate_left 1
                · (intro w hSw; (try dsimp only at hSw); (try subst hSw); go_simp; try with_reducible rfl)
                simp only [Act.put, List.setIfInBounds_toArray, List.set_cons_zero, List.set_cons_succ]
                refine held_take (i := 1) (d := (some 60)) (v := ?_) rfl rfl (by kernel_rfl) (by kernel_rfl) (by kernel_rfl) (fun _ _ _ h => h) (Or.inl ⟨by rfl, ?_⟩) (by first | assumption | rfl | trivial) ?_
                rotate_left 1
                · (intro w hSw; (try dsimp only at hSw); (try subst hSw); go_simp; try with_reducible rfl)
                simp only [Act.put, List.setIfInBounds_toArray, List.set_cons_zero, List.set_cons_succ]
                refine held_take (i := 2) (d := (some 61)) (v := ?_) rfl rfl (by kernel_rfl) (by kernel_rfl) (by kernel_rfl) (fun _ _ _ h => h) (Or.inl ⟨by rfl, ?_⟩) (by first | assumption | rfl | trivial) ?_
                rotate_left 1
                · (intro w hSw; (try dsimp only at hSw); (try subst hSw); go_simp; try with_reducible rfl)
                simp only [Act.put, List.setIfInBounds_toArray, List.set_cons_zero, List.set_cons_succ]
                refine held_take (i := 3) (d := (some 62)) (v := ?_) rfl rfl (by kernel_rfl) (by kernel_rfl) (by kernel_rfl) (fun _ _ _ h => h) (Or.inl ⟨by rfl, ?_⟩) (by first | assumption | rfl | trivial) ?_
                rotate_left 1
                · (intro w hSw; (try dsimp only at hSw); (try subst hSw); go_simp; try with_reducible rfl)
                simp only [Act.put, List.setIfInBounds_toArray, List.set_cons_zero, List.set_cons_succ]
                refine held_take (i := 5) (d := (some 64)) (v := ?_) rfl rfl (by kernel_rfl) (by kernel_rfl) (by kernel_rfl) (fun _ _ _ h => h) (Or.inl ⟨by rfl, ?_⟩) (by first | assumption | rfl | trivial) ?_
                rotate_left 1
                · (intro w hSw; (try dsimp only at hSw); (try subst hSw); go_simp; try with_reducible rfl)
                simp only [Act.put, List.setIfInBounds_toArray, List.set_cons_zero, List.set_cons_succ]
                refine held_take (i := 6) (d := (some 65)) (v := ?_) rfl rfl (by kernel_rfl) (by kernel_rfl) (by kernel_rfl) (fun _ _ _ h => h) (Or.inl ⟨by rfl, ?_⟩) (by first | assumption | rfl | trivial) ?_
                rotate_left 1
                · (intro w hSw; (try dsimp only at hSw); (try subst hSw); go_simp; try with_reducible rfl)
                simp only [Act.put, List.setIfInBounds_toArray, List.set_cons_zero, List.set_cons_succ]
                refine held_take (i := 7) (d := (some 66)) (v := ?_) rfl rfl (by kernel_rfl) (by kernel_rfl) (by kernel_rfl) (fun _ _ _ h => h) (Or.inl ⟨by rfl, ?_⟩) (by first | assumption | rfl | trivial) ?_
                rotate_left 1
                · (intro w hSw; (try dsimp only at hSw); (try subst hSw); go_simp; try with_reducible rfl)
                simp only [Act.put, List.setIfInBounds_toArray, List.set_cons_zero, List.set_cons_succ]
                refine held_take (i := 8) (d := (some 67)) (v := ?_) rfl rfl (by kernel_rfl) (by kernel_rfl) (by kernel_rfl) (fun _ _ _ h => h) (Or.inl ⟨by rfl, ?_⟩) (by first | assumption | rfl | trivial) ?_
                rotate_left 1
                · (intro w hSw; (try dsimp only at hSw); (try subst hSw); go_simp; try with_reducible rfl)
                simp only [Act.put, List.setIfInBounds_toArray, List.set_cons_zero, List.set_cons_succ]
                refine held_take (i := 9) (d := (some 68)) (v := ?_) rfl rfl (by kernel_rfl) (by kernel_rfl) (by kernel_rfl) (fun _ _ _ h => h) (Or.inl ⟨by rfl, ?_⟩) (by first | assumption | rfl | trivial) ?_
                rotate_left 1
                · (intro w hSw; (try dsimp only at hSw); (try subst hSw); go_simp; try with_reducible rfl)
                simp only [Act.put, List.setIfInBounds_toArray, List.set_cons_zero, List.set_cons_succ]
                refine held_take (i := 10) (d := (some 69)) (v := ?_) rfl rfl (by kernel_rfl) (by kernel_rfl) (by kernel_rfl) (fun _ _ _ h => h) (Or.inl ⟨by rfl, ?_⟩) (by first | assumption | rfl | trivial) ?_
                rotate_left 1
                · (intro w hSw; (try dsimp only at hSw); (try subst hSw); go_simp; try with_reducible rfl)
                simp only [Act.put, List.setIfInBounds_toArray, List.set_cons_zero, List.set_cons_succ]
                refine held_take (i := 11) (d := (some 70)) (v := ?_) rfl rfl (by kernel_rfl) (by kernel_rfl) (by kernel_rfl) (fun _ _ _ h => h) (Or.inl ⟨by rfl, ?_⟩) (by first | assumption | rfl | trivial) ?_
                rotate_left 1
                · (intro w hSw; (try dsimp only at hSw); (try subst hSw); go_simp; try with_reducible rfl)
                simp only [Act.put, List.setIfInBounds_toArray, List.set_cons_zero, List.set_cons_succ]
                refine held_take (i := 12) (d := (some 71)) (v := ?_) rfl rfl (by kernel_rfl) (by kernel_rfl) (by kernel_rfl) (fun _ _ _ h => h) (Or.inl ⟨by rfl, ?_⟩) (by first | assumption | rfl | trivial) ?_
                rotate_left 1
                · (intro w hSw; (try dsimp only at hSw); (try subst hSw); go_simp; try with_reducible rfl)
                simp only [Act.put, List.setIfInBounds_toArray, List.set_cons_zero, List.set_cons_succ]
                have SV1 := SK.out v.drew BVV.out.drew
                refine held_pair (i := 4) (j := 13) (by kernel_rfl) rfl (by rfl) rfl (by rfl) (fun K1 hK1 => ?_) (fun K1 hK1 => ?_)
                · go_simp
                  refine hK1.out _ _ ⟨s0, s1, s2⟩ ?_
                  clear hK1
                  refine held_next (i := 13) (by kernel_rfl) rfl (by rfl) (fun K1 hK1 => ?_)
                  go_simp
                  with_reducible refine (HBY.out _ BVV.out.drew).mono ?_
                  rintro e w6 ⟨xa, xn, xc, rfl, hxn, ox, b6⟩
                  have B6 : Hid (Below v.heap.size v w6) := (Below.refl _ _).drew.trans b6
                  have OX : Hid (OwnB w6 v.heap.size xa xn xc BY) := ox
                  have BA6 : Hid (Below wA.heap.size wA w6) := BVV.out.trans (B6.out.mono BVV.out.size)
                  have S6 := hide (SK.out _ BA6.out)
                  have L6 : w6.cell? ⟨gx, 0, none⟩ = some (.slice bf N cg) := (B6.out.cell (p := ⟨gx, 0, none⟩) (World.block_lt_of_cell? v _ y0)).trans y0
                  obtain ⟨g6, hg6⟩ : ∃ g6, Hid (w6.heap.size = g6) := ⟨_, rfl⟩
                  obtain ⟨w7, hw7⟩ : ∃ w7, Hid (w6.alloc (.cells #[.slice xa xn xc, .slice none 0 0] 83) = w7) := ⟨_, rfl⟩
                  have BA7 : Hid (Below wA.heap.size wA w7) := by rw [← hw7.out]; exact BA6.out.alloc BA6.out.size _
                  have S7 := hide (SK.out _ BA7.out)
                  have L7 : w7.cell? ⟨gx, 0, none⟩ = some (.slice bf N cg) := by
                    have h1 : Below w6.heap.size w6 w7 := by rw [← hw7.out]; exact (Below.refl _ _).alloc (Nat.le_refl _) _
                    exact (h1.cell (p := ⟨gx, 0, none⟩) (World.block_lt_of_cell? w6 _ L6)).trans L6
                  have OF7 : Hid (OwnF w7 0 bf N cg hx) := by rw [← hw7.out]; exact (OwnG.below OF.out B6.out (Nat.le_refl _)).alloc _
                  have NC7 : Hid (∀ j u, (fiV ((xa, xn, xc), (none, 0, 0)))[j]? = some u → w7.cell? ((⟨g6, 0, none⟩ : Addr).add j) = some u) := by rw [← hw7.out, ← hg6.out]; exact fi_cells w6 ((xa, xn, xc), (none, 0, 0)) _
                  clear ox b6 hxn
                  go_wp2_with fail
                  refine hK1.out _ _ S6.out ?_
                  clear hK1
                  refine held_take (i := 14) (d := (some 73)) (v := ?_) rfl rfl (by kernel_rfl) (by kernel_rfl) (by kernel_rfl) (fun _ _ _ h => h) (Or.inl ⟨by rfl, ?_⟩) (by first | assumption | rfl | trivial) ?_
                  rotate_left 1
                  · (intro w hSw; (try dsimp only at hSw); (try subst hSw); go_simp; try with_reducible rfl)
                  simp only [Act.put, List.setIfInBounds_toArray, List.set_cons_zero, List.set_cons_succ]
                  refine held_next (i := 15) (by kernel_rfl) rfl (by rfl) (fun K1 hK1 => ?_)
                  go_simp
                  rw [hw7.out, hg6.out]
                  refine hK1.out _ _ S7.out ?_
                  clear hK1
                  refine held_next (i := 16) (by kernel_rfl) rfl (by rfl) (fun K1 hK1 => ?_)
                  refine wp_append_lies _ (.tmp 63) (.tmp 74) 27 rfl 0 83 i1 (.agg #[.slice none 0 0, .slice none 0 0]) 2 48 Tryz.underlying27 hi1 hz10 hz11 hz12 rfl (by decide) (.slice bf N cg) N (hx.flatMap fiV) rfl OF7.out ⟨g6, 0, none⟩ 1 1 (fiV ((xa, xn, xc), (none, 0, 0))) rfl rfl NC7.out (fiV_one1 _) (by omega) (by unfold maxLen; omega) (by omega) (Nat.zero_le _) _ rfl ?_
                  intro gC cC wC oC grC atC ltC
                  have UP : Hid (MkR wA (wC.setCell ⟨gx, 0, none⟩ (.slice (some ⟨gC, 0, none⟩) (N + 1) cC)) gx { crL F ps l with files := (crL F ps l).files ++ [crFi F ps N d] } ∧ wC.cell? ⟨gx, 0, none⟩ = some (.slice bf N cg) ∧ wC.frozen? ⟨gx, 0, none⟩ = false ∧ Below wA.heap.size wA wC) := by
                    rw [← hw7.out] at grC atC
                    have := file_up HRX.out HTT.out BVV.out B6.out HGF.out (x := (xa, xn, xc)) OX.out oC grC atC
                    rw [HFI2.out] at this
                    exact this
                  obtain ⟨u1, u2, u3, u4⟩ := UP.out
                  have BC := hide u4
                  have MC := hide u1
                  have S8 := hide (SK.out _ BC.out)
                  have S9 := hide (SK.out _ MC.out.1)
                  clear oC grC atC ltC UP u1 u4
                  go_simp
                  refine hK1.out _ _ S8.out ?_
                  clear hK1
                  refine held_take (i := 17) (d := (some 76)) (v := ?_) rfl rfl (by kernel_rfl) (by kernel_rfl) (by kernel_rfl) (fun _ _ _ h => h) (Or.inl ⟨by rfl, ?_⟩) (by first | assumption | rfl | trivial) ?_
                  rotate_left 1
                  · (intro w hSw; (try dsimp only at hSw); (try subst hSw); go_simp; try with_reducible rfl)
                  simp only [Act.put, List.setIfInBounds_toArray, List.set_cons_zero, List.set_cons_succ]
                  refine held_take (i := 18) (d := (some 77)) (v := ?_) rfl rfl (by kernel_rfl) (by kernel_rfl) (by kernel_rfl) (fun _ _ _ h => h) (Or.inl ⟨by rfl, ?_⟩) (by first | assumption | rfl | trivial) ?_
                  rotate_left 1
                  · (intro w hSw; (try dsimp only at hSw); (try subst hSw); go_simp; try with_reducible rfl)
                  simp only [Act.put, List.setIfInBounds_toArray, List.set_cons_zero, List.set_cons_succ]
                  refine held_next (i := 19) (by kernel_rfl) rfl (by rfl) (fun K1 hK1 => ?_)
                  go_simp
                  refine hK1.out _ _ S9.out ?_
                  clear hK1 hHeld
                  refine wpAnyH_done (by kernel_rfl) ?_ _
                  go_wp2
                  go_meet
                  case rel => exact MC
                · go_simp
                  with_reducible refine (HBY.out _ BVV.out.drew).mono ?_
                  rintro e w6 ⟨xa, xn, xc, rfl, hxn, ox, b6⟩
                  have B6 : Hid (Below v.heap.size v w6) := (Below.refl _ _).drew.trans b6
                  have OX : Hid (OwnB w6 v.heap.size xa xn xc BY) := ox
                  have BA6 : Hid (Below wA.heap.size wA w6) := BVV.out.trans (B6.out.mono BVV.out.size)
                  have S6 := hide (SK.out _ BA6.out)
                  have L6 : w6.cell? ⟨gx, 0, none⟩ = some (.slice bf N cg) := (B6.out.cell (p := ⟨gx, 0, none⟩) (World.block_lt_of_cell? v _ y0)).trans y0
                  obtain ⟨g6, hg6⟩ : ∃ g6, Hid (w6.heap.size = g6) := ⟨_, rfl⟩
                  obtain ⟨w7, hw7⟩ : ∃ w7, Hid (w6.alloc (.cells #[.slice xa xn xc, .slice none 0 0] 83) = w7) := ⟨_, rfl⟩
                  have BA7 : Hid (Below wA.heap.size wA w7) := by rw [← hw7.out]; exact BA6.out.alloc BA6.out.size _
                  have S7 := hide (SK.out _ BA7.out)
                  have L7 : w7.cell? ⟨gx, 0, none⟩ = some (.slice bf N cg) := by
                    have h1 : Below w6.heap.size w6 w7 := by rw [← hw7.out]; exact (Below.refl _ _).alloc (Nat.le_refl _) _
                    exact (h1.cell (p := ⟨gx, 0, none⟩) (World.block_lt_of_cell? w6 _ L6)).trans L6
                  have OF7 : Hid (OwnF w7 0 bf N cg hx) := by rw [← hw7.out]; exact (OwnG.below OF.out B6.out (Nat.le_refl _)).alloc _
                  have NC7 : Hid (∀ j u, (fiV ((xa, xn, xc), (none, 0, 0)))[j]? = some u → w7.cell? ((⟨g6, 0, none⟩ : Addr).add j) = some u) := by rw [← hw7.out, ← hg6.out]; exact fi_cells w6 ((xa, xn, xc), (none, 0, 0)) _
                  clear ox b6 hxn
                  go_wp2_with fail
                  refine hK1.out _ _ S6.out ?_
                  clear hK1
                  refine held_take (i := 14) (d := (some 73)) (v := ?_) rfl rfl (by kernel_rfl) (by kernel_rfl) (by kernel_rfl) (fun _ _ _ h => h) (Or.inl ⟨by rfl, ?_⟩) (by first | assumption | rfl | trivial) ?_
                  rotate_left 1
                  · (intro w hSw; (try dsimp only at hSw); (try subst hSw); go_simp; try with_reducible rfl)
                  simp only [Act.put, List.setIfInBounds_toArray, List.set_cons_zero, List.set_cons_succ]
                  refine held_pair (i := 4) (j := 15) (by kernel_rfl) rfl (by rfl) rfl (by rfl) (fun K1 hK1 => ?_) (fun K1 hK1 => ?_)
                  · go_simp
                    refine hK1.out _ _ S6.out ?_
                    clear hK1
                    refine held_next (i := 15) (by kernel_rfl) rfl (by rfl) (fun K1 hK1 => ?_)
                    go_simp
                    rw [hw7.out, hg6.out]
                    refine hK1.out _ _ S7.out ?_
                    clear hK1
                    refine held_next (i := 16) (by kernel_rfl) rfl (by rfl) (fun K1 hK1 => ?_)
                    refine wp_append_lies _ (.tmp 63) (.tmp 74) 27 rfl 0 83 i1 (.agg #[.slice none 0 0, .slice none 0 0]) 2 48 Tryz.underlying27 hi1 hz10 hz11 hz12 rfl (by decide) (.slice bf N cg) N (hx.flatMap fiV) rfl OF7.out ⟨g6, 0, none⟩ 1 1 (fiV ((xa, xn, xc), (none, 0, 0))) rfl rfl NC7.out (fiV_one1 _) (by omega) (by unfold maxLen; omega) (by omega) (Nat.zero_le _) _ rfl ?_
                    intro gC cC wC oC grC atC ltC
                    have UP : Hid (MkR wA (wC.setCell ⟨gx, 0, none⟩ (.slice (some ⟨gC, 0, none⟩) (N + 1) cC)) gx { crL F ps l with files := (crL F ps l).files ++ [crFi F ps N d] } ∧ wC.cell? ⟨gx, 0, none⟩ = some (.slice bf N cg) ∧ wC.frozen? ⟨gx, 0, none⟩ = false ∧ Below wA.heap.size wA wC) := by
                      rw [← hw7.out] at grC atC
                      have := file_up HRX.out HTT.out BVV.out B6.out HGF.out (x := (xa, xn, xc)) OX.out oC grC atC
                      rw [HFI2.out] at this
                      exact this
                    obtain ⟨u1, u2, u3, u4⟩ := UP.out
                    have BC := hide u4
                    have MC := hide u1
                    have S8 := hide (SK.out _ BC.out)
                    have S9 := hide (SK.out _ MC.out.1)
                    clear oC grC atC ltC UP u1 u4
                    go_simp
                    refine hK1.out _ _ S8.out ?_
                    clear hK1
                    refine held_take (i := 17) (d := (some 76)) (v := ?_) rfl rfl (by kernel_rfl) (by kernel_rfl) (by kernel_rfl) (fun _ _ _ h => h) (Or.inl ⟨by rfl, ?_⟩) (by first | assumption | rfl | trivial) ?_
                    rotate_left 1
                    · (intro w hSw; (try dsimp only at hSw); (try subst hSw); go_simp; try with_reducible rfl)
                    simp only [Act.put, List.setIfInBounds_toArray, List.set_cons_zero, List.set_cons_succ]
                    refine held_take (i := 18) (d := (some 77)) (v := ?_) rfl rfl (by kernel_rfl) (by kernel_rfl) (by kernel_rfl) (fun _ _ _ h => h) (Or.inl ⟨by rfl, ?_⟩) (by first | assumption | rfl | trivial) ?_
                    rotate_left 1
                    · (intro w hSw; (try dsimp only at hSw); (try subst hSw); go_simp; try with_reducible rfl)
                    simp only [Act.put, List.setIfInBounds_toArray, List.set_cons_zero, List.set_cons_succ]
                    refine held_next (i := 19) (by kernel_rfl) rfl (by rfl) (fun K1 hK1 => ?_)
                    go_simp
                    refine hK1.out _ _ S9.out ?_
                    clear hK1 hHeld
                    refine wpAnyH_done (by kernel_rfl) ?_ _
                    go_wp2
                    go_meet
                    case rel => exact MC
                  · go_simp
                    rw [hw7.out, hg6.out]
                    refine hK1.out _ _ S7.out ?_
                    clear hK1
                    refine held_next (i := 4) (by kernel_rfl) rfl (by rfl) (fun K1 hK1 => ?_)
                    go_simp
                    refine hK1.out _ _ S7.out ?_
                    clear hK1
                    refine held_next (i := 16) (by kernel_rfl) rfl (by rfl) (fun K1 hK1 => ?_)
                    refine wp_append_lies _ (.tmp 63) (.tmp 74) 27 rfl 0 83 i1 (.agg #[.slice none 0 0, .slice none 0 0]) 2 48 Tryz.underlying27 hi1 hz10 hz11 hz12 rfl (by decide) (.slice bf N cg) N (hx.flatMap fiV) rfl OF7.out ⟨g6, 0, none⟩ 1 1 (fiV ((xa, xn, xc), (none, 0, 0))) rfl rfl NC7.out (fiV_one1 _) (by omega) (by unfold maxLen; omega) (by omega) (Nat.zero_le _) _ rfl ?_
                    intro gC cC wC oC grC atC ltC
                    have UP : Hid (MkR wA (wC.setCell ⟨gx, 0, none⟩ (.slice (some ⟨gC, 0, none⟩) (N + 1) cC)) gx { crL F ps l with files := (crL F ps l).files ++ [crFi F ps N d] } ∧ wC.cell? ⟨gx, 0, none⟩ = some (.slice bf N cg) ∧ wC.frozen? ⟨gx, 0, none⟩ = false ∧ Below wA.heap.size wA wC) := by
                      rw [← hw7.out] at grC atC
                      have := file_up HRX.out HTT.out BVV.out B6.out HGF.out (x := (xa, xn, xc)) OX.out oC grC atC
                      rw [HFI2.out] at this
                      exact this
                    obtain ⟨u1, u2, u3, u4⟩ := UP.out
                    have BC := hide u4
                    have MC := hide u1
                    have S8 := hide (SK.out _ BC.out)
                    have S9 := hide (SK.out _ MC.out.1)
                    clear oC grC atC ltC UP u1 u4
                    go_simp
                    refine hK1.out _ _ S8.out ?_
                    clear hK1
                    refine held_take (i := 17) (d := (some 76)) (v := ?_) rfl rfl (by kernel_rfl) (by kernel_rfl) (by kernel_rfl) (fun _ _ _ h => h) (Or.inl ⟨by rfl, ?_⟩) (by first | assumption | rfl | trivial) ?_
                    rotate_left 1
                    · (intro w hSw; (try dsimp only at hSw); (try subst hSw); go_simp; try with_reducible rfl)
                    simp only [Act.put, List.setIfInBounds_toArray, List.set_cons_zero, List.set_cons_succ]
                    refine held_take (i := 18) (d := (some 77)) (v := ?_) rfl rfl (by kernel_rfl) (by kernel_rfl) (by kernel_rfl) (fun _ _ _ h => h) (Or.inl ⟨by rfl, ?_⟩) (by first | assumption | rfl | trivial) ?_
                    rotate_left 1
                    · (intro w hSw; (try dsimp only at hSw); (try subst hSw); go_simp; try with_reducible rfl)
                    simp only [Act.put, List.setIfInBounds_toArray, List.set_cons_zero, List.set_cons_succ]
                    refine held_next (i := 19) (by kernel_rfl) rfl (by rfl) (fun K1 hK1 => ?_)
                    go_simp
                    refine hK1.out _ _ S9.out ?_
                    clear hK1 hHeld
                    refine wpAnyH_done (by kernel_rfl) ?_ _
                    go_wp2
                    go_meet
                    case rel => exact MC
              case rest =>
                have HMX := hcut
                clear hcut HRX HTT HGF OF y0 HBY HFI2 SK HHB
                clear BVV
                obtain ⟨v, rfl⟩ : ∃ v, v = wc := ⟨wc, rfl⟩
                obtain ⟨BV, T, bf, cg, bs, ch, bt, ck, hx, HT, R⟩ := HMX.out
                have HRX := hide R
                have HTT := hide HT
                have BVV := hide BV
                have HFL : Hid (((crL F ps l).files ++ [crFi F ps N d]).length = N + 1) := by show _ = _; rw [List.length_append, crL_filesLen, HN.out]; rfl
                obtain ⟨y0, y1, -⟩ := R.cells
                dsimp only at y0 y1
                rw [HFL.out] at y0
                rw [HGS.out] at y1
                have OS : Hid (OwnD v 0 bs N ch (crL F ps l).sure) := by
                  have := R.sure
                  dsimp only at this
                  rw [HGS.out] at this
                  exact this
                have z0 := KD.out v BV
                have SK : Hid (∀ u, Below wA.heap.size wA u → u.cell? ⟨gd, i * 2, none⟩ = some (.string nm)) := KD.out
                have NC5 := hide (dn_cells v ⟨nm, N⟩ 80)
                dsimp only at NC5
                have w1 : IntKind.i64.wrap ((N : Int) + 1 - 1) = (N : Int) := by rw [IntKind.wrap_i64]; omega
                have w2 : (N : Int) + 1 - 1 = (N : Int) := by omega
                have w3 : IntKind.i64.wrap (N : Int) = (N : Int) := by rw [IntKind.wrap_i64]; omega
                obtain ⟨w6, hw6⟩ : ∃ w6, Hid ((v.alloc (.cells #[.string nm, .int .i64 (N : Int)] 80)).drew = w6) := ⟨_, rfl⟩
                obtain ⟨g6, hg6⟩ : ∃ g6, Hid (v.heap.size = g6) := ⟨_, rfl⟩
                have B6 : Hid (Below v.heap.size v w6) := by rw [← hw6.out]; exact (bel_al (Below.refl _ _) (Nat.le_refl _) _).drew
                have BA6 : Hid (Below wA.heap.size wA w6) := BV.trans (B6.out.mono BV.size)
                have OS6 : Hid (OwnD w6 0 bs N ch (crL F ps l).sure) := OwnG.below OS.out B6.out (Nat.le_refl _)
                have NC6 : Hid (∀ j u, (dnV ⟨nm, N⟩)[j]? = some u → w6.cell? ((⟨g6, 0, none⟩ : Addr).add j) = some u) := by rw [← hw6.out, ← hg6.out]; exact NC5.out
                have v0 : w6.cell? ⟨gx, 0, none⟩ = some (.slice bf (N + 1) cg) := (B6.out.cell (p := ⟨gx, 0, none⟩) (World.block_lt_of_cell? v _ y0)).trans y0
                have v1 : w6.cell? ⟨gx, 1, none⟩ = some (.slice bs N ch) := (B6.out.cell (p := ⟨gx, 1, none⟩) (World.block_lt_of_cell? v _ y1)).trans y1
                have SX6 := hide (And.intro v0 (SK.out _ BA6.out))
                have HUP : Hid (∀ (gC cC : Nat) (wC : World), wC.ownsRow 0 80 2 (.slice (some ⟨gC, 0, none⟩) (N + 1) cC) (N + 1) ((crL F ps l).sure.flatMap dnV ++ dnV ⟨nm, N⟩) → w6.grownBy wC (Value.slice bs N ch).ownBlock → ((Value.slice bs N ch).ownBlock = some gC ∨ gC = w6.heap.size) →
                    Hid (MkR wA (wC.setCell ⟨gx, 1, none⟩ (.slice (some ⟨gC, 0, none⟩) (N + 1) cC)) gx (crL F ps (curK D df (i + 1)))) ∧ wC.cell? ⟨gx, 1, none⟩ = some (.slice bs N ch) ∧ wC.frozen? ⟨gx, 1, none⟩ = false ∧ Hid (Below wA.heap.size wA wC) ∧ wC.cell? ⟨gx, 0, none⟩ = some (.slice bf (N + 1) cg)) := fun gC cC wC oC grC atC => by
                  have := sure_up HRX.out HTT.out BVV.out B6.out (show ({ crL F ps l with files := (crL F ps l).files ++ [crFi F ps N d] } : Fs).sure.length = N from HGS.out) oC grC atC
                  obtain ⟨p1, p2, p3, p4, p5⟩ := this
                  dsimp only at p5
                  rw [HFL.out] at p5
                  refine ⟨?_, p2, p3, p4, p5⟩
                  have e9 : crL F ps (curK D df (i + 1)) = { crL F ps l with files := (crL F ps l).files ++ [crFi F ps N d], sure := (crL F ps l).sure ++ [⟨nm, N⟩] } := by
                    rw [HY.out, crL_push, HN.out, HDE.out]
                  rw [e9]
                  exact p1
                have HL2 : Hid ((curK D df (i + 1)).length = N + 1) := by show _ = _; rw [HY.out, List.length_append, HN.out]; rfl
                obtain ⟨SL, hSL⟩ : ∃ SL, Hid ((crL F ps l).sure = SL) := ⟨_, rfl⟩
                rw [hSL.out] at OS6 HUP
                have SZ : Hid (v.heap.size ≤ v.heap.size) := Nat.le_refl _
                clear R HT BV OS NC5 HRX HTT HMX HFL HGS
                go_upto_region 16 with fail
                refine wp_region_held_drew (S := fun u => u.cell? ⟨gx, 0, none⟩ = some (.slice bf (N + 1) cg) ∧ u.cell? ⟨gd, i * 2, none⟩ = some (.string nm)) (by kernel_rfl) ⟨y0, z0⟩ (fun hHeld => ?_)
                refine held_take (i := 0) (d := (some 78)) (v := ?_) rfl rfl (by kernel_rfl) (by kernel_rfl) (by kernel_rfl) (fun _ _ _ h => h) (Or.inl ⟨by rfl, ?_⟩) (by first | assumption | rfl | trivial) ?_
                rotate_left 1
                · (intro w hSw; (try dsimp only at hSw); (try subst hSw); go_simp; try with_reducible rfl)
                simp only [Act.put, List.setIfInBounds_toArray, List.set_cons_zero, List.set_cons_succ]
                refine held_take (i := 1) (d := (some 79)) (v := ?_) rfl rfl (by kernel_rfl) (by kernel_rfl) (by kernel_rfl) (fun _ _ _ h => h) (Or.inl ⟨by rfl, ?_⟩) (by first | assumption | rfl | trivial) ?_
                rotate_left 1
                · (intro w hSw; (try dsimp only at hSw); (try subst hSw); go_simp; try with_reducible rfl)
                simp only [Act.put, List.setIfInBounds_toArray, List.set_cons_zero, List.set_cons_succ]
                refine held_take (i := 2) (d := (some 80)) (v := ?_) rfl rfl (by kernel_rfl) (by kernel_rfl) (by kernel_rfl) (fun _ _ _ h => h) (Or.inl ⟨by rfl, ?_⟩) (by first | assumption | rfl | trivial) ?_
                rotate_left 1
                · (intro w hSw; (try dsimp only at hSw); (try subst hSw); go_simp; try with_reducible rfl)
                simp only [Act.put, List.setIfInBounds_toArray, List.set_cons_zero, List.set_cons_succ]
                refine held_take (i := 3) (d := (some 81)) (v := ?_) rfl rfl (by kernel_rfl) (by kernel_rfl) (by kernel_rfl) (fun _ _ _ h => h) (Or.inl ⟨by rfl, ?_⟩) (by first | assumption | rfl | trivial) ?_
                rotate_left 1
                · (intro w hSw; (try dsimp only at hSw); (try subst hSw); go_simp; try with_reducible rfl)
                simp only [Act.put, List.setIfInBounds_toArray, List.set_cons_zero, List.set_cons_succ]
                refine held_take (i := 5) (d := (some 83)) (v := ?_) rfl rfl (by kernel_rfl) (by kernel_rfl) (by kernel_rfl) (fun _ _ _ h => h) (Or.inl ⟨by rfl, ?_⟩) (by first | assumption | rfl | trivial) ?_
                rotate_left 1
                · (intro w hSw; (try dsimp only at hSw); (try subst hSw); go_simp; try with_reducible rfl)
                simp only [Act.put, List.setIfInBounds_toArray, List.set_cons_zero, List.set_cons_succ]
                refine held_take (i := 6) (d := (some 84)) (v := ?_) rfl rfl (by kernel_rfl) (by kernel_rfl) (by kernel_rfl) (fun _ _ _ h => h) (Or.inl ⟨by rfl, ?_⟩) (by first | assumption | rfl | trivial) ?_
                rotate_left 1
                · (intro w hSw; (try dsimp only at hSw); (try subst hSw); go_simp; try with_reducible rfl)
                simp only [Act.put, List.setIfInBounds_toArray, List.set_cons_zero, List.set_cons_succ]
                refine held_take (i := 7) (d := (some 85)) (v := ?_) rfl rfl (by kernel_rfl) (by kernel_rfl) (by kernel_rfl) (fun _ _ _ h => h) (Or.inl ⟨by rfl, ?_⟩) (by first | assumption | rfl | trivial) ?_
                rotate_left 1
                · (intro w hSw; (try dsimp only at hSw); (try subst hSw); go_simp; try with_reducible rfl)
                simp only [Act.put, List.setIfInBounds_toArray, List.set_cons_zero, List.set_cons_succ]
                refine held_take (i := 8) (d := (some 86)) (v := ?_) rfl rfl (by kernel_rfl) (by kernel_rfl) (by kernel_rfl) (fun _ _ _ h => h) (Or.inl ⟨by rfl, ?_⟩) (by first | assumption | rfl | trivial) ?_
                rotate_left 1
                · (intro w hSw; (try dsimp only at hSw); (try subst hSw); go_simp; try with_reducible rfl)
                simp only [Act.put, List.setIfInBounds_toArray, List.set_cons_zero, List.set_cons_succ]
                refine held_take (i := 9) (d := (some 87)) (v := ?_) rfl rfl (by kernel_rfl) (by kernel_rfl) (by kernel_rfl) (fun _ _ _ h => h) (Or.inl ⟨by rfl, ?_⟩) (by first | assumption | rfl | trivial) ?_
                rotate_left 1
                · (intro w hSw; (try dsimp only at hSw); (try subst hSw); go_simp; try with_reducible rfl)
                simp only [Act.put, List.setIfInBounds_toArray, List.set_cons_zero, List.set_cons_succ]
                refine held_take (i := 10) (d := (some 88)) (v := ?_) rfl rfl (by kernel_rfl) (by kernel_rfl) (by kernel_rfl) (fun _ _ _ h => h) (Or.inl ⟨by rfl, ?_⟩) (by first | assumption | rfl | trivial) ?_
                rotate_left 1
                · (intro w hSw; (try dsimp only at hSw); (try subst hSw); go_simp; try with_reducible rfl)
                simp only [Act.put, List.setIfInBounds_toArray, List.set_cons_zero, List.set_cons_succ]
                refine held_take (i := 11) (d := (some 89)) (v := ?_) rfl rfl (by kernel_rfl) (by kernel_rfl) (by kernel_rfl) (fun _ _ _ h => h) (Or.inl ⟨by rfl, ?_⟩) (by first | assumption | rfl | trivial) ?_
                rotate_left 1
                · (intro w hSw; (try dsimp only at hSw); (try subst hSw); go_simp; try with_reducible rfl)
                simp only [Act.put, List.setIfInBounds_toArray, List.set_cons_zero, List.set_cons_succ]
                refine held_take (i := 12) (d := (some 90)) (v := ?_) rfl rfl (by kernel_rfl) (by kernel_rfl) (by kernel_rfl) (fun _ _ _ h => h) (Or.inl ⟨by rfl, ?_⟩) (by first | assumption | rfl | trivial) ?_
                rotate_left 1
                · (intro w hSw; (try dsimp only at hSw); (try subst hSw); go_simp; try with_reducible rfl)
                simp only [Act.put, List.setIfInBounds_toArray, List.set_cons_zero, List.set_cons_succ]
                refine held_take (i := 13) (d := (some 91)) (v := ?_) rfl rfl (by kernel_rfl) (by kernel_rfl) (by kernel_rfl) (fun _ _ _ h => h) (Or.inl ⟨by rfl, ?_⟩) (by first | assumption | rfl | trivial) ?_
                rotate_left 1
                · (intro w hSw; (try dsimp only at hSw); (try subst hSw); go_simp; try with_reducible rfl)
                simp only [Act.put, List.setIfInBounds_toArray, List.set_cons_zero, List.set_cons_succ]
                refine held_take (i := 14) (d := (some 92)) (v := ?_) rfl rfl (by kernel_rfl) (by kernel_rfl) (by kernel_rfl) (fun _ _ _ h => h) (Or.inl ⟨by rfl, ?_⟩) (by first | assumption | rfl | trivial) ?_
                rotate_left 1
                · (intro w hSw; (try dsimp only at hSw); (try subst hSw); go_simp; try with_reducible rfl)
                simp only [Act.put, List.setIfInBounds_toArray, List.set_cons_zero, List.set_cons_succ]
                refine held_take (i := 15) (d := (some 93)) (v := ?_) rfl rfl (by kernel_rfl) (by kernel_rfl) (by kernel_rfl) (fun _ _ _ h => h) (Or.inl ⟨by rfl, ?_⟩) (by first | assumption | rfl | trivial) ?_
                rotate_left 1
                · (intro w hSw; (try dsimp only at hSw); (try subst hSw); go_simp; try with_reducible rfl)
                simp only [Act.put, List.setIfInBounds_toArray, List.set_cons_zero, List.set_cons_succ]
                refine held_take (i := 16) (d := (some 94)) (v := ?_) rfl rfl (by kernel_rfl) (by kernel_rfl) (by kernel_rfl) (fun _ _ _ h => h) (Or.inl ⟨by rfl, ?_⟩) (by first | assumption | rfl | trivial) ?_
                rotate_left 1
                · (intro w hSw; (try dsimp only at hSw); (try subst hSw); go_simp; try with_reducible rfl)
                simp only [Act.put, List.setIfInBounds_toArray, List.set_cons_zero, List.set_cons_succ]
                refine held_pair (i := 4) (j := 17) (by kernel_rfl) rfl (by rfl) rfl (by rfl) (fun K1 hK1 => ?_) (fun K1 hK1 => ?_)
                · go_simp
                  refine hK1.out _ _ ⟨y0, z0⟩ ?_
                  clear hK1
                  refine held_next (i := 17) (by kernel_rfl) rfl (by rfl) (fun K1 hK1 => ?_)
                  go_simp
                  rw [hw6.out, hg6.out]
                  refine hK1.out _ _ SX6.out ?_
                  clear hK1
                  refine held_next (i := 18) (by kernel_rfl) rfl (by rfl) (fun K1 hK1 => ?_)
                  refine wp_append_lies _ (.tmp 82) (.tmp 95) 28 rfl 0 80 i2 (.agg #[.string .empty, .int .i64 0]) 2 24 Tryz.underlying28 hi2 hz20 hz21 hz22 rfl (by decide) (.slice bs N ch) N (SL.flatMap dnV) rfl OS6.out ⟨g6, 0, none⟩ 1 1 (dnV ⟨nm, N⟩) rfl rfl NC6.out (dnV_one1 _) (by omega) (by unfold maxLen; omega) (by omega) (Nat.zero_le _) _ rfl ?_
                  intro gC cC wC oC grC atC ltC
                  obtain ⟨MC, u2, u3, BC, u5⟩ := HUP.out gC cC wC oC grC atC
                  have S8 := hide (And.intro u5 (SK.out _ BC.out))
                  have S9 : Hid ((wC.setCell ⟨gx, 1, none⟩ (.slice (some ⟨gC, 0, none⟩) (N + 1) cC)).cell? ⟨gx, 0, none⟩ = some (.slice bf (N + 1) cg) ∧ (wC.setCell ⟨gx, 1, none⟩ (.slice (some ⟨gC, 0, none⟩) (N + 1) cC)).cell? ⟨gd, i * 2, none⟩ = some (.string nm)) := ⟨(World.cell?_setCell_other wC ⟨gx, 1, none⟩ ⟨gx, 0, none⟩ _ (by simp)).trans u5, SK.out _ MC.out.1⟩
                  clear oC grC atC ltC HUP u5
                  go_simp
                  refine hK1.out _ _ S8.out ?_
                  clear hK1
                  refine held_take (i := 19) (d := (some 97)) (v := ?_) rfl rfl (by kernel_rfl) (by kernel_rfl) (by kernel_rfl) (fun _ _ _ h => h) (Or.inl ⟨by rfl, ?_⟩) (by first | assumption | rfl | trivial) ?_
                  rotate_left 1
                  · (intro w hSw; (try dsimp only at hSw); (try subst hSw); go_simp; try with_reducible rfl)
                  simp only [Act.put, List.setIfInBounds_toArray, List.set_cons_zero, List.set_cons_succ]
                  refine held_take (i := 20) (d := (some 98)) (v := ?_) rfl rfl (by kernel_rfl) (by kernel_rfl) (by kernel_rfl) (fun _ _ _ h => h) (Or.inl ⟨by rfl, ?_⟩) (by first | assumption | rfl | trivial) ?_
                  rotate_left 1
                  · (intro w hSw; (try dsimp only at hSw); (try subst hSw); go_simp; try with_reducible rfl)
                  simp only [Act.put, List.setIfInBounds_toArray, List.set_cons_zero, List.set_cons_succ]
                  refine held_next (i := 21) (by kernel_rfl) rfl (by rfl) (fun K1 hK1 => ?_)
                  go_simp
                  refine hK1.out _ _ S9.out ?_
                  clear hK1 hHeld
                  refine wpAnyH_done (by kernel_rfl) ?_ _
                  go_wp2
                  go_roundw
                  case rel => exact ⟨i + 1, by omega, by go_num, by rw [HL2.out, Int.natCast_add]; rfl, MC.out⟩
                  case measure => simp [intOf]; omega
                · go_simp
                  rw [hw6.out, hg6.out]
                  refine hK1.out _ _ SX6.out ?_
                  clear hK1
                  refine held_next (i := 4) (by kernel_rfl) rfl (by rfl) (fun K1 hK1 => ?_)
                  go_simp
                  refine hK1.out _ _ SX6.out ?_
                  clear hK1
                  refine held_next (i := 18) (by kernel_rfl) rfl (by rfl) (fun K1 hK1 => ?_)
                  refine wp_append_lies _ (.tmp 82) (.tmp 95) 28 rfl 0 80 i2 (.agg #[.string .empty, .int .i64 0]) 2 24 Tryz.underlying28 hi2 hz20 hz21 hz22 rfl (by decide) (.slice bs N ch) N (SL.flatMap dnV) rfl OS6.out ⟨g6, 0, none⟩ 1 1 (dnV ⟨nm, N⟩) rfl rfl NC6.out (dnV_one1 _) (by omega) (by unfold maxLen; omega) (by omega) (Nat.zero_le _) _ rfl ?_
                  intro gC cC wC oC grC atC ltC
                  obtain ⟨MC, u2, u3, BC, u5⟩ := HUP.out gC cC wC oC grC atC
                  have S8 := hide (And.intro u5 (SK.out _ BC.out))
                  have S9 : Hid ((wC.setCell ⟨gx, 1, none⟩ (.slice (some ⟨gC, 0, none⟩) (N + 1) cC)).cell? ⟨gx, 0, none⟩ = some (.slice bf (N + 1) cg) ∧ (wC.setCell ⟨gx, 1, none⟩ (.slice (some ⟨gC, 0, none⟩) (N + 1) cC)).cell? ⟨gd, i * 2, none⟩ = some (.string nm)) := ⟨(World.cell?_setCell_other wC ⟨gx, 1, none⟩ ⟨gx, 0, none⟩ _ (by simp)).trans u5, SK.out _ MC.out.1⟩
                  clear oC grC atC ltC HUP u5
                  go_simp
                  refine hK1.out _ _ S8.out ?_
                  clear hK1
                  refine held_take (i := 19) (d := (some 97)) (v := ?_) rfl rfl (by kernel_rfl) (by kernel_rfl) (by kernel_rfl) (fun _ _ _ h => h) (Or.inl ⟨by rfl, ?_⟩) (by first | assumption | rfl | trivial) ?_
                  rotate_left 1
                  · (intro w hSw; (try dsimp only at hSw); (try subst hSw); go_simp; try with_reducible rfl)
                  simp only [Act.put, List.setIfInBounds_toArray, List.set_cons_zero, List.set_cons_succ]
                  refine held_take (i := 20) (d := (some 98)) (v := ?_) rfl rfl (by kernel_rfl) (by kernel_rfl) (by kernel_rfl) (fun _ _ _ h => h) (Or.inl ⟨by rfl, ?_⟩) (by first | assumption | rfl | trivial) ?_
                  rotate_left 1
                  · (intro w hSw; (try dsimp only at hSw); (try subst hSw); go_simp; try with_reducible rfl)
                  simp only [Act.put, List.setIfInBounds_toArray, List.set_cons_zero, List.set_cons_succ]
                  refine held_next (i := 21) (by kernel_rfl) rfl (by rfl) (fun K1 hK1 => ?_)
                  go_simp
                  refine hK1.out _ _ S9.out ?_
                  clear hK1 hHeld
                  refine wpAnyH_done (by kernel_rfl) ?_ _
                  go_wp2
                  go_roundw
                  case rel => exact ⟨i + 1, by omega, by go_num, by rw [HL2.out, Int.natCast_add]; rfl, MC.out⟩
                  case measure => simp [intOf]; omega
          · have t1 : ((df : Int) != (k : Int)) = true := by simp; omega
            have HM2 : Hid (MkR wA v gx (crL F ps (curK D k (i + 1)))) := by rw [HNO.out hfe]; exact HM.out
            have HL2 : Hid ((curK D k (i + 1)).length = N) := by show _ = _; rw [HNO.out hfe]; exact HN.out
            clear HYE HNO HM hfe KD
            go_wp2
            go_roundw
            case rel => exact ⟨i + 1, by omega, by go_num, by rw [HL2.out], HM2.out⟩
            case measure => simp [intOf]; omega
        · obtain rfl : i = nd := by omega
          have HE : Hid (curK D k i = curK D (k + 1) 0) := by
            show _ = _
            rw [curK_zero, curK_full (by rw [← HND.out]; exact Nat.le_refl _)]
          rw [HE.out] at HM ⊢
          have j2 : ¬ (i : Int) < (i : Int) := by omega
          clear HE
          obtain ⟨NL, hNL⟩ : ∃ NL, (curK D (k + 1) 0).length = NL := ⟨_, rfl⟩
          rw [hNL]
          have HNL := hide hNL
          clear hNL
          go_wp2
          go_roundw
          case rel => exact ⟨k + 1, by omega, by go_num, by rw [HNL.out], HM.out⟩
          case measure => simp [intOf]; omega
    · obtain rfl : k = NF := by omega
      have HE : Hid (MadeV RAt w v gx (crL F ps (keptF D F.files.length))) := by
        rw [HNF.out]
        have h1 := HM.out
        rw [curK_zero] at h1
        obtain ⟨T, q1, q2, q3⟩ := h1.made (crL_good HGV.out ps (keptF D k))
        exact ⟨T, q1, fun j hj => Nat.le_trans BA.out.size (q2 j hj), BA.out.trans (q3.mono BA.out.size)⟩
      have i2' : ¬ (k : Int) < (k : Int) := by omega
      obtain ⟨NL, hNL⟩ : ∃ NL, (curK D k 0).length = NL := ⟨_, rfl⟩
      rw [hNL]
      clear hNL HM
      go_wp2
      go_ret
      exact ⟨gx, rfl, HE.out⟩
end Go.Proofs.YthlkmjaflomflaaGreat
