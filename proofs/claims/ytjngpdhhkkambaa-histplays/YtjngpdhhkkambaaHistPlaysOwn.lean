/-
  Any calls: each answers, and all buckets are, what the document says; buckets that may not be are refused; the document's examples hold. The call returns true, and its arguments read as they did.
  Conditions: none: every value of the parameters' types.
-/
import Derived.Test.YtjngpdhhkkambaaHistAi
import Derived.Test.YtjngpdhhkkambaaHistV
import Derived.Test.YtjngpdhhkkambaaHistU
import Derived.Test.YtjngpdhhkkambaaHistT
import Derived.Test.YtjngpdhhkkambaaHistO
import Derived.Test.YtjngpdhhkkambaaPlace
import Derived.Test.YtjngpdhhkkambaaVintR
import Derived.Deep.QuietTactic
import Derived.BigQuiet
import Derived.Deep.Cut
import Derived.Deep.RegionWith
import Derived.Deep.DrawnRows
import Derived.ProofKit
import Derived.OpenShut
import Derived.ShutString
import Derived.ChangeOld
import Derived.SizedLaws
namespace Go.Proofs.Ytjngpdhhkkambaa
open Go.RowKit

/-- The law's own state: the histogram, and the list that it is held against. -/
structure Pl (w wr : World) (g : Nat) (a : Option Addr) (n : Nat) (L : Bks) : Prop where
  low : Below w.heap.size w wr
  hist : ∃ H, HistAt wr g H ∧ spS H = L
  row : RowB wr a n L
  apart : 0 < n → ∀ x, a = some x → x.block ≠ g
theorem Pl.below {w wr w' : World} {g : Nat} {a : Option Addr} {n : Nat} {L : Bks} (h : Pl w wr g a n L) (b : Below wr.heap.size wr w') : Pl w w' g a n L := by
  obtain ⟨H, h1, h2⟩ := h.hist
  exact ⟨below_to h.low b (Nat.le_refl _), ⟨H, h1.below b h1.lt, h2⟩, h.row.below b (Nat.le_refl _), h.apart⟩
theorem cell_ch {g p : Nat} {w w' : World} (c : Ch (fun k => k = g) w w') (hp : p ≠ g) (hl : p < w.heap.size) (o : Nat) : w'.cell? ⟨p, o, none⟩ = w.cell? ⟨p, o, none⟩ := by
  have hb := c.block p hl hp
  simp only [World.cell?, hb]
theorem bkt_wf {v : Int} (h : W64 v) : (Lit.int .i64 (bucketS v)).wf = true := by
  obtain ⟨b0, b1⟩ := bucketS_range h.1 h.2
  simp [Lit.wf, IntKind.min, IntKind.max, IntKind.signed, IntKind.bits]
  omega

set_option maxHeartbeats 2000000 in
theorem same_any (g : Nat) (H : List Int) (a : Option Addr) (n cap : Nat) (w : World) (hH : HistAt w g H) (hr : RowB w a n (spS H)) :
    Calls Try.prog 28 #[.pointer (some ⟨g, 0, none⟩), .slice a n cap] w fun e w' => e = .returned (.bool true) ∧ Below w.heap.size w w' := by
  have C := hide (hcount_any g H w hH)
  have D := hide (refcount_any a n cap (spS H) w hr)
  have B := hide (hbuckets_any g H w hH)
  have G := hide hH.good
  have HR := hide hr
  clear hH hr
  generalize countS (spS H) = X at *
  generalize countE (spS H) = Y at *
  have t1 : (X == X) = true := by simp
  have t2 : (Y == Y) = true := by simp
  go_enter Try.func28, Try.ntmps28
  go_wp2_with fail
  refine C.out.mono ?_
  rintro e w1 ⟨rfl, rfl⟩
  go_wp2_with fail
  refine D.out.mono ?_
  rintro e w2 ⟨rfl, rfl⟩
  go_wp2_with fail
  refine B.out.mono ?_
  rintro e w3 ⟨a3, c3, rfl, o3, b3⟩
  have S := hide (samebks_any a3 _ c3 _ a n cap (spS H) w3 (o3.goodrow G.out) (HR.out.below b3 (Nat.le_refl _)))
  rw [decide_eq_true rfl] at S
  have B3 := hide b3
  clear o3 b3 B C D
  go_wp2_with fail
  refine S.out.mono ?_
  rintro e w4 ⟨rfl, b4⟩
  have B4 := hide (below_to B3.out b4 (Nat.le_refl _))
  clear b4 S B3
  go_wp2
  go_ret
  exact ⟨rfl, B4.out⟩
theorem Pl.same_in {w wr : World} {g : Nat} {a : Option Addr} {n : Nat} {L : Bks} (h : Pl w wr g a n L) (cap : Nat) :
    Calls Try.prog 28 #[.pointer (some ⟨g, 0, none⟩), .slice a n cap] wr fun e w' => e = .returned (.bool true) ∧ Below wr.heap.size wr w' := by
  obtain ⟨H, h1, rfl⟩ := h.hist
  exact same_any g H a n cap wr h1 h.row

set_option maxRecDepth 20000 in
set_option maxHeartbeats 16000000 in
theorem walk_plays (fa : Option Addr) (fn fc : Nat) (fl : Bks) (sa : Option Addr) (n sc : Nat) (xs : List OpD) (w : World) (hf : IsBks w fa fn fc fl) (hs : IsOps w sa n sc xs) :
    Calls Try.prog 5 #[.slice fa fn fc, .slice sa n sc] w fun e w' => e = .returned (.bool true) ∧ Below w.heap.size w w' := by
  obtain ⟨k1, k2, k3, hrow⟩ := hf
  obtain ⟨s1, s2, s3, s4, s5, s6⟩ := hs
  have HF := hide hrow
  have hfn := hrow.2.1
  have AW := hide awake_any
  have BK := hide (fun W (b : Below w.heap.size w W) => buckets_any fa fn fc fl W (HF.out.below b (Nat.le_refl _)) (fun h => (k3 h).2) (by omega))
  have BK1 := hide (BK.out w (Below.refl _ _))
  have hn : n ≤ 17592186044416 := by omega
  have HX5 := hide s5
  have HX6 := hide s6
  have HXL := hide s4
  clear hrow k1 k2 k3 s1 s2 s3 s4 s5 s6
  by_cases hck : checkS fl = false
  · go_enter Try.func5, Try.ntmps5
    go_wp2_with fail
    refine BK1.out.mono ?_
    rintro e w1 ⟨a1, c1, rfl, o1, b1⟩
    have F := hide (hfrom_no a1 fn c1 fl w1 (o1.row hfn HF.out.2.2.1) hck)
    have B1 := hide b1
    clear o1 b1 BK1 BK
    go_wp2_with fail
    refine F.out.mono ?_
    rintro e w2 ⟨rfl, b2⟩
    have B2 := hide (below_to B1.out b2 (Nat.le_refl _))
    have K := hide (refcheck_any fa fn fc fl w2 (HF.out.below B2.out (Nat.le_refl _)))
    rw [hck] at K
    clear b2 B1 F hck
    go_wp2_with fail
    refine K.out.mono ?_
    rintro e w3 ⟨rfl, q, rfl⟩
    have B3 := hide (bel_drewN B2.out q)
    clear K B2
    generalize w2.drewN q = w3 at *
    go_wp2_with fail
    refine (AW.out _).mono ?_
    rintro e w4 ⟨rfl, b4⟩
    have B4 := hide (below_to B3.out b4 (Nat.le_refl _))
    clear b4 B3
    go_wp2
    go_ret
    exact ⟨rfl, B4.out⟩
  have hck : checkS fl = true := by simpa using hck
  have GF := hide (good_from hck HF.out.2.2.1)
  go_enter Try.func5, Try.ntmps5
  go_wp2_with fail
  refine BK1.out.mono ?_
  rintro e w1 ⟨a1, c1, rfl, o1, b1⟩
  have F := hide (hfrom_ok a1 fn c1 fl w1 (o1.row hfn HF.out.2.2.1) hck)
  have B1 := hide b1
  clear o1 b1 BK1
  go_wp2_with fail
  refine F.out.mono ?_
  rintro e w2 ⟨rfl, h2, b2⟩
  have H2 := hide h2
  have B2 := hide (below_to B1.out b2 (Nat.le_refl _))
  obtain ⟨g, HGE⟩ : ∃ g, Hid (w1.heap.size = g) := ⟨_, rfl⟩
  have HG : Hid (w.heap.size ≤ g) := by rw [← HGE.out]; exact B1.out.size
  rw [HGE.out] at H2 ⊢
  have K := hide (refcheck_any fa fn fc fl w2 (HF.out.below B2.out (Nat.le_refl _)))
  rw [hck] at K
  clear h2 b2 B1 F hck HGE
  go_wp2_with fail
  refine K.out.mono ?_
  rintro e w3 ⟨rfl, q, rfl⟩
  have B3 := hide (bel_drewN B2.out q)
  have H3 : Hid (HistAt (w2.drewN q) g (addAll H0 fl)) := ⟨H2.out.heap, H2.out.len, H2.out.words⟩
  clear K B2 H2
  generalize w2.drewN q = w3 at *
  have BK2 := hide (BK.out w3 B3.out)
  go_wp2_with fail
  refine BK2.out.mono ?_
  rintro e w4 ⟨a4, c4, rfl, o4, b4⟩
  have P0 : Hid (Pl w w4 g a4 fn fl) := ⟨below_to B3.out b4 (Nat.le_refl _), ⟨_, H3.out.below b4 H3.out.lt, spS_made GF.out⟩, o4.row hfn HF.out.2.2.1, o4.apart H3.out.lt⟩
  clear o4 b4 B3 H3 BK BK2 GF HF
  go_wp2
  go_loopw [7, 8] (fun l i wr => ∃ (la : Option Addr) (ln lc j : Nat) (L : Bks), j ≤ n ∧ l = .slice la ln lc ∧ i = .int .i64 j ∧ Hid (Pl w wr g la ln L)) (fun _ i _ => n - (intOf i).toNat)
  case atStart => exact ⟨a4, fn, c4, 0, fl, by omega, rfl, rfl, P0⟩
  case round =>
    obtain ⟨la, ln, lc, j, L, hj, rfl, rfl, HP⟩ := hrel
    by_cases hgo : j < n ∧ j < 60
    · obtain ⟨hlt, h60⟩ := hgo
      obtain ⟨b, off, rfl, hat⟩ : ∃ b off, sa = some ⟨b, off, none⟩ ∧ OpAt w b (off + j * 4) (xs.getD j OpD.nil) := by
        rcases HX6.out with h | ⟨b, off, h1, h2⟩
        · omega
        · exact ⟨b, off, h1, h2 j hlt⟩
      have hx5 := HX5.out (xs.getD j OpD.nil) (by
        rw [List.getD_eq_getElem?_getD, List.getElem?_eq_getElem (by rw [HXL.out]; exact hlt)]
        exact List.getElem_mem _)
      generalize xs.getD j OpD.nil = x at hat hx5
      obtain ⟨kind, v, m, xa, xn, xc, xl⟩ := x
      obtain ⟨f0, f1, f2, f3⟩ := hat
      simp only at f0 f1 f2 f3 hx5
      obtain ⟨hk, hv, hm, y1, y2, y3, y4⟩ := hx5
      have HV := hide (u64_of_wf hv)
      have HM := hide (u64_of_wf hm)
      have HXR := hide y4
      have HXZ : Hid (xa = none → xc = 0) := fun h => (y3 h).2
      have HXC : Hid (xn * 16 ≤ 140737488355328) := by show _ ≤ _; omega
      have hbl : b < w.heap.size := World.block_lt_of_cell? w _ f0
      have e0' := (HP.out.low.cell (p := ⟨b, off + j * 4, none⟩) hbl).trans f0
      have e1' := (HP.out.low.cell (p := ⟨b, off + j * 4 + 1, none⟩) hbl).trans f1
      have e2' := (HP.out.low.cell (p := ⟨b, off + j * 4 + 2, none⟩) hbl).trans f2
      have e3' := (HP.out.low.cell (p := ⟨b, off + j * 4 + 3, none⟩) hbl).trans f3
      obtain ⟨H, h1, hL⟩ := HP.out.hist
      subst hL
      have hln : ln ≤ 7424 := by rw [← HP.out.row.1]; exact good_size h1.good
      have HH := hide h1
      have r1 := Int.emod_nonneg kind (b := 5) (by omega)
      have r2 := Int.emod_lt_of_pos kind (b := 5) (by omega)
      have PC := hide (fun w => place_any kind 5 (by omega) (by omega) w)
      have i1 : (0 : Int) ≤ (j : Int) := by omega
      have i2 : (j : Int) < (n : Int) := by omega
      have i3 : (j : Int) < 60 := by omega
      clear f0 f1 f2 f3 hk hv hm y1 y2 y3 y4 hbl h1
      go_wp2_with fail
      refine (PC.out _).mono ?_
      rintro e W1 ⟨rfl, hW1⟩
      obtain ⟨p, HPE⟩ : ∃ p, Hid (wr.heap.size = p) := ⟨_, rfl⟩
      have e0 : W1.cell? ⟨p, 0, none⟩ = some (.int .i64 kind) := by rw [hW1, ← HPE.out, World.cell?_alloc_mark]; rfl
      have e1 : W1.cell? ⟨p, 1, none⟩ = some (.int .u64 v) := by rw [hW1, ← HPE.out, World.cell?_alloc_mark]; rfl
      have e2 : W1.cell? ⟨p, 2, none⟩ = some (.int .u64 m) := by rw [hW1, ← HPE.out, World.cell?_alloc_mark]; rfl
      have e3 : W1.cell? ⟨p, 3, none⟩ = some (.slice xa xn xc) := by rw [hW1, ← HPE.out, World.cell?_alloc_mark]; rfl
      have B1 : Hid (Below w.heap.size w W1) := by rw [hW1]; exact bel_al HP.out.low (Nat.le_refl _) _
      have T1 : Hid (HistAt W1 g H) := by rw [hW1]; exact HH.out.alloc _
      have R1 : Hid (RowB W1 la ln (spS H)) := by rw [hW1]; exact HP.out.row.alloc _
      have HAp := hide HP.out.apart
      have HPL : Hid (p < W1.heap.size) := World.block_lt_of_cell? W1 _ e0
      have HPG : Hid (p ≠ g) := by rw [← HPE.out]; exact Nat.ne_of_gt HH.out.lt
      rw [HPE.out]
      clear hW1 HPE PC e0' e1' e2' e3' HH HP
      generalize kind % 5 = r at *
      have hr : r = 0 ∨ r = 1 ∨ r = 2 ∨ r = 3 ∨ r = 4 := by omega
      clear r1 r2
      rcases hr with rfl | rfl | rfl | rfl | rfl
      · have z0 : ((0 : Int) == 0) = true := by decide
        have z1 : ((0 : Int) == 1) = false := by decide
        have A := hide (hadd_any g H v m W1 HV.out HM.out T1.out)
        have E := hide (spS_addH T1.out HV.out HM.out)
        go_wp2_with fail
        refine A.out.mono ?_
        rintro e w2 ⟨rfl, h2, c2⟩
        have B2 := hide (below_ch B1.out c2 (Nat.le_refl _) HG.out)
        have H2 := hide h2
        have R2 := hide (R1.out.ch c2 HAp.out)
        have hp := HPG.out
        have d1 : w2.cell? ⟨p, 1, none⟩ = some (.int .u64 v) := (cell_ch c2 hp HPL.out 1).trans e1
        have d2 : w2.cell? ⟨p, 2, none⟩ = some (.int .u64 m) := (cell_ch c2 hp HPL.out 2).trans e2
        have RA := hide (fun W (hR : RowB W la ln (spS H)) => rhadd_any la ln lc (spS H) (bucketS v) m W hR (by omega) (bkt_wf HV.out) HM.out)
        have RBK := hide (fun w => refbucket_any v w HV.out)
        have EN : Hid (spS (addH H v m) = addN (spS H) (bucketS v) m) := E.out
        generalize addN (spS H) (bucketS v) m = L2 at *
        generalize bucketS v = bk at *
        clear A h2 c2 e0 e1 e2 e3 E hp T1 B1 R1
        go_upto_region 15 with fail
        refine wp_region_held_drew (S := fun W => W.cell? ⟨p, 1, none⟩ = some (.int .u64 v) ∧ W.cell? ⟨p, 2, none⟩ = some (.int .u64 m)) (by kernel_rfl) ⟨d1, d2⟩ (fun hHeld => ?_)
        refine held_take (i := 0) (d := (some 67)) (v := ?_) rfl rfl (by kernel_rfl) (by kernel_rfl) (by kernel_rfl) (fun _ _ _ h => h) (Or.inl ⟨by rfl, ?_⟩) (by first | assumption | rfl | trivial) ?_
        rotate_left 1
        · (intro w hSw; (try dsimp only at hSw); (try subst hSw); go_simp; try with_reducible rfl)
        simp only [Act.put, List.setIfInBounds_toArray, List.set_cons_zero, List.set_cons_succ]
        refine held_take (i := 1) (d := (some 68)) (v := ?_) rfl rfl (by kernel_rfl) (by kernel_rfl) (by kernel_rfl) (fun _ _ _ h => h) (Or.inl ⟨by rfl, ?_⟩) (by first | assumption | rfl | trivial) ?_
        rotate_left 1
        · (intro w hSw; (try dsimp only at hSw); (try subst hSw); go_simp; try with_reducible rfl)
        simp only [Act.put, List.setIfInBounds_toArray, List.set_cons_zero, List.set_cons_succ]
        refine held_take (i := 2) (d := (some 69)) (v := ?_) rfl rfl (by kernel_rfl) (by kernel_rfl) (by kernel_rfl) (fun _ _ _ h => h) (Or.inl ⟨by rfl, ?_⟩) (by first | assumption | rfl | trivial) ?_
        rotate_left 1
        · (intro w hSw; (try dsimp only at hSw); (try subst hSw); go_simp; try with_reducible rfl)
        simp only [Act.put, List.setIfInBounds_toArray, List.set_cons_zero, List.set_cons_succ]
        refine held_take (i := 4) (d := (some 71)) (v := ?_) rfl rfl (by kernel_rfl) (by kernel_rfl) (by kernel_rfl) (fun _ _ _ h => h) (Or.inl ⟨by rfl, ?_⟩) (by first | assumption | rfl | trivial) ?_
        rotate_left 1
        · (intro w hSw; (try dsimp only at hSw); (try subst hSw); go_simp; try with_reducible rfl)
        simp only [Act.put, List.setIfInBounds_toArray, List.set_cons_zero, List.set_cons_succ]
        refine held_take (i := 5) (d := (some 72)) (v := ?_) rfl rfl (by kernel_rfl) (by kernel_rfl) (by kernel_rfl) (fun _ _ _ h => h) (Or.inl ⟨by rfl, ?_⟩) (by first | assumption | rfl | trivial) ?_
        rotate_left 1
        · (intro w hSw; (try dsimp only at hSw); (try subst hSw); go_simp; try with_reducible rfl)
        simp only [Act.put, List.setIfInBounds_toArray, List.set_cons_zero, List.set_cons_succ]
        refine held_next (i := 3) (by kernel_rfl) rfl (by rfl) (fun K hK => ?_)
        go_simp
        refine (RBK.out _).mono ?_
        rintro e W4 ⟨rfl, rfl⟩
        go_wp2_with fail
        refine hK.out _ _ ⟨d1, d2⟩ ?_
        clear hK
        refine held_next (i := 6) (by kernel_rfl) rfl (by rfl) (fun K hK => ?_)
        go_simp
        refine (RA.out _ R2.out.drew).mono ?_
        rintro e w3 ⟨a3, c3, rfl, o3, b3⟩
        have d3 : w3.cell? ⟨p, 1, none⟩ = some (.int .u64 v) ∧ w3.cell? ⟨p, 2, none⟩ = some (.int .u64 m) := by
          have hlt : p < w2.heap.size := World.block_lt_of_cell? w2 _ d1
          rw [b3.cell (p := ⟨p, 1, none⟩) hlt, b3.cell (p := ⟨p, 2, none⟩) hlt]
          exact ⟨d1, d2⟩
        have PX : Hid (Pl w w3 g a3 L2.length L2) := by
          have hg2 : HistAt w3 g (addH H v m) := H2.out.drew.below b3 H2.out.lt
          have hgd : Good L2 := by rw [← EN.out]; exact H2.out.good
          exact ⟨B2.out.drew.trans (b3.mono B2.out.size), ⟨_, hg2, EN.out⟩, o3.goodrow hgd, o3.apart H2.out.lt⟩
        go_wp2_with fail
        refine hK.out _ _ d3 ?_
        clear hK
        refine held_take (i := 7) (d := (some 7)) (v := ?_) rfl rfl (by kernel_rfl) (by kernel_rfl) (by kernel_rfl) (fun _ _ _ h => h) (Or.inl ⟨by rfl, ?_⟩) (by first | assumption | rfl | trivial) ?_
        rotate_left 1
        · (intro w hSw; (try dsimp only at hSw); (try subst hSw); go_simp; try with_reducible rfl)
        simp only [Act.put, List.setIfInBounds_toArray, List.set_cons_zero, List.set_cons_succ]
        refine wpAnyH_done (by kernel_rfl) ?_ _
        clear hHeld d1 d2 d3 o3 b3 B2 H2 R2 RA RBK EN
        have SA := hide (PX.out.same_in c3)
        go_wp2_with fail
        refine SA.out.mono ?_
        rintro e ws ⟨rfl, bs⟩
        have PN := hide (PX.out.below bs)
        clear SA bs PX
        go_wp2
        go_roundw
        case rel => exact ⟨_, _, _, j + 1, _, by omega, rfl, by go_num, PN⟩
        case measure => simp [intOf]; omega
      · have z0 : ((1 : Int) == 0) = false := by decide
        have z1 : ((1 : Int) == 1) = true := by decide
        have A := hide (hadd_any g H v m W1 HV.out HM.out T1.out)
        have E := hide (spS_addH T1.out HV.out HM.out)
        go_wp2_with fail
        refine A.out.mono ?_
        rintro e w2 ⟨rfl, h2, c2⟩
        have B2 := hide (below_ch B1.out c2 (Nat.le_refl _) HG.out)
        have H2 := hide h2
        have R2 := hide (R1.out.ch c2 HAp.out)
        have hp := HPG.out
        have d1 : w2.cell? ⟨p, 1, none⟩ = some (.int .u64 v) := (cell_ch c2 hp HPL.out 1).trans e1
        have d2 : w2.cell? ⟨p, 2, none⟩ = some (.int .u64 m) := (cell_ch c2 hp HPL.out 2).trans e2
        have RA := hide (fun W (hR : RowB W la ln (spS H)) => rhadd_any la ln lc (spS H) (bucketS v) m W hR (by omega) (bkt_wf HV.out) HM.out)
        have RBK := hide (fun w => refbucket_any v w HV.out)
        have EN : Hid (spS (addH H v m) = addN (spS H) (bucketS v) m) := E.out
        generalize addN (spS H) (bucketS v) m = L2 at *
        generalize bucketS v = bk at *
        clear A h2 c2 e0 e1 e2 e3 E hp T1 B1 R1
        go_upto_region 15 with fail
        refine wp_region_held_drew (S := fun W => W.cell? ⟨p, 1, none⟩ = some (.int .u64 v) ∧ W.cell? ⟨p, 2, none⟩ = some (.int .u64 m)) (by kernel_rfl) ⟨d1, d2⟩ (fun hHeld => ?_)
        refine held_take (i := 0) (d := (some 67)) (v := ?_) rfl rfl (by kernel_rfl) (by kernel_rfl) (by kernel_rfl) (fun _ _ _ h => h) (Or.inl ⟨by rfl, ?_⟩) (by first | assumption | rfl | trivial) ?_
        rotate_left 1
        · (intro w hSw; (try dsimp only at hSw); (try subst hSw); go_simp; try with_reducible rfl)
        simp only [Act.put, List.setIfInBounds_toArray, List.set_cons_zero, List.set_cons_succ]
        refine held_take (i := 1) (d := (some 68)) (v := ?_) rfl rfl (by kernel_rfl) (by kernel_rfl) (by kernel_rfl) (fun _ _ _ h => h) (Or.inl ⟨by rfl, ?_⟩) (by first | assumption | rfl | trivial) ?_
        rotate_left 1
        · (intro w hSw; (try dsimp only at hSw); (try subst hSw); go_simp; try with_reducible rfl)
        simp only [Act.put, List.setIfInBounds_toArray, List.set_cons_zero, List.set_cons_succ]
        refine held_take (i := 2) (d := (some 69)) (v := ?_) rfl rfl (by kernel_rfl) (by kernel_rfl) (by kernel_rfl) (fun _ _ _ h => h) (Or.inl ⟨by rfl, ?_⟩) (by first | assumption | rfl | trivial) ?_
        rotate_left 1
        · (intro w hSw; (try dsimp only at hSw); (try subst hSw); go_simp; try with_reducible rfl)
        simp only [Act.put, List.setIfInBounds_toArray, List.set_cons_zero, List.set_cons_succ]
        refine held_take (i := 4) (d := (some 71)) (v := ?_) rfl rfl (by kernel_rfl) (by kernel_rfl) (by kernel_rfl) (fun _ _ _ h => h) (Or.inl ⟨by rfl, ?_⟩) (by first | assumption | rfl | trivial) ?_
        rotate_left 1
        · (intro w hSw; (try dsimp only at hSw); (try subst hSw); go_simp; try with_reducible rfl)
        simp only [Act.put, List.setIfInBounds_toArray, List.set_cons_zero, List.set_cons_succ]
        refine held_take (i := 5) (d := (some 72)) (v := ?_) rfl rfl (by kernel_rfl) (by kernel_rfl) (by kernel_rfl) (fun _ _ _ h => h) (Or.inl ⟨by rfl, ?_⟩) (by first | assumption | rfl | trivial) ?_
        rotate_left 1
        · (intro w hSw; (try dsimp only at hSw); (try subst hSw); go_simp; try with_reducible rfl)
        simp only [Act.put, List.setIfInBounds_toArray, List.set_cons_zero, List.set_cons_succ]
        refine held_next (i := 3) (by kernel_rfl) rfl (by rfl) (fun K hK => ?_)
        go_simp
        refine (RBK.out _).mono ?_
        rintro e W4 ⟨rfl, rfl⟩
        go_wp2_with fail
        refine hK.out _ _ ⟨d1, d2⟩ ?_
        clear hK
        refine held_next (i := 6) (by kernel_rfl) rfl (by rfl) (fun K hK => ?_)
        go_simp
        refine (RA.out _ R2.out.drew).mono ?_
        rintro e w3 ⟨a3, c3, rfl, o3, b3⟩
        have d3 : w3.cell? ⟨p, 1, none⟩ = some (.int .u64 v) ∧ w3.cell? ⟨p, 2, none⟩ = some (.int .u64 m) := by
          have hlt : p < w2.heap.size := World.block_lt_of_cell? w2 _ d1
          rw [b3.cell (p := ⟨p, 1, none⟩) hlt, b3.cell (p := ⟨p, 2, none⟩) hlt]
          exact ⟨d1, d2⟩
        have PX : Hid (Pl w w3 g a3 L2.length L2) := by
          have hg2 : HistAt w3 g (addH H v m) := H2.out.drew.below b3 H2.out.lt
          have hgd : Good L2 := by rw [← EN.out]; exact H2.out.good
          exact ⟨B2.out.drew.trans (b3.mono B2.out.size), ⟨_, hg2, EN.out⟩, o3.goodrow hgd, o3.apart H2.out.lt⟩
        go_wp2_with fail
        refine hK.out _ _ d3 ?_
        clear hK
        refine held_take (i := 7) (d := (some 7)) (v := ?_) rfl rfl (by kernel_rfl) (by kernel_rfl) (by kernel_rfl) (fun _ _ _ h => h) (Or.inl ⟨by rfl, ?_⟩) (by first | assumption | rfl | trivial) ?_
        rotate_left 1
        · (intro w hSw; (try dsimp only at hSw); (try subst hSw); go_simp; try with_reducible rfl)
        simp only [Act.put, List.setIfInBounds_toArray, List.set_cons_zero, List.set_cons_succ]
        refine wpAnyH_done (by kernel_rfl) ?_ _
        clear hHeld d1 d2 d3 o3 b3 B2 H2 R2 RA RBK EN
        have SA := hide (PX.out.same_in c3)
        go_wp2_with fail
        refine SA.out.mono ?_
        rintro e ws ⟨rfl, bs⟩
        have PN := hide (PX.out.below bs)
        clear SA bs PX
        go_wp2
        go_roundw
        case rel => exact ⟨_, _, _, j + 1, _, by omega, rfl, by go_num, PN⟩
        case measure => simp [intOf]; omega
      · have z0 : ((2 : Int) == 0) = false := by decide
        have z1 : ((2 : Int) == 1) = false := by decide
        have z2 : ((2 : Int) == 2) = true := by decide
        have BX := hide (buckets_any xa xn xc xl W1 (HXR.out.below B1.out (Nat.le_refl _)) HXZ.out HXC.out)
        go_wp2_with fail
        refine BX.out.mono ?_
        rintro e w2 ⟨a2, c2, rfl, o2, b2⟩
        have T2 := hide (T1.out.below b2 T1.out.lt)
        have B2 := hide (below_to B1.out b2 (Nat.le_refl _))
        have R2 := hide (R1.out.below b2 (Nat.le_refl _))
        have RX2 := hide (o2.row HXR.out.2.1 HXR.out.2.2.1)
        have AP2 := hide (o2.apart T1.out.lt)
        have HPL2 : Hid (p < w2.heap.size) := Nat.lt_of_lt_of_le HPL.out b2.size
        have d3 : w2.cell? ⟨p, 3, none⟩ = some (.slice xa xn xc) := (b2.cell (p := ⟨p, 3, none⟩) HPL.out).trans e3
        have hp := HPG.out
        clear BX o2 b2 B1 R1 T1 e0 e1 e2 e3
        by_cases hck : checkS xl = true
        · have M := hide (hmerge_ok g H a2 xn c2 xl w2 RX2.out AP2.out T2.out hck)
          have GX := hide (good_from hck HXR.out.2.2.1)
          have EM := hide (spS_more T2.out GX.out)
          go_wp2_with fail
          refine M.out.mono ?_
          rintro e w3 ⟨rfl, h3, c3⟩
          have B3 := hide (below_ch B2.out c3 (Nat.le_refl _) HG.out)
          have H3 := hide h3
          have R3 := hide (R2.out.ch c3 HAp.out)
          have d4 : w3.cell? ⟨p, 3, none⟩ = some (.slice xa xn xc) := (cell_ch c3 hp HPL2.out 3).trans d3
          have K := hide (refcheck_any xa xn xc xl w3 (HXR.out.below B3.out (Nat.le_refl _)))
          rw [hck] at K
          clear M h3 c3 d3 B2 R2 T2 RX2 AP2
          go_wp2_with fail
          refine K.out.mono ?_
          rintro e w4 ⟨rfl, q, rfl⟩
          have d5 : (w3.drewN q).cell? ⟨p, 3, none⟩ = some (.slice xa xn xc) := d4
          have B4 := hide (bel_drewN B3.out q)
          have H4 : Hid (HistAt (w3.drewN q) g (addAll H xl)) := ⟨H3.out.heap, H3.out.len, H3.out.words⟩
          have R4 : Hid (RowB (w3.drewN q) la ln (spS H)) := R3.out.below (bel_drewN (Below.refl _ _) q) (Nat.le_refl _)
          have hxlen : xn ≤ 7424 := by rw [← HXR.out.1]; exact good_size GX.out
          clear d4 B3 H3 R3 K
          generalize w3.drewN q = w4 at *
          have RM := hide (rhmerge_any la ln lc (spS H) xa xn xc xl w4 R4.out (HXR.out.below B4.out (Nat.le_refl _)) (by omega))
          rw [← EM.out] at RM
          go_wp2_with fail
          refine RM.out.mono ?_
          rintro e w5 ⟨a5, c5, rfl, o5, b5⟩
          have PX : Hid (Pl w w5 g a5 (spS (addAll H xl)).length (spS (addAll H xl))) := ⟨below_to B4.out b5 (Nat.le_refl _), ⟨_, H4.out.below b5 H4.out.lt, rfl⟩, o5.goodrow H4.out.good, o5.apart H4.out.lt⟩
          clear o5 b5 B4 H4 R4 RM EM d5 hck
          have SA := hide (PX.out.same_in c5)
          go_wp2_with fail
          refine SA.out.mono ?_
          rintro e ws ⟨rfl, bs⟩
          have PN := hide (PX.out.below bs)
          clear SA bs PX
          go_wp2
          go_roundw
          case rel => exact ⟨_, _, _, j + 1, _, by omega, rfl, by go_num, PN⟩
          case measure => simp [intOf]; omega
        · have hck : checkS xl = false := by simpa using hck
          have M := hide (hmerge_no g H a2 xn c2 xl w2 RX2.out T2.out hck)
          go_wp2_with fail
          refine M.out.mono ?_
          rintro e w3 ⟨rfl, h3, c3⟩
          have B3 := hide (below_ch B2.out c3 (Nat.le_refl _) HG.out)
          have H3 := hide h3
          have R3 := hide (R2.out.ch c3 HAp.out)
          have d4 : w3.cell? ⟨p, 3, none⟩ = some (.slice xa xn xc) := (cell_ch c3 hp HPL2.out 3).trans d3
          have K := hide (refcheck_any xa xn xc xl w3 (HXR.out.below B3.out (Nat.le_refl _)))
          rw [hck] at K
          clear M h3 c3 d3 B2 R2 T2 RX2 AP2 hck
          go_wp2_with fail
          refine K.out.mono ?_
          rintro e w4 ⟨rfl, q, rfl⟩
          have PX : Hid (Pl w (w3.drewN q) g la ln (spS H)) := ⟨bel_drewN B3.out q, ⟨H, ⟨H3.out.heap, H3.out.len, H3.out.words⟩, rfl⟩, R3.out.below (bel_drewN (Below.refl _ _) q) (Nat.le_refl _), HAp.out⟩
          clear d4 B3 H3 R3 K
          generalize w3.drewN q = w4 at *
          have SA := hide (PX.out.same_in lc)
          go_wp2_with fail
          refine SA.out.mono ?_
          rintro e ws ⟨rfl, bs⟩
          have PN := hide (PX.out.below bs)
          clear SA bs PX
          go_wp2
          go_roundw
          case rel => exact ⟨_, _, _, j + 1, _, by omega, rfl, by go_num, PN⟩
          case measure => simp [intOf]; omega
      · have z0 : ((3 : Int) == 0) = false := by decide
        have z1 : ((3 : Int) == 1) = false := by decide
        have z2 : ((3 : Int) == 2) = false := by decide
        have z3 : ((3 : Int) == 3) = true := by decide
        have Q := hide (hquant_any g H v m W1 T1.out HV.out HM.out)
        have GH := hide T1.out.good
        go_wp2_with fail
        refine Q.out.mono ?_
        rintro e w2 ⟨rfl, b2⟩
        have T2 := hide (T1.out.below b2 T1.out.lt)
        have B2 := hide (below_to B1.out b2 (Nat.le_refl _))
        have R2 := hide (R1.out.below b2 (Nat.le_refl _))
        have d1 : w2.cell? ⟨p, 1, none⟩ = some (.int .u64 v) := (b2.cell (p := ⟨p, 1, none⟩) HPL.out).trans e1
        have d2 : w2.cell? ⟨p, 2, none⟩ = some (.int .u64 m) := (b2.cell (p := ⟨p, 2, none⟩) HPL.out).trans e2
        have RQ := hide (refquant_any la ln lc (spS H) v m w2 R2.out GH.out.check HV.out HM.out)
        generalize (quantS (spS H) v m).1 = qx at *
        generalize (quantS (spS H) v m).2 = qe at *
        clear b2 B1 R1 T1 Q e0 e1 e2 e3
        go_wp2_with fail
        refine RQ.out.mono ?_
        rintro e w3 ⟨rfl, rfl⟩
        have PX : Hid (Pl w w3 g la ln (spS H)) := ⟨B2.out, ⟨H, T2.out, rfl⟩, R2.out, HAp.out⟩
        have t1 : (qx != qx) = false := by simp
        have t2 : (qe != qe) = false := by simp
        clear RQ B2 R2 T2 d1 d2
        have SA := hide (PX.out.same_in lc)
        go_wp2_with fail
        refine SA.out.mono ?_
        rintro e ws ⟨rfl, bs⟩
        have PN := hide (PX.out.below bs)
        clear SA bs PX
        go_wp2
        go_roundw
        case rel => exact ⟨_, _, _, j + 1, _, by omega, rfl, by go_num, PN⟩
        case measure => simp [intOf]; omega
      · have z0 : ((4 : Int) == 0) = false := by decide
        have z1 : ((4 : Int) == 1) = false := by decide
        have z2 : ((4 : Int) == 2) = false := by decide
        have z3 : ((4 : Int) == 3) = false := by decide
        have z4 : ((4 : Int) == 4) = true := by decide
        have RK1 : Hid (∀ n, Calls Try.prog 26 #[.pointer (some ⟨g, 0, none⟩), .int .u64 v] (W1.drewN n) fun e w' => e = .returned (.int .u64 (rankS (spS H) v)) ∧ ∃ k, w' = W1.drewN k) := fun n => by
          refine (hrank_any g H v (W1.drewN n) ⟨T1.out.heap, T1.out.len, T1.out.words⟩ HV.out).mono ?_
          rintro e w' ⟨rfl, q, rfl⟩
          exact ⟨rfl, n + q, by simp [World.drewN, Nat.add_assoc]⟩
        have RK2 : Hid (∀ n, Calls Try.prog 27 #[.slice la ln lc, .int .u64 v] (W1.drewN n) fun e w' => e = .returned (.int .u64 (rankS (spS H) v)) ∧ ∃ k, w' = W1.drewN k) := fun n => by
          refine (refrank_any la ln lc (spS H) v (W1.drewN n) (R1.out.below (bel_drewN (Below.refl _ _) n) (Nat.le_refl _)) HV.out).mono ?_
          rintro e w' ⟨rfl, q, rfl⟩
          exact ⟨rfl, n + q, by simp [World.drewN, Nat.add_assoc]⟩
        have PXX : Hid (∀ q, Pl w (W1.drewN q) g la ln (spS H)) := fun q => ⟨bel_drewN B1.out q, ⟨H, ⟨T1.out.heap, T1.out.len, T1.out.words⟩, rfl⟩, R1.out.below (bel_drewN (Below.refl _ _) q) (Nat.le_refl _), HAp.out⟩
        generalize rankS (spS H) v = rk at *
        have t1 : (rk != rk) = false := by simp
        clear B1 R1 T1
        go_wp2
        go_quiet (first | (go_at_call 26; exact RK1.out _) | (go_at_call 27; exact RK2.out _))
        have PX := hide (PXX.out nq)
        clear PXX RK1 RK2 e0 e1 e2 e3
        generalize W1.drewN nq = w3 at *
        have SA := hide (PX.out.same_in lc)
        go_wp2_with fail
        refine SA.out.mono ?_
        rintro e ws ⟨rfl, bs⟩
        have PN := hide (PX.out.below bs)
        clear SA bs PX
        go_wp2
        go_roundw
        case rel => exact ⟨_, _, _, j + 1, _, by omega, rfl, by go_num, PN⟩
        case measure => simp [intOf]; omega
    · by_cases hlt : j < n
      · have h60 : 60 ≤ j := by omega
        have i2 : (j : Int) < (n : Int) := by omega
        have i3 : ¬ (j : Int) < 60 := by omega
        have SA := hide (HP.out.same_in lc)
        go_wp2_with fail
        refine SA.out.mono ?_
        rintro e ws ⟨rfl, bs⟩
        have B := hide (below_to HP.out.low bs (Nat.le_refl _))
        clear SA bs HP
        go_wp2_with fail
        refine (AW.out _).mono ?_
        rintro e wz ⟨rfl, bz⟩
        have BZ := hide (below_to B.out bz (Nat.le_refl _))
        clear bz B
        go_wp2
        go_ret
        exact ⟨rfl, BZ.out⟩
      · have : j = n := by omega
        subst this
        have SA := hide (HP.out.same_in lc)
        go_wp2_with fail
        refine SA.out.mono ?_
        rintro e ws ⟨rfl, bs⟩
        have B := hide (below_to HP.out.low bs (Nat.le_refl _))
        clear SA bs HP
        go_wp2_with fail
        refine (AW.out _).mono ?_
        rintro e wz ⟨rfl, bz⟩
        have BZ := hide (below_to B.out bz (Nat.le_refl _))
        clear bz B
        go_wp2
        go_ret
        exact ⟨rfl, BZ.out⟩
end Go.Proofs.Ytjngpdhhkkambaa

namespace Go.Proofs.Ytjngpdhhkkambaa.histPlays
open Go.ChangeShapes Go.WideShapes Go.ChangeAt Go.RowKit
open Go.ChangeMaps (open_string shut_string)
set_option linter.unusedVariables false

theorem own : ownKnob Try.prog.godebug = none := by kernel_rfl
theorem laidOut : laidOutB Try.prog = true := by kernel_rfl

set_option maxRecDepth 100000 in
theorem lifted (os : Os) (started : os.Started) (H : Type) (enc : TypeId × Value → H) :
    ReturnsInHanded {} Try.checked os 5 .any (Rows.histPlaysSpec.pre6 enc Try.prog Try.f5 Rows.histPlaysRow.domain false) (Rows.histPlaysSpec.post enc Try.prog Try.f5 false true false false) := by
  refine returnsInHanded_of_change_sized (C := Try.checked) own started (by kernel_rfl) Try.func5
    (ChangeSpec.witness6 (enc := enc) (C := Try.checked) false ⟨#[], #[.slice none 0 0, .slice none 0 0], []⟩ 8 (by kernel_rfl) (by kernel_rfl) (by kernel_rfl) (by kernel_rfl)) ?_
  intro W base args ds gs before hval0 hW hcnd hsz0 _
  have hsz : (DataW.weightsEach Try.prog (Try.f5.params.toList ++ Rows.histPlaysSpec.plain.varTypes Try.prog) (ds ++ gs)).all (· ≤ reachBytes) = true := hsz0
  have hval : ∀ (j : Nat) t v, Try.f5.params[j]? = some t → args[j]? = some v → Value.okWide Try.prog W .any base t v := hval0
  have hW' := hW
  obtain ⟨p, q, hA0, hV, rfl, hfz, hnd⟩ := hW
  have hA : DataW.TrodAll enc Try.prog W 0 (fun _ => true) true Try.f5.params.toList args.toList ds p := hA0
  rw [Try.params5] at hA hval hsz
  obtain ⟨v0, vs0, d0, ds0, p0, q0, hargs, rfl, rfl, h0, r0⟩ := trodAll_cons hA
  obtain ⟨v1, vs1, d1, ds1, p1, q1, rfl, rfl, rfl, h1, r1⟩ := trodAll_cons r0
  obtain ⟨rfl, rfl, rfl⟩ := trodAll_nil r1
  obtain rfl : args = #[v0, v1] := by cases args; simp_all
  obtain ⟨rfl, rfl⟩ := trodVars_none hV
  obtain ⟨a0, len0, cap0, rfl⟩ := okWide_slice Try.underlying29 (hval 0 29 v0 rfl rfl)
  have k0 := h0
  have lt0 : ∀ x ∈ p0, x.block < W.heap.size := by obtain ⟨m, hm⟩ := k0; exact DataW.trod_lt m _ _ _ hm
  obtain ⟨z0, w0⟩ : ∃ l, IsBks W a0 len0 cap0 l := by
    obtain ⟨fuel, hf⟩ := h0
    rcases bks_trod hf with ⟨rfl, rfl, rfl⟩ | ⟨ad, l, elems, spare, rfl, hl, h1, h2, hd, hm, hc⟩
    · exact ⟨[], by decide, by decide, fun _ => ⟨rfl, rfl⟩, rfl, by decide, by simp, Or.inl rfl⟩
    · simp only at hd hm
      have hs := sized_slice hsz (j := 0) (t := 29) (e := 62) rfl (by rw [hd]; rfl) Try.underlying29
      rw [show Try.prog.bytesOf 62 = 16 from by kernel_rfl, hm] at hs
      simp only [if_true, reachBytes] at hs
      exact ⟨l, by omega, hl, fun h => by simp at h, bks_row h1 (by omega) h2 hc⟩
  obtain ⟨a1, len1, cap1, rfl⟩ := okWide_slice Try.underlying30 (hval 1 30 v1 rfl rfl)
  have k1 := h1
  have lt1 : ∀ x ∈ p1, x.block < W.heap.size := by obtain ⟨m, hm⟩ := k1; exact DataW.trod_lt m _ _ _ hm
  obtain ⟨z1, w1⟩ : ∃ xs, IsOps W a1 len1 cap1 xs := by
    obtain ⟨fuel, hf⟩ := h1
    exact ops_open hsz (j := 1) rfl rfl hf
  clear hA0 hval0 hsz0 hsz
  refine (walk_plays a0 len0 cap0 z0 a1 len1 cap1 z1 W w0 w1).mono fun e W' ⟨he, bel⟩ => ?_
  subst he
  exact ⟨_, rfl, _, _, _, [], _, [], hW', trodAll_mk1 (shut_bool Try.underlying4 _), (trodAll_cons_mk (Below.trod laidOut (by kernel_rfl) (of_decide_eq_true (by kernel_rfl)) k0 bel lt0) (trodAll_cons_mk (Below.trod laidOut (by kernel_rfl) (of_decide_eq_true (by kernel_rfl)) k1 bel lt1) trodAll_mk0)), rfl, bel.frame _, fun h => by cases h⟩

theorem proved : Rows.HistPlaysSaid :=
  OpenClaim.holds_of_wide 5 Try.f5 rfl rfl rfl rfl rfl rfl rfl ⟨rfl, rfl, rfl, rfl, rfl⟩ rfl rfl rfl rfl rfl (by kernel_rfl) Try.func5 (by kernel_rfl)
    (of_decide_eq_true (by kernel_rfl)) (by unfold Func.isWrapper; first | (rw [if_pos (by decide +kernel)]; kernel_rfl) | (rw [if_neg (by decide +kernel)]; exact ⟨rfl, rfl⟩))
    (fun os started H enc _ => lifted os started H enc)
end Go.Proofs.Ytjngpdhhkkambaa.histPlays
