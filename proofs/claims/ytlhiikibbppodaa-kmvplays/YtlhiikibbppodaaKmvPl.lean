/-
  The law of layer 8 on any calls, of any layer that keeps its contracts: the walk.
  Conditions: the contracts.
-/
import Derived.Test.YtlhiikibbppodaaKmvP
namespace Go.Proofs.Ytlhiikibbppodaa
open Go.RowKit

theorem PlK.pool {At : World → Nat → (Nat → Prop) → List Int → Prop} {w W : World} {g : Nat} {hs : List Nat} {L M : List Int} {a : Option Addr} {n cap : Nat} (h : PlK At w W g hs L a n cap M) : PoolK At w W [(g, L)] := by
  obtain ⟨S, s1, s2, _, _⟩ := h.sk
  exact ⟨[⟨g, S, L⟩], rfl, h.low, by simpa using s1, by simp, by simpa using s2⟩
theorem cell_heap {W W' : World} {p : Nat} (h : W'.heap[p]? = W.heap[p]?) (o : Nat) : W'.cell? ⟨p, o, none⟩ = W.cell? ⟨p, o, none⟩ := by simp only [World.cell?, h]

set_option maxRecDepth 20000 in
set_option maxHeartbeats 8000000 in
theorem plays_of {At : World → Nat → (Nat → Prop) → List Int → Prop} (I : KmvI At) (IM : KmvIM At) (HD : DivK 28) (fa : Option Addr) (fn fc : Nat) (fz : List Int) (sa : Option Addr) (n sc : Nat) (xs : List OpK) (w : World) (hf : IsRow .u64 w fa fn fc fz) (hs : IsOpsK w sa n sc xs) :
    Calls Try.prog 3 #[.slice fa fn fc, .slice sa n sc] w fun e w' => e = .returned (.bool true) ∧ Below w.heap.size w w' := by
  obtain ⟨a1, a2, a3, RF⟩ := row_of hf
  rw [show kb .u64 = 8 from rfl] at a2
  clear hf
  generalize fz.take fn = fl at RF
  obtain ⟨s1, s2, s3, s4, s5, s6⟩ := hs
  have HF := hide RF
  have HI := hide I
  have HIM := hide IM
  have HDD := hide HD
  have AW := hide (fun W (bl : Below w.heap.size w W) => (awakeK_any I W).mono (fun e W' (h : e = .returned (.bool true) ∧ Below W.heap.size W W') => (⟨h.1, bl.trans (h.2.mono bl.size)⟩ : e = .returned (.bool true) ∧ Below w.heap.size w W')))
  have NF := hide (fun W (bl : Below w.heap.size w W) => numsK_any fa fn fc fl W (HF.out.below bl (Nat.le_refl _)) a3 (by omega))
  have N1 := hide (NF.out w (Below.refl _ _))
  have hn : n ≤ 17592186044416 := by omega
  have HX5 := hide s5
  have HX6 := hide s6
  have HXL := hide s4
  clear RF I IM HD a1 a2 a3 s1 s2 s3 s4 s5 s6
  by_cases ck : chkK fl = true
  case neg =>
    have ckf : chkK fl = false := by simpa using ck
    go_enter Try.func3, Try.ntmps3
    go_wp2_with fail
    refine N1.out.mono ?_
    rintro e w1 ⟨b1, k1, rfl, o1, bl1⟩
    have F := hide (HI.out.fromNo b1 fn k1 fl w1 (OwnU.rowU o1 HF.out.2.1 HF.out.words) ckf)
    have B1 := hide bl1
    clear o1 bl1 N1 NF
    go_wp2_with fail
    refine F.out.mono ?_
    rintro e w2 ⟨rfl, bl2⟩
    have B2 : Hid (Below w.heap.size w w2) := B1.out.trans (bl2.mono B1.out.size)
    have K := hide (refchk_any fa fn fc fl w2 (HF.out.below B2.out (Nat.le_refl _)))
    rw [ckf] at K
    clear bl2 B1 F ck ckf
    go_wp2_with fail
    refine K.out.mono ?_
    rintro e w3 ⟨rfl, q, rfl⟩
    have A3 := hide (AW.out _ (bel_drewN B2.out q))
    clear K
    go_wp2_with fail
    refine A3.out.mono ?_
    rintro e w4 ⟨rfl, bl⟩
    have BL := hide bl
    clear bl A3
    go_wp2
    go_ret
    exact ⟨rfl, BL.out⟩
  have HCK := hide ck
  clear ck
  go_enter Try.func3, Try.ntmps3
  go_wp2_with fail
  refine N1.out.mono ?_
  rintro e w1 ⟨b1, k1, rfl, o1, bl1⟩
  have F := hide ((PoolK.nil (At := At) bl1).from HI.out k1 (OwnU.rowU o1 HF.out.2.1 HF.out.words) HCK.out)
  clear o1 bl1 N1
  go_wp2_with fail
  refine F.out.mono ?_
  rintro e w2 ⟨g, rfl, p2⟩
  have P2 := hide p2
  have K := hide (refchk_any fa fn fc fl w2 (HF.out.below p2.low (Nat.le_refl _)))
  rw [HCK.out] at K
  clear p2 F
  go_wp2_with fail
  refine K.out.mono ?_
  rintro e w3 ⟨rfl, q, rfl⟩
  have P3 := hide (P2.out.below HI.out (bel_drewN (Below.refl _ _) q))
  clear K P2
  generalize w2.drewN q = w3 at *
  have N3 := hide (NF.out w3 P3.out.low)
  go_wp2_with fail
  refine N3.out.mono ?_
  rintro e w4 ⟨a4, c4, rfl, o4, bl4⟩
  have PL : Hid (PlK At w w4 g [] fl a4 fn c4 fl) := by
    obtain ⟨S, t1, t2⟩ := P3.out.has (q1 := []) (q2 := [])
    have hcap := o4.capped
    exact ⟨P3.out.low.trans (bl4.mono P3.out.low.size), ⟨S, HI.out.below t1 bl4, t2, fun x hx => ⟨fun hs => by have := HI.out.lt t1 _ hs; have := (own_lies o4 hx).1; omega, (own_lies o4 hx).2⟩, by simp⟩, OwnU.rowU o4 HF.out.2.1 HF.out.words, hcap⟩
  clear o4 bl4 P3 N3 NF HF
  go_wp2
  go_loopw [7, 8] (fun l i wr => ∃ (la : Option Addr) (ln lc j : Nat) (L : List Int), j ≤ n ∧ l = .slice la ln lc ∧ i = .int .i64 j ∧ Hid (PlK At w wr g [] L la ln lc L)) (fun _ i _ => n - (intOf i).toNat)
  case atStart => exact ⟨a4, fn, c4, 0, fl, by omega, rfl, rfl, PL⟩
  case round =>
    obtain ⟨la, ln, lc, j, L, hj, rfl, rfl, HP⟩ := hrel
    by_cases hgo : j < n ∧ j < 60
    · obtain ⟨hlt, h60⟩ := hgo
      obtain ⟨b, off, rfl, hat⟩ : ∃ b off, sa = some ⟨b, off, none⟩ ∧ OpAtK w b (off + j * 4) (xs.getD j OpK.nil) := by
        rcases HX6.out with h | ⟨b, off, h1, h2⟩
        · omega
        · exact ⟨b, off, h1, h2 j hlt⟩
      have hx5 := HX5.out (xs.getD j OpK.nil) (by
        rw [List.getD_eq_getElem?_getD, List.getElem?_eq_getElem (by rw [HXL.out]; exact hlt)]
        exact List.getElem_mem _)
      generalize xs.getD j OpK.nil = x at hat hx5
      obtain ⟨kind, s, h, xa, xn, xc, xz⟩ := x
      obtain ⟨f0, f1, f2, f3⟩ := hat
      simp only at f0 f1 f2 f3 hx5
      obtain ⟨hk, hsz, hh, hxr⟩ := hx5
      have hss : s.size ≤ 9223372036854775807 := Nat.le_trans hsz (by decide)
      have HV := hide (u64_of_wf hh)
      obtain ⟨y1, y2, y3, hxrow⟩ := row_of hxr
      rw [show kb .u64 = 8 from rfl] at y2
      generalize xz.take xn = xl at hxrow
      have HXR := hide hxrow
      have HXZ := hide y3
      have HXC : Hid (xn * 8 ≤ 140737488355328) := by show _ ≤ _; omega
      have hbl : b < w.heap.size := World.block_lt_of_cell? w _ f0
      have e0' := (HP.out.low.cell (p := ⟨b, off + j * 4, none⟩) hbl).trans f0
      have e1' := (HP.out.low.cell (p := ⟨b, off + j * 4 + 1, none⟩) hbl).trans f1
      have e2' := (HP.out.low.cell (p := ⟨b, off + j * 4 + 2, none⟩) hbl).trans f2
      have e3' := (HP.out.low.cell (p := ⟨b, off + j * 4 + 3, none⟩) hbl).trans f3
      obtain ⟨gu, gl, gw⟩ := HP.out.good HI.out
      have hln : ln ≤ 1024 := by rw [← HP.out.row.1]; exact gl
      have HGU := hide gu
      have HRM := hide HP.out.room
      have r1 := Int.emod_nonneg kind (b := 5) (by omega)
      have r2 := Int.emod_lt_of_pos kind (b := 5) (by omega)
      have PC := hide (fun w => place_any kind 5 (by omega) (by omega) w)
      have i1 : (0 : Int) ≤ (j : Int) := by omega
      have i2 : (j : Int) < (n : Int) := by omega
      have i3 : (j : Int) < 60 := by omega
      clear f0 f1 f2 f3 hk hsz hh hxr hxrow y1 y2 y3 hbl gu gl gw
      go_wp2_with fail
      refine (PC.out _).mono ?_
      rintro e W1 ⟨rfl, hW1⟩
      obtain ⟨p, HPE⟩ : ∃ p, Hid (wr.heap.size = p) := ⟨_, rfl⟩
      have e1 : W1.cell? ⟨p, 1, none⟩ = some (.string s) := by rw [hW1, ← HPE.out, World.cell?_alloc_mark]; rfl
      have e2 : W1.cell? ⟨p, 2, none⟩ = some (.int .u64 h) := by rw [hW1, ← HPE.out, World.cell?_alloc_mark]; rfl
      have e3 : W1.cell? ⟨p, 3, none⟩ = some (.slice xa xn xc) := by rw [hW1, ← HPE.out, World.cell?_alloc_mark]; rfl
      have T1 : Hid (PlK At w W1 g [p] L la ln lc L) := by rw [hW1, ← HPE.out]; exact HP.out.alloc HI.out _
      rw [HPE.out]
      clear hW1 HPE PC e0' e1' e2' e3' HP
      generalize kind % 5 = r at *
      have hr : r = 0 ∨ r = 1 ∨ r = 2 ∨ r = 3 ∨ r = 4 := by omega
      clear r1 r2
      rcases hr with rfl | rfl | rfl | rfl | rfl
      · have z0 : ((0 : Int) == 0) = true := by decide
        have z1 : ((0 : Int) == 1) = false := by decide
        have z2 : ((0 : Int) == 2) = false := by decide
        have z3 : ((0 : Int) == 3) = false := by decide
        have z4 : ((0 : Int) == 4) = false := by decide
        have A := hide (T1.out.add HI.out s hss)
        go_wp2_with fail
        refine A.out.mono ?_
        rintro e W2 ⟨rfl, p2, k2⟩
        have d1 : W2.cell? ⟨p, 1, none⟩ = some (.string s) := (cell_heap (k2 p (by simp)) 1).trans e1
        have T2 := hide p2
        have R2 := hide (refadd_any la ln lc L s W2 p2.row HGU.out hln HRM.out.1 HRM.out.2 hss)
        obtain ⟨L2, HL2⟩ : ∃ x, Hid (hashK 1024 L (fnvOf (numsOf s)) = x) := ⟨_, rfl⟩
        rw [HL2.out] at T2 R2
        clear A p2 k2 e1 e2 e3 T1 HL2
        go_wp2_with fail
        refine R2.out.mono ?_
        rintro e W3 bk
        obtain ⟨a3, c3, rfl, p3⟩ := T2.out.back HI.out bk
        clear bk R2 T2
        have PE : Hid (PlK At w W3 g [] L2 a3 L2.length c3 L2) := p3.drop
        clear p3
        have HH := hide ((show PoolK At w W3 [(g, L2)] from PE.out.pool).hashes HI.out [] [])
        go_wp2_with fail
        refine HH.out.mono ?_
        rintro e W5 ⟨a5, c5, rfl, -, r5, bl5, p5⟩
        have S5 := hide (same_any a5 _ c5 _ a3 _ c3 _ W5 r5 (PE.out.row.below bl5 (Nat.le_refl _)))
        rw [decide_eq_true rfl] at S5
        have Q5 := hide (PE.out.below HI.out bl5)
        clear r5 bl5 p5 HH PE
        go_wp2_with fail
        refine S5.out.mono ?_
        rintro e W6 ⟨rfl, bl6⟩
        have Q6 := hide (Q5.out.below HI.out bl6)
        have D6 := hide (Q6.out.pool.distinct HI.out [] [])
        clear bl6 S5 Q5
        go_wp2_with fail
        refine D6.out.mono ?_
        rintro e W7 ⟨rfl, bl7, -⟩
        have Q7 := hide (Q6.out.below HI.out bl7)
        have D7 := hide (refdist_any HDD.out a3 L2.length c3 L2 W7 Q7.out.row)
        clear bl7 D6 Q6
        have t9 : (distK L2 == distK L2) = true := by simp
        generalize distK L2 = dd at *
        go_wp2_with fail
        refine D7.out.mono ?_
        rintro e W8 ⟨rfl, q, rfl⟩
        have Q8 := hide (Q7.out.below HI.out (bel_drewN (Below.refl _ _) q))
        clear D7 Q7
        generalize W7.drewN q = W8 at *
        go_wp2
        go_roundw
        case rel => exact ⟨a3, L2.length, c3, j + 1, L2, by omega, rfl, by go_num, Q8⟩
        case measure => simp [intOf]; omega
      · have z0 : ((1 : Int) == 0) = false := by decide
        have z1 : ((1 : Int) == 1) = true := by decide
        have z2 : ((1 : Int) == 2) = false := by decide
        have z3 : ((1 : Int) == 3) = false := by decide
        have z4 : ((1 : Int) == 4) = false := by decide
        have A := hide (T1.out.add HI.out s hss)
        go_wp2_with fail
        refine A.out.mono ?_
        rintro e W2 ⟨rfl, p2, k2⟩
        have d1 : W2.cell? ⟨p, 1, none⟩ = some (.string s) := (cell_heap (k2 p (by simp)) 1).trans e1
        have T2 := hide p2
        have R2 := hide (refadd_any la ln lc L s W2 p2.row HGU.out hln HRM.out.1 HRM.out.2 hss)
        obtain ⟨L2, HL2⟩ : ∃ x, Hid (hashK 1024 L (fnvOf (numsOf s)) = x) := ⟨_, rfl⟩
        rw [HL2.out] at T2 R2
        clear A p2 k2 e1 e2 e3 T1 HL2
        go_wp2_with fail
        refine R2.out.mono ?_
        rintro e W3 bk
        obtain ⟨a3, c3, rfl, p3⟩ := T2.out.back HI.out bk
        clear bk R2 T2
        have PE : Hid (PlK At w W3 g [] L2 a3 L2.length c3 L2) := p3.drop
        clear p3
        have HH := hide ((show PoolK At w W3 [(g, L2)] from PE.out.pool).hashes HI.out [] [])
        go_wp2_with fail
        refine HH.out.mono ?_
        rintro e W5 ⟨a5, c5, rfl, -, r5, bl5, p5⟩
        have S5 := hide (same_any a5 _ c5 _ a3 _ c3 _ W5 r5 (PE.out.row.below bl5 (Nat.le_refl _)))
        rw [decide_eq_true rfl] at S5
        have Q5 := hide (PE.out.below HI.out bl5)
        clear r5 bl5 p5 HH PE
        go_wp2_with fail
        refine S5.out.mono ?_
        rintro e W6 ⟨rfl, bl6⟩
        have Q6 := hide (Q5.out.below HI.out bl6)
        have D6 := hide (Q6.out.pool.distinct HI.out [] [])
        clear bl6 S5 Q5
        go_wp2_with fail
        refine D6.out.mono ?_
        rintro e W7 ⟨rfl, bl7, -⟩
        have Q7 := hide (Q6.out.below HI.out bl7)
        have D7 := hide (refdist_any HDD.out a3 L2.length c3 L2 W7 Q7.out.row)
        clear bl7 D6 Q6
        have t9 : (distK L2 == distK L2) = true := by simp
        generalize distK L2 = dd at *
        go_wp2_with fail
        refine D7.out.mono ?_
        rintro e W8 ⟨rfl, q, rfl⟩
        have Q8 := hide (Q7.out.below HI.out (bel_drewN (Below.refl _ _) q))
        clear D7 Q7
        generalize W7.drewN q = W8 at *
        go_wp2
        go_roundw
        case rel => exact ⟨a3, L2.length, c3, j + 1, L2, by omega, rfl, by go_num, Q8⟩
        case measure => simp [intOf]; omega
      · have z0 : ((2 : Int) == 0) = false := by decide
        have z1 : ((2 : Int) == 1) = false := by decide
        have z2 : ((2 : Int) == 2) = true := by decide
        have z3 : ((2 : Int) == 3) = false := by decide
        have z4 : ((2 : Int) == 4) = false := by decide
        have A := hide (T1.out.hash HI.out HV.out)
        go_wp2_with fail
        refine A.out.mono ?_
        rintro e W2 ⟨rfl, p2, k2⟩
        have d2 : W2.cell? ⟨p, 2, none⟩ = some (.int .u64 h) := (cell_heap (k2 p (by simp)) 2).trans e2
        have T2 := hide p2
        have R2 := hide (refhash_any la ln lc L h W2 p2.row HGU.out hln HRM.out.1 HRM.out.2 HV.out)
        obtain ⟨L2, HL2⟩ : ∃ x, Hid (hashK 1024 L h = x) := ⟨_, rfl⟩
        rw [HL2.out] at T2 R2
        clear A p2 k2 e1 e2 e3 T1 HL2
        go_wp2_with fail
        refine R2.out.mono ?_
        rintro e W3 bk
        obtain ⟨a3, c3, rfl, p3⟩ := T2.out.back HI.out bk
        clear bk R2 T2
        have PE : Hid (PlK At w W3 g [] L2 a3 L2.length c3 L2) := p3.drop
        clear p3
        have HH := hide ((show PoolK At w W3 [(g, L2)] from PE.out.pool).hashes HI.out [] [])
        go_wp2_with fail
        refine HH.out.mono ?_
        rintro e W5 ⟨a5, c5, rfl, -, r5, bl5, p5⟩
        have S5 := hide (same_any a5 _ c5 _ a3 _ c3 _ W5 r5 (PE.out.row.below bl5 (Nat.le_refl _)))
        rw [decide_eq_true rfl] at S5
        have Q5 := hide (PE.out.below HI.out bl5)
        clear r5 bl5 p5 HH PE
        go_wp2_with fail
        refine S5.out.mono ?_
        rintro e W6 ⟨rfl, bl6⟩
        have Q6 := hide (Q5.out.below HI.out bl6)
        have D6 := hide (Q6.out.pool.distinct HI.out [] [])
        clear bl6 S5 Q5
        go_wp2_with fail
        refine D6.out.mono ?_
        rintro e W7 ⟨rfl, bl7, -⟩
        have Q7 := hide (Q6.out.below HI.out bl7)
        have D7 := hide (refdist_any HDD.out a3 L2.length c3 L2 W7 Q7.out.row)
        clear bl7 D6 Q6
        have t9 : (distK L2 == distK L2) = true := by simp
        generalize distK L2 = dd at *
        go_wp2_with fail
        refine D7.out.mono ?_
        rintro e W8 ⟨rfl, q, rfl⟩
        have Q8 := hide (Q7.out.below HI.out (bel_drewN (Below.refl _ _) q))
        clear D7 Q7
        generalize W7.drewN q = W8 at *
        go_wp2
        go_roundw
        case rel => exact ⟨a3, L2.length, c3, j + 1, L2, by omega, rfl, by go_num, Q8⟩
        case measure => simp [intOf]; omega
      · have z0 : ((3 : Int) == 0) = false := by decide
        have z1 : ((3 : Int) == 1) = false := by decide
        have z2 : ((3 : Int) == 2) = false := by decide
        have z3 : ((3 : Int) == 3) = true := by decide
        have z4 : ((3 : Int) == 4) = false := by decide
        have A := hide (T1.out.hash HI.out HV.out)
        go_wp2_with fail
        refine A.out.mono ?_
        rintro e W2 ⟨rfl, p2, k2⟩
        have d2 : W2.cell? ⟨p, 2, none⟩ = some (.int .u64 h) := (cell_heap (k2 p (by simp)) 2).trans e2
        have T2 := hide p2
        have R2 := hide (refhash_any la ln lc L h W2 p2.row HGU.out hln HRM.out.1 HRM.out.2 HV.out)
        obtain ⟨L2, HL2⟩ : ∃ x, Hid (hashK 1024 L h = x) := ⟨_, rfl⟩
        rw [HL2.out] at T2 R2
        clear A p2 k2 e1 e2 e3 T1 HL2
        go_wp2_with fail
        refine R2.out.mono ?_
        rintro e W3 bk
        obtain ⟨a3, c3, rfl, p3⟩ := T2.out.back HI.out bk
        clear bk R2 T2
        have PE : Hid (PlK At w W3 g [] L2 a3 L2.length c3 L2) := p3.drop
        clear p3
        have HH := hide ((show PoolK At w W3 [(g, L2)] from PE.out.pool).hashes HI.out [] [])
        go_wp2_with fail
        refine HH.out.mono ?_
        rintro e W5 ⟨a5, c5, rfl, -, r5, bl5, p5⟩
        have S5 := hide (same_any a5 _ c5 _ a3 _ c3 _ W5 r5 (PE.out.row.below bl5 (Nat.le_refl _)))
        rw [decide_eq_true rfl] at S5
        have Q5 := hide (PE.out.below HI.out bl5)
        clear r5 bl5 p5 HH PE
        go_wp2_with fail
        refine S5.out.mono ?_
        rintro e W6 ⟨rfl, bl6⟩
        have Q6 := hide (Q5.out.below HI.out bl6)
        have D6 := hide (Q6.out.pool.distinct HI.out [] [])
        clear bl6 S5 Q5
        go_wp2_with fail
        refine D6.out.mono ?_
        rintro e W7 ⟨rfl, bl7, -⟩
        have Q7 := hide (Q6.out.below HI.out bl7)
        have D7 := hide (refdist_any HDD.out a3 L2.length c3 L2 W7 Q7.out.row)
        clear bl7 D6 Q6
        have t9 : (distK L2 == distK L2) = true := by simp
        generalize distK L2 = dd at *
        go_wp2_with fail
        refine D7.out.mono ?_
        rintro e W8 ⟨rfl, q, rfl⟩
        have Q8 := hide (Q7.out.below HI.out (bel_drewN (Below.refl _ _) q))
        clear D7 Q7
        generalize W7.drewN q = W8 at *
        go_wp2
        go_roundw
        case rel => exact ⟨a3, L2.length, c3, j + 1, L2, by omega, rfl, by go_num, Q8⟩
        case measure => simp [intOf]; omega
      · have z0 : ((4 : Int) == 0) = false := by decide
        have z1 : ((4 : Int) == 1) = false := by decide
        have z2 : ((4 : Int) == 2) = false := by decide
        have z3 : ((4 : Int) == 3) = false := by decide
        have z4 : ((4 : Int) == 4) = true := by decide
        have NX := hide (numsK_any xa xn xc xl W1 (HXR.out.below T1.out.low (Nat.le_refl _)) HXZ.out HXC.out)
        go_wp2_with fail
        refine NX.out.mono ?_
        rintro e W2 ⟨a2, c2, rfl, o2, bl2⟩
        by_cases cx : chkK xl = true
        · have A := hide (PlK.merge HI.out HIM.out T1.out bl2 o2 HXR.out.2.1 HXR.out.words cx)
          have HH2 : Hid (W2.heap[p]? = W1.heap[p]?) := T1.out.held bl2 (by simp)
          clear o2 bl2 NX
          go_wp2_with fail
          refine A.out.mono ?_
          rintro e Wm ⟨rfl, pm, km⟩
          have d3 : Wm.cell? ⟨p, 3, none⟩ = some (.slice xa xn xc) := ((cell_heap (km p (by simp)) 3).trans (cell_heap HH2.out 3)).trans e3
          have K := hide (refchk_any xa xn xc xl Wm (HXR.out.below pm.low (Nat.le_refl _)))
          rw [cx] at K
          have TM := hide pm
          clear A pm km e1 e2 e3 HH2
          go_wp2_with fail
          refine K.out.mono ?_
          rintro e Wk ⟨rfl, q, rfl⟩
          have TK := hide (TM.out.below HI.out (bel_drewN (Below.refl _ _) q))
          have dk : (Wm.drewN q).cell? ⟨p, 3, none⟩ = some (.slice xa xn xc) := d3
          clear TM K d3
          generalize Wm.drewN q = Wk at *
          have hL : L.length ≤ 1024 := by rw [T1.out.row.1]; exact hln
          have R2 := hide (refmerge_any la xa ln xn lc xc L xl Wk TK.out.row (HXR.out.below TK.out.low (Nat.le_refl _)) HGU.out (chk_up cx).1 hln (by rw [← HXR.out.1]; exact (chk_up cx).2))
          rw [← hashAll_uni hL] at R2
          obtain ⟨L2, HL2⟩ : ∃ x, Hid (hashAll 1024 L xl = x) := ⟨_, rfl⟩
          rw [HL2.out] at R2 TK
          clear T1 HL2 cx hL
          go_wp2_with fail
          refine R2.out.mono ?_
          rintro e W3 bk
          obtain ⟨a3, c3, rfl, p3⟩ := TK.out.back HI.out bk
          clear bk R2 TK
          have PE : Hid (PlK At w W3 g [] L2 a3 L2.length c3 L2) := p3.drop
          clear p3
          have HH := hide ((show PoolK At w W3 [(g, L2)] from PE.out.pool).hashes HI.out [] [])
          go_wp2_with fail
          refine HH.out.mono ?_
          rintro e W5 ⟨a5, c5, rfl, -, r5, bl5, p5⟩
          have S5 := hide (same_any a5 _ c5 _ a3 _ c3 _ W5 r5 (PE.out.row.below bl5 (Nat.le_refl _)))
          rw [decide_eq_true rfl] at S5
          have Q5 := hide (PE.out.below HI.out bl5)
          clear r5 bl5 p5 HH PE
          go_wp2_with fail
          refine S5.out.mono ?_
          rintro e W6 ⟨rfl, bl6⟩
          have Q6 := hide (Q5.out.below HI.out bl6)
          have D6 := hide (Q6.out.pool.distinct HI.out [] [])
          clear bl6 S5 Q5
          go_wp2_with fail
          refine D6.out.mono ?_
          rintro e W7 ⟨rfl, bl7, -⟩
          have Q7 := hide (Q6.out.below HI.out bl7)
          have D7 := hide (refdist_any HDD.out a3 L2.length c3 L2 W7 Q7.out.row)
          clear bl7 D6 Q6
          have t9 : (distK L2 == distK L2) = true := by simp
          generalize distK L2 = dd at *
          go_wp2_with fail
          refine D7.out.mono ?_
          rintro e W8 ⟨rfl, q, rfl⟩
          have Q8 := hide (Q7.out.below HI.out (bel_drewN (Below.refl _ _) q))
          clear D7 Q7
          generalize W7.drewN q = W8 at *
          go_wp2
          go_roundw
          case rel => exact ⟨a3, L2.length, c3, j + 1, L2, by omega, rfl, by go_num, Q8⟩
          case measure => simp [intOf]; omega
        · have cxf : chkK xl = false := by simpa using cx
          have T2 := hide (T1.out.below HI.out bl2)
          have A := hide (PlK.mergeNo HI.out HIM.out T2.out (c := c2) (OwnU.rowU o2 HXR.out.2.1 HXR.out.words) cxf)
          have HH2 : Hid (W2.heap[p]? = W1.heap[p]?) := T1.out.held bl2 (by simp)
          clear o2 bl2 NX
          go_wp2_with fail
          refine A.out.mono ?_
          rintro e Wm ⟨rfl, pm, km⟩
          have d3 : Wm.cell? ⟨p, 3, none⟩ = some (.slice xa xn xc) := ((cell_heap (km p (by simp)) 3).trans (cell_heap HH2.out 3)).trans e3
          have K := hide (refchk_any xa xn xc xl Wm (HXR.out.below pm.low (Nat.le_refl _)))
          rw [cxf] at K
          have TM := hide pm
          clear A pm km e1 e2 e3 HH2 T2 T1
          go_wp2_with fail
          refine K.out.mono ?_
          rintro e Wk ⟨rfl, q, rfl⟩
          have TK := hide (TM.out.below HI.out (bel_drewN (Below.refl _ _) q))
          clear TM K d3 cx cxf
          generalize Wm.drewN q = W3 at *
          have hl := TK.out.row.1
          subst hl
          have p3 := TK.out
          generalize L = L2 at *
          generalize la = a3 at *
          generalize lc = c3 at *
          have PE : Hid (PlK At w W3 g [] L2 a3 L2.length c3 L2) := p3.drop
          clear p3
          have HH := hide ((show PoolK At w W3 [(g, L2)] from PE.out.pool).hashes HI.out [] [])
          go_wp2_with fail
          refine HH.out.mono ?_
          rintro e W5 ⟨a5, c5, rfl, -, r5, bl5, p5⟩
          have S5 := hide (same_any a5 _ c5 _ a3 _ c3 _ W5 r5 (PE.out.row.below bl5 (Nat.le_refl _)))
          rw [decide_eq_true rfl] at S5
          have Q5 := hide (PE.out.below HI.out bl5)
          clear r5 bl5 p5 HH PE
          go_wp2_with fail
          refine S5.out.mono ?_
          rintro e W6 ⟨rfl, bl6⟩
          have Q6 := hide (Q5.out.below HI.out bl6)
          have D6 := hide (Q6.out.pool.distinct HI.out [] [])
          clear bl6 S5 Q5
          go_wp2_with fail
          refine D6.out.mono ?_
          rintro e W7 ⟨rfl, bl7, -⟩
          have Q7 := hide (Q6.out.below HI.out bl7)
          have D7 := hide (refdist_any HDD.out a3 L2.length c3 L2 W7 Q7.out.row)
          clear bl7 D6 Q6
          have t9 : (distK L2 == distK L2) = true := by simp
          generalize distK L2 = dd at *
          go_wp2_with fail
          refine D7.out.mono ?_
          rintro e W8 ⟨rfl, q, rfl⟩
          have Q8 := hide (Q7.out.below HI.out (bel_drewN (Below.refl _ _) q))
          clear D7 Q7
          generalize W7.drewN q = W8 at *
          go_wp2
          go_roundw
          case rel => exact ⟨a3, L2.length, c3, j + 1, L2, by omega, rfl, by go_num, Q8⟩
          case measure => simp [intOf]; omega

    · have PE : Hid (PoolK At w wr [(g, L)]) := HP.out.pool
      have HRW := hide HP.out.row
      have HH := hide (PE.out.hashes HI.out [] [])
      by_cases hjn : j < n
      · have d1 : (j : Int) < (n : Int) := by omega
        have d2 : ¬ (j : Int) < 60 := by first | omega | trivial
        go_wp2_with fail
        refine HH.out.mono ?_
        rintro e W5 ⟨a5, c5, rfl, -, r5, bl5, p5⟩
        have S5 := hide (same_any a5 _ c5 _ la _ lc _ W5 r5 (HRW.out.below bl5 (Nat.le_refl _)))
        rw [decide_eq_true rfl] at S5
        have P5 := hide p5.pool
        clear r5 bl5 p5 HH PE
        go_wp2_with fail
        refine S5.out.mono ?_
        rintro e W6 ⟨rfl, bl6⟩
        have A6 := hide (AW.out W6 (P5.out.below HI.out bl6).low)
        clear bl6 S5 P5
        go_wp2_with fail
        refine A6.out.mono ?_
        rintro e W7 ⟨rfl, bl7⟩
        have BL := hide bl7
        clear bl7 A6
        go_wp2
        go_ret
        exact ⟨rfl, BL.out⟩
      · have d1 : ¬ (j : Int) < (n : Int) := by omega
        have d2 : True := by first | omega | trivial
        go_wp2_with fail
        refine HH.out.mono ?_
        rintro e W5 ⟨a5, c5, rfl, -, r5, bl5, p5⟩
        have S5 := hide (same_any a5 _ c5 _ la _ lc _ W5 r5 (HRW.out.below bl5 (Nat.le_refl _)))
        rw [decide_eq_true rfl] at S5
        have P5 := hide p5.pool
        clear r5 bl5 p5 HH PE
        go_wp2_with fail
        refine S5.out.mono ?_
        rintro e W6 ⟨rfl, bl6⟩
        have A6 := hide (AW.out W6 (P5.out.below HI.out bl6).low)
        clear bl6 S5 P5
        go_wp2_with fail
        refine A6.out.mono ?_
        rintro e W7 ⟨rfl, bl7⟩
        have BL := hide bl7
        clear bl7 A6
        go_wp2
        go_ret
        exact ⟨rfl, BL.out⟩
end Go.Proofs.Ytlhiikibbppodaa
