/-
  The landed file system: a file's bytes with so many of its pending units done (upTo): a contract, for every world (written by gen/vfsdk.gen.py).
  Conditions: the file lies in memory.
-/
import Derived.Test.YthlkmjaflomflaaGreatVfsDj
import Derived.Deep.DeepCutAuto
namespace Go.Proofs.YthlkmjaflomflaaGreat
open Go.RowKit Go.Maps
set_option maxRecDepth 20000
set_option linter.unusedVariables false

theorem number_any (p : Pu) (a : Option Addr) (m c : Nat) (w : World) (hp : p.1 ≤ 4294967296) :
    Calls Tryz.prog 79 #[.agg #[.int .i64 (p.1 : Int), .slice a m c]] w fun e w' => e = .returned (.int .i64 (puN p : Int)) ∧ Below w.heap.size w w' := by
  obtain ⟨n, x⟩ := p
  dsimp only at hp ⊢
  obtain ⟨W, hW⟩ : ∃ W, Hid (w.alloc (.cells #[.int .i64 (n : Int), .slice a m c] 128) = W) := ⟨_, rfl⟩
  have LW : Hid (Below w.heap.size w W) := by rw [← hW.out]; exact (Below.refl _ _).alloc (Nat.le_refl _) _
  have x0 : W.cell? ⟨w.heap.size, 0, none⟩ = some (.int .i64 (n : Int)) := by rw [← hW.out, World.cell?_alloc_mark]; rfl
  by_cases h : 0 < n
  · have e : puN (n, x) = n := by unfold puN; rw [if_pos h]
    rw [e]
    have d1 : (0 : Int) < (n : Int) := by omega
    go_enter Tryz.func79, Tryz.ntmps79
    go_upto_region 1 with fail
    rw [hW.out]
    clear hW
    go_wp2
    go_ret
    exact ⟨rfl, LW.out⟩
  · have e : puN (n, x) = 1 := by unfold puN; rw [if_neg h]
    rw [e]
    have d1 : ¬ (0 : Int) < (n : Int) := by omega
    go_enter Tryz.func79, Tryz.ntmps79
    go_upto_region 1 with fail
    rw [hW.out]
    clear hW
    go_wp2
    go_ret
    exact ⟨rfl, LW.out⟩
theorem Pd.small {b : List Int} {us : List Un} {ps : List Pu} (h : Pd b us ps) : ∀ r ∈ ps, r.1 ≤ us.length ∧ r.2.length ≤ b.length + us.length := by
  induction h with
  | nil => intro r hr; simp at hr
  | app us ps l h1 h2 ih =>
    intro r hr
    rcases List.mem_append.1 hr with e | e
    · have := ih r e
      rw [List.length_append]; omega
    · obtain rfl := List.mem_singleton.1 e
      rw [List.length_append, moreU_len]
      simp
  | cut us ps n h1 h2 ih =>
    intro r hr
    rcases List.mem_append.1 hr with e | e
    · have := ih r e
      rw [List.length_append]; omega
    · obtain rfl := List.mem_singleton.1 e
      have := unsB_len us b
      simp
      omega
theorem bkJ_len {b : List Int} {us : List Un} {ps : List Pu} {q i : Nat} {back : Int} {d : List Int} (h : BkJ b us ps q i back d) : d.length ≤ b.length + us.length := by
  rcases h with ⟨_, rfl⟩ | ⟨_, us', vs, rfl, _, _, rfl⟩
  · have := unsB_len (us.take q) b
    rw [List.length_take] at this
    omega
  · have := unsB_len us' b
    rw [List.length_append]
    omega
theorem sum_take {l : List Pu} {i : Nat} {p : Pu} (h : l[i]? = some p) : ((l.take (i + 1)).map puN).sum = ((l.take i).map puN).sum + puN p := by
  obtain ⟨hk, e⟩ := List.getElem?_eq_some_iff.1 h
  rw [List.take_succ_eq_append_getElem hk, List.map_append, List.sum_append, e]
  simp
theorem sum_le (l : List Pu) (i : Nat) : ((l.take i).map puN).sum ≤ (l.map puN).sum := by
  conv => rhs; rw [← List.take_append_drop i l, List.map_append, List.sum_append]
  omega

set_option maxHeartbeats 8000000 in
theorem upto_any (w : World) (h : Fh) (k : Nat) (b su : List Int) (us : List Un) (m : FlP w h k b su us) (hbu : b = unsB su us) (p : Int) (hpw : (Lit.int .i64 p).wf = true) (hb : b.length ≤ 4294967296) (hsu : su.length ≤ 4294967296) (hus : us.length ≤ 4294967296) (hby : ∀ z ∈ b, 0 ≤ z ∧ z ≤ 255) :
    Calls Tryz.prog 61 #[.pointer (some ⟨h.b, 0, none⟩), .int .i64 p] w fun e w' => ∃ a' n' c', e = .returned (.slice a' n' c') ∧ n' = (unsB su (us.take (cutN p))).length ∧ OwnB w' w.heap.size a' n' c' (unsB su (us.take (cutN p))) ∧ Below w.heap.size w w' := by
  obtain ⟨i0, hi0, hz00, hz01, hz02⟩ := info_parts Tryz.infoU8
  obtain ⟨p0, p1⟩ := i64_of_wf hpw
  have hbd : ∀ (i : Nat) (r : Pu), h.ps[i]? = some r → r.1 ≤ 4294967296 ∧ r.2.length ≤ 8589934592 := fun i r h2 => by
    have := m.pd.small r (List.mem_of_getElem? h2)
    omega
  have M := hide m
  have c1 := m.c1
  have c2 := m.c2
  have hdl := OwnG.len byV_len (by decide) m.data
  have hdc := (OwnG.capped m.data).2
  have hpl := OwnG.len puV_len (by decide) m.pend
  have hP : h.p.2.1 ≤ 4294967296 := by rw [← hpl, m.len]; exact Nat.le_trans m.pd.len hus
  have hsum := m.pd.sum
  obtain ⟨da, dn, dc, hd⟩ : ∃ da dn dc, h.d = (da, dn, dc) := ⟨_, _, _, rfl⟩
  obtain ⟨pa, pn, pc, hp⟩ : ∃ pa pn pc, h.p = (pa, pn, pc) := ⟨_, _, _, rfl⟩
  have OD := hide m.data
  have OP := hide m.pend
  rw [hd] at c1 hdl OD hdc
  rw [hp] at c2 hP OP hpl
  dsimp only at c1 c2 hdl hP OD OP hdc hpl
  have CL := hide (fun u (hu : Below w.heap.size w u) => clone8_any da dn dc b u ((ownB_row OD.out (by omega) hby).below hu (Nat.le_refl _)) (by omega) (fun e => (hdc e).2))
  have KS : Hid (∀ u, Below w.heap.size w u → u.cell? ⟨h.b, 1, none⟩ = some (.slice da dn dc) ∧ u.cell? ⟨h.b, 2, none⟩ = some (.slice pa pn pc)) := fun u hu =>
    ⟨(hu.cell (p := ⟨h.b, 1, none⟩) (World.block_lt_of_cell? w _ c1)).trans c1, (hu.cell (p := ⟨h.b, 2, none⟩) (World.block_lt_of_cell? w _ c2)).trans c2⟩
  have HPL := hide hpl
  have HLN := hide M.out.len
  have PAT : Hid (∀ u, Below w.heap.size w u → ∀ i, i < pn → ∃ gp q r, pa = some ⟨gp, 0, none⟩ ∧ pn ≤ pc ∧ h.hp[i]? = some q ∧ h.ps[i]? = some r ∧ q.1 = r.1 ∧ r.1 ≤ 4294967296 ∧ r.2.length ≤ 8589934592 ∧ u.cell? ⟨gp, i * 2, none⟩ = some (.int .i64 (r.1 : Int)) ∧ u.cell? ⟨gp, i * 2 + 1, none⟩ = some (.slice q.2.1 q.2.2.1 q.2.2.2) ∧ OwnB u 0 q.2.1 q.2.2.1 q.2.2.2 r.2) := fun u hu i hi => by
    have hq : h.hp[i]? = some (h.hp[i]'(by rw [HPL.out]; exact hi)) := List.getElem?_eq_getElem _
    have hr : h.ps[i]? = some (h.ps[i]'(by rw [← HLN.out, HPL.out]; exact hi)) := List.getElem?_eq_getElem _
    obtain ⟨gp, e1, -, e3, e4⟩ := OwnG.at puV_len (by decide) (OwnG.below OP.out hu (Nat.le_refl _)) hq
    obtain ⟨f1, f2, -⟩ := M.out.each i _ _ hq hr
    obtain ⟨z1, z2⟩ := hbd i _ hr
    exact ⟨gp, _, _, e1, e3, hq, hr, f1, z1, z2, by rw [← f1]; exact e4 0 _ rfl, e4 1 _ rfl, OwnG.below f2 hu (Nat.le_refl _)⟩
  have HSL : Hid (∀ j, ((h.ps.take j).map puN).sum ≤ us.length) := fun j => by rw [← hsum]; exact sum_le _ _
  have HSE : Hid (((h.ps.take pn).map puN).sum = us.length) := by
    show _ = _
    rw [← hsum, List.take_of_length_le (by rw [← HLN.out, HPL.out]; exact Nat.le_refl _)]
  have BK := hide (bkJ_start (b := su) m.pd (cutN p))
  rw [← hbu] at BK
  have hpsl : h.ps.length = pn := by rw [← HLN.out, HPL.out]
  rw [hpsl] at BK
  obtain ⟨hbl, hhb⟩ : ∃ hb, h.b = hb := ⟨_, rfl⟩
  rw [hhb] at c1 c2 KS ⊢
  clear m hbu hby hdl hpl hsum hdc hd hp hhb c1 c2 hpsl hbd
  have c2 := (KS.out w (Below.refl _ _)).2
  go_enter Tryz.func61, Tryz.ntmps61
  go_wp2
  go_loopw [17, 5] (fun i x wr => ∃ j s : Nat, j ≤ pn ∧ i = .int .i64 (j : Int) ∧ x = .int .i64 (s : Int) ∧ Hid (((h.ps.take j).map puN).sum = s) ∧ Hid (Below w.heap.size w wr)) (fun i _ _ => pn - (intOf i).toNat)
  case atStart => exact ⟨0, 0, by omega, rfl, rfl, rfl, Below.refl _ _⟩
  case round =>
    obtain ⟨j, s, hj, rfl, rfl, HS, HB⟩ := hrel
    obtain ⟨v, rfl⟩ : ∃ v, v = wr := ⟨wr, rfl⟩
    have hs : s ≤ 4294967296 := by have := HSL.out j; have := HS.out; omega
    by_cases hlt : j < pn
    · obtain ⟨gp, q, r, rfl, hpc, hq, hr, -, hr1, hr2, e0, e1, -⟩ := PAT.out v HB.out j hlt
      have i1 : (0 : Int) ≤ (j : Int) := by omega
      have i2 : (j : Int) < (pn : Int) := by omega
      have HS2 : Hid (((h.ps.take (j + 1)).map puN).sum = s + puN r) := by show _ = _; rw [sum_take hr, HS.out]
      have hs2 : s + puN r ≤ 4294967296 := by have := HSL.out (j + 1); have := HS2.out; omega
      have NB := hide (fun u => number_any r q.2.1 q.2.2.1 q.2.2.2 u hr1)
      obtain ⟨nr, hnr⟩ : ∃ nr, puN r = nr := ⟨_, rfl⟩
      rw [hnr] at HS2 hs2 NB
      obtain ⟨r1, r2⟩ := r
      obtain ⟨qn, qa, qm, qc⟩ := q
      dsimp only at e0 e1 NB
      have sw : IntKind.i64.wrap ((s : Int) + (nr : Int)) = (s : Int) + (nr : Int) := by rw [IntKind.wrap_i64]; omega
      have SZ : Hid (w.heap.size ≤ v.heap.size) := HB.out.size
      clear hq hr hr1 hr2 HS hnr
      go_wp2_with fail
      with_reducible refine (NB.out _).mono ?_
      rintro e u ⟨rfl, bu⟩
      have B2 : Hid (Below w.heap.size w u) := bel_to HB.out (Nat.le_refl _) (bel_to (bel_al (Below.refl _ _) (Nat.le_refl _) _) (Nat.le_refl _) bu)
      clear bu NB HB e0 e1
      go_wp2
      go_roundw
      case rel => exact ⟨j + 1, s + nr, by omega, by go_num, by go_num, HS2, B2⟩
      case measure => first | (simp [intOf]; done) | (simp [intOf]; omega)
    · obtain rfl : j = pn := by omega
      have hse : (s : Int) = (us.length : Int) := by have := HSE.out; have := HS.out; omega
      have i2 : ¬ (j : Int) < (j : Int) := by omega
      have KV := hide (KS.out v HB.out)
      have HB1 := hide HB.out
      obtain ⟨N, hN⟩ : ∃ N, us.length = N := ⟨_, rfl⟩
      rw [hN] at hse BK hus
      rw [hse]
      clear HS HSE HSL hse
      go_upto_region 7 with fail
      go_cut [8] (fun x wx => x = .int .i64 ((N : Int) - (cutN p : Int)) ∧ Hid (wx = v))
      case first =>
        clear BK CL M OD OP PAT
        have hpp : (cutN p : Int) = if p < 0 then 0 else p := by unfold cutN; split <;> omega
        by_cases hp0 : p < 0
        · rw [if_pos hp0] at hpp
          have w1 : IntKind.i64.wrap ((N : Int) - 0) = (N : Int) - 0 := by rw [IntKind.wrap_i64]; omega
          have w2 : IntKind.i64.wrap (N : Int) = (N : Int) := by rw [IntKind.wrap_i64]; omega
          have d1 : decide (p < 0) = true := decide_eq_true hp0
          have d2 : decide (0 < p) = false := decide_eq_false (by omega)
          go_wp2_with fail
          go_meet
          case rel => exact ⟨by congr 1; omega, rfl⟩
        · rw [if_neg hp0] at hpp
          have w1 : IntKind.i64.wrap ((N : Int) - p) = (N : Int) - p := by rw [IntKind.wrap_i64]; omega
          have d1 : decide (p < 0) = false := decide_eq_false hp0
          go_wp2_with fail
          go_meet
          case rel => exact ⟨by congr 1; omega, rfl⟩
      case rest =>
        obtain ⟨rfl, HV⟩ := hcut
        obtain ⟨bk, hbk⟩ : ∃ bk : Int, (N : Int) - (cutN p : Int) = bk := ⟨_, rfl⟩
        rw [hbk] at BK ⊢
        rw [HV.out]
        clear HV
        have bk1 : bk ≤ 4294967296 := by omega
        obtain ⟨k1, k2⟩ := KV.out
        have CV := hide (CL.out v HB1.out)
        clear CL KV
        go_wp2_with fail
        with_reducible refine CV.out.mono ?_
        rintro e u0 ⟨xa, xc, rfl, ox, bx⟩
        have OX : Hid (OwnB u0 w.heap.size xa dn xc b) := OwnG.mono ox HB1.out.size
        have BX : Hid (Below w.heap.size w u0) := bel_to HB1.out (Nat.le_refl _) bx
        obtain ⟨k1', k2'⟩ := KS.out u0 BX.out
        have w3 : IntKind.i64.wrap ((j : Int) - 1) = (j : Int) - 1 := by rw [IntKind.wrap_i64]; omega
        clear ox bx CV HB1 k1 k2 hbk
        go_wp2
        go_loopw [8, 9, 10] (fun x y z wr => ∃ (i : Nat) (bk : Int) (a' : Option Addr) (n' c' : Nat) (d : List Int), i ≤ j ∧ bk ≤ 4294967296 ∧ x = .int .i64 bk ∧ y = .slice a' n' c' ∧ z = .int .i64 ((i : Int) - 1) ∧ Hid (BkJ su us h.ps (cutN p) i bk d) ∧ Hid (OwnB wr w.heap.size a' n' c' d) ∧ Hid (Below w.heap.size w wr)) (fun _ _ z _ => ((intOf z) + 1).toNat)
        case atStart => exact ⟨j, bk, xa, dn, xc, b, Nat.le_refl _, bk1, rfl, rfl, rfl, BK.out, OX.out, BX.out⟩
        case round =>
          clear BK OX BX k1' k2' bk1
          obtain ⟨i, bk, a', n', c', d, hi, bk1, rfl, rfl, rfl, HJ, HO, HB⟩ := hrel
          obtain ⟨y, rfl⟩ : ∃ y, y = wr := ⟨wr, rfl⟩
          obtain ⟨k1, k2⟩ := KS.out y HB.out
          have HDN : Hid (d.length = n') := OwnG.len byV_len (by decide) HO.out
          by_cases hb0 : 0 < bk
          · obtain ⟨i, rfl⟩ : ∃ i', i = i' + 1 := ⟨i - 1, by have := bkJ_pos HJ.out hb0; omega⟩
            obtain ⟨gp, q, r, rfl, hpc, hq, hr, -, hr1, hr2, e0, e1, ol⟩ := PAT.out y HB.out i (by omega)
            have STP := hide (bkJ_step HJ.out hb0 hr)
            have hdle : n' ≤ 8589934592 := by have := bkJ_len HJ.out; have := HDN.out; omega
            have HLL : Hid (r.2.length = q.2.2.1) := OwnG.len byV_len (by decide) ol
            have OL := hide ol
            have NB := hide (fun u => number_any r q.2.1 q.2.2.1 q.2.2.2 u hr1)
            obtain ⟨r1, r2⟩ := r
            obtain ⟨qn, qa, qm, qc⟩ := q
            dsimp only at e0 e1 NB STP HLL OL hr1 hr2
            have n1 : (0 : Int) ≤ (i : Int) := by omega
            have n2 : (i : Int) < (j : Int) := by omega
            have n3 : IntKind.i64.wrap (((i + 1 : Nat) : Int) - 1 - 1) = (i : Int) - 1 := by rw [IntKind.wrap_i64]; omega
            have n4 : ((i + 1 : Nat) : Int) - 1 = (i : Int) := by omega
            have n5 : IntKind.i64.wrap ((i : Int) - 1) = (i : Int) - 1 := by rw [IntKind.wrap_i64]; omega
            rw [n4]
            clear hq hr ol HJ
            by_cases hr0 : 0 < r1
            · have P1 := hide (STP.out.1 hr0)
              have hpn : puN (r1, r2) = r1 := by unfold puN; rw [if_pos hr0]
              rw [hpn] at NB
              have d0 : (0 : Int) < (r1 : Int) := by omega
              by_cases hmn : (r1 : Int) < bk
              · have hmin : min bk (r1 : Int) = (r1 : Int) := by omega
                rw [hmin] at P1
                obtain ⟨v', hv'⟩ : ∃ v' : Nat, (r1 : Int) = (v' : Int) := ⟨((r1 : Int)).toNat, by omega⟩
                have hvn : v' ≤ n' := by have := P1.out.1; have := HDN.out; omega
                have m1 : decide ((r1 : Int) < bk) = true := decide_eq_true hmn
                have m2 : IntKind.i64.wrap ((n' : Int) - (r1 : Int)) = ((n' - v' : Nat) : Int) := by rw [IntKind.wrap_i64]; omega
                have m3 : IntKind.i64.wrap (bk - (r1 : Int)) = bk - (r1 : Int) := by rw [IntKind.wrap_i64]; omega
                have m4 : (n' : Int) - (r1 : Int) = ((n' - v' : Nat) : Int) := by omega
                obtain ⟨nv, hnv⟩ : ∃ nv : Nat, n' - v' = nv := ⟨_, rfl⟩
                rw [hnv] at m2 m4
                have sl := fun u => slice_to16 a' n' c' nv (by have := (OwnG.capped HO.out).1; omega) u
                have HJ2 : Hid (BkJ su us h.ps (cutN p) i (bk - (r1 : Int)) (d.take nv)) := by
                  have := P1.out.2
                  rw [HDN.out, show ((r1 : Int)).toNat = v' by omega, hnv] at this
                  exact this
                have HO2 : Hid (OwnB y w.heap.size a' nv c' (d.take nv)) := OwnG.cut byV_len (by decide) HO.out (by omega)
                have hbk2 : bk - (r1 : Int) ≤ 4294967296 := by omega
                have SZ : Hid (w.heap.size ≤ y.heap.size) := HB.out.size
                clear P1 STP HO HDN OL HLL hv'
                go_wp2_with fail
                with_reducible refine (NB.out _).mono ?_
                rintro e u ⟨rfl, bu⟩
                have BU : Hid (Below y.heap.size y u) := bel_to (bel_al (Below.refl _ _) (Nat.le_refl _) _) (Nat.le_refl _) bu
                have HO3 : Hid (OwnB u w.heap.size a' nv c' (d.take nv)) := OwnG.below HO2.out BU.out (Nat.le_refl _)
                have B2 : Hid (Below w.heap.size w u) := bel_to HB.out (Nat.le_refl _) BU.out
                clear bu NB HB HO2 BU e0 e1 k1 k2 SZ
                go_wp2
                go_roundw
                case rel => exact ⟨i, bk - (r1 : Int), a', nv, c', d.take nv, by omega, hbk2, rfl, rfl, rfl, HJ2, HO3, B2⟩
                case measure => first | (simp [intOf]; done) | (simp [intOf]; omega)
              · have hmin : min bk (r1 : Int) = bk := by omega
                rw [hmin] at P1
                obtain ⟨v', hv'⟩ : ∃ v' : Nat, bk = (v' : Int) := ⟨(bk).toNat, by omega⟩
                have hvn : v' ≤ n' := by have := P1.out.1; have := HDN.out; omega
                have m1 : decide ((r1 : Int) < bk) = false := decide_eq_false hmn
                have m2 : IntKind.i64.wrap ((n' : Int) - bk) = ((n' - v' : Nat) : Int) := by rw [IntKind.wrap_i64]; omega
                have m3 : IntKind.i64.wrap 0 = 0 := by rw [IntKind.wrap_i64]; omega
                have m4 : (n' : Int) - bk = ((n' - v' : Nat) : Int) := by omega
                obtain ⟨nv, hnv⟩ : ∃ nv : Nat, n' - v' = nv := ⟨_, rfl⟩
                rw [hnv] at m2 m4
                have sl := fun u => slice_to16 a' n' c' nv (by have := (OwnG.capped HO.out).1; omega) u
                have HJ2 : Hid (BkJ su us h.ps (cutN p) i 0 (d.take nv)) := by
                  have := P1.out.2
                  rw [HDN.out, show (bk).toNat = v' by omega, hnv, Int.sub_self] at this
                  exact this
                have HO2 : Hid (OwnB y w.heap.size a' nv c' (d.take nv)) := OwnG.cut byV_len (by decide) HO.out (by omega)
                have hbk2 : (0 : Int) ≤ 4294967296 := by omega
                have SZ : Hid (w.heap.size ≤ y.heap.size) := HB.out.size
                clear P1 STP HO HDN OL HLL hv'
                go_wp2_with fail
                with_reducible refine (NB.out _).mono ?_
                rintro e u ⟨rfl, bu⟩
                have BU : Hid (Below y.heap.size y u) := bel_to (bel_al (Below.refl _ _) (Nat.le_refl _) _) (Nat.le_refl _) bu
                have HO3 : Hid (OwnB u w.heap.size a' nv c' (d.take nv)) := OwnG.below HO2.out BU.out (Nat.le_refl _)
                have B2 : Hid (Below w.heap.size w u) := bel_to HB.out (Nat.le_refl _) BU.out
                clear bu NB HB HO2 BU e0 e1 k1 k2 SZ
                go_wp2
                go_roundw
                case rel => exact ⟨i, 0, a', nv, c', d.take nv, by omega, hbk2, rfl, rfl, rfl, HJ2, HO3, B2⟩
                case measure => first | (simp [intOf]; done) | (simp [intOf]; omega)
            · have P1 := hide (STP.out.2 (by omega))
              have hpn : puN (r1, r2) = 1 := by unfold puN; rw [if_neg hr0]
              rw [hpn] at NB
              have d0 : ¬ (0 : Int) < (r1 : Int) := by omega
              by_cases hmn : (1 : Int) < bk
              · have hmin : min bk (1 : Int) = 1 := by omega
                rw [hmin] at P1
                have m1 : decide ((1 : Int) < bk) = true := decide_eq_true hmn
                have m3 : IntKind.i64.wrap (bk - 1) = bk - 1 := by rw [IntKind.wrap_i64]; omega
                have hbk2 : bk - 1 ≤ 4294967296 := by omega
                have SZ : Hid (w.heap.size ≤ y.heap.size) := HB.out.size
                obtain ⟨u6, hu6⟩ : ∃ u6, Hid (y.alloc (.cells #[.int .i64 (r1 : Int), .slice qa qm qc] 128) = u6) := ⟨_, rfl⟩
                have B6 : Hid (Below y.heap.size y u6) := by rw [← hu6.out]; exact bel_al (Below.refl _ _) (Nat.le_refl _) _
                have x6 : u6.cell? ⟨y.heap.size, 0, none⟩ = some (.int .i64 (r1 : Int)) := by rw [← hu6.out, World.cell?_alloc_mark]; rfl
                have x7 : u6.cell? ⟨y.heap.size, 1, none⟩ = some (.slice qa qm qc) := by rw [← hu6.out, World.cell?_alloc_mark]; rfl
                have H6 : Hid (u6.heap[y.heap.size]? = some (.cells #[.int .i64 (r1 : Int), .slice qa qm qc] 128 (0, 0))) := by rw [← hu6.out]; exact heap_alloc_new y _
                have OL6 := hide (OwnG.cellsAll (OwnG.below OL.out B6.out (Nat.le_refl _)))
                have CP6 := hide (OwnG.capped OL.out).2
                clear STP
                go_upto_region 13 with fail
                rw [hu6.out]
                clear hu6 e0 e1
                go_wp2_with (at_builtin; refine wpList_app_g byV_len (by decide) byV_one1 _ rfl _ _ 33 rfl w.heap.size i0 (.int .u8 0) 1 Tryz.underlying33 hi0 hz00 hz01 hz02 rfl a' n' c' d rfl (OwnG.below HO.out B6.out (Nat.le_refl _)) qa qm qc r2 rfl HLL.out OL6.out CP6.out (by have := HLL.out; omega) (by have := HLL.out; omega) (by have := B6.out.size; have := SZ.out; omega) ?_)
                intro a3 c3 w3 o3 g3
                have O3 : Hid (OwnB w3 w.heap.size a3 (n' + qm) c3 (d ++ r2)) := o3
                have K3 : Hid (Below w.heap.size u6 w3) := (Ch.grown g3).below (by have := B6.out.size; have := SZ.out; omega) (fun j hj e => by have := (OwnG.cellsT HO.out j e).2; omega)
                have H7 : w3.heap[y.heap.size]? = some (.cells #[.int .i64 (r1 : Int), .slice qa qm qc] 128 (0, 0)) := ((Ch.grown g3).block _ (Array.getElem?_eq_some_iff.1 H6.out).1 (fun e => by have := (OwnG.cellsT HO.out _ e).1.lt; omega)).trans H6.out
                have y6 : w3.cell? ⟨y.heap.size, 0, none⟩ = some (.int .i64 (r1 : Int)) := by rw [cell_of_row w3 y.heap.size 0 _ _ (0, 0) H7]; rfl
                have y7 : w3.cell? ⟨y.heap.size, 1, none⟩ = some (.slice qa qm qc) := by rw [cell_of_row w3 y.heap.size 1 _ _ (0, 0) H7]; rfl
                have B7 : Hid (Below w.heap.size w w3) := HB.out.trans ((B6.out.mono SZ.out).trans K3.out)
                have HJ2 : Hid (BkJ su us h.ps (cutN p) i (bk - 1) (d ++ r2)) := P1.out
                clear o3 g3 H7 H6 K3 B6 HO HDN OL HLL OL6 CP6 P1 HB x6 x7 k1 k2
                go_wp2_with fail
                with_reducible refine (NB.out _).mono ?_
                rintro e u ⟨rfl, bu⟩
                have HO3 : Hid (OwnB u w.heap.size a3 (n' + qm) c3 (d ++ r2)) := OwnG.below O3.out bu (Nat.le_refl _)
                have B2 : Hid (Below w.heap.size w u) := bel_to B7.out (Nat.le_refl _) bu
                clear bu NB O3 B7 y6 y7
                go_wp2
                go_roundw
                case rel => exact ⟨i, bk - 1, a3, n' + qm, c3, d ++ r2, by omega, hbk2, rfl, rfl, rfl, HJ2, HO3, B2⟩
                case measure => first | (simp [intOf]; done) | (simp [intOf]; omega)
              · have hmin : min bk (1 : Int) = bk := by omega
                rw [hmin] at P1
                have m1 : decide ((1 : Int) < bk) = false := decide_eq_false hmn
                have m3 : IntKind.i64.wrap 0 = 0 := by rw [IntKind.wrap_i64]; omega
                have hbk2 : (0 : Int) ≤ 4294967296 := by omega
                have SZ : Hid (w.heap.size ≤ y.heap.size) := HB.out.size
                obtain ⟨u6, hu6⟩ : ∃ u6, Hid (y.alloc (.cells #[.int .i64 (r1 : Int), .slice qa qm qc] 128) = u6) := ⟨_, rfl⟩
                have B6 : Hid (Below y.heap.size y u6) := by rw [← hu6.out]; exact bel_al (Below.refl _ _) (Nat.le_refl _) _
                have x6 : u6.cell? ⟨y.heap.size, 0, none⟩ = some (.int .i64 (r1 : Int)) := by rw [← hu6.out, World.cell?_alloc_mark]; rfl
                have x7 : u6.cell? ⟨y.heap.size, 1, none⟩ = some (.slice qa qm qc) := by rw [← hu6.out, World.cell?_alloc_mark]; rfl
                have H6 : Hid (u6.heap[y.heap.size]? = some (.cells #[.int .i64 (r1 : Int), .slice qa qm qc] 128 (0, 0))) := by rw [← hu6.out]; exact heap_alloc_new y _
                have OL6 := hide (OwnG.cellsAll (OwnG.below OL.out B6.out (Nat.le_refl _)))
                have CP6 := hide (OwnG.capped OL.out).2
                clear STP
                go_upto_region 13 with fail
                rw [hu6.out]
                clear hu6 e0 e1
                go_wp2_with (at_builtin; refine wpList_app_g byV_len (by decide) byV_one1 _ rfl _ _ 33 rfl w.heap.size i0 (.int .u8 0) 1 Tryz.underlying33 hi0 hz00 hz01 hz02 rfl a' n' c' d rfl (OwnG.below HO.out B6.out (Nat.le_refl _)) qa qm qc r2 rfl HLL.out OL6.out CP6.out (by have := HLL.out; omega) (by have := HLL.out; omega) (by have := B6.out.size; have := SZ.out; omega) ?_)
                intro a3 c3 w3 o3 g3
                have O3 : Hid (OwnB w3 w.heap.size a3 (n' + qm) c3 (d ++ r2)) := o3
                have K3 : Hid (Below w.heap.size u6 w3) := (Ch.grown g3).below (by have := B6.out.size; have := SZ.out; omega) (fun j hj e => by have := (OwnG.cellsT HO.out j e).2; omega)
                have H7 : w3.heap[y.heap.size]? = some (.cells #[.int .i64 (r1 : Int), .slice qa qm qc] 128 (0, 0)) := ((Ch.grown g3).block _ (Array.getElem?_eq_some_iff.1 H6.out).1 (fun e => by have := (OwnG.cellsT HO.out _ e).1.lt; omega)).trans H6.out
                have y6 : w3.cell? ⟨y.heap.size, 0, none⟩ = some (.int .i64 (r1 : Int)) := by rw [cell_of_row w3 y.heap.size 0 _ _ (0, 0) H7]; rfl
                have y7 : w3.cell? ⟨y.heap.size, 1, none⟩ = some (.slice qa qm qc) := by rw [cell_of_row w3 y.heap.size 1 _ _ (0, 0) H7]; rfl
                have B7 : Hid (Below w.heap.size w w3) := HB.out.trans ((B6.out.mono SZ.out).trans K3.out)
                have HJ2 : Hid (BkJ su us h.ps (cutN p) i 0 (d ++ r2)) := by have := P1.out; rw [Int.sub_self] at this; exact this
                clear o3 g3 H7 H6 K3 B6 HO HDN OL HLL OL6 CP6 P1 HB x6 x7 k1 k2
                go_wp2_with fail
                with_reducible refine (NB.out _).mono ?_
                rintro e u ⟨rfl, bu⟩
                have HO3 : Hid (OwnB u w.heap.size a3 (n' + qm) c3 (d ++ r2)) := OwnG.below O3.out bu (Nat.le_refl _)
                have B2 : Hid (Below w.heap.size w u) := bel_to B7.out (Nat.le_refl _) bu
                clear bu NB O3 B7 y6 y7
                go_wp2
                go_roundw
                case rel => exact ⟨i, 0, a3, n' + qm, c3, d ++ r2, by omega, hbk2, rfl, rfl, rfl, HJ2, HO3, B2⟩
                case measure => first | (simp [intOf]; done) | (simp [intOf]; omega)
          · have HE := hide (bkJ_end HJ.out (by omega))
            go_wp2
            go_ret
            exact ⟨a', n', c', rfl, by rw [← HE.out, HDN.out], by rw [← HE.out]; exact HO.out, HB.out⟩
end Go.Proofs.YthlkmjaflomflaaGreat
