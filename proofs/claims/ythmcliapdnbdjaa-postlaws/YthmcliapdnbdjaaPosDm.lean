/-
  What post.Most and post.Or come to: an iterator that tells what is in at least so many lists: contracts, for every world.
  Conditions: at most ten lists of at most 2000 numbers each.
-/
import Derived.Test.YthmcliapdnbdjaaPosDl
import Derived.Deep.LoopGhost
namespace Go.Proofs.Ythmcliapdnbdjaa
open Go.RowKit
set_option maxRecDepth 20000

/-- The block of the list that is made is not the heap's. -/
theorem apart {w : World} {base g c n cap : Nat} {a : Option Addr} {zs : List Int} {d : List Sg} (h : MineI w base a n cap zs) (r : SRw w g c d) : ¬ (Value.slice a n cap).ownBlock = some g := fun e => (row_cells h e).1.ne r.cellsT (by decide) rfl
theorem mine_ch {w w' : World} {base g c n cap : Nat} {a : Option Addr} {zs : List Int} {d : List Sg} (h : MineI w base a n cap zs) (r : SRw w g c d) (k : Ch (fun j => j = g) w w') : MineI w' base a n cap zs :=
  row_ch h k (fun _ hj e => apart h r (e ▸ hj))

set_option maxHeartbeats 16000000 in
theorem most_any (a : Option Addr) (n cap : Nat) (ls : List (List Int)) (kk : Int) (w : World) (hs : RowII w a n ls) (hn : n ≤ 10) (hl : ∀ l ∈ ls, l.length ≤ 2000) :
    Calls Try.prog 21 #[.slice a n cap, .int .i64 kk] w fun e w' => Iter (mostS ls kk) w e w' := by
  obtain ⟨i0, hi, hz0, hz1, hz2⟩ := info_parts Try.infoI
  have HS := hide hs
  have HL := hide hs.1
  have HLL := hide hl
  have HWF : Hid (∀ x, (∃ l ∈ ls, x ∈ l) → (Lit.int .i64 x).wf = true) := by
    rintro x ⟨l, hl', hx⟩
    obtain ⟨i, hi', e⟩ := List.mem_iff_getElem.1 hl'
    obtain ⟨b, off, a', n', c', -, -, q⟩ := hs.at' (i := i) (by rw [← hs.1]; exact hi')
    rw [List.getD_eq_getElem?_getD, List.getElem?_eq_getElem hi'] at q
    exact q.wf x (by rw [← e] at hx; exact hx)
  have RI := hide (rise_any a n cap ls w hs)
  obtain ⟨ans, HA⟩ : ∃ ans, Hid (mostS ls kk = ans) := ⟨_, rfl⟩
  rw [HA.out]
  clear hs hl
  by_cases hk1 : kk < 1
  · have HE : Hid ([] = ans) := by rw [← HA.out]; show _ = _; unfold mostS; rw [if_pos (Or.inl hk1)]
    have TI := hide (tell_iter none 0 0 [] w (sli_nil _) (by omega))
    clear RI HS HL HLL HWF
    go_enter Try.func21, Try.ntmps21
    go_wp2_with fail
    go_step3
    go_wp2_with fail
    with_reducible refine TI.out.mono ?_
    intro e u3 h3
    have I3 := hide h3
    clear h3 TI
    obtain ⟨F, rfl, -, -⟩ := I3.out
    go_wp2
    go_ret
    rw [← HE.out]
    exact I3.out
  by_cases hup : ∀ l ∈ ls, upI l
  · rw [allUp_iff.2 hup] at RI
    have HU := hide hup
    have hk2 : 1 ≤ kk := by omega
    clear hup
    go_enter Try.func21, Try.ntmps21
    go_wp2_with fail
    go_step3
    go_wp2_with fail
    with_reducible refine RI.out.mono ?_
    rintro e u1 ⟨rfl, b1⟩
    have B1 := hide b1
    have HP := hide (heap_any a n cap ls u1 (HS.out.below b1 (Nat.le_refl _)) hn HLL.out)
    clear b1 RI
    go_wp2_with fail
    with_reducible refine HP.out.mono ?_
    rintro e u2 ⟨v0, m0, d0, rfl, hpm, hdl, hm0, hok, hhp, htt, hps, hb2⟩
    obtain ⟨av0, cv0, rfl⟩ : ∃ av cv, v0 = .slice av m0 cv := by
      rcases hps with ⟨e1, e⟩ | ⟨g, c, e, -, -⟩
      · exact ⟨none, 0, by rw [e, e1]⟩
      · exact ⟨_, c, e⟩
    have MI := hide (moI_start (ls := ls) (k := kk) hk2 HU.out (d := d0) hpm)
    have HH := hide hhp
    have HDL := hide hdl
    have HOK := hide hok
    have HTT := hide htt
    have HPS := hide hps
    have B2 := hide hb2
    clear hpm hdl hok hhp htt hps hb2 HP HS HLL
    go_wp2
    go_step3
    go_wp2
    go_loopg [5, 6] (totS d0) (fun gh o x wr => ∃ (ao : Option Addr) (L co T : Nat) (m : Nat) (d : List Sg) (out : List Int) (av : Option Addr) (cv : Nat), o = .slice ao L co ∧ x = .slice av m cv ∧ L + T ≤ 20000 ∧ m ≤ 10 ∧ Hid (d.length = m) ∧ Hid (totS d = T) ∧ T ≤ gh ∧ Hid (MoI ls kk d out) ∧ Hid (HeapF 0 d) ∧ Hid (∀ y ∈ d, SgOk u1 y) ∧ Hid (HpS u1 (.slice av m cv) m d wr) ∧ Hid (MineI wr u1.heap.size ao L co out) ∧ Hid (Below u1.heap.size u1 wr))
    case atStart => exact ⟨none, 0, 0, totS d0, m0, d0, [], av0, cv0, rfl, rfl, by have := HTT.out; omega, hm0, HDL, rfl, Nat.le_refl _, MI, HH, HOK, HPS, own_nil _ _ _ _, B2⟩
    case round =>
      clear MI HH HDL HOK HTT HPS B2
      obtain ⟨ao, L, co, T, m, d, out, av, cv, rfl, rfl, hLT, hm, HD, HT, hTg, MI, HH, HOK, HPS, OW, BW⟩ := hrel
      rcases Nat.eq_zero_or_pos m with h0 | hpos
      · subst h0
        have HE : Hid (out = mostS ls kk) := MI.out.end' hk2 HU.out HD.out
        clear MI HH HPS HD HT
        have TI := hide (tell_iter ao L co out wr (MineI.sl OW.out (by omega) (fun z hz => HWF.out z (by
          have := (mem_most.1 (HE.out ▸ hz : z ∈ mostS ls kk)).2.2
          exact cntI_pos.1 (by omega)))) (by omega))
        go_wp2_with fail
        with_reducible refine TI.out.mono ?_
        intro e u3 h3
        have I3 := hide (h3.from' (bel_to B1.out (Nat.le_refl _) BW.out))
        clear h3 TI
        rw [HE.out, HA.out] at I3
        obtain ⟨F, rfl, -, -⟩ := I3.out
        go_wp2
        go_ret
        exact I3.out
      · obtain ⟨z, rfl⟩ : ∃ z, m = z + 1 := ⟨m - 1, by omega⟩
        obtain ⟨g, hx, hg, r0⟩ : ∃ g, av = some ⟨g, 0, none⟩ ∧ u1.heap.size ≤ g ∧ SRw wr g cv d := by
          rcases HPS.out with ⟨e, -⟩ | ⟨g, c, e1, e2, e3⟩
          · omega
          · simp only [Value.slice.injEq, true_and] at e1
            obtain ⟨rfl, rfl⟩ := e1
            exact ⟨g, rfl, e2, e3⟩
        subst hx
        obtain ⟨c, rfl⟩ : ∃ c, c = cv := ⟨cv, rfl⟩
        have R0 := hide r0
        have HG := hide hg
        obtain ⟨b3, o3, k3, c3, g3, y3, -⟩ := at_cells r0 HOK.out BW.out (i := 0) (by rw [HD.out]; omega)
        have MJ := hide (MI.out.begin hk2 HH.out (by rw [HD.out]; omega))
        obtain ⟨v, hv⟩ : ∃ v, Hid (ky d 0 = v) := ⟨_, rfl⟩
        rw [hv.out] at MJ y3
        have p1 : (0 : Int) < ((z + 1 : Nat) : Int) := by omega
        have p2 : (0 : Int) < (z : Int) + 1 := by omega
        have p3 : (0 : Int) < ((k3 + 1 : Nat) : Int) := by omega
        have p4 : (0 : Int) < (k3 : Int) + 1 := by omega
        clear r0 hg MI HPS
        go_wp2
        clear g3 y3 p1 p2 p3 p4
        go_loopg [5, 6, 8] T (fun gi o x i wr => ∃ (ao : Option Addr) (L co S : Nat) (z : Nat) (d : List Sg) (nn : Nat) (out : List Int), o = .slice ao L co ∧ x = .slice (some ⟨g, 0, none⟩) (z + 1) c ∧ i = .int .i64 nn ∧ L + S ≤ 20000 ∧ z + 1 ≤ 10 ∧ Hid (d.length = z + 1) ∧ Hid (totS d = S) ∧ S ≤ gi ∧ Hid (S ≤ T) ∧ Hid (MoJ ls kk v nn d out) ∧ Hid (ky d 0 = v) ∧ Hid (HeapF 0 d) ∧ Hid (∀ y ∈ d, SgOk u1 y) ∧ Hid (SRw wr g c d) ∧ Hid (MineI wr u1.heap.size ao L co out) ∧ Hid (Below u1.heap.size u1 wr))
        case atStart => exact ⟨ao, L, co, T, z, d, 1, out, rfl, rfl, rfl, hLT, hm, HD, HT, Nat.le_refl _, Nat.le_refl _, MJ, hv, HH, HOK, R0, OW, BW⟩
        case round =>
          clear MJ hv HH HOK R0 OW BW HD HT hLT hm
          obtain ⟨ao, L, co, S, z, d, nn, out, rfl, rfl, rfl, hLS, hz, HD, HT, hSg, hST, MJ, hv, HH, HOK, R0, OW, BW⟩ := hrel
          obtain ⟨u, rfl⟩ : ∃ u, u = wr := ⟨wr, rfl⟩
          have hnn : nn ≤ 11 := by have := MJ.out.few; have h2 := HL.out; omega
          have hS1 : 1 ≤ S := by
            have h1 := HT.out
            cases d with
            | nil => have := HD.out; simp at this
            | cons s0 rest =>
              have h2 := (HOK.out s0 (by simp)).2
              have h3 : 1 ≤ s0.l.length := List.length_pos_iff.2 h2
              unfold totS at h1
              rw [List.map_cons, List.sum_cons] at h1
              omega
          by_cases hq : (nn : Int) = kk
          · have t1 : ((nn : Int) == kk) = true := by simpa using hq
            have STEP : Hid (∀ d', Passed u1 d d' → MoJ ls kk v (nn + 1) d' (out ++ [v])) := fun d' h => by
              have := MJ.out.step h hv.out
              rwa [if_pos hq] at this
            have HV : Hid ((Lit.int .i64 v).wf = true) := HWF.out v (cntI_pos.1 (by
              have h1 := MJ.out.cnt
              have h2 : cntS d v ≠ 0 := fun e => (cntS_zero.1 e) (sgA d 0) (sgA_mem (by rw [HD.out]; omega)) (by have := ky_mem (d := d) (by rw [HD.out]; omega) MJ.out.up; rwa [hv.out] at this)
              have h3 : (1 : Int) ≤ (nn : Int) := by omega
              omega))
            have RV := hide ((one_introw u v 3).2 HV.out)
            have OA := hide OW.out.alloc
            clear hq MJ
            go_wp2_with (at_builtin; refine wpList_append_ints _ rfl _ _ 22 rfl u1.heap.size 3 i0 Try.underlying22 hi hz0 hz1 hz2 ao L co _ rfl (OA.out _) (some ⟨u.heap.size, 0, none⟩) 1 1 [v] rfl RV.out (fun h => by cases h) (by omega) (Nat.le_trans BW.out.size (by simp)) ?_)
            intro a7 c7 w7 o7 b7 k7
            have O7 := hide o7
            have B7 : Hid (Below u1.heap.size u1 w7) := (bel_al BW.out (Nat.le_refl _) _).trans b7
            have r7 := R0.out.below ((Below.refl u.heap.size u).alloc (Nat.le_refl _) (.cells #[.int .i64 v] 3))
            have R7 : Hid (SRw w7 g c d) := r7.ch k7 (apart (OA.out _) r7)
            clear r7
            clear o7 b7 k7 OA RV OW BW R0
            have PA := hide (pass_any u1 g c z d w7 HD.out hz R7.out HOK.out B7.out HG.out HH.out)
            go_wp2_with fail
            with_reducible refine PA.out.mono ?_
            rintro e w8 ⟨m8, d8, rfl, hl8, hm8, ps8, hh8, r8, k8⟩
            have MJ8 := hide (STEP.out d8 ps8)
            have OK8 := hide (ps8.ok HOK.out)
            have HT8 : Hid (totS d8 < S) := by have := ps8.tot; rwa [HT.out] at this
            have HL8 := hide hl8
            have hm9 : m8 ≤ 10 := by omega
            have HH8 := hide hh8
            have R8 := hide r8
            have B8 : Hid (Below u1.heap.size u1 w8) := B7.out.trans (k8.below B7.out.size (fun j hj h => by have := HG.out; omega))
            have O8 := hide (mine_ch O7.out R7.out k8)
            clear hl8 ps8 hh8 r8 k8 PA STEP R7 O7 B7 HD HT HH HOK hv
            rcases Nat.eq_zero_or_pos m8 with h8 | h8
            · subst h8
              have HE : Hid (out ++ [v] = mostS ls kk) := (MJ8.out.done HH8.out (Or.inl HL8.out)).end' hk2 HU.out HL8.out
              clear MJ8 OK8 HH8 R8
              have TI := hide (tell_iter a7 (L + 1) c7 (out ++ [v]) w8 (MineI.sl O8.out (by omega) (fun z hz => HWF.out z (by
                have := (mem_most.1 (HE.out ▸ hz : z ∈ mostS ls kk)).2.2
                exact cntI_pos.1 (by omega)))) (by omega))
              go_wp2_with fail
              with_reducible refine TI.out.mono ?_
              intro e u3 h3
              have I3 := hide (h3.from' (bel_to B1.out (Nat.le_refl _) B8.out))
              clear h3 TI
              rw [HE.out, HA.out] at I3
              obtain ⟨F, rfl, -, -⟩ := I3.out
              go_wp2
              go_ret
              exact I3.out
            · obtain ⟨z8, rfl⟩ : ∃ q, m8 = q + 1 := ⟨m8 - 1, by omega⟩
              obtain ⟨b9, o9, k9, c9, g9, y9, -⟩ := at_cells R8.out OK8.out B8.out (i := 0) (by rw [HL8.out]; omega)
              obtain ⟨v9, hv9⟩ : ∃ v9, Hid (ky d8 0 = v9) := ⟨_, rfl⟩
              rw [hv9.out] at y9
              have p1 : (0 : Int) < ((z8 + 1 : Nat) : Int) := by omega
              have p2 : (0 : Int) < (z8 : Int) + 1 := by omega
              have p3 : (0 : Int) < ((k9 + 1 : Nat) : Int) := by omega
              have p4 : (0 : Int) < (k9 : Int) + 1 := by omega
              have p5 : (((z8 + 1 : Nat) : Int) == 0) = false := by simp; omega
              have p6 : (((z8 : Int) + 1) == 0) = false := by simp; omega
              obtain ⟨T8, hT8⟩ : ∃ t, Hid (totS d8 = t) := ⟨_, rfl⟩
              have hT9 : T8 < S := by have := HT8.out; rwa [hT8.out] at this
              by_cases he : v9 = v
              · have he' := he.symm
                subst he'
                have t2 : (v != v) = false := by simp
                clear HT8
                go_wp2
                go_roundg T8
                case measure => omega
                case rel => exact ⟨a7, L + 1, c7, T8, z8, d8, nn + 1, out ++ [v], rfl, rfl, by go_num, by omega, hm9, HL8, hT8, Nat.le_refl _, hide (by have := hST.out; show _ ≤ _; omega), MJ8, hv9, HH8, OK8, R8, O8, B8⟩
              · have t2 : (v9 != v) = true := by simpa using he
                have MI8 := hide (MJ8.out.done HH8.out (Or.inr (by rw [hv9.out]; exact he)))
                have hTT : T8 < T := by have := hST.out; omega
                clear HT8 he MJ8
                go_wp2
                go_roundg T8
                case measure => omega
                case rel => exact ⟨a7, L + 1, c7, T8, z8 + 1, d8, out ++ [v], some ⟨g, 0, none⟩, c, rfl, rfl, by omega, hm9, HL8, hT8, Nat.le_refl _, MI8, HH8, OK8, hide (Or.inr ⟨g, c, rfl, HG.out, R8.out⟩), O8, B8⟩
          · have t1 : ((nn : Int) == kk) = false := by simpa using hq
            have STEP : Hid (∀ d', Passed u1 d d' → MoJ ls kk v (nn + 1) d' out) := fun d' h => by
              have := MJ.out.step h hv.out
              rwa [if_neg hq] at this
            clear hq MJ
            have PA := hide (pass_any u1 g c z d u HD.out hz R0.out HOK.out BW.out HG.out HH.out)
            go_wp2_with fail
            with_reducible refine PA.out.mono ?_
            rintro e w8 ⟨m8, d8, rfl, hl8, hm8, ps8, hh8, r8, k8⟩
            have MJ8 := hide (STEP.out d8 ps8)
            have OK8 := hide (ps8.ok HOK.out)
            have HT8 : Hid (totS d8 < S) := by have := ps8.tot; rwa [HT.out] at this
            have HL8 := hide hl8
            have hm9 : m8 ≤ 10 := by omega
            have HH8 := hide hh8
            have R8 := hide r8
            have B8 : Hid (Below u1.heap.size u1 w8) := BW.out.trans (k8.below BW.out.size (fun j hj h => by have := HG.out; omega))
            have O8 := hide (mine_ch OW.out R0.out k8)
            clear hl8 ps8 hh8 r8 k8 PA STEP R0 OW BW HD HT HH HOK hv
            rcases Nat.eq_zero_or_pos m8 with h8 | h8
            · subst h8
              have HE : Hid (out = mostS ls kk) := (MJ8.out.done HH8.out (Or.inl HL8.out)).end' hk2 HU.out HL8.out
              clear MJ8 OK8 HH8 R8
              have TI := hide (tell_iter ao (L) co (out) w8 (MineI.sl O8.out (by omega) (fun z hz => HWF.out z (by
                have := (mem_most.1 (HE.out ▸ hz : z ∈ mostS ls kk)).2.2
                exact cntI_pos.1 (by omega)))) (by omega))
              go_wp2_with fail
              with_reducible refine TI.out.mono ?_
              intro e u3 h3
              have I3 := hide (h3.from' (bel_to B1.out (Nat.le_refl _) B8.out))
              clear h3 TI
              rw [HE.out, HA.out] at I3
              obtain ⟨F, rfl, -, -⟩ := I3.out
              go_wp2
              go_ret
              exact I3.out
            · obtain ⟨z8, rfl⟩ : ∃ q, m8 = q + 1 := ⟨m8 - 1, by omega⟩
              obtain ⟨b9, o9, k9, c9, g9, y9, -⟩ := at_cells R8.out OK8.out B8.out (i := 0) (by rw [HL8.out]; omega)
              obtain ⟨v9, hv9⟩ : ∃ v9, Hid (ky d8 0 = v9) := ⟨_, rfl⟩
              rw [hv9.out] at y9
              have p1 : (0 : Int) < ((z8 + 1 : Nat) : Int) := by omega
              have p2 : (0 : Int) < (z8 : Int) + 1 := by omega
              have p3 : (0 : Int) < ((k9 + 1 : Nat) : Int) := by omega
              have p4 : (0 : Int) < (k9 : Int) + 1 := by omega
              have p5 : (((z8 + 1 : Nat) : Int) == 0) = false := by simp; omega
              have p6 : (((z8 : Int) + 1) == 0) = false := by simp; omega
              obtain ⟨T8, hT8⟩ : ∃ t, Hid (totS d8 = t) := ⟨_, rfl⟩
              have hT9 : T8 < S := by have := HT8.out; rwa [hT8.out] at this
              by_cases he : v9 = v
              · have he' := he.symm
                subst he'
                have t2 : (v != v) = false := by simp
                clear HT8
                go_wp2
                go_roundg T8
                case measure => omega
                case rel => exact ⟨ao, L, co, T8, z8, d8, nn + 1, out, rfl, rfl, by go_num, by omega, hm9, HL8, hT8, Nat.le_refl _, hide (by have := hST.out; show _ ≤ _; omega), MJ8, hv9, HH8, OK8, R8, O8, B8⟩
              · have t2 : (v9 != v) = true := by simpa using he
                have MI8 := hide (MJ8.out.done HH8.out (Or.inr (by rw [hv9.out]; exact he)))
                have hTT : T8 < T := by have := hST.out; omega
                clear HT8 he MJ8
                go_wp2
                go_roundg T8
                case measure => omega
                case rel => exact ⟨ao, L, co, T8, z8 + 1, d8, out, some ⟨g, 0, none⟩, c, rfl, rfl, by omega, hm9, HL8, hT8, Nat.le_refl _, MI8, HH8, OK8, hide (Or.inr ⟨g, c, rfl, HG.out, R8.out⟩), O8, B8⟩
  · have h1 : allUp ls = false := by
      rw [Bool.eq_false_iff]
      intro e
      exact hup (allUp_iff.1 e)
    rw [h1] at RI
    have HE : Hid ([] = ans) := by rw [← HA.out]; exact (most_none _ _ hup).symm
    clear hup h1
    go_enter Try.func21, Try.ntmps21
    go_wp2_with fail
    go_step3
    go_wp2_with fail
    with_reducible refine RI.out.mono ?_
    rintro e u1 ⟨rfl, b1⟩
    have B2 := hide b1
    have TI := hide (tell_iter none 0 0 [] u1 (sli_nil _) (by omega))
    clear b1 RI
    go_wp2_with fail
    with_reducible refine TI.out.mono ?_
    intro e u3 h3
    have I3 := hide (h3.from' B2.out)
    clear h3 TI
    obtain ⟨F, rfl, -, -⟩ := I3.out
    go_wp2
    go_ret
    rw [← HE.out]
    exact I3.out

set_option maxHeartbeats 1000000 in
theorem or_any (a : Option Addr) (n cap : Nat) (ls : List (List Int)) (w : World) (hs : RowII w a n ls) (hn : n ≤ 10) (hl : ∀ l ∈ ls, l.length ≤ 2000) :
    Calls Try.prog 22 #[.slice a n cap] w fun e w' => Iter (mostS ls 1) w e w' := by
  have MO := hide (most_any a n cap ls 1 w hs hn hl)
  clear hs hl
  go_enter Try.func22, Try.ntmps22
  go_wp2_with fail
  with_reducible refine MO.out.mono ?_
  intro e u3 h3
  have I3 := hide h3
  clear h3 MO
  obtain ⟨F, rfl, -, -⟩ := I3.out
  go_wp2
  go_ret
  exact I3.out
end Go.Proofs.Ythmcliapdnbdjaa
