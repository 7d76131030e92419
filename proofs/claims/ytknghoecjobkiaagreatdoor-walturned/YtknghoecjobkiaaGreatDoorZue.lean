/-
  The landed file system: a file grows: a contract, for every world (written by gen/vfsdh.gen.py). The landed file system: a file is cut: a contract, for every world (written by gen/vfsdi.gen.py). The landed file system: put, Append, Cut, Sync, Read: contracts, for every world (written by gen/vfsdj.gen.py). The landed file system: a file that is certain, as is its name (lay): a contract, for every world. The landed file system: are names such as may be (areNames), is one too long (ContainsFunc), Laid: contracts, for every world. The landed file system: Laid: a contract, for every world.
  Conditions: as each theorem says.
-/
import Derived.Test.YtknghoecjobkiaaGreatDoorZud
namespace Go.Proofs.YtknghoecjobkiaaGreatDoor
open Go.RowKit Go.Maps
set_option maxRecDepth 20000
set_option linter.unusedVariables false
theorem Tryz.infoPu : (Tryz.prog.info? 266).map (fun i => (i.zero, i.size, i.bytes)) = some (some (.agg #[.int .i64 0, .slice none 0 0]), 2, 32) := by kernel_rfl
theorem pu_cells (w : World) (n : Int) (q : Nat × H3) (e : TypeId) (h1 : (q.1 : Int) = n) : ∀ j u, (puV q)[j]? = some u → (w.alloc (.cells #[.int .i64 n, .slice q.2.1 q.2.2.1 q.2.2.2] e)).cell? ((⟨w.heap.size, 0, none⟩ : Addr).add j) = some u := by
  subst h1
  intro j u h
  match j, h with
  | 0, h => simp [puV] at h; subst h; rw [Addr.add_lit, World.cell?_alloc_mark]; rfl
  | 1, h => simp [puV] at h; subst h; rw [Addr.add_lit, World.cell?_alloc_mark]; rfl
theorem flat_pu (q : Nat × H3) : [q].flatMap puV = puV q := by simp
/-- Where a row ends. -/
theorem last_of {α : Type} {l : List α} {L : Nat} (h : l.length = L + 1) : ∃ x, l = l.take L ++ [x] ∧ l[L]? = some x := by
  have hlt : L < l.length := by omega
  refine ⟨l[L], ?_, List.getElem?_eq_getElem hlt⟩
  rw [← List.take_succ_eq_append_getElem hlt, List.take_of_length_le (by omega)]
/-- A group more: bytes that were appended. -/
theorem FlP.pushApp {w u : World} {h : Fh} {k : Nat} {b su : List Int} {us : List Un} (m : FlP w h k b su us) {zs : List Int} (hz : zs ≠ []) {P g' c' : Nat} (hP : h.p.2.1 = P) (gr : Ch (fun j => (h3V h.p).ownBlock = some j) w u) (o : OwnP u 0 (some ⟨g', 0, none⟩) (P + 1) c' (h.hp ++ [(zs.length, (none, 0, 0))])) (lies : (h3V h.p).ownBlock = some g' ∨ w.heap.size ≤ g') :
    StepP w (u.setCell ⟨h.b, 2, none⟩ (.slice (some ⟨g', 0, none⟩) (P + 1) c')) h k b su (us ++ moreU zs) := by
  have q := m.putPend gr (p' := (some ⟨g', 0, none⟩, P + 1, c')) (ps' := h.ps ++ [(zs.length, [])]) (hp' := h.hp ++ [(zs.length, (none, 0, 0))]) (su' := su) (us' := us ++ moreU zs) o (Pd.app us h.ps zs m.pd hz) (by rw [List.length_append, List.length_append, m.len]; rfl) (fun i q r h1 h2 => by
    by_cases e : i < h.hp.length
    · rw [List.getElem?_append_left e] at h1
      rw [List.getElem?_append_left (by rw [← m.len]; exact e)] at h2
      obtain ⟨e1, e2, e3⟩ := m.each i q r h1 h2
      exact ⟨e1, OwnG.ch e2 gr (fun j hj e => (OwnG.cellsT m.pend j e).1.ne (OwnG.cellsT e2 j hj).1 (by decide) rfl), e3⟩
    · rw [List.getElem?_append_right (by omega), List.getElem?_singleton] at h1
      rw [List.getElem?_append_right (by rw [← m.len]; omega), List.getElem?_singleton] at h2
      split at h1
      · rename_i e4
        rw [if_pos (by rw [← m.len]; exact e4)] at h2
        obtain rfl := Option.some.inj h1
        obtain rfl := Option.some.inj h2
        exact ⟨rfl, ownG_nil _ _, fun j hj => by simp [h3V, Value.ownBlock] at hj⟩
      · cases h1)
  refine ⟨{ h with p := (some ⟨g', 0, none⟩, P + 1, c'), ps := h.ps ++ [(zs.length, [])], hp := h.hp ++ [(zs.length, (none, 0, 0))] }, rfl, q, fun j hj => ?_, (gr.more (fun j _ e => Or.inr (Or.inr (Or.inl e)))).trans ((ch_set u h.b 2 _).more (fun j _ e => Or.inl e))⟩
  rcases hj with e | e | e | ⟨q', e, e2⟩
  · exact Or.inl (Or.inl e)
  · exact Or.inl (Or.inr (Or.inl e))
  · have : g' = j := by simpa [h3V, Value.ownBlock] using e
    subst this
    rcases lies with e | e
    · exact Or.inl (Or.inr (Or.inr (Or.inl e)))
    · exact Or.inr e
  · rcases List.mem_append.1 e with e | e
    · exact Or.inl (Or.inr (Or.inr (Or.inr ⟨q', e, e2⟩)))
    · obtain rfl := List.mem_singleton.1 e
      simp [h3V, Value.ownBlock] at e2

set_option maxHeartbeats 8000000 in
theorem vgrow_any (w : World) (h : Fh) (k : Nat) (b su : List Int) (us : List Un) (m : FlP w h k b su us) (a : Option Addr) (n c : Nat) (zs : List Int) (hr : Row .u8 w a n zs) (hb : b.length ≤ 4294967296) (hn : n ≤ 4294967296) (hus : us.length ≤ 4294967296) :
    Calls Tryz.prog 232 #[.pointer (some ⟨h.b, 0, none⟩), .slice a n c] w fun e w' => e = .returned (.tuple #[]) ∧ StepP w w' h k (b ++ zs) su (us ++ moreU zs) := by
  have hlz := hr.1
  by_cases hn0 : n = 0
  · subst hn0
    have hz : zs = [] := List.length_eq_zero_iff.1 hlz
    subst hz
    have FIN : Hid (StepP w w h k (b ++ []) su (us ++ moreU [])) := by
      refine ⟨h, rfl, ?_, fun _ e => Or.inl e, Ch.refl _ _⟩
      rw [List.append_nil, show moreU [] = [] from rfl, List.append_nil]
      exact m
    clear m hr
    go_enter Tryz.func232, Tryz.ntmps232
    go_wp2
    refine bodyPost_ret (results_none rfl _ _ _) rfl ?_
    exact ⟨rfl, FIN.out⟩
  · have hzne : zs ≠ [] := by intro e; subst e; simp at hlz; omega
    obtain ⟨i0, hi0, hz00, hz01, hz02⟩ := info_parts Tryz.infoU8
    obtain ⟨i1, hi1, hz10, hz11, hz12⟩ := info_parts Tryz.infoPu
    obtain ⟨b2, off, rfl, -⟩ := hr.2.2.2.resolve_left hn0
    have HR := hide (fun j u (hj : (zs.flatMap byV)[j]? = some u) => hr.cells j u (by rw [flat_by] at hj; exact hj))
    have HLZ : Hid ((zs.flatMap byV).length = n * 1) := by show _ = _; rw [flatG_len byV_len, hlz]
    have HOZ : Hid (∀ u ∈ zs.flatMap byV, u.oneCell' = true) := fun u hu => by
      obtain ⟨y, -, hy⟩ := List.mem_flatMap.1 hu
      exact byV_one1 y u hy
    have c1 := m.c1
    have M := hide m
    have hdl := OwnG.len byV_len (by decide) m.data
    have hpl := OwnG.len puV_len (by decide) m.pend
    have hP : h.p.2.1 ≤ 4294967296 := by rw [← hpl, m.len]; exact Nat.le_trans m.pd.len hus
    have hD : h.d.2.1 ≤ 4294967296 := by rw [← hdl]; exact hb
    obtain ⟨da, dn, dc, hd⟩ : ∃ da dn dc, h.d = (da, dn, dc) := ⟨_, _, _, rfl⟩
    have OD := hide m.data
    rw [hd] at c1 hdl hD OD
    dsimp only at c1 hdl hD OD
    have ONN : Hid (0 < n) := by show 0 < n; omega
    have hlz' := hide hlz
    clear m hr hb hpl hlz
    have LNH : h.p.2.1 = 0 ∨ ∃ L, h.p.2.1 = L + 1 := by
      cases hx : h.p.2.1 with
      | zero => exact Or.inl rfl
      | succ L => exact Or.inr ⟨L, rfl⟩
    rcases LNH with hP0 | ⟨L, hPL⟩
    · -- none is pending
      obtain ⟨pa, pc, hpe⟩ : ∃ pa pc, h.p = (pa, 0, pc) := ⟨h.p.1, h.p.2.2, by rw [← hP0]⟩
      go_enter Tryz.func232, Tryz.ntmps232
      go_wp2_with (at_builtin; refine wpList_append_lies _ rfl _ _ 40 rfl 0 5 i0 (.int .u8 0) 1 1 Tryz.underlying40 hi0 hz00 hz01 hz02 rfl (by decide) (.slice da dn dc) dn (b.flatMap byV) rfl OD.out ⟨b2, off, none⟩ n c (zs.flatMap byV) rfl HLZ.out HR.out HOZ.out ONN.out (by unfold maxLen; omega) (by omega) (Nat.zero_le _) _ rfl ?_)
      intro gC cC wC oC grC atC ltC
      have KC : Hid (Ch (fun j => (h3V h.d).ownBlock = some j) w wC) := by rw [hd]; exact Ch.grown grC
      have OC : Hid (OwnVb wC 0 (some ⟨gC, 0, none⟩) (dn + n) cC (b ++ zs)) := by
        show OwnG _ _ _ _ _ _ _ _ _
        unfold OwnG
        rw [List.flatMap_append]
        exact oC
      have LC : Hid ((h3V h.d).ownBlock = some gC ∨ w.heap.size ≤ gC) := by
        rw [hd]
        rcases atC with e | e
        · exact Or.inl e
        · exact Or.inr (by rw [e]; exact Nat.le_refl _)
      have M2 : Hid (FlP (wC.setCell ⟨h.b, 1, none⟩ (.slice (some ⟨gC, 0, none⟩) (dn + n) cC)) { h with d := (some ⟨gC, 0, none⟩, dn + n, cC) } k (b ++ zs) su us) := M.out.putData KC.out (d' := (some ⟨gC, 0, none⟩, dn + n, cC)) OC.out (fun j hj => by
        have : gC = j := by simpa [h3V, Value.ownBlock] using hj
        subst this
        exact LC.out)
      have K2 : Hid (Ch (SFh h) w (wC.setCell ⟨h.b, 1, none⟩ (.slice (some ⟨gC, 0, none⟩) (dn + n) cC))) := (KC.out.more (fun j _ e => Or.inr (Or.inl e))).trans ((ch_set wC h.b 1 _).more (fun j _ e => Or.inl e))
      have S2 : Hid (∀ j, SFh { h with d := (some ⟨gC, 0, none⟩, dn + n, cC) } j → SFh h j ∨ w.heap.size ≤ j) := fun j hj => by
        rcases hj with e | e | e | e
        · exact Or.inl (Or.inl e)
        · have : gC = j := by simpa [h3V, Value.ownBlock] using e
          subst this
          rcases LC.out with e | e
          · exact Or.inl (Or.inr (Or.inl e))
          · exact Or.inr e
        · exact Or.inl (Or.inr (Or.inr (Or.inl e)))
        · exact Or.inl (Or.inr (Or.inr (Or.inr e)))
      have FB : wC.heap[h.b]? = some (.cells #[.int .i64 (k : Int), .slice h.d.1 h.d.2.1 h.d.2.2, .slice h.p.1 h.p.2.1 h.p.2.2] 185 (0, 0)) := (KC.out.block h.b (M.out.lt (Or.inl rfl)) (fun e => (OwnG.cellsT M.out.data h.b e).1.ne M.out.cells (by decide) rfl)).trans M.out.str
      have x1 : wC.cell? ⟨h.b, 1, none⟩ = some (.slice da dn dc) := by rw [cell_of_row wC h.b 1 _ _ (0, 0) FB, hd]; rfl
      have x2 := frozen_of_row wC h.b 1 _ _ FB
      clear oC grC atC ltC FB c1 OD KC OC LC M HR HLZ HOZ
      go_upto_region 2 with fail
      obtain ⟨W2, hW2⟩ : ∃ W2, Hid (wC.setCell ⟨h.b, 1, none⟩ (.slice (some ⟨gC, 0, none⟩) (dn + n) cC) = W2) := ⟨_, rfl⟩
      rw [hW2.out] at M2 K2 ⊢
      clear hW2 x1 x2
      have p2 := M2.out.c2
      have f2 := M2.out.fz 2
      have OP2 := hide M2.out.pend
      dsimp only at p2 f2 OP2
      rw [hpe] at p2 OP2
      dsimp only at p2 OP2
      have NC := hide (pu_cells W2 (n : Int) (n, (none, 0, 0)) 266 rfl)
      go_wp2_with (at_builtin; refine wpList_append_lies _ rfl _ _ 183 rfl 0 266 i1 (.agg #[.int .i64 0, .slice none 0 0]) 2 32 Tryz.underlying183 hi1 hz10 hz11 hz12 rfl (by decide) (.slice pa 0 pc) (0) (h.hp.flatMap puV) rfl (OwnG.alloc OP2.out _) ⟨W2.heap.size, 0, none⟩ 1 1 (puV (n, (none, 0, 0))) rfl rfl NC.out (puV_one1 _) (by omega) (by unfold maxLen; omega) (by omega) (Nat.zero_le _) _ rfl ?_)
      intro g3 c3 w3 o3 gr3 at3 lt3
      have KC3 : Hid (Ch (fun j => (h3V h.p).ownBlock = some j) W2 w3) := by rw [hpe]; exact ((Ch.refl _ W2).alloc _).trans (Ch.grown gr3)
      have FIN : Hid (StepP w (w3.setCell ⟨h.b, 2, none⟩ (.slice (some ⟨g3, 0, none⟩) (0 + 1) c3)) h k (b ++ zs) su (us ++ moreU zs)) := by
        refine stepP_join (h1 := { h with d := (some ⟨gC, 0, none⟩, dn + n, cC) }) rfl S2.out K2.out (M2.out.pushApp hzne (P := 0) (by dsimp only; rw [hpe]) KC3.out ?_ ?_)
        · show OwnG _ _ _ _ _ _ _ _ _
          unfold OwnG
          dsimp only
          rw [List.flatMap_append, flat_pu, hlz'.out]
          exact o3
        · dsimp only
          rw [hpe]
          rcases at3 with e | e
          · exact Or.inl e
          · exact Or.inr (by rw [e]; simp)
      have FB3 : w3.heap[h.b]? = some (.cells #[.int .i64 (k : Int), .slice (some ⟨gC, 0, none⟩) (dn + n) cC, .slice h.p.1 h.p.2.1 h.p.2.2] 185 (0, 0)) := (KC3.out.block h.b (M2.out.lt (Or.inl rfl)) (fun e => (OwnG.cellsT M2.out.pend h.b e).1.ne M2.out.cells (by decide) rfl)).trans M2.out.str
      have y2 : w3.cell? ⟨h.b, 2, none⟩ = some (.slice pa 0 pc) := by rw [cell_of_row w3 h.b 2 _ _ (0, 0) FB3, hpe]; rfl
      have y3 := frozen_of_row w3 h.b 2 _ _ FB3
      clear o3 gr3 at3 lt3 FB3 KC3 M2 K2 S2 OP2 NC p2 f2
      go_wp2
      go_end0
      exact ⟨rfl, FIN.out⟩
    · obtain ⟨pa, pc, hpe⟩ : ∃ pa pc, h.p = (pa, L + 1, pc) := ⟨h.p.1, h.p.2.2, by rw [← hPL]⟩
      have OPd := M.out.pend
      rw [hpe] at OPd
      dsimp only at OPd
      obtain ⟨ql, hql, hqL⟩ := last_of (OwnG.len puV_len (by decide) OPd)
      obtain ⟨gp, rfl, hlt, hcp, hcq⟩ := OwnG.at puV_len (by decide) OPd hqL
      obtain ⟨pl, hpl, hpL⟩ := last_of (l := h.ps) (L := L) (by rw [← M.out.len]; exact OwnG.len puV_len (by decide) OPd)
      obtain ⟨eqp, -, -⟩ := M.out.each L ql pl hqL hpL
      have cq0 : w.cell? ⟨gp, L * 2, none⟩ = some (.int .i64 (ql.1 : Int)) := hcq 0 _ rfl
      have HQL := hide hqL
      have HPL := hide hpl
      have HEQ := hide eqp
      have hql1 : ql.1 ≤ 4294967296 := by
        have q := M.out.pd
        rw [hpl] at q
        rw [eqp]
        rcases q.last with ⟨_, _, us', l, e1, e2, _⟩ | ⟨e1, _⟩
        · rw [e1, List.length_append, moreU_len, e2] at hus
          omega
        · omega
      have hL1 : L ≤ 4294967296 := by omega
      obtain ⟨q1, q2⟩ := ql
      dsimp only at cq0 HEQ hql1
      have CGP : Hid (CellsT w gp 266) := (OwnG.cellsT OPd gp rfl).1
      have cq00 := hide cq0
      clear hcq hql hqL hpl hpL eqp OPd cq0 hPL hus
      by_cases hq0 : 0 < q1
      · -- the last was appended
        go_enter Tryz.func232, Tryz.ntmps232
        go_wp2_with (at_builtin; refine wpList_append_lies _ rfl _ _ 40 rfl 0 5 i0 (.int .u8 0) 1 1 Tryz.underlying40 hi0 hz00 hz01 hz02 rfl (by decide) (.slice da dn dc) dn (b.flatMap byV) rfl OD.out ⟨b2, off, none⟩ n c (zs.flatMap byV) rfl HLZ.out HR.out HOZ.out ONN.out (by unfold maxLen; omega) (by omega) (Nat.zero_le _) _ rfl ?_)
        intro gC cC wC oC grC atC ltC
        have KC : Hid (Ch (fun j => (h3V h.d).ownBlock = some j) w wC) := by rw [hd]; exact Ch.grown grC
        have OC : Hid (OwnVb wC 0 (some ⟨gC, 0, none⟩) (dn + n) cC (b ++ zs)) := by
          show OwnG _ _ _ _ _ _ _ _ _
          unfold OwnG
          rw [List.flatMap_append]
          exact oC
        have LC : Hid ((h3V h.d).ownBlock = some gC ∨ w.heap.size ≤ gC) := by
          rw [hd]
          rcases atC with e | e
          · exact Or.inl e
          · exact Or.inr (by rw [e]; exact Nat.le_refl _)
        have M2 : Hid (FlP (wC.setCell ⟨h.b, 1, none⟩ (.slice (some ⟨gC, 0, none⟩) (dn + n) cC)) { h with d := (some ⟨gC, 0, none⟩, dn + n, cC) } k (b ++ zs) su us) := M.out.putData KC.out (d' := (some ⟨gC, 0, none⟩, dn + n, cC)) OC.out (fun j hj => by
          have : gC = j := by simpa [h3V, Value.ownBlock] using hj
          subst this
          exact LC.out)
        have K2 : Hid (Ch (SFh h) w (wC.setCell ⟨h.b, 1, none⟩ (.slice (some ⟨gC, 0, none⟩) (dn + n) cC))) := (KC.out.more (fun j _ e => Or.inr (Or.inl e))).trans ((ch_set wC h.b 1 _).more (fun j _ e => Or.inl e))
        have S2 : Hid (∀ j, SFh { h with d := (some ⟨gC, 0, none⟩, dn + n, cC) } j → SFh h j ∨ w.heap.size ≤ j) := fun j hj => by
          rcases hj with e | e | e | e
          · exact Or.inl (Or.inl e)
          · have : gC = j := by simpa [h3V, Value.ownBlock] using e
            subst this
            rcases LC.out with e | e
            · exact Or.inl (Or.inr (Or.inl e))
            · exact Or.inr e
          · exact Or.inl (Or.inr (Or.inr (Or.inl e)))
          · exact Or.inl (Or.inr (Or.inr (Or.inr e)))
        have FB : wC.heap[h.b]? = some (.cells #[.int .i64 (k : Int), .slice h.d.1 h.d.2.1 h.d.2.2, .slice h.p.1 h.p.2.1 h.p.2.2] 185 (0, 0)) := (KC.out.block h.b (M.out.lt (Or.inl rfl)) (fun e => (OwnG.cellsT M.out.data h.b e).1.ne M.out.cells (by decide) rfl)).trans M.out.str
        have x1 : wC.cell? ⟨h.b, 1, none⟩ = some (.slice da dn dc) := by rw [cell_of_row wC h.b 1 _ _ (0, 0) FB, hd]; rfl
        have x2 := frozen_of_row wC h.b 1 _ _ FB
        have UC : Hid (CellsT wC gp 266 ∧ wC.cell? ⟨gp, L * 2, none⟩ = some (.int .i64 (q1 : Int))) := by
          have kk := KC.out.block gp CGP.out.lt (fun e => (OwnG.cellsT M.out.data gp e).1.ne CGP.out (by decide) rfl)
          refine ⟨?_, ?_⟩
          · obtain ⟨cu, mk, q⟩ := CGP.out
            exact ⟨cu, mk, kk.trans q⟩
          · have := cq00.out
            simp only [World.cell?] at this ⊢
            rw [kk]
            exact this
        have U2 : Hid ((wC.setCell ⟨h.b, 1, none⟩ (.slice (some ⟨gC, 0, none⟩) (dn + n) cC)).cell? ⟨gp, L * 2, none⟩ = some (.int .i64 (q1 : Int))) := by
          have hne : h.b ≠ gp := by
            have cb : CellsT wC h.b 185 := ⟨_, _, FB⟩
            exact cb.ne UC.out.1 (by decide)
          rw [World.cell?_setCell_other _ _ _ _ (fun e => hne (congrArg Addr.block e))]
          exact UC.out.2
        clear UC
        clear oC grC atC ltC FB c1 OD KC OC LC M HR HLZ HOZ
        go_upto_region 2 with fail
        obtain ⟨W2, hW2⟩ : ∃ W2, Hid (wC.setCell ⟨h.b, 1, none⟩ (.slice (some ⟨gC, 0, none⟩) (dn + n) cC) = W2) := ⟨_, rfl⟩
        rw [hW2.out] at M2 K2 U2 ⊢
        clear hW2 x1 x2
        have n1 : (0 : Int) ≤ (L : Int) := by omega
        have n2 : (L : Int) < (L : Int) + 1 := by omega
        have n3 : IntKind.i64.wrap (((L + 1 : Nat) : Int) - 1) = (L : Int) := by rw [IntKind.wrap_i64]; omega
        have n4 : IntKind.i64.wrap ((L : Int) + 1 - 1) = (L : Int) := by rw [IntKind.wrap_i64]; omega
        have n5 : IntKind.i64.wrap (L : Int) = (L : Int) := by rw [IntKind.wrap_i64]; omega
        have u2 := U2.out
        have p2 := M2.out.c2
        dsimp only at p2
        rw [hpe] at p2
        dsimp only at p2
        have fg : W2.frozen? ⟨gp, L * 2, none⟩ = false := by
          have o := M2.out.pend
          dsimp only at o
          rw [hpe] at o
          exact World.ownsRow.frozenAt o _
        have d1 : decide ((0 : Int) < (q1 : Int)) = true := decide_eq_true (by omega)
        have d2 : decide (0 < q1) = true := decide_eq_true hq0
        have d3 : (0 : Int) < (q1 : Int) := by omega
        have n6 : IntKind.i64.wrap ((q1 : Int) + (n : Int)) = (q1 : Int) + (n : Int) := by rw [IntKind.wrap_i64]; omega
        have FIN : Hid (StepP w (W2.setCell ⟨gp, L * 2, none⟩ (.int .i64 ((q1 : Int) + (n : Int)))) h k (b ++ zs) su (us ++ moreU zs)) := by
          have hobp : (h3V h.p).ownBlock = some gp := by rw [hpe]; rfl
          obtain ⟨pl1, pl2⟩ := pl
          dsimp only at HEQ HPL
          have e1 : q1 = pl1 := HEQ.out
          subst e1
          have mm := M2.out.bump (gp := gp) (L := L) (cp := pc) hpe (ps0 := h.ps.take L) (p := (q1, pl2)) HPL.out (q := (q1, q2)) HQL.out hq0 zs
          rw [hlz'.out] at mm
          dsimp only at mm
          rw [Int.natCast_add] at mm
          refine stepP_join (h1 := { h with d := (some ⟨gC, 0, none⟩, dn + n, cC) }) rfl S2.out K2.out ⟨{ b := h.b, d := (some ⟨gC, 0, none⟩, dn + n, cC), p := h.p, ps := h.ps.take L ++ [(q1 + n, pl2)], hp := h.hp.set L (q1 + n, q2) }, rfl, mm, fun j hj => ?_, (ch_set W2 gp _ _).more (fun j _ e => Or.inr (Or.inr (Or.inl (by rw [e]; exact hobp))))⟩
          rcases hj with e | e | e | ⟨q', e, e2⟩
          · exact Or.inl (Or.inl e)
          · exact Or.inl (Or.inr (Or.inl e))
          · exact Or.inl (Or.inr (Or.inr (Or.inl e)))
          · rcases List.mem_or_eq_of_mem_set e with e | e
            · exact Or.inl (Or.inr (Or.inr (Or.inr ⟨q', e, e2⟩)))
            · subst e
              exact Or.inl (Or.inr (Or.inr (Or.inr ⟨(q1, q2), List.mem_of_getElem? HQL.out, e2⟩)))
        clear M2 K2 S2 HQL HPL HEQ U2 cq00 CGP
        go_wp2
        refine bodyPost_ret (results_none rfl _ _ _) rfl ?_
        exact ⟨rfl, FIN.out⟩
      · have dq1 : decide ((0 : Int) < (q1 : Int)) = false := decide_eq_false (by omega)
        have dq2 : decide (0 < q1) = false := decide_eq_false hq0
        have dq3 : ¬ (0 : Int) < (q1 : Int) := by omega
        go_enter Tryz.func232, Tryz.ntmps232
        go_wp2_with (at_builtin; refine wpList_append_lies _ rfl _ _ 40 rfl 0 5 i0 (.int .u8 0) 1 1 Tryz.underlying40 hi0 hz00 hz01 hz02 rfl (by decide) (.slice da dn dc) dn (b.flatMap byV) rfl OD.out ⟨b2, off, none⟩ n c (zs.flatMap byV) rfl HLZ.out HR.out HOZ.out ONN.out (by unfold maxLen; omega) (by omega) (Nat.zero_le _) _ rfl ?_)
        intro gC cC wC oC grC atC ltC
        have KC : Hid (Ch (fun j => (h3V h.d).ownBlock = some j) w wC) := by rw [hd]; exact Ch.grown grC
        have OC : Hid (OwnVb wC 0 (some ⟨gC, 0, none⟩) (dn + n) cC (b ++ zs)) := by
          show OwnG _ _ _ _ _ _ _ _ _
          unfold OwnG
          rw [List.flatMap_append]
          exact oC
        have LC : Hid ((h3V h.d).ownBlock = some gC ∨ w.heap.size ≤ gC) := by
          rw [hd]
          rcases atC with e | e
          · exact Or.inl e
          · exact Or.inr (by rw [e]; exact Nat.le_refl _)
        have M2 : Hid (FlP (wC.setCell ⟨h.b, 1, none⟩ (.slice (some ⟨gC, 0, none⟩) (dn + n) cC)) { h with d := (some ⟨gC, 0, none⟩, dn + n, cC) } k (b ++ zs) su us) := M.out.putData KC.out (d' := (some ⟨gC, 0, none⟩, dn + n, cC)) OC.out (fun j hj => by
          have : gC = j := by simpa [h3V, Value.ownBlock] using hj
          subst this
          exact LC.out)
        have K2 : Hid (Ch (SFh h) w (wC.setCell ⟨h.b, 1, none⟩ (.slice (some ⟨gC, 0, none⟩) (dn + n) cC))) := (KC.out.more (fun j _ e => Or.inr (Or.inl e))).trans ((ch_set wC h.b 1 _).more (fun j _ e => Or.inl e))
        have S2 : Hid (∀ j, SFh { h with d := (some ⟨gC, 0, none⟩, dn + n, cC) } j → SFh h j ∨ w.heap.size ≤ j) := fun j hj => by
          rcases hj with e | e | e | e
          · exact Or.inl (Or.inl e)
          · have : gC = j := by simpa [h3V, Value.ownBlock] using e
            subst this
            rcases LC.out with e | e
            · exact Or.inl (Or.inr (Or.inl e))
            · exact Or.inr e
          · exact Or.inl (Or.inr (Or.inr (Or.inl e)))
          · exact Or.inl (Or.inr (Or.inr (Or.inr e)))
        have FB : wC.heap[h.b]? = some (.cells #[.int .i64 (k : Int), .slice h.d.1 h.d.2.1 h.d.2.2, .slice h.p.1 h.p.2.1 h.p.2.2] 185 (0, 0)) := (KC.out.block h.b (M.out.lt (Or.inl rfl)) (fun e => (OwnG.cellsT M.out.data h.b e).1.ne M.out.cells (by decide) rfl)).trans M.out.str
        have x1 : wC.cell? ⟨h.b, 1, none⟩ = some (.slice da dn dc) := by rw [cell_of_row wC h.b 1 _ _ (0, 0) FB, hd]; rfl
        have x2 := frozen_of_row wC h.b 1 _ _ FB
        have UC : Hid (CellsT wC gp 266 ∧ wC.cell? ⟨gp, L * 2, none⟩ = some (.int .i64 (q1 : Int))) := by
          have kk := KC.out.block gp CGP.out.lt (fun e => (OwnG.cellsT M.out.data gp e).1.ne CGP.out (by decide) rfl)
          refine ⟨?_, ?_⟩
          · obtain ⟨cu, mk, q⟩ := CGP.out
            exact ⟨cu, mk, kk.trans q⟩
          · have := cq00.out
            simp only [World.cell?] at this ⊢
            rw [kk]
            exact this
        have U2 : Hid ((wC.setCell ⟨h.b, 1, none⟩ (.slice (some ⟨gC, 0, none⟩) (dn + n) cC)).cell? ⟨gp, L * 2, none⟩ = some (.int .i64 (q1 : Int))) := by
          have hne : h.b ≠ gp := by
            have cb : CellsT wC h.b 185 := ⟨_, _, FB⟩
            exact cb.ne UC.out.1 (by decide)
          rw [World.cell?_setCell_other _ _ _ _ (fun e => hne (congrArg Addr.block e))]
          exact UC.out.2
        clear UC
        clear oC grC atC ltC FB c1 OD KC OC LC M HR HLZ HOZ
        go_upto_region 2 with fail
        obtain ⟨W2, hW2⟩ : ∃ W2, Hid (wC.setCell ⟨h.b, 1, none⟩ (.slice (some ⟨gC, 0, none⟩) (dn + n) cC) = W2) := ⟨_, rfl⟩
        rw [hW2.out] at M2 K2 U2 ⊢
        clear hW2 x1 x2
        have n1 : (0 : Int) ≤ (L : Int) := by omega
        have n2 : (L : Int) < (L : Int) + 1 := by omega
        have n3 : IntKind.i64.wrap (((L + 1 : Nat) : Int) - 1) = (L : Int) := by rw [IntKind.wrap_i64]; omega
        have n4 : IntKind.i64.wrap ((L : Int) + 1 - 1) = (L : Int) := by rw [IntKind.wrap_i64]; omega
        have n5 : IntKind.i64.wrap (L : Int) = (L : Int) := by rw [IntKind.wrap_i64]; omega
        have u2 := U2.out
        have p2 := M2.out.c2
        have f2 := M2.out.fz 2
        have OP2 := hide M2.out.pend
        dsimp only at p2 f2 OP2
        rw [hpe] at p2 OP2
        dsimp only at p2 OP2
        clear HQL HPL HEQ U2 cq00 CGP
        have NC := hide (pu_cells W2 (n : Int) (n, (none, 0, 0)) 266 rfl)
        go_wp2_with (at_builtin; refine wpList_append_lies _ rfl _ _ 183 rfl 0 266 i1 (.agg #[.int .i64 0, .slice none 0 0]) 2 32 Tryz.underlying183 hi1 hz10 hz11 hz12 rfl (by decide) (.slice (some ⟨gp, 0, none⟩) (L + 1) pc) (L + 1) (h.hp.flatMap puV) rfl (OwnG.alloc OP2.out _) ⟨W2.heap.size, 0, none⟩ 1 1 (puV (n, (none, 0, 0))) rfl rfl NC.out (puV_one1 _) (by omega) (by unfold maxLen; omega) (by omega) (Nat.zero_le _) _ rfl ?_)
        intro g3 c3 w3 o3 gr3 at3 lt3
        have KC3 : Hid (Ch (fun j => (h3V h.p).ownBlock = some j) W2 w3) := by rw [hpe]; exact ((Ch.refl _ W2).alloc _).trans (Ch.grown gr3)
        have FIN : Hid (StepP w (w3.setCell ⟨h.b, 2, none⟩ (.slice (some ⟨g3, 0, none⟩) (L + 1 + 1) c3)) h k (b ++ zs) su (us ++ moreU zs)) := by
          refine stepP_join (h1 := { h with d := (some ⟨gC, 0, none⟩, dn + n, cC) }) rfl S2.out K2.out (M2.out.pushApp hzne (P := L + 1) (by dsimp only; rw [hpe]) KC3.out ?_ ?_)
          · show OwnG _ _ _ _ _ _ _ _ _
            unfold OwnG
            dsimp only
            rw [List.flatMap_append, flat_pu, hlz'.out]
            exact o3
          · dsimp only
            rw [hpe]
            rcases at3 with e | e
            · exact Or.inl e
            · exact Or.inr (by rw [e]; simp)
        have FB3 : w3.heap[h.b]? = some (.cells #[.int .i64 (k : Int), .slice (some ⟨gC, 0, none⟩) (dn + n) cC, .slice h.p.1 h.p.2.1 h.p.2.2] 185 (0, 0)) := (KC3.out.block h.b (M2.out.lt (Or.inl rfl)) (fun e => (OwnG.cellsT M2.out.pend h.b e).1.ne M2.out.cells (by decide) rfl)).trans M2.out.str
        have y2 : w3.cell? ⟨h.b, 2, none⟩ = some (.slice (some ⟨gp, 0, none⟩) (L + 1) pc) := by rw [cell_of_row w3 h.b 2 _ _ (0, 0) FB3, hpe]; rfl
        have y3 := frozen_of_row w3 h.b 2 _ _ FB3
        clear o3 gr3 at3 lt3 FB3 KC3 M2 K2 S2 OP2 NC p2 f2
        go_wp2
        go_end0
        exact ⟨rfl, FIN.out⟩
theorem slice_from8 (a : Option Addr) (n cap k : Nat) (hk : k ≤ n) (hc : n ≤ cap) (w : World) :
    (Instr.slice 40 (.slice a n cap) (some (.int .i64 (k : Int))) none none).run Tryz.prog w = .ok (.slice (if cap = k then a else a.map (·.add k)) (n - k) (cap - k)) w := by
  rw [run_slice_l (P := Tryz.prog) w 40 a n cap Tryz.underlying40 .i64 (k : Int) (by omega) (by omega)]
  have hs : (sizeOf (Tryz.prog.elem 40)).run Tryz.prog w = .ok 1 w := by kernel_rfl
  rw [hs]
  simp only [Result.andThen, sliced, Int.toNat_natCast, Nat.mul_one]
/-- A group more: a cut. -/
theorem FlP.pushCut {w u : World} {h : Fh} {k : Nat} {b su : List Int} {us : List Un} (m : FlP w h k b su us) (hb : b = unsB su us) {n : Nat} (hn : n ≤ b.length) {x : H3} {P g' c' : Nat} (gr : Ch (fun j => (h3V h.p).ownBlock = some j) w u) (ox : OwnVb u 0 x.1 x.2.1 x.2.2 (b.drop n)) (hx : ∀ j, (h3V x).ownBlock = some j → w.heap.size ≤ j) (o : OwnP u 0 (some ⟨g', 0, none⟩) (P + 1) c' (h.hp ++ [(0, x)])) (lies : (h3V h.p).ownBlock = some g' ∨ w.heap.size ≤ g') :
    FlP (u.setCell ⟨h.b, 2, none⟩ (.slice (some ⟨g', 0, none⟩) (P + 1) c')) { h with p := (some ⟨g', 0, none⟩, P + 1, c'), ps := h.ps ++ [(0, b.drop n)], hp := h.hp ++ [(0, x)] } k b su (us ++ [⟨0, true, (n : Int)⟩]) ∧ (∀ j, SFh { h with p := (some ⟨g', 0, none⟩, P + 1, c'), ps := h.ps ++ [(0, b.drop n)], hp := h.hp ++ [(0, x)] } j → SFh h j ∨ w.heap.size ≤ j) ∧ Ch (SFh h) w (u.setCell ⟨h.b, 2, none⟩ (.slice (some ⟨g', 0, none⟩) (P + 1) c')) := by
  have q := m.putPend gr (p' := (some ⟨g', 0, none⟩, P + 1, c')) (ps' := h.ps ++ [(0, b.drop n)]) (hp' := h.hp ++ [(0, x)]) (su' := su) (us' := us ++ [⟨0, true, (n : Int)⟩]) o (by rw [hb]; exact Pd.cut us h.ps n m.pd (by rw [← hb]; exact hn)) (by rw [List.length_append, List.length_append, m.len]; rfl) (fun i q r h1 h2 => by
    by_cases e : i < h.hp.length
    · rw [List.getElem?_append_left e] at h1
      rw [List.getElem?_append_left (by rw [← m.len]; exact e)] at h2
      obtain ⟨e1, e2, e3⟩ := m.each i q r h1 h2
      exact ⟨e1, OwnG.ch e2 gr (fun j hj e => (OwnG.cellsT m.pend j e).1.ne (OwnG.cellsT e2 j hj).1 (by decide) rfl), e3⟩
    · rw [List.getElem?_append_right (by omega), List.getElem?_singleton] at h1
      rw [List.getElem?_append_right (by rw [← m.len]; omega), List.getElem?_singleton] at h2
      split at h1
      · rename_i e4
        rw [if_pos (by rw [← m.len]; exact e4)] at h2
        obtain rfl := Option.some.inj h1
        obtain rfl := Option.some.inj h2
        exact ⟨rfl, ox, fun j hj e => by
          have := hx j hj
          have := (OwnG.cellsT m.data j e).1.lt
          omega⟩
      · cases h1)
  refine ⟨q, fun j hj => ?_, (gr.more (fun j _ e => Or.inr (Or.inr (Or.inl e)))).trans ((ch_set u h.b 2 _).more (fun j _ e => Or.inl e))⟩
  rcases hj with e | e | e | ⟨q', e, e2⟩
  · exact Or.inl (Or.inl e)
  · exact Or.inl (Or.inr (Or.inl e))
  · have : g' = j := by simpa [h3V, Value.ownBlock] using e
    subst this
    rcases lies with e | e
    · exact Or.inl (Or.inr (Or.inr (Or.inl e)))
    · exact Or.inr e
  · rcases List.mem_append.1 e with e | e
    · exact Or.inl (Or.inr (Or.inr (Or.inr ⟨q', e, e2⟩)))
    · obtain rfl := List.mem_singleton.1 e
      exact Or.inr (hx j e2)

set_option maxHeartbeats 8000000 in
theorem fcut_any (w : World) (h : Fh) (k : Nat) (b su : List Int) (us : List Un) (m : FlP w h k b su us) (hbu : b = unsB su us) (n : Nat) (hn : n ≤ b.length) (hb : b.length ≤ 4294967296) (hus : us.length ≤ 4294967296) (hby : ∀ z ∈ b, 0 ≤ z ∧ z ≤ 255) :
    Calls Tryz.prog 221 #[.pointer (some ⟨h.b, 0, none⟩), .int .i64 (n : Int)] w fun e w' => e = .returned (.tuple #[]) ∧ StepP w w' h k (b.take n) su (us ++ [⟨0, true, (n : Int)⟩]) := by
  obtain ⟨i1, hi1, hz10, hz11, hz12⟩ := info_parts Tryz.infoPu
  have c1 := m.c1
  have c2 := m.c2
  have M := hide m
  have hdl := OwnG.len byV_len (by decide) m.data
  have hpl := OwnG.len puV_len (by decide) m.pend
  have hP : h.p.2.1 ≤ 4294967296 := by rw [← hpl, m.len]; exact Nat.le_trans m.pd.len hus
  obtain ⟨da, dn, dc, hd⟩ : ∃ da dn dc, h.d = (da, dn, dc) := ⟨_, _, _, rfl⟩
  obtain ⟨pa, pn, pc, hp⟩ : ∃ pa pn pc, h.p = (pa, pn, pc) := ⟨_, _, _, rfl⟩
  have OD := hide m.data
  have OP := hide m.pend
  rw [hd] at c1 hdl OD
  rw [hp] at c2 hP OP
  dsimp only at c1 c2 hdl hP OD OP
  have hdc := (OwnG.capped OD.out).1
  have hnd : n ≤ dn := by omega
  have ROW : Hid (Row .u8 w da dn b) := ownB_row OD.out (by omega) hby
  obtain ⟨fa, hfa⟩ : ∃ fa : Option Addr, Hid ((if dc = n then da else da.map (·.add n)) = fa) := ⟨_, rfl⟩
  have RF : Hid (Row .u8 w fa (dn - n) (b.drop n)) := by rw [← hfa.out]; exact ROW.out.from n hnd hdc
  have hfc : Hid (fa = none → dc - n = 0) := fun e => by
    rw [← hfa.out] at e
    split at e
    · omega
    · cases da with
      | none => have := (OwnG.capped OD.out).2 rfl; omega
      | some x => simp at e
  have sl : ∀ u, (Instr.slice 40 (.slice da dn dc) (some (.int .i64 (n : Int))) none none).run Tryz.prog u = .ok (.slice fa (dn - n) (dc - n)) u := fun u => by
    rw [← hfa.out]
    exact slice_from8 da dn dc n hnd hdc u
  have sl2 := fun u => slice_to16 da dn dc n (by omega) u
  have CL := hide (fun u (hu : Below w.heap.size w u) => clone8_any fa (dn - n) (dc - n) (b.drop n) u (RF.out.below hu (Nat.le_refl _)) (by omega) hfc.out)
  have OTK : Hid (∀ u, OwnVb u 0 da dn dc b → OwnVb u 0 da n dc (b.take n)) := fun u hu => OwnG.cut byV_len (by decide) hu hnd
  have HB := hide hbu
  have HN := hide hn
  clear m hbu hn hb hus hby hdl hpl ROW RF hfc hfa
  go_enter Tryz.func221, Tryz.ntmps221
  go_upto_region 0 with fail
  refine wp_region_held_drew (S := fun u => u.cell? ⟨h.b, 1, none⟩ = some (.slice da dn dc)) (by kernel_rfl) c1 (fun hHeld => ?_)
  refine held_tk 0 (some 4) rfl rfl ?_
  refine held_tk 1 (some 5) rfl rfl ?_
  refine held_tk 2 (some 6) rfl rfl ?_
  refine held_tk 3 (some 7) rfl rfl ?_
  refine held_tk 5 (some 9) rfl rfl ?_
  refine held_tk 6 (some 10) rfl rfl ?_
  refine held_tk 7 (some 11) rfl rfl ?_
  refine held_tk 8 (some 12) rfl rfl ?_
  refine held_tk 9 (some 13) rfl rfl ?_
  refine held_tk 10 (some 14) rfl rfl ?_
  refine held_pair (i := 4) (j := 11) (by kernel_rfl) rfl (by rfl) rfl (by rfl) (fun K1 hK1 => ?_) (fun K1 hK1 => ?_)
  · go_simp
    refine hK1.out _ _ c1 ?_
    clear hK1
    refine held_next (i := 11) (by kernel_rfl) rfl (by rfl) (fun K1 hK1 => ?_)
    go_simp
    with_reducible refine (CL.out _ (Below.refl _ _).drew).mono ?_
    rintro e w2 ⟨xa, xc, rfl, ox, bx⟩
    have B2 : Hid (Below w.heap.size w w2) := bel_to (Below.refl _ _).drew (Nat.le_refl _) bx
    have OX : Hid (OwnVb w2 w.heap.size xa (dn - n) xc (b.drop n)) := ox
    have q1 : w2.cell? ⟨h.b, 1, none⟩ = some (.slice da dn dc) := (B2.out.cell (p := ⟨h.b, 1, none⟩) (World.block_lt_of_cell? w _ c1)).trans c1
    have q2 : w2.cell? ⟨h.b, 2, none⟩ = some (.slice pa pn pc) := (B2.out.cell (p := ⟨h.b, 2, none⟩) (World.block_lt_of_cell? w _ c2)).trans c2
    clear ox bx CL
    go_wp2_with fail
    refine hK1.out _ _ q1 ?_
    clear hK1
    refine held_tk 12 (some 16) rfl rfl ?_
    refine held_next (i := 13) (by kernel_rfl) rfl (by rfl) (fun K1 hK1 => ?_)
    go_simp
    obtain ⟨u6, hu6⟩ : ∃ u6, Hid ((w2.alloc (.cells #[.int .i64 0, .slice xa (dn - n) xc] 266)) = u6) := ⟨_, rfl⟩
    have NC : Hid (∀ j u, (puV (0, (xa, dn - n, xc)))[j]? = some u → u6.cell? ((⟨w2.heap.size, 0, none⟩ : Addr).add j) = some u) := by rw [← hu6.out]; exact pu_cells w2 0 (0, (xa, dn - n, xc)) _ rfl
    have B6 : Hid (Below w2.heap.size w2 u6) := by rw [← hu6.out]; exact bel_al (Below.refl _ _) (Nat.le_refl _) _
    rw [hu6.out]
    have B7 : Hid (Below w.heap.size w u6) := bel_to B2.out (Nat.le_refl _) B6.out
    have r1 : u6.cell? ⟨h.b, 1, none⟩ = some (.slice da dn dc) := (B7.out.cell (p := ⟨h.b, 1, none⟩) (World.block_lt_of_cell? w _ c1)).trans c1
    have r2 : u6.cell? ⟨h.b, 2, none⟩ = some (.slice pa pn pc) := (B7.out.cell (p := ⟨h.b, 2, none⟩) (World.block_lt_of_cell? w _ c2)).trans c2
    refine hK1.out _ _ r1 ?_
    clear hK1
    refine held_next (i := 14) (by kernel_rfl) rfl (by rfl) (fun K1 hK1 => ?_)
    refine wp_append_lies _ (.tmp 8) (.tmp 17) 183 rfl 0 266 i1 (.agg #[.int .i64 0, .slice none 0 0]) 2 32 Tryz.underlying183 hi1 hz10 hz11 hz12 rfl (by decide) (.slice pa pn pc) pn (h.hp.flatMap puV) rfl (OwnG.below OP.out B7.out (Nat.le_refl _)) ⟨w2.heap.size, 0, none⟩ 1 1 (puV (0, (xa, dn - n, xc))) rfl rfl NC.out (puV_one1 _) (by omega) (by unfold maxLen; omega) (by omega) (Nat.zero_le _) _ rfl ?_
    intro gC cC wC oC grC atC ltC
    have GR : Hid (Ch (fun j => (h3V h.p).ownBlock = some j) w wC) := by rw [hp]; exact ((Ch.of_below B7.out).more (fun _ _ h => h.elim)).trans (Ch.grown grC)
    have OXC : Hid (OwnVb wC w.heap.size xa (dn - n) xc (b.drop n)) := OwnG.ch (OwnG.below OX.out B6.out (Nat.le_refl _)) (Ch.grown grC) (fun j hj e => by
      have h1 := (OwnG.cellsT OX.out j hj).2
      have h2 := (OwnG.cellsT OP.out j e).1.lt
      omega)
    have PC := hide (M.out.pushCut HB.out HN.out (x := (xa, dn - n, xc)) (P := pn) (g' := gC) (c' := cC) GR.out (OwnG.mono OXC.out (Nat.zero_le _)) (fun j hj => (OwnG.cellsT OXC.out j hj).2) (by
      show OwnG _ _ _ _ _ _ _ _ _
      unfold OwnG
      rw [List.flatMap_append, flat_pu]
      exact oC) (by
      rw [hp]
      rcases atC with e | e
      · exact Or.inl e
      · exact Or.inr (by rw [e]; exact B7.out.size)))
    have FB : wC.heap[h.b]? = some (.cells #[.int .i64 (k : Int), .slice da dn dc, .slice pa pn pc] 185 (0, 0)) := by
      have e := (GR.out.block h.b (M.out.lt (Or.inl rfl)) (fun e => (OwnG.cellsT M.out.pend h.b e).1.ne M.out.cells (by decide) rfl)).trans M.out.str
      rw [hd, hp] at e
      exact e
    have z1 : wC.cell? ⟨h.b, 1, none⟩ = some (.slice da dn dc) := by rw [cell_of_row wC h.b 1 _ _ (0, 0) FB]; rfl
    have z2 : wC.cell? ⟨h.b, 2, none⟩ = some (.slice pa pn pc) := by rw [cell_of_row wC h.b 2 _ _ (0, 0) FB]; rfl
    have z3 := frozen_of_row wC h.b 2 _ _ FB
    clear oC grC atC ltC OXC NC B6 B7 OX B2 GR OP FB hu6 M HB HN r1 r2 q1 q2 c1 c2
    go_simp
    refine hK1.out _ _ z1 ?_
    clear hK1
    refine held_tk 15 (some 19) rfl rfl ?_
    refine held_tk 16 (some 20) rfl rfl ?_
    refine held_next (i := 17) (by kernel_rfl) rfl (by rfl) (fun K1 hK1 => ?_)
    obtain ⟨W3, hW3⟩ : ∃ W3, Hid (wC.setCell ⟨h.b, 2, none⟩ (.slice (some ⟨gC, 0, none⟩) (pn + 1) cC) = W3) := ⟨_, rfl⟩
    rw [hW3.out] at PC
    have v1 : W3.cell? ⟨h.b, 1, none⟩ = some (.slice da dn dc) := by
      have := PC.out.1.c1
      dsimp only at this
      rw [hd] at this
      exact this
    have v2 : W3.frozen? ⟨h.b, 1, none⟩ = false := PC.out.1.fz 1
    have FIN : Hid (StepP w (W3.setCell ⟨h.b, 1, none⟩ (.slice da n dc)) h k (b.take n) su (us ++ [⟨0, true, (n : Int)⟩])) := by
      obtain ⟨m1, s1, k1⟩ := PC.out
      have od := m1.data
      dsimp only at od
      rw [hd] at od
      have hob : (h3V (da, n, dc)).ownBlock = (h3V h.d).ownBlock := by rw [hd]; cases da <;> rfl
      have m2 := m1.putData (u := W3) (Ch.refl _ _) (d' := (da, n, dc)) (OTK.out _ od) (fun j hj => Or.inl (by dsimp only; rw [← hob]; exact hj))
      refine stepP_join (h1 := { h with p := (some ⟨gC, 0, none⟩, pn + 1, cC), ps := h.ps ++ [(0, b.drop n)], hp := h.hp ++ [(0, (xa, dn - n, xc))] }) rfl s1 k1 ⟨{ h with d := (da, n, dc), p := (some ⟨gC, 0, none⟩, pn + 1, cC), ps := h.ps ++ [(0, b.drop n)], hp := h.hp ++ [(0, (xa, dn - n, xc))] }, rfl, m2, fun j hj => ?_, (ch_set W3 h.b 1 _).more (fun j _ e => Or.inl e)⟩
      rcases hj with e | e | e | e
      · exact Or.inl (Or.inl e)
      · exact Or.inl (Or.inr (Or.inl (by dsimp only at e ⊢; rw [← hob]; exact e)))
      · exact Or.inl (Or.inr (Or.inr (Or.inl e)))
      · exact Or.inl (Or.inr (Or.inr (Or.inr e)))
    clear PC OTK OD
    go_simp
    rw [hW3.out]
    refine hK1.out _ _ v1 ?_
    clear hK1 hHeld hW3 z1 z2 z3
    refine wpAnyH_done (by kernel_rfl) ?_ _
    go_wp2
    go_end0
    exact ⟨rfl, FIN.out⟩
  · go_simp
    with_reducible refine (CL.out _ (Below.refl _ _).drew).mono ?_
    rintro e w2 ⟨xa, xc, rfl, ox, bx⟩
    have B2 : Hid (Below w.heap.size w w2) := bel_to (Below.refl _ _).drew (Nat.le_refl _) bx
    have OX : Hid (OwnVb w2 w.heap.size xa (dn - n) xc (b.drop n)) := ox
    have q1 : w2.cell? ⟨h.b, 1, none⟩ = some (.slice da dn dc) := (B2.out.cell (p := ⟨h.b, 1, none⟩) (World.block_lt_of_cell? w _ c1)).trans c1
    have q2 : w2.cell? ⟨h.b, 2, none⟩ = some (.slice pa pn pc) := (B2.out.cell (p := ⟨h.b, 2, none⟩) (World.block_lt_of_cell? w _ c2)).trans c2
    clear ox bx CL
    go_wp2_with fail
    refine hK1.out _ _ q1 ?_
    clear hK1
    refine held_tk 12 (some 16) rfl rfl ?_
    refine held_pair (i := 4) (j := 13) (by kernel_rfl) rfl (by rfl) rfl (by rfl) (fun K1 hK1 => ?_) (fun K1 hK1 => ?_)
    · go_simp
      refine hK1.out _ _ q1 ?_
      clear hK1
      refine held_next (i := 13) (by kernel_rfl) rfl (by rfl) (fun K1 hK1 => ?_)
      go_simp
      obtain ⟨u6, hu6⟩ : ∃ u6, Hid ((w2.alloc (.cells #[.int .i64 0, .slice xa (dn - n) xc] 266)) = u6) := ⟨_, rfl⟩
      have NC : Hid (∀ j u, (puV (0, (xa, dn - n, xc)))[j]? = some u → u6.cell? ((⟨w2.heap.size, 0, none⟩ : Addr).add j) = some u) := by rw [← hu6.out]; exact pu_cells w2 0 (0, (xa, dn - n, xc)) _ rfl
      have B6 : Hid (Below w2.heap.size w2 u6) := by rw [← hu6.out]; exact bel_al (Below.refl _ _) (Nat.le_refl _) _
      rw [hu6.out]
      have B7 : Hid (Below w.heap.size w u6) := bel_to B2.out (Nat.le_refl _) B6.out
      have r1 : u6.cell? ⟨h.b, 1, none⟩ = some (.slice da dn dc) := (B7.out.cell (p := ⟨h.b, 1, none⟩) (World.block_lt_of_cell? w _ c1)).trans c1
      have r2 : u6.cell? ⟨h.b, 2, none⟩ = some (.slice pa pn pc) := (B7.out.cell (p := ⟨h.b, 2, none⟩) (World.block_lt_of_cell? w _ c2)).trans c2
      refine hK1.out _ _ r1 ?_
      clear hK1
      refine held_next (i := 14) (by kernel_rfl) rfl (by rfl) (fun K1 hK1 => ?_)
      refine wp_append_lies _ (.tmp 8) (.tmp 17) 183 rfl 0 266 i1 (.agg #[.int .i64 0, .slice none 0 0]) 2 32 Tryz.underlying183 hi1 hz10 hz11 hz12 rfl (by decide) (.slice pa pn pc) pn (h.hp.flatMap puV) rfl (OwnG.below OP.out B7.out (Nat.le_refl _)) ⟨w2.heap.size, 0, none⟩ 1 1 (puV (0, (xa, dn - n, xc))) rfl rfl NC.out (puV_one1 _) (by omega) (by unfold maxLen; omega) (by omega) (Nat.zero_le _) _ rfl ?_
      intro gC cC wC oC grC atC ltC
      have GR : Hid (Ch (fun j => (h3V h.p).ownBlock = some j) w wC) := by rw [hp]; exact ((Ch.of_below B7.out).more (fun _ _ h => h.elim)).trans (Ch.grown grC)
      have OXC : Hid (OwnVb wC w.heap.size xa (dn - n) xc (b.drop n)) := OwnG.ch (OwnG.below OX.out B6.out (Nat.le_refl _)) (Ch.grown grC) (fun j hj e => by
        have h1 := (OwnG.cellsT OX.out j hj).2
        have h2 := (OwnG.cellsT OP.out j e).1.lt
        omega)
      have PC := hide (M.out.pushCut HB.out HN.out (x := (xa, dn - n, xc)) (P := pn) (g' := gC) (c' := cC) GR.out (OwnG.mono OXC.out (Nat.zero_le _)) (fun j hj => (OwnG.cellsT OXC.out j hj).2) (by
        show OwnG _ _ _ _ _ _ _ _ _
        unfold OwnG
        rw [List.flatMap_append, flat_pu]
        exact oC) (by
        rw [hp]
        rcases atC with e | e
        · exact Or.inl e
        · exact Or.inr (by rw [e]; exact B7.out.size)))
      have FB : wC.heap[h.b]? = some (.cells #[.int .i64 (k : Int), .slice da dn dc, .slice pa pn pc] 185 (0, 0)) := by
        have e := (GR.out.block h.b (M.out.lt (Or.inl rfl)) (fun e => (OwnG.cellsT M.out.pend h.b e).1.ne M.out.cells (by decide) rfl)).trans M.out.str
        rw [hd, hp] at e
        exact e
      have z1 : wC.cell? ⟨h.b, 1, none⟩ = some (.slice da dn dc) := by rw [cell_of_row wC h.b 1 _ _ (0, 0) FB]; rfl
      have z2 : wC.cell? ⟨h.b, 2, none⟩ = some (.slice pa pn pc) := by rw [cell_of_row wC h.b 2 _ _ (0, 0) FB]; rfl
      have z3 := frozen_of_row wC h.b 2 _ _ FB
      clear oC grC atC ltC OXC NC B6 B7 OX B2 GR OP FB hu6 M HB HN r1 r2 q1 q2 c1 c2
      go_simp
      refine hK1.out _ _ z1 ?_
      clear hK1
      refine held_tk 15 (some 19) rfl rfl ?_
      refine held_tk 16 (some 20) rfl rfl ?_
      refine held_next (i := 17) (by kernel_rfl) rfl (by rfl) (fun K1 hK1 => ?_)
      obtain ⟨W3, hW3⟩ : ∃ W3, Hid (wC.setCell ⟨h.b, 2, none⟩ (.slice (some ⟨gC, 0, none⟩) (pn + 1) cC) = W3) := ⟨_, rfl⟩
      rw [hW3.out] at PC
      have v1 : W3.cell? ⟨h.b, 1, none⟩ = some (.slice da dn dc) := by
        have := PC.out.1.c1
        dsimp only at this
        rw [hd] at this
        exact this
      have v2 : W3.frozen? ⟨h.b, 1, none⟩ = false := PC.out.1.fz 1
      have FIN : Hid (StepP w (W3.setCell ⟨h.b, 1, none⟩ (.slice da n dc)) h k (b.take n) su (us ++ [⟨0, true, (n : Int)⟩])) := by
        obtain ⟨m1, s1, k1⟩ := PC.out
        have od := m1.data
        dsimp only at od
        rw [hd] at od
        have hob : (h3V (da, n, dc)).ownBlock = (h3V h.d).ownBlock := by rw [hd]; cases da <;> rfl
        have m2 := m1.putData (u := W3) (Ch.refl _ _) (d' := (da, n, dc)) (OTK.out _ od) (fun j hj => Or.inl (by dsimp only; rw [← hob]; exact hj))
        refine stepP_join (h1 := { h with p := (some ⟨gC, 0, none⟩, pn + 1, cC), ps := h.ps ++ [(0, b.drop n)], hp := h.hp ++ [(0, (xa, dn - n, xc))] }) rfl s1 k1 ⟨{ h with d := (da, n, dc), p := (some ⟨gC, 0, none⟩, pn + 1, cC), ps := h.ps ++ [(0, b.drop n)], hp := h.hp ++ [(0, (xa, dn - n, xc))] }, rfl, m2, fun j hj => ?_, (ch_set W3 h.b 1 _).more (fun j _ e => Or.inl e)⟩
        rcases hj with e | e | e | e
        · exact Or.inl (Or.inl e)
        · exact Or.inl (Or.inr (Or.inl (by dsimp only at e ⊢; rw [← hob]; exact e)))
        · exact Or.inl (Or.inr (Or.inr (Or.inl e)))
        · exact Or.inl (Or.inr (Or.inr (Or.inr e)))
      clear PC OTK OD
      go_simp
      rw [hW3.out]
      refine hK1.out _ _ v1 ?_
      clear hK1 hHeld hW3 z1 z2 z3
      refine wpAnyH_done (by kernel_rfl) ?_ _
      go_wp2
      go_end0
      exact ⟨rfl, FIN.out⟩
    · go_simp
      obtain ⟨u6, hu6⟩ : ∃ u6, Hid ((w2.alloc (.cells #[.int .i64 0, .slice xa (dn - n) xc] 266)) = u6) := ⟨_, rfl⟩
      have NC : Hid (∀ j u, (puV (0, (xa, dn - n, xc)))[j]? = some u → u6.cell? ((⟨w2.heap.size, 0, none⟩ : Addr).add j) = some u) := by rw [← hu6.out]; exact pu_cells w2 0 (0, (xa, dn - n, xc)) _ rfl
      have B6 : Hid (Below w2.heap.size w2 u6) := by rw [← hu6.out]; exact bel_al (Below.refl _ _) (Nat.le_refl _) _
      rw [hu6.out]
      have B7 : Hid (Below w.heap.size w u6) := bel_to B2.out (Nat.le_refl _) B6.out
      have r1 : u6.cell? ⟨h.b, 1, none⟩ = some (.slice da dn dc) := (B7.out.cell (p := ⟨h.b, 1, none⟩) (World.block_lt_of_cell? w _ c1)).trans c1
      have r2 : u6.cell? ⟨h.b, 2, none⟩ = some (.slice pa pn pc) := (B7.out.cell (p := ⟨h.b, 2, none⟩) (World.block_lt_of_cell? w _ c2)).trans c2
      refine hK1.out _ _ r1 ?_
      clear hK1
      refine held_next (i := 4) (by kernel_rfl) rfl (by rfl) (fun K1 hK1 => ?_)
      go_simp
      refine hK1.out _ _ r1 ?_
      clear hK1
      refine held_next (i := 14) (by kernel_rfl) rfl (by rfl) (fun K1 hK1 => ?_)
      refine wp_append_lies _ (.tmp 8) (.tmp 17) 183 rfl 0 266 i1 (.agg #[.int .i64 0, .slice none 0 0]) 2 32 Tryz.underlying183 hi1 hz10 hz11 hz12 rfl (by decide) (.slice pa pn pc) pn (h.hp.flatMap puV) rfl (OwnG.below OP.out B7.out (Nat.le_refl _)) ⟨w2.heap.size, 0, none⟩ 1 1 (puV (0, (xa, dn - n, xc))) rfl rfl NC.out (puV_one1 _) (by omega) (by unfold maxLen; omega) (by omega) (Nat.zero_le _) _ rfl ?_
      intro gC cC wC oC grC atC ltC
      have GR : Hid (Ch (fun j => (h3V h.p).ownBlock = some j) w wC) := by rw [hp]; exact ((Ch.of_below B7.out).more (fun _ _ h => h.elim)).trans (Ch.grown grC)
      have OXC : Hid (OwnVb wC w.heap.size xa (dn - n) xc (b.drop n)) := OwnG.ch (OwnG.below OX.out B6.out (Nat.le_refl _)) (Ch.grown grC) (fun j hj e => by
        have h1 := (OwnG.cellsT OX.out j hj).2
        have h2 := (OwnG.cellsT OP.out j e).1.lt
        omega)
      have PC := hide (M.out.pushCut HB.out HN.out (x := (xa, dn - n, xc)) (P := pn) (g' := gC) (c' := cC) GR.out (OwnG.mono OXC.out (Nat.zero_le _)) (fun j hj => (OwnG.cellsT OXC.out j hj).2) (by
        show OwnG _ _ _ _ _ _ _ _ _
        unfold OwnG
        rw [List.flatMap_append, flat_pu]
        exact oC) (by
        rw [hp]
        rcases atC with e | e
        · exact Or.inl e
        · exact Or.inr (by rw [e]; exact B7.out.size)))
      have FB : wC.heap[h.b]? = some (.cells #[.int .i64 (k : Int), .slice da dn dc, .slice pa pn pc] 185 (0, 0)) := by
        have e := (GR.out.block h.b (M.out.lt (Or.inl rfl)) (fun e => (OwnG.cellsT M.out.pend h.b e).1.ne M.out.cells (by decide) rfl)).trans M.out.str
        rw [hd, hp] at e
        exact e
      have z1 : wC.cell? ⟨h.b, 1, none⟩ = some (.slice da dn dc) := by rw [cell_of_row wC h.b 1 _ _ (0, 0) FB]; rfl
      have z2 : wC.cell? ⟨h.b, 2, none⟩ = some (.slice pa pn pc) := by rw [cell_of_row wC h.b 2 _ _ (0, 0) FB]; rfl
      have z3 := frozen_of_row wC h.b 2 _ _ FB
      clear oC grC atC ltC OXC NC B6 B7 OX B2 GR OP FB hu6 M HB HN r1 r2 q1 q2 c1 c2
      go_simp
      refine hK1.out _ _ z1 ?_
      clear hK1
      refine held_tk 15 (some 19) rfl rfl ?_
      refine held_tk 16 (some 20) rfl rfl ?_
      refine held_next (i := 17) (by kernel_rfl) rfl (by rfl) (fun K1 hK1 => ?_)
      obtain ⟨W3, hW3⟩ : ∃ W3, Hid (wC.setCell ⟨h.b, 2, none⟩ (.slice (some ⟨gC, 0, none⟩) (pn + 1) cC) = W3) := ⟨_, rfl⟩
      rw [hW3.out] at PC
      have v1 : W3.cell? ⟨h.b, 1, none⟩ = some (.slice da dn dc) := by
        have := PC.out.1.c1
        dsimp only at this
        rw [hd] at this
        exact this
      have v2 : W3.frozen? ⟨h.b, 1, none⟩ = false := PC.out.1.fz 1
      have FIN : Hid (StepP w (W3.setCell ⟨h.b, 1, none⟩ (.slice da n dc)) h k (b.take n) su (us ++ [⟨0, true, (n : Int)⟩])) := by
        obtain ⟨m1, s1, k1⟩ := PC.out
        have od := m1.data
        dsimp only at od
        rw [hd] at od
        have hob : (h3V (da, n, dc)).ownBlock = (h3V h.d).ownBlock := by rw [hd]; cases da <;> rfl
        have m2 := m1.putData (u := W3) (Ch.refl _ _) (d' := (da, n, dc)) (OTK.out _ od) (fun j hj => Or.inl (by dsimp only; rw [← hob]; exact hj))
        refine stepP_join (h1 := { h with p := (some ⟨gC, 0, none⟩, pn + 1, cC), ps := h.ps ++ [(0, b.drop n)], hp := h.hp ++ [(0, (xa, dn - n, xc))] }) rfl s1 k1 ⟨{ h with d := (da, n, dc), p := (some ⟨gC, 0, none⟩, pn + 1, cC), ps := h.ps ++ [(0, b.drop n)], hp := h.hp ++ [(0, (xa, dn - n, xc))] }, rfl, m2, fun j hj => ?_, (ch_set W3 h.b 1 _).more (fun j _ e => Or.inl e)⟩
        rcases hj with e | e | e | e
        · exact Or.inl (Or.inl e)
        · exact Or.inl (Or.inr (Or.inl (by dsimp only at e ⊢; rw [← hob]; exact e)))
        · exact Or.inl (Or.inr (Or.inr (Or.inl e)))
        · exact Or.inl (Or.inr (Or.inr (Or.inr e)))
      clear PC OTK OD
      go_simp
      rw [hW3.out]
      refine hK1.out _ _ v1 ?_
      clear hK1 hHeld hW3 z1 z2 z3
      refine wpAnyH_done (by kernel_rfl) ?_ _
      go_wp2
      go_end0
      exact ⟨rfl, FIN.out⟩
theorem stepL_below {w w' : World} {g : Nat} {S : Nat → Prop} {F : Fs} (h : LAt w' g S F) (b : Below w.heap.size w w') : StepV LAt w w' g S F := ⟨S, h, fun _ hk => Or.inl hk, (Ch.of_below b).more (fun _ _ h => h.elim)⟩
/-- First the struct alone, then a step. -/
theorem stepL_after {w w0 w' : World} {g : Nat} {S : Nat → Prop} {F : Fs} (h : Ch S w w0) (k : StepV LAt w0 w' g S F) : StepV LAt w w' g S F := by
  obtain ⟨S', q1, q2, q3⟩ := k
  refine ⟨S', q1, fun j hj => ?_, h.trans q3⟩
  rcases q2 j hj with e | e
  · exact Or.inl e
  · exact Or.inr (Nat.le_trans h.size e)
/-- A file's step is the file system's. -/
theorem stepV_file {w w' : World} {g : Nat} {S : Nat → Prop} {G : Fs} {fb : List Nat} {fh : List Fh} {bn bc : Nat} {at' : Option Addr} {ct : Nat} (B : LB w g S G fb fh bn bc at' ct) (GN : GoodN G) {k : Nat} {h : Fh} (hk : fh[k]? = some h) {x : Fi} (GV : GoodV { G with files := G.files.set k x }) (st : StepL w w' h k x) : StepV LAt w w' g S { G with files := G.files.set k x } := by
  obtain ⟨h', eb, m', q, c⟩ := st
  refine ⟨_, ⟨GV, GN.like rfl rfl, fb, fh.set k h', bn, bc, at', ct, B.step hk eb m' q c⟩, fun j hj => ?_, c.more (fun j _ e => B.filesS k h j hk e)⟩
  rcases hj with e | e
  · exact Or.inl e
  · exact Or.inr e.1
theorem bytF_more (x : Fi) (zs : List Int) : bytF ⟨x.sure, x.us ++ moreU zs⟩ = bytF x ++ zs := by unfold bytF; rw [unsB_app, unsB_more]
theorem bytF_cut (x : Fi) (n : Nat) : bytF ⟨x.sure, x.us ++ [⟨0, true, (n : Int)⟩]⟩ = (bytF x).take n := by
  unfold bytF
  dsimp only
  have e : ∀ b : List Int, unsB b [⟨0, true, (n : Int)⟩] = b.take n := fun b => by unfold unsB unB; simp
  rw [unsB_app, e]
theorem bytF_byte {G : Fs} (h : GoodV G) {k : Nat} (hk : k < G.files.length) : ∀ z ∈ bytF (atF G k), 0 ≤ z ∧ z ≤ 255 := unsB_byte (h.byte _ (atF_mem hk)).1 (h.byte _ (atF_mem hk)).2
theorem bytF_len {G : Fs} {m : Nat} (h : Lim m G) {k : Nat} (hk : k < G.files.length) : (bytF (atF G k)).length ≤ 2 * m ∧ (atF G k).us.length ≤ m := by
  have h1 := unsB_len (atF G k).us (atF G k).sure
  have h2 := h.each _ (atF_mem hk)
  unfold bytF
  omega
theorem lfC_no8 (F : Fs) (bn bc : Nat) (at' : Option Addr) (ct i : Nat) (z : Int) : ¬ (lfC F bn bc at' ct)[i]? = some (.int .u8 z) := by
  intro h
  match i, h with
  | 0, h => simp [lfC] at h
  | 1, h => simp [lfC] at h
  | 2, h => simp [lfC] at h
  | 3, h => simp [lfC] at h
  | 4, h => simp [lfC] at h
  | 5, h => simp [lfC] at h
  | 6, h => simp [lfC] at h
  | 7, h => simp [lfC] at h
  | 8, h => simp [lfC] at h
  | i + 9, h => simp [lfC] at h
/-- An Append that does not fail. -/
def addF (G : Fs) (s : ByteArray) (b : List Int) : Fs × Int := if mayN s = false then (G, 1) else match fileF G s with
  | none => (G, 3)
  | some k => if 1073741824 < (bytF (atF G k)).length + b.length then (G, 2) else (moreF G k (moreU b), 0)
theorem fileF_may {G : Fs} (h : GoodN G) {s : ByteArray} {k : Nat} (hk : fileF G s = some k) : mayN s = true := h.dir.may _ (fileD_mem hk)

set_option maxHeartbeats 8000000 in
theorem vput_any (g : Nat) (S : Nat → Prop) (G : Fs) (s : ByteArray) (a : Option Addr) (n c : Nat) (zs : List Int) (m : Nat) (w : World) (hF : LAt w g S G) (hL : Lim m G) (hm : m ≤ 1073741825) (hs : s.size ≤ 9223372036854775807) (hr : Row .u8 w a n zs) (hn : n ≤ 4294967296) :
    Calls Tryz.prog 174 #[.pointer (some ⟨g, 0, none⟩), .string s, .slice a n c] w fun e w' => e = .returned (.int .i64 (addF G s zs).2) ∧ StepV LAt w w' g S (addF G s zs).1 := by
  have HF := hide hF
  obtain ⟨hV, hN, fb, fh, bn, bc, at', ct, B⟩ := hF
  have FI := hide (lfind_any w g S G fb fh bn bc at' ct s B hs)
  have HP : Hid (∀ (x : Fs × Int) (u : World), addF G s zs = x → StepV LAt w u g S x.1 → (Ending.returned (.int .i64 x.2) = .returned (.int .i64 (addF G s zs).2) ∧ StepV LAt w u g S (addF G s zs).1)) := fun x u e hu => by
    rw [e]
    exact ⟨rfl, hu⟩
  cases hm1 : mayN s with
  | false =>
    have HE : Hid (addF G s zs = (G, 1)) := by show _ = _; unfold addF; rw [if_pos hm1]
    have H1 := hide (HP.out _ w HE.out (stepL_below HF.out (Below.refl _ _)))
    rw [show findV fb G s = .tuple #[.pointer none, .int .i64 1] by unfold findV; rw [if_pos hm1]] at FI
    clear B hV hN hL hr HF HP HE
    go_enter Tryz.func174, Tryz.ntmps174
    go_wp2_with fail
    with_reducible refine FI.out.mono ?_
    rintro e u ⟨rfl, hu⟩
    rw [hu]
    clear hu
    go_wp2
    go_ret
    exact H1.out
  | true =>
    have hm2 : ¬ mayN s = false := by rw [hm1]; simp
    cases hf : fileF G s with
    | none =>
      have HE : Hid (addF G s zs = (G, 3)) := by show _ = _; unfold addF; rw [if_neg hm2, hf]
      have H1 := hide (HP.out _ w HE.out (stepL_below HF.out (Below.refl _ _)))
      rw [show findV fb G s = .tuple #[.pointer none, .int .i64 3] by unfold findV; rw [if_neg hm2, hf]] at FI
      clear B hV hN hL hr HF HP HE
      go_enter Tryz.func174, Tryz.ntmps174
      go_wp2_with fail
      with_reducible refine FI.out.mono ?_
      rintro e u ⟨rfl, hu⟩
      rw [hu]
      clear hu
      go_wp2
      go_ret
      exact H1.out
    | some k =>
      have hk := hV.file hf
      obtain ⟨h, hh, mh, eb⟩ := B.fileAt hk
      rw [show findV fb G s = .tuple #[.pointer (some ⟨h.b, 0, none⟩), .int .i64 0] by unfold findV; rw [if_neg hm2, hf]; unfold ptrV; dsimp only; rw [eb]] at FI
      have hdl := OwnG.len byV_len (by decide) mh.data
      obtain ⟨hbl, hul⟩ := bytF_len hL hk
      have GR := hide (vgrow_any w h k _ _ _ mh a n c zs hr (by omega) hn (by omega))
      have hz := hr.1
      have c1 := mh.c1
      obtain ⟨da, dn, dc, hd⟩ : ∃ da dn dc, h.d = (da, dn, dc) := ⟨_, _, _, rfl⟩
      rw [hd] at c1 hdl
      dsimp only at c1 hdl
      by_cases hfull : 1073741824 < (bytF (atF G k)).length + zs.length
      · have HE : Hid (addF G s zs = (G, 2)) := by show _ = _; unfold addF; rw [if_neg hm2, hf]; dsimp only; rw [if_pos hfull]
        have H1 := hide (HP.out _ w HE.out (stepL_below HF.out (Below.refl _ _)))
        rw [hdl, hz] at hfull
        have w1 : IntKind.i64.wrap (1073741824 - (dn : Int)) = 1073741824 - (dn : Int) := by rw [IntKind.wrap_i64]; omega
        have d1 : decide ((1073741824 : Int) - (dn : Int) < (n : Int)) = true := decide_eq_true (by omega)
        have d2 : (1073741824 : Int) - (dn : Int) < (n : Int) := by omega
        obtain ⟨hb, hhb⟩ : ∃ hb, h.b = hb := ⟨_, rfl⟩
        rw [hhb] at c1 FI
        clear B hV hN hL hr HF HP HE mh GR hd hh
        go_enter Tryz.func174, Tryz.ntmps174
        go_wp2_with fail
        with_reducible refine FI.out.mono ?_
        rintro e u ⟨rfl, hu⟩
        rw [hu]
        clear hu
        go_wp2
        go_ret
        exact H1.out
      · have HE : Hid (addF G s zs = (moreF G k (moreU zs), 0)) := by show _ = _; unfold addF; rw [if_neg hm2, hf]; dsimp only; rw [if_neg hfull]
        have GVX := hV.mores hk (us := moreU zs) (fun u hu => by
          unfold moreU at hu
          obtain ⟨z, hz1, rfl⟩ := List.mem_map.1 hu
          exact hr.bytes z hz1) (okUs_more _ _)
        have FIN : Hid (∀ u, StepP w u h k (bytF (atF G k) ++ zs) (atF G k).sure ((atF G k).us ++ moreU zs) → (Ending.returned (.int .i64 0) = .returned (.int .i64 (addF G s zs).2) ∧ StepV LAt w u g S (addF G s zs).1)) := fun u hu => by
          refine HP.out _ u HE.out (stepV_file B hN hh GVX ?_)
          show StepP _ _ _ _ (bytF ⟨(atF G k).sure, (atF G k).us ++ moreU zs⟩) _ _
          rw [bytF_more]
          exact hu
        rw [hdl, hz] at hfull
        have w1 : IntKind.i64.wrap (1073741824 - (dn : Int)) = 1073741824 - (dn : Int) := by rw [IntKind.wrap_i64]; omega
        have d1 : decide ((1073741824 : Int) - (dn : Int) < (n : Int)) = false := decide_eq_false (by omega)
        have d2 : ¬ (1073741824 : Int) - (dn : Int) < (n : Int) := by omega
        obtain ⟨hb, hhb⟩ : ∃ hb, h.b = hb := ⟨_, rfl⟩
        rw [hhb] at c1 FI GR
        clear B hV hN hL hr HF HP HE mh hd hh GVX
        go_enter Tryz.func174, Tryz.ntmps174
        go_wp2_with fail
        with_reducible refine FI.out.mono ?_
        rintro e u ⟨rfl, hu⟩
        rw [hu]
        clear hu
        go_wp2_with fail
        with_reducible refine GR.out.mono ?_
        rintro e u2 ⟨rfl, st⟩
        have H1 := hide (FIN.out u2 st)
        clear st FIN GR
        go_wp2
        go_ret
        exact H1.out

set_option maxHeartbeats 8000000 in
theorem lsync_any (g : Nat) (S : Nat → Prop) (F : Fs) (s : ByteArray) (m : Nat) (w : World) (hF : LAt w g S F) (hL : Lim m F) (hm : m < 1073741824) (hs : s.size ≤ 9223372036854775807) :
    Calls Tryz.prog 74 #[.pointer (some ⟨g, 0, none⟩), .string s] w fun e w' => e = .returned (.int .i64 (syncF F s).2) ∧ StepV LAt w w' g S (syncF F s).1 := by
  obtain ⟨hV, hN, fb, fh, bn, bc, at', ct, B⟩ := hF
  have CA := hide (vbegin_any w g S F fb fh bn bc at' ct m B hV hL (by omega))
  have LC := hide hL.call'
  have GV := hide hV.call
  have GN := hide hN.call
  have HG := hide B.own
  rcases hq : callF F with ⟨G, o⟩
  rw [hq] at CA LC GV GN
  dsimp only at CA LC GV GN
  have LA : Hid (∀ u, LB u g S G fb fh bn bc at' ct → LAt u g S G) := fun u hu => ⟨GV.out, GN.out, fb, fh, bn, bc, at', ct, hu⟩
  have HP : Hid (∀ (x : Fs × Int) (u : World), syncF F s = x → StepV LAt w u g S x.1 → (Ending.returned (.int .i64 x.2) = .returned (.int .i64 (syncF F s).2) ∧ StepV LAt w u g S (syncF F s).1)) := fun x u e hu => by
    rw [e]
    exact ⟨rfl, hu⟩
  clear B hV hN hL
  cases o with
  | some e1 =>
    have ne := callF_err hq
    have HE : Hid (syncF F s = (G, e1)) := by show _ = _; unfold syncF; rw [hq]
    clear hq
    rw [Option.getD_some] at CA
    go_enter Tryz.func74, Tryz.ntmps74
    go_wp2_with fail
    with_reducible refine CA.out.mono ?_
    rintro e u1 ⟨rfl, h1, k1⟩
    have H1 := hide (HP.out _ _ HE.out (stepL_same (LA.out _ h1) k1 HG.out))
    clear h1 k1 CA HP
    go_wp2
    go_ret
    exact H1.out
  | none =>
    rw [Option.getD_none] at CA
    cases hm1 : mayN s with
    | false =>
      have HE : Hid (syncF F s = (G, 1)) := by show _ = _; unfold syncF; rw [hq]; dsimp only; rw [if_pos hm1]
      have hfv : findV fb G s = .tuple #[.pointer none, .int .i64 1] := by unfold findV; rw [if_pos hm1]
      clear hq
      go_enter Tryz.func74, Tryz.ntmps74
      go_wp2_with fail
      with_reducible refine CA.out.mono ?_
      rintro e u1 ⟨rfl, h1, k1⟩
      have H1 := hide (HP.out _ _ HE.out (stepL_same (LA.out _ h1) k1 HG.out))
      have FI := hide (lfind_any u1 g S G fb fh bn bc at' ct s h1 hs)
      rw [hfv] at FI
      clear h1 k1 CA HP HE
      go_wp2_with fail
      with_reducible refine FI.out.mono ?_
      rintro e u ⟨rfl, hu⟩
      rw [hu]
      clear hu
      go_wp2
      go_ret
      exact H1.out
    | true =>
      have hm2 : ¬ mayN s = false := by rw [hm1]; simp
      cases hf : fileF G s with
      | none =>
        have HE : Hid (syncF F s = (G, 3)) := by show _ = _; unfold syncF; rw [hq]; dsimp only; rw [if_neg hm2, hf]
        have hfv : findV fb G s = .tuple #[.pointer none, .int .i64 3] := by unfold findV; rw [if_neg hm2, hf]
        clear hq
        go_enter Tryz.func74, Tryz.ntmps74
        go_wp2_with fail
        with_reducible refine CA.out.mono ?_
        rintro e u1 ⟨rfl, h1, k1⟩
        have H1 := hide (HP.out _ _ HE.out (stepL_same (LA.out _ h1) k1 HG.out))
        have FI := hide (lfind_any u1 g S G fb fh bn bc at' ct s h1 hs)
        rw [hfv] at FI
        clear h1 k1 CA HP HE
        go_wp2_with fail
        with_reducible refine FI.out.mono ?_
        rintro e u ⟨rfl, hu⟩
        rw [hu]
        clear hu
        go_wp2
        go_ret
        exact H1.out
      | some k =>
        have hk := GV.out.file hf
        have HE : Hid (syncF F s = ({ G with files := G.files.set k ⟨bytF (atF G k), []⟩ }, 0)) := by show _ = _; unfold syncF; rw [hq]; dsimp only; rw [if_neg hm2, hf]
        clear hq
        go_enter Tryz.func74, Tryz.ntmps74
        go_wp2_with fail
        with_reducible refine CA.out.mono ?_
        rintro e u1 ⟨rfl, h1, k1⟩
        have FI := hide (lfind_any u1 g S G fb fh bn bc at' ct s h1 hs)
        obtain ⟨h, hh, mh, eb⟩ := h1.fileAt hk
        rw [show findV fb G s = .tuple #[.pointer (some ⟨h.b, 0, none⟩), .int .i64 0] by unfold findV; rw [if_neg hm2, hf]; unfold ptrV; dsimp only; rw [eb]] at FI
        have FS' := hide (fsync_any u1 h k _ _ _ mh)
        have FIN : Hid (∀ u, StepP u1 u h k (bytF (atF G k)) (bytF (atF G k)) [] → (Ending.returned (.int .i64 0) = .returned (.int .i64 (syncF F s).2) ∧ StepV LAt w u g S (syncF F s).1)) := fun u hu => by
          refine HP.out _ u HE.out (stepL_after (k1.more (fun j _ e => e ▸ HG.out)) (stepV_file h1 GN.out hh (GV.out.synced hk (bytF_byte GV.out hk)) hu))
        obtain ⟨hb, hhb⟩ : ∃ hb, h.b = hb := ⟨_, rfl⟩
        rw [hhb] at FI FS'
        clear h1 k1 CA HP HE mh hh
        go_wp2_with fail
        with_reducible refine FI.out.mono ?_
        rintro e u ⟨rfl, hu⟩
        rw [hu]
        clear hu
        go_wp2_with fail
        with_reducible refine FS'.out.mono ?_
        rintro e u2 ⟨rfl, st⟩
        have H1 := hide (FIN.out u2 st)
        clear st FIN FS'
        go_wp2
        go_ret
        exact H1.out

set_option maxHeartbeats 8000000 in
theorem lcut_any (g : Nat) (S : Nat → Prop) (F : Fs) (s : ByteArray) (z : Int) (m : Nat) (w : World) (hF : LAt w g S F) (hL : Lim m F) (hm : m < 1073741824) (hs : s.size ≤ 9223372036854775807) (hz : (Lit.int .i64 z).wf = true) :
    Calls Tryz.prog 153 #[.pointer (some ⟨g, 0, none⟩), .string s, .int .i64 z] w fun e w' => e = .returned (.int .i64 (cutF F s z).2) ∧ StepV LAt w w' g S (cutF F s z).1 := by
  obtain ⟨hV, hN, fb, fh, bn, bc, at', ct, B⟩ := hF
  have CA := hide (vbegin_any w g S F fb fh bn bc at' ct m B hV hL (by omega))
  have LC := hide hL.call'
  have GV := hide hV.call
  have GN := hide hN.call
  have HG := hide B.own
  rcases hq : callF F with ⟨G, o⟩
  rw [hq] at CA LC GV GN
  dsimp only at CA LC GV GN
  have LA : Hid (∀ u, LB u g S G fb fh bn bc at' ct → LAt u g S G) := fun u hu => ⟨GV.out, GN.out, fb, fh, bn, bc, at', ct, hu⟩
  have HP : Hid (∀ (x : Fs × Int) (u : World), cutF F s z = x → StepV LAt w u g S x.1 → (Ending.returned (.int .i64 x.2) = .returned (.int .i64 (cutF F s z).2) ∧ StepV LAt w u g S (cutF F s z).1)) := fun x u e hu => by
    rw [e]
    exact ⟨rfl, hu⟩
  clear B hV hN hL
  cases o with
  | some e1 =>
    have ne := callF_err hq
    have HE : Hid (cutF F s z = (G, e1)) := by show _ = _; unfold cutF; rw [hq]
    clear hq
    rw [Option.getD_some] at CA
    go_enter Tryz.func153, Tryz.ntmps153
    go_wp2_with fail
    with_reducible refine CA.out.mono ?_
    rintro e u1 ⟨rfl, h1, k1⟩
    have H1 := hide (HP.out _ _ HE.out (stepL_same (LA.out _ h1) k1 HG.out))
    clear h1 k1 CA HP
    go_wp2
    go_ret
    exact H1.out
  | none =>
    rw [Option.getD_none] at CA
    cases hm1 : mayN s with
    | false =>
      have HE : Hid (cutF F s z = (G, 1)) := by show _ = _; unfold cutF; rw [hq]; dsimp only; rw [if_pos hm1]
      have hfv : findV fb G s = .tuple #[.pointer none, .int .i64 1] := by unfold findV; rw [if_pos hm1]
      clear hq
      go_enter Tryz.func153, Tryz.ntmps153
      go_wp2_with fail
      with_reducible refine CA.out.mono ?_
      rintro e u1 ⟨rfl, h1, k1⟩
      have H1 := hide (HP.out _ _ HE.out (stepL_same (LA.out _ h1) k1 HG.out))
      have FI := hide (lfind_any u1 g S G fb fh bn bc at' ct s h1 hs)
      rw [hfv] at FI
      clear h1 k1 CA HP HE
      go_wp2_with fail
      with_reducible refine FI.out.mono ?_
      rintro e u ⟨rfl, hu⟩
      rw [hu]
      clear hu
      go_wp2
      go_ret
      exact H1.out
    | true =>
      have hm2 : ¬ mayN s = false := by rw [hm1]; simp
      cases hf : fileF G s with
      | none =>
        have HE : Hid (cutF F s z = (G, 3)) := by show _ = _; unfold cutF; rw [hq]; dsimp only; rw [if_neg hm2, hf]
        have hfv : findV fb G s = .tuple #[.pointer none, .int .i64 3] := by unfold findV; rw [if_neg hm2, hf]
        clear hq
        go_enter Tryz.func153, Tryz.ntmps153
        go_wp2_with fail
        with_reducible refine CA.out.mono ?_
        rintro e u1 ⟨rfl, h1, k1⟩
        have H1 := hide (HP.out _ _ HE.out (stepL_same (LA.out _ h1) k1 HG.out))
        have FI := hide (lfind_any u1 g S G fb fh bn bc at' ct s h1 hs)
        rw [hfv] at FI
        clear h1 k1 CA HP HE
        go_wp2_with fail
        with_reducible refine FI.out.mono ?_
        rintro e u ⟨rfl, hu⟩
        rw [hu]
        clear hu
        go_wp2
        go_ret
        exact H1.out
      | some k =>
        have hk := GV.out.file hf
        by_cases hbad : z < 0 ∨ ((bytF (atF G k)).length : Int) < z
        · have HE : Hid (cutF F s z = (G, 1)) := by show _ = _; unfold cutF; rw [hq]; dsimp only; rw [if_neg hm2, hf]; dsimp only; rw [if_pos hbad]
          clear hq
          by_cases hz0 : z < 0
          · have d1 : decide (z < 0) = true := decide_eq_true hz0
            go_enter Tryz.func153, Tryz.ntmps153
            go_wp2_with fail
            with_reducible refine CA.out.mono ?_
            rintro e u1 ⟨rfl, h1, k1⟩
            have FI := hide (lfind_any u1 g S G fb fh bn bc at' ct s h1 hs)
            obtain ⟨h, hh, mh, eb⟩ := h1.fileAt hk
            rw [show findV fb G s = .tuple #[.pointer (some ⟨h.b, 0, none⟩), .int .i64 0] by unfold findV; rw [if_neg hm2, hf]; unfold ptrV; dsimp only; rw [eb]] at FI
            have c1 := mh.c1
            have hdl := OwnG.len byV_len (by decide) mh.data
            obtain ⟨hbl, hul⟩ := bytF_len LC.out hk
            obtain ⟨da, dn, dc, hd⟩ : ∃ da dn dc, h.d = (da, dn, dc) := ⟨_, _, _, rfl⟩
            rw [hd] at c1 hdl
            dsimp only at c1 hdl
            obtain ⟨hb, hhb⟩ : ∃ hb, h.b = hb := ⟨_, rfl⟩
            have H1 := hide (HP.out _ _ HE.out (stepL_same (LA.out _ h1) k1 HG.out))
            rw [hhb] at FI c1
            clear h1 k1 CA HP HE mh hh hd
            go_wp2_with fail
            with_reducible refine FI.out.mono ?_
            rintro e u ⟨rfl, hu⟩
            rw [hu]
            clear hu
            go_wp2
            go_ret
            exact H1.out
          · have d1 : decide (z < 0) = false := decide_eq_false hz0
            go_enter Tryz.func153, Tryz.ntmps153
            go_wp2_with fail
            with_reducible refine CA.out.mono ?_
            rintro e u1 ⟨rfl, h1, k1⟩
            have FI := hide (lfind_any u1 g S G fb fh bn bc at' ct s h1 hs)
            obtain ⟨h, hh, mh, eb⟩ := h1.fileAt hk
            rw [show findV fb G s = .tuple #[.pointer (some ⟨h.b, 0, none⟩), .int .i64 0] by unfold findV; rw [if_neg hm2, hf]; unfold ptrV; dsimp only; rw [eb]] at FI
            have c1 := mh.c1
            have hdl := OwnG.len byV_len (by decide) mh.data
            obtain ⟨hbl, hul⟩ := bytF_len LC.out hk
            obtain ⟨da, dn, dc, hd⟩ : ∃ da dn dc, h.d = (da, dn, dc) := ⟨_, _, _, rfl⟩
            rw [hd] at c1 hdl
            dsimp only at c1 hdl
            obtain ⟨hb, hhb⟩ : ∃ hb, h.b = hb := ⟨_, rfl⟩
            have H1 := hide (HP.out _ _ HE.out (stepL_same (LA.out _ h1) k1 HG.out))
            have d3 : (dn : Int) < z := by rw [← hdl]; exact hbad.resolve_left (by omega)
            have d2 : decide ((dn : Int) < z) = true := decide_eq_true d3
            rw [hhb] at FI c1
            clear h1 k1 CA HP HE mh hh hd
            go_wp2_with fail
            with_reducible refine FI.out.mono ?_
            rintro e u ⟨rfl, hu⟩
            rw [hu]
            clear hu
            go_wp2
            go_ret
            exact H1.out
        · obtain ⟨n, rfl⟩ : ∃ n : Nat, z = (n : Int) := ⟨z.toNat, by omega⟩
          have HE : Hid (cutF F s (n : Int) = (moreF G k [⟨0, true, (n : Int)⟩], 0)) := by show _ = _; unfold cutF; rw [hq]; dsimp only; rw [if_neg hm2, hf]; dsimp only; rw [if_neg hbad]
          have hnl : n ≤ (bytF (atF G k)).length := by omega
          clear hq
          have d1 : decide ((n : Int) < 0) = false := decide_eq_false (by omega)
          have d0 : ¬ (n : Int) < 0 := by omega
          go_enter Tryz.func153, Tryz.ntmps153
          go_wp2_with fail
          with_reducible refine CA.out.mono ?_
          rintro e u1 ⟨rfl, h1, k1⟩
          have FI := hide (lfind_any u1 g S G fb fh bn bc at' ct s h1 hs)
          obtain ⟨h, hh, mh, eb⟩ := h1.fileAt hk
          rw [show findV fb G s = .tuple #[.pointer (some ⟨h.b, 0, none⟩), .int .i64 0] by unfold findV; rw [if_neg hm2, hf]; unfold ptrV; dsimp only; rw [eb]] at FI
          have c1 := mh.c1
          have hdl := OwnG.len byV_len (by decide) mh.data
          obtain ⟨hbl, hul⟩ := bytF_len LC.out hk
          obtain ⟨da, dn, dc, hd⟩ : ∃ da dn dc, h.d = (da, dn, dc) := ⟨_, _, _, rfl⟩
          rw [hd] at c1 hdl
          dsimp only at c1 hdl
          obtain ⟨hb, hhb⟩ : ∃ hb, h.b = hb := ⟨_, rfl⟩
          have d3 : ¬ (dn : Int) < (n : Int) := by omega
          have d2 : decide ((dn : Int) < (n : Int)) = false := decide_eq_false d3
          have d4 : decide (dn < n) = false := decide_eq_false (by omega)
          have FC := hide (fcut_any u1 h k _ _ _ mh rfl n hnl (by omega) (by omega) (bytF_byte GV.out hk))
          have FIN : Hid (∀ u, StepP u1 u h k ((bytF (atF G k)).take n) (atF G k).sure ((atF G k).us ++ [⟨0, true, (n : Int)⟩]) → (Ending.returned (.int .i64 0) = .returned (.int .i64 (cutF F s (n : Int)).2) ∧ StepV LAt w u g S (cutF F s (n : Int)).1)) := fun u hu => by
            refine HP.out _ u HE.out (stepL_after (k1.more (fun j _ e => e ▸ HG.out)) (stepV_file h1 GN.out hh (GV.out.mores hk (us := [⟨0, true, (n : Int)⟩]) (fun u hu => ?_) ⟨fun _ => ⟨by dsimp only; omega, by dsimp only; omega⟩, trivial⟩) ?_))
            · obtain rfl := List.mem_singleton.1 hu
              exact ⟨Int.le_refl _, by dsimp only; omega⟩
            · show StepP _ _ _ _ (bytF ⟨(atF G k).sure, (atF G k).us ++ [⟨0, true, (n : Int)⟩]⟩) _ _
              rw [bytF_cut]
              exact hu
          rw [hhb] at FI c1 FC
          clear h1 k1 CA HP HE mh hh hd
          go_wp2_with fail
          with_reducible refine FI.out.mono ?_
          rintro e u ⟨rfl, hu⟩
          rw [hu]
          clear hu
          go_wp2_with fail
          with_reducible refine FC.out.mono ?_
          rintro e u2 ⟨rfl, st⟩
          have H1 := hide (FIN.out u2 st)
          clear st FIN FC
          go_wp2
          go_ret
          exact H1.out

set_option maxHeartbeats 8000000 in
theorem lappend_any (g : Nat) (S : Nat → Prop) (F : Fs) (s : ByteArray) (a : Option Addr) (n c : Nat) (zs : List Int) (m : Nat) (w : World) (hF : LAt w g S F) (hL : Lim m F) (hm : m < 1073741824) (hs : s.size ≤ 9223372036854775807) (hr : Row .u8 w a n zs) (hn : n ≤ 4294967296) (hnc : n ≤ c) :
    Calls Tryz.prog 102 #[.pointer (some ⟨g, 0, none⟩), .string s, .slice a n c] w fun e w' => e = .returned (.int .i64 (appendF F s zs).2) ∧ StepV LAt w w' g S (appendF F s zs).1 := by
  obtain ⟨hV, hN, fb, fh, bn, bc, at', ct, B⟩ := hF
  have CA := hide (vbegin_any w g S F fb fh bn bc at' ct m B hV hL (by omega))
  have LC := hide hL.call'
  have GV := hide hV.call
  have GN := hide hN.call
  have HG := hide B.own
  have c8 := B.c8
  have hz := hr.1
  have HNG : Hid (∀ (b off i : Nat) (zs : List Int), ¬ w.cell? ⟨g, off + i, none⟩ = some (.int .u8 (zs.getD i 0))) := fun b off i zs h => by
    rw [cell_of_row w g (off + i) _ _ (0, 0) B.str] at h
    exact lfC_no8 _ _ _ _ _ _ _ h
  rcases hq : callF F with ⟨G, o⟩
  rw [hq] at CA LC GV GN
  dsimp only at CA LC GV GN
  have LA : Hid (∀ u, LB u g S G fb fh bn bc at' ct → LAt u g S G) := fun u hu => ⟨GV.out, GN.out, fb, fh, bn, bc, at', ct, hu⟩
  have HP : Hid (∀ (x : Fs × Int) (u : World), appendF F s zs = x → StepV LAt w u g S x.1 → (Ending.returned (.int .i64 x.2) = .returned (.int .i64 (appendF F s zs).2) ∧ StepV LAt w u g S (appendF F s zs).1)) := fun x u e hu => by
    rw [e]
    exact ⟨rfl, hu⟩
  have HR : Hid (∀ u, Ch (fun j => j = g) w u → Row .u8 u a n zs) := fun u hu => by
    obtain ⟨h1, h2, h3, h4⟩ := hr
    refine ⟨h1, h2, h3, ?_⟩
    rcases h4 with h4 | ⟨b, off, rfl, hc⟩
    · exact Or.inl h4
    · by_cases hz : n = 0
      · exact Or.inl hz
      · refine Or.inr ⟨b, off, rfl, fun i hi => ?_⟩
        have h5 := hc i hi
        have kk := hu.block b (World.block_lt_of_cell? w _ h5) (fun e => HNG.out b off i zs (by rw [← e]; exact h5))
        simp only [World.cell?] at h5 ⊢
        rw [kk]
        exact h5
  clear B hV hN hL hr
  cases o with
  | none =>
    have HE : Hid (appendF F s zs = addF G s zs) := by
      show _ = _
      unfold appendF addF
      rw [hq]
      rfl
    clear hq
    rw [Option.getD_none] at CA
    cases hdk : F.dark with
    | true =>
      rw [hdk] at c8
      go_enter Tryz.func102, Tryz.ntmps102
      go_wp2_with fail
      with_reducible refine CA.out.mono ?_
      rintro e u1 ⟨rfl, h1, k1⟩
      have PU := hide (vput_any g S G s a n c zs (m + 1) u1 (LA.out _ h1) LC.out (by omega) hs (HR.out _ k1) hn)
      have K1 := hide (k1.more (fun j _ (e : j = g) => (e ▸ HG.out : S j)))
      have FIN : Hid (∀ u, StepV LAt u1 u g S (addF G s zs).1 → (Ending.returned (.int .i64 (addF G s zs).2) = .returned (.int .i64 (appendF F s zs).2) ∧ StepV LAt w u g S (appendF F s zs).1)) := fun u hu => HP.out _ u HE.out (stepL_after K1.out hu)
      clear h1 k1 CA c8 HR HP HE K1
      generalize addF G s zs = px at *
      go_wp2_with fail
      with_reducible refine PU.out.mono ?_
      rintro e u2 ⟨rfl, st⟩
      have H1 := hide (FIN.out _ st)
      clear st PU FIN
      go_wp2
      go_ret
      exact H1.out
    | false =>
      rw [hdk] at c8
      go_enter Tryz.func102, Tryz.ntmps102
      go_wp2_with fail
      with_reducible refine CA.out.mono ?_
      rintro e u1 ⟨rfl, h1, k1⟩
      have PU := hide (vput_any g S G s a n c zs (m + 1) u1 (LA.out _ h1) LC.out (by omega) hs (HR.out _ k1) hn)
      have K1 := hide (k1.more (fun j _ (e : j = g) => (e ▸ HG.out : S j)))
      have FIN : Hid (∀ u, StepV LAt u1 u g S (addF G s zs).1 → (Ending.returned (.int .i64 (addF G s zs).2) = .returned (.int .i64 (appendF F s zs).2) ∧ StepV LAt w u g S (appendF F s zs).1)) := fun u hu => HP.out _ u HE.out (stepL_after K1.out hu)
      clear h1 k1 CA c8 HR HP HE K1
      generalize addF G s zs = px at *
      go_wp2_with fail
      with_reducible refine PU.out.mono ?_
      rintro e u2 ⟨rfl, st⟩
      have H1 := hide (FIN.out _ st)
      clear st PU FIN
      go_wp2
      go_ret
      exact H1.out
  | some e1 =>
    have ne := callF_err hq
    have ne2 : (e1 == 0) = false := by simpa using ne
    rw [Option.getD_some] at CA
    cases hdk : F.dark with
    | true =>
      have HE : Hid (appendF F s zs = (G, e1)) := by
        show _ = _
        unfold appendF
        rw [hq]
        dsimp only
        split
        · rfl
        · rw [if_neg (by rw [hdk]; simp)]
      rw [hdk] at c8
      clear hq
      go_enter Tryz.func102, Tryz.ntmps102
      go_wp2_with fail
      with_reducible refine CA.out.mono ?_
      rintro e u1 ⟨rfl, h1, k1⟩
      have H1 := hide (HP.out _ _ HE.out (stepL_same (LA.out _ h1) k1 HG.out))
      clear h1 k1 CA HP HE c8
      go_wp2
      go_ret
      exact H1.out
    | false =>
      have HE : Hid (appendF F s zs = ((addF G s (zs.take (n / 2))).1, e1)) := by
        show _ = _
        unfold appendF addF
        rw [hq]
        dsimp only
        cases hf : fileF G s with
        | none =>
          dsimp only
          split <;> rfl
        | some k =>
          dsimp only
          rw [if_neg (show ¬ mayN s = false by rw [fileF_may GN.out hf]; simp), List.length_take, hz]
          by_cases h : (bytF (atF G k)).length + n / 2 ≤ 1073741824
          · rw [if_pos ⟨hdk, h⟩, if_neg (by omega)]
          · rw [if_neg (fun q => h q.2), if_pos (by omega)]
      rw [hdk] at c8
      have sl := fun u => slice_to16 a n c (n / 2) (by omega) u
      have hq2 : (n : Int).tdiv 2 = ((n / 2 : Nat) : Int) := by rw [Int.tdiv_eq_ediv_of_nonneg (by omega)]; omega
      have hq3 : (n : Int) / 2 = ((n / 2 : Nat) : Int) := by omega
      have hw2 : IntKind.i64.wrap ((n / 2 : Nat) : Int) = ((n / 2 : Nat) : Int) := by rw [IntKind.wrap_i64]; omega
      obtain ⟨q2, hq4⟩ : ∃ q2 : Nat, n / 2 = q2 := ⟨_, rfl⟩
      rw [hq4] at sl hq2 hq3 hw2 HE
      have hq2n : q2 ≤ n := by omega
      clear hq
      go_enter Tryz.func102, Tryz.ntmps102
      go_wp2_with fail
      with_reducible refine CA.out.mono ?_
      rintro e u1 ⟨rfl, h1, k1⟩
      have PU := hide (vput_any g S G s a q2 c (zs.take q2) (m + 1) u1 (LA.out _ h1) LC.out (by omega) hs ((HR.out _ k1).to q2 hq2n) (by omega))
      have K1 := hide (k1.more (fun j _ (e : j = g) => (e ▸ HG.out : S j)))
      clear h1 k1 CA c8 HR
      go_wp2_with fail
      with_reducible refine PU.out.mono ?_
      rintro e u2 ⟨rfl, st⟩
      have H1 := hide (HP.out _ _ HE.out (stepL_after K1.out st))
      clear st PU HP HE K1
      go_wp2
      go_ret
      exact H1.out

set_option maxHeartbeats 4000000 in
theorem lread_any (g : Nat) (S : Nat → Prop) (F : Fs) (s : ByteArray) (m : Nat) (w : World) (hF : LAt w g S F) (hL : Lim m F) (hm : m ≤ 1073741824) (hs : s.size ≤ maxLen) :
    Calls Tryz.prog 88 #[.pointer (some ⟨g, 0, none⟩), .string s] w fun e w' => ReadVp (readF F s) w e w' := by
  obtain ⟨hV, hN, fb, fh, bn, bc, at', ct, B⟩ := hF
  have lk := look_name B.names hs
  have c0 := B.c0
  cases hf : fileD (dirF F) s with
  | none =>
    rw [hf] at lk
    dsimp only [Option.map_none, Option.getD_none, Option.isSome_none] at lk
    have HE : Hid (readF F s = none) := by show _ = _; unfold readF fileF; rw [hf]; rfl
    rw [HE.out]
    clear B hV hN hL hf
    go_enter Tryz.func88, Tryz.ntmps88
    go_wp2
    refine bodyPost_ret (v := .tuple #[.slice none 0 0, .int .i64 3]) (by simp [results, Tryz.results88, go_sem]) rfl ?_
    exact ⟨Below.refl _ _, rfl⟩
  | some k =>
    have hk : k < F.files.length := hV.file hf
    obtain ⟨h, hh, mh, eb⟩ := B.fileAt hk
    rw [hf] at lk
    dsimp only [Option.map_some, Option.getD_some, Option.isSome_some] at lk
    unfold ptrV at lk
    rw [eb] at lk
    obtain ⟨hbl, hul⟩ := bytF_len hL hk
    have HE : Hid (readF F s = some (bytF (atF F k))) := by show _ = _; unfold readF fileF; rw [hf]; rfl
    rw [HE.out]
    have hdl := OwnG.len byV_len (by decide) mh.data
    have hcp := (OwnG.capped mh.data).2
    have c1 := mh.c1
    have CL := hide (clone8_any h.d.1 h.d.2.1 h.d.2.2 (bytF (atF F k)) w (ownB_row mh.data (by omega) (bytF_byte hV hk)) (by omega) (fun e => (hcp e).2))
    obtain ⟨da, dn, dc, hd⟩ : ∃ da dn dc, h.d = (da, dn, dc) := ⟨_, _, _, rfl⟩
    rw [hd] at c1 hdl CL
    dsimp only at c1 hdl CL
    obtain ⟨hb, hhb⟩ : ∃ hb, h.b = hb := ⟨_, rfl⟩
    rw [hhb] at lk c1
    have HDL := hide hdl
    generalize bytF (atF F k) = bs at *
    clear B hV hN hL hf mh hh eb hd hcp hbl hul hdl
    go_enter Tryz.func88, Tryz.ntmps88
    go_wp2_with fail
    with_reducible refine CL.out.mono ?_
    rintro e u ⟨xa, xc, rfl, ox, bx⟩
    have OX := hide ox
    have BX := hide bx
    clear ox bx CL
    go_wp2
    refine bodyPost_ret (v := .tuple #[.slice xa dn xc, .int .i64 0]) (by simp [results, Tryz.results88, go_sem]) rfl ?_
    refine ⟨BX.out, xa, xc, ?_, ?_⟩
    · rw [HDL.out]
    · rw [HDL.out]; exact OX.out
/-- A file that is laid. -/
def layF (F : Fs) (s : ByteArray) (bs : List Int) : Fs := { F with files := F.files ++ [⟨bs, []⟩], sure := F.sure ++ [⟨s, F.files.length⟩] }
theorem nmV_lay {fb : List Nat} {l : List Dn} {s : ByteArray} (h : fileD l s = none) (k : Nat) (t : ByteArray) : updF (nmV fb l) s (ptrV fb k) t = nmV fb (l ++ [⟨s, k⟩]) t := by
  unfold updF nmV
  rw [fileD_snoc]
  by_cases e : t = s
  · rw [if_pos e, if_pos e, e, h]; rfl
  · rw [if_neg e, if_neg e]; cases fileD l t <;> rfl
theorem dirF_nil {F : Fs} (h : F.turns = []) : dirF F = F.sure := by unfold dirF turnsD; rw [h]; rfl
theorem GoodV.lay {F : Fs} (h : GoodV F) (s : ByteArray) {bs : List Int} (hb : ∀ z ∈ bs, 0 ≤ z ∧ z ≤ 255) : GoodV (layF F s bs) := by
  have q := h.more1 (x := ⟨bs, []⟩) trivial ⟨hb, fun u hu => by simp at hu⟩
  refine ⟨fun d hd => ?_, q.turns, q.cuts, q.byte, q.aft, q.knd⟩
  rcases List.mem_append.1 hd with e | e
  · exact q.sure d e
  · obtain rfl := List.mem_singleton.1 e
    show F.files.length < (F.files ++ [_]).length
    rw [List.length_append, List.length_singleton]; omega
theorem GoodN.lay {F : Fs} (hV : GoodV F) (h : GoodN F) (hT : F.turns = []) {s : ByteArray} (hs : mayN s = true) (hn : fileD F.sure s = none) (bs : List Int) : GoodN (layF F s bs) := by
  refine ⟨h.sure.snoc hs (fileD_none hn) (fun d hd e => ?_), ?_⟩
  · have := hV.sure d hd
    omega
  · show OkT _ F.turns
    rw [hT]; trivial
/-- Its name in both maps. -/
theorem LB.laid {w w2 w3 : World} {g : Nat} {S : Nat → Prop} {F : Fs} {fb : List Nat} {fh : List Fh} {bn bc : Nat} {at' : Option Addr} {ct : Nat} {s : ByteArray} {bs : List Int} (B : LB w g S { F with files := F.files ++ [⟨bs, []⟩] } fb fh bn bc at' ct) (hN : GoodN (layF F s bs)) (hT : F.turns = []) (hn : fileD F.sure s = none)
    (k2 : Ch (fun j => j = bn) w w2) {n2 : Nat} (m2 : MapS w2 bn n2 (updF (nmV fb F.sure) s (ptrV fb F.files.length))) (k3 : Ch (fun j => j = bc) w2 w3) {n3 : Nat} (m3 : MapS w3 bc n3 (updF (nmV fb F.sure) s (ptrV fb F.files.length))) :
    LB w3 g S (layF F s bs) fb fh bn bc at' ct := by
  have k : Ch (fun j => j = bn ∨ j = bc) w w3 := (k2.more (fun _ _ e => Or.inl e)).trans (k3.more (fun _ _ e => Or.inr e))
  have hbn := B.names.isMap
  have hbc := B.certain.isMap
  have hg : ∀ j t, CellsT w j t → ¬ (j = bn ∨ j = bc) := fun j t hj e => by
    rcases e with e | e
    · exact hbn.ne hj e.symm
    · exact hbc.ne hj e.symm
  have hd : dirF (layF F s bs) = F.sure ++ [⟨s, F.files.length⟩] := dirF_nil (F := layF F s bs) hT
  have hd2 : (layF F s bs).sure = F.sure ++ [⟨s, F.files.length⟩] := rfl
  refine ⟨B.own, fun j hj => Nat.lt_of_lt_of_le (B.lt j hj) k.size, ?_, ?_, ?_, B.ne, B.bnS, B.bcS, OwnG.ch B.turns k (fun b hb => hg b _ (OwnG.cellsT B.turns b hb).1), B.turnsS, B.fbs, B.len, fun i h x hi hx => ?_, B.filesS, B.apart⟩
  · rw [k.block g (B.lt g B.own) (hg g _ B.cellsT), B.str]
    rfl
  · rw [hd]
    exact (((m2.ch k3 (fun e => B.ne e)).congr (nmV_lay hn _)).tightD hN.sure)
  · rw [hd2]
    exact ((m3.congr (nmV_lay hn _)).tightD hN.sure)
  · have m := B.files i h x hi hx
    exact m.ch k (fun j hj e => by
      rcases e with e | e
      · exact hbn.ne3 (m.kind hj) e.symm
      · exact hbc.ne3 (m.kind hj) e.symm)

set_option maxHeartbeats 4000000 in
theorem lay_any (w : World) (g : Nat) (S : Nat → Prop) (F : Fs) (fb : List Nat) (fh : List Fh) (bn bc : Nat) (at' : Option Addr) (ct m : Nat) (s : ByteArray) (d : H3) (bs : List Int) (B : LB w g S F fb fh bn bc at' ct) (hV : GoodV F) (hN : GoodN F) (hT : F.turns = []) (hL : Lim m F) (hm : m ≤ 1073741825) (hs : mayN s = true) (hn : fileD F.sure s = none) (hb : ∀ z ∈ bs, 0 ≤ z ∧ z ≤ 255) (hd : OwnVb w 0 d.1 d.2.1 d.2.2 bs) (hdS : ∀ j, (h3V d).ownBlock = some j → ¬ S j) :
    Calls Tryz.prog 93 #[.pointer (some ⟨g, 0, none⟩), .string s, .slice d.1 d.2.1 d.2.2] w fun e w' => e = .returned (.tuple #[]) ∧ ∃ S' fb' fh', LB w' g S' (layF F s bs) fb' fh' bn bc at' ct ∧ (∀ j, S' j → S j ∨ w.heap.size ≤ j ∨ (h3V d).ownBlock = some j) ∧ Ch S w w' := by
  have HG := hide B.own
  have HBN := hide B.bnS
  have HBC := hide B.bcS
  have GN := hide (GoodN.lay hV hN hT hs hn bs)
  have hsl := hL.sure
  have hml := mayN_max hs
  have hml := mayN_max hs
  have HF : Hid (fb.length = F.files.length) := by show _ = _; rw [← B.fbs, List.length_map, B.len]
  have BE := hide (lbear_any w g S F fb fh bn bc at' ct m d bs B hV hL hm hd hdS)
  have HT := hide hT
  have HN := hide hn
  clear B hV hN hL hd hdS hs hT hn hb
  obtain ⟨da, dn, dc⟩ := d
  dsimp only at BE ⊢
  go_enter Tryz.func93, Tryz.ntmps93
  go_wp2_with fail
  with_reducible refine BE.out.mono ?_
  rintro e u ⟨h, rfl, hge, B1, hsf, k1⟩
  have hpk : (fb ++ [h.b]).getD F.files.length 0 = h.b := by
    rw [List.getD_eq_getElem?_getD, List.getElem?_append_right (by have := HF.out; omega), HF.out, Nat.sub_self]; rfl
  have hpv : ptrV (fb ++ [h.b]) F.files.length = .pointer (some ⟨h.b, 0, none⟩) := by unfold ptrV; rw [hpk]
  have mn := B1.names
  rw [dirF_nil (F := { F with files := F.files ++ [⟨bs, []⟩] }) HT.out] at mn
  have mc := B1.certain
  dsimp only at mn mc
  obtain ⟨w2, r2, q2, g2⟩ := mn.store Tryz.underlying134 (by unfold maxLen; omega) hml (ptrV (fb ++ [h.b]) F.files.length)
  have K2 : Hid (Ch (fun j => j = bn) u w2) := (Ch.grown g2).more (fun j _ e => (Option.some.inj e).symm)
  have mc2 := mc.ch K2.out (fun e => B1.ne e.symm)
  obtain ⟨w3, r3, q3, g3⟩ := mc2.store Tryz.underlying134 (by unfold maxLen; omega) hml (ptrV (fb ++ [h.b]) F.files.length)
  have K3 : Hid (Ch (fun j => j = bc) w2 w3) := (Ch.grown g3).more (fun j _ e => (Option.some.inj e).symm)
  have LX := hide (B1.laid GN.out HT.out HN.out K2.out q2 K3.out q3)
  rw [hpv] at r2 r3
  have x0 := B1.c0
  have x1 : w2.cell? ⟨g, 1, none⟩ = some (.map (some bc)) := by
    have hb := K2.out.block g (B1.lt g B1.own) (fun e => B1.names.isMap.ne B1.cellsT e.symm)
    rw [cell_of_row w2 g 1 _ _ (0, 0) (hb.trans B1.str)]; rfl
  have FIN : Hid (∃ S' fb' fh', LB w3 g S' (layF F s bs) fb' fh' bn bc at' ct ∧ (∀ j, S' j → S j ∨ w.heap.size ≤ j ∨ (h3V (da, dn, dc)).ownBlock = some j) ∧ Ch S w w3) := by
    refine ⟨_, _, _, LX.out, fun j hj => ?_, (k1.more (fun j _ e => e ▸ HG.out)).trans ?_⟩
    · rcases hj with e | e
      · exact Or.inl e
      · exact Or.inr (hsf j e)
    · refine (K2.out.more (fun j _ e => e ▸ HBN.out)).trans (K3.out.more (fun j _ e => e ▸ HBC.out))
  obtain ⟨hb, hhb⟩ : ∃ hb, h.b = hb := ⟨_, rfl⟩
  rw [hhb] at r2 r3 ⊢
  clear hge B1 hsf k1 mn mc mc2 q2 q3 g2 g3 K2 K3 LX GN HT HN BE HG HBN HBC hpk hpv hhb
  go_wp2
  go_end0
  exact ⟨rfl, FIN.out⟩
/-- Texts that there are. -/
def inN (l : List ByteArray) (t : ByteArray) : Bool := l.any fun x => decide (x = t)
theorem inN_iff {l : List ByteArray} {t : ByteArray} : inN l t = true ↔ t ∈ l := by
  unfold inN
  rw [List.any_eq_true]
  constructor
  · rintro ⟨x, hx, e⟩
    rw [decide_eq_true_eq] at e
    exact e ▸ hx
  · intro h
    exact ⟨t, h, by simp⟩
def setF (l : List ByteArray) : ByteArray → Option Value := fun t => if inN l t = true then some (.agg #[]) else none
theorem setF_put (l : List ByteArray) (s t : ByteArray) : updF (setF l) s (.agg #[]) t = setF (l ++ [s]) t := by
  unfold updF setF
  by_cases e : t = s
  · rw [if_pos e, if_pos (inN_iff.2 (by rw [e]; exact List.mem_append.2 (Or.inr (List.mem_singleton.2 rfl))))]
  · rw [if_neg e]
    by_cases q : t ∈ l
    · rw [if_pos (inN_iff.2 q), if_pos (inN_iff.2 (List.mem_append.2 (Or.inl q)))]
    · rw [if_neg (fun h => q (inN_iff.1 h)), if_neg (fun h => by
        rcases List.mem_append.1 (inN_iff.1 h) with h | h
        · exact q h
        · exact e (List.mem_singleton.1 h))]
/-- Names as they may be. -/
def areN (ns : List ByteArray) : Prop := (∀ s ∈ ns, mayN s = true) ∧ ns.Nodup
theorem zeroUn (w : World) : (zeroValue 253).run Tryz.prog w = .ok (.agg #[]) w := by kernel_rfl
theorem areN_nil : areN [] := ⟨fun s hs => by simp at hs, by simp⟩
theorem areN_snoc {l : List ByteArray} {s : ByteArray} : areN (l ++ [s]) ↔ areN l ∧ mayN s = true ∧ s ∉ l := by
  unfold areN
  rw [List.nodup_append]
  constructor
  · rintro ⟨h1, h2, _, h3⟩
    exact ⟨⟨fun t ht => h1 t (by simp [ht]), h2⟩, h1 s (by simp), fun e => h3 s e s (by simp) rfl⟩
  · rintro ⟨⟨h1, h2⟩, h3, h4⟩
    refine ⟨fun t ht => ?_, h2, by simp, fun a ha b hb e => ?_⟩
    · rcases List.mem_append.1 ht with e | e
      · exact h1 t e
      · obtain rfl := List.mem_singleton.1 e; exact h3
    · obtain rfl := List.mem_singleton.1 hb
      subst e
      exact h4 ha
theorem areN_pre {l r : List ByteArray} (h : areN (l ++ r)) : areN l := ⟨fun s hs => h.1 s (by simp [hs]), (List.nodup_append.1 h.2).1⟩

set_option maxHeartbeats 4000000 in
theorem arenames_any (a : Option Addr) (n c : Nat) (ns : List ByteArray) (w : World) (hr : RowX w a n ns) (hn : n ≤ 1099511627776) (hs : ∀ s ∈ ns, s.size ≤ maxLen) :
    Calls Tryz.prog 90 #[.slice a n c] w fun e w' => ∃ b, e = .returned (.bool b) ∧ (b = true ↔ areN ns) ∧ Below w.heap.size w w' := by
  have hl := hr.1
  have HR := hide hr
  have hmm := @run_makeMap Tryz.prog
  have m0 := mapS_new w
  have HS := hide hs
  have HL := hide hl
  have B0 : Hid (Below w.heap.size w (w.alloc (.map #[] 0))) := (Below.refl _ _).alloc (Nat.le_refl _) _
  have M0 : Hid (MapS (w.alloc (.map #[] 0)) w.heap.size 0 (setF (ns.take 0))) := m0.congr (fun s => by unfold setF inN; simp)
  clear hr hs m0 hl
  go_enter Tryz.func90, Tryz.ntmps90
  go_wp2
  go_loopw [11] (fun i wr => ∃ k : Nat, k ≤ n ∧ i = .int .i64 (k : Int) ∧ Hid (MapS wr w.heap.size k (setF (ns.take k))) ∧ Hid (areN (ns.take k)) ∧ Hid (Below w.heap.size w wr)) (fun i _ => n - (intOf i).toNat)
  case atStart => exact ⟨0, by omega, rfl, M0.out, by rw [List.take_zero]; exact areN_nil, B0⟩
  case round =>
    clear M0 B0
    obtain ⟨k, hk, rfl, HM, HA, HB⟩ := hrel
    obtain ⟨v, rfl⟩ : ∃ v, v = wr := ⟨wr, rfl⟩
    by_cases hlt : k < n
    · obtain ⟨b, off, rfl, hc⟩ := HR.out.2.2.resolve_left (by omega)
      have cs := hc k hlt
      have cs := (HB.out.cell (p := ⟨b, off + k, none⟩) (World.block_lt_of_cell? w _ cs)).trans cs
      have TK := hide (take_text (ss := ns) (k := k) (by rw [HL.out]; exact hlt))
      have hsz := getD_text (p := fun s => s.size ≤ maxLen) HS.out (i := k) (by rw [HL.out]; exact hlt)
      obtain ⟨s, hs⟩ : ∃ s, ns.getD k ByteArray.empty = s := ⟨_, rfl⟩
      rw [hs] at cs TK hsz
      have i1 : (0 : Int) ≤ (k : Int) := by omega
      have i2 : (k : Int) < (n : Int) := by omega
      have lk := HM.out.look_ok Tryz.underlying252 (zeroUn v) hsz
      have IN := hide (fun u => isname_any s u (by unfold maxLen at hsz; omega))
      have NOT : Hid (¬ areN (ns.take (k + 1)) → ¬ areN ns) := fun h q => h (by
        rw [← List.take_append_drop (k + 1) ns] at q
        exact areN_pre q)
      have AS := hide (areN_snoc (l := ns.take k) (s := s))
      rw [← TK.out] at AS
      clear hc hs
      by_cases htw : s ∈ ns.take k
      · have e1 : setF (ns.take k) s = some (.agg #[]) := by unfold setF; rw [if_pos (inN_iff.2 htw)]
        rw [e1] at lk
        dsimp only [Option.getD_some, Option.isSome_some] at lk
        have FIN : Hid (∀ u, Below w.heap.size w u → ∃ b, (Ending.returned (.bool false) : Ending) = .returned (.bool b) ∧ (b = true ↔ areN ns) ∧ Below w.heap.size w u) := fun u hu => ⟨false, rfl, ⟨fun h => by simp at h, fun h => absurd h (NOT.out (fun q => (AS.out.1 q).2.2 htw))⟩, hu⟩
        have SZ : Hid (w.heap.size ≤ v.heap.size) := HB.out.size
        have BV : Hid (Below w.heap.size w (v.alloc (.cells #[] 253))) := bel_al HB.out (Nat.le_refl _) _
        clear HM AS NOT TK HA IN
        go_wp2
        go_ret
        exact FIN.out _ BV.out
      · have e1 : setF (ns.take k) s = none := by unfold setF; rw [if_neg (fun h => htw (inN_iff.1 h))]
        rw [e1] at lk
        dsimp only [Option.getD_none, Option.isSome_none] at lk
        have BV : Hid (Below w.heap.size w (v.alloc (.cells #[] 253))) := bel_al HB.out (Nat.le_refl _) _
        cases hm : mayN s with
        | false =>
          have FIN : Hid (∀ u, Below w.heap.size w u → ∃ b, (Ending.returned (.bool false) : Ending) = .returned (.bool b) ∧ (b = true ↔ areN ns) ∧ Below w.heap.size w u) := fun u hu => ⟨false, rfl, ⟨fun h => by simp at h, fun h => absurd h (NOT.out (fun q => by have := (AS.out.1 q).2.1; rw [hm] at this; simp at this))⟩, hu⟩
          clear HM AS NOT TK HA
          go_wp2_with fail
          with_reducible refine (IN.out _).mono ?_
          rintro e u ⟨rfl, hu⟩
          rw [hu, hm]
          clear hu
          go_wp2
          go_ret
          exact FIN.out _ BV.out
        | true =>
          have HA2 : Hid (areN (ns.take (k + 1))) := AS.out.2 ⟨HA.out, hm, htw⟩
          obtain ⟨vA, hvA⟩ : ∃ vA, Hid (v.alloc (.cells #[] 253) = vA) := ⟨_, rfl⟩
          have MV := HM.out.below (show Below v.heap.size v vA by rw [← hvA.out]; exact (Below.refl _ _).alloc (Nat.le_refl _) _)
          obtain ⟨w2, r2, q2, g2⟩ := MV.store Tryz.underlying252 (by unfold maxLen; omega) hsz (.agg #[])
          rw [hvA.out] at BV
          have M2 : Hid (MapS w2 w.heap.size (k + 1) (setF (ns.take (k + 1)))) := q2.congr (fun t => by rw [TK.out]; exact setF_put _ _ _)
          have B2 : Hid (Below w.heap.size w w2) := BV.out.trans ((Ch.grown g2).below BV.out.size (fun j hj e => by have := Option.some.inj e; omega))
          clear HM AS NOT TK HA MV q2 g2
          go_wp2_with fail
          with_reducible refine (IN.out _).mono ?_
          rintro e u ⟨rfl, hu⟩
          rw [hu, hm, hvA.out]
          clear hu hvA
          go_wp2
          go_roundw
          case rel => exact ⟨k + 1, by omega, by go_num, M2, HA2, B2⟩
          case measure => simp [intOf]; omega
    · obtain rfl : k = n := by omega
      have FIN : Hid (∃ b, (Ending.returned (.bool true) : Ending) = .returned (.bool b) ∧ (b = true ↔ areN ns) ∧ Below w.heap.size w v) := ⟨true, rfl, ⟨fun _ => by have := HA.out; rwa [List.take_of_length_le (by rw [HL.out]; exact Nat.le_refl _)] at this, fun _ => rfl⟩, HB.out⟩
      clear HM HA HB
      go_wp2
      go_ret
      exact FIN.out

/-- A slice of n slices of bytes. -/
structure RowBB (w : World) (a : Option Addr) (n : Nat) (hs : List H3) (ds : List (List Int)) : Prop where
  len : ds.length = n
  hlen : hs.length = n
  cells : n = 0 ∨ ∃ b off, a = some ⟨b, off, none⟩ ∧ ∀ i h, hs[i]? = some h → w.cell? ⟨b, off + i, none⟩ = some (.slice h.1 h.2.1 h.2.2)
  each : ∀ (i : Nat) (h : H3) (d : List Int), hs[i]? = some h → ds[i]? = some d → Row .u8 w h.1 h.2.1 d ∧ h.2.1 ≤ h.2.2 ∧ (h.1 = none → h.2.2 = 0)
theorem RowBB.below {B : Nat} {w w' : World} {a : Option Addr} {n : Nat} {hs : List H3} {ds : List (List Int)} (h : RowBB w a n hs ds) (hb : Below B w w') (hB : w.heap.size ≤ B) : RowBB w' a n hs ds := by
  refine ⟨h.len, h.hlen, ?_, fun i x d h1 h2 => ⟨(h.each i x d h1 h2).1.below hb hB, (h.each i x d h1 h2).2⟩⟩
  rcases h.cells with e | ⟨b, off, e, hc⟩
  · exact Or.inl e
  · refine Or.inr ⟨b, off, e, fun i x hx => ?_⟩
    have c := hc i x hx
    exact (hb.cell (p := ⟨b, off + i, none⟩) (Nat.lt_of_lt_of_le (World.block_lt_of_cell? w _ c) hB)).trans c
theorem RowBB.at' {w : World} {a : Option Addr} {n : Nat} {hs : List H3} {ds : List (List Int)} (h : RowBB w a n hs ds) {k : Nat} (hk : k < n) : ∃ (b off : Nat) (x : H3) (d : List Int), a = some ⟨b, off, none⟩ ∧ w.cell? ⟨b, off + k, none⟩ = some (.slice x.1 x.2.1 x.2.2) ∧ ds[k]? = some d ∧ Row .u8 w x.1 x.2.1 d ∧ x.2.1 ≤ x.2.2 ∧ (x.1 = none → x.2.2 = 0) := by
  obtain ⟨b, off, e, hc⟩ := h.cells.resolve_left (by omega)
  have h1 : hs[k]? = some (hs[k]'(by rw [h.hlen]; exact hk)) := List.getElem?_eq_getElem _
  have h2 : ds[k]? = some (ds[k]'(by rw [h.len]; exact hk)) := List.getElem?_eq_getElem _
  exact ⟨b, off, _, _, e, hc k _ h1, h2, (h.each k _ _ h1 h2).1, (h.each k _ _ h1 h2).2⟩

theorem toolong_any (a : Option Addr) (n c : Nat) (w : World) : Calls Tryz.prog 91 #[.slice a n c] w fun e w' => e = .returned (.bool (decide (1073741824 < n))) ∧ w' = w := by
  by_cases h : 1073741824 < n
  · rw [decide_eq_true h]
    have d1 : (1073741824 : Int) < (n : Int) := by omega
    go_enter Tryz.func91, Tryz.ntmps91
    go_wp2
    go_ret
    exact ⟨rfl, rfl⟩
  · rw [decide_eq_false h]
    have d1 : ¬ (1073741824 : Int) < (n : Int) := by omega
    go_enter Tryz.func91, Tryz.ntmps91
    go_wp2
    go_ret
    exact ⟨rfl, rfl⟩

set_option maxHeartbeats 2000000 in
theorem indexlong_any (a : Option Addr) (n c : Nat) (hs : List H3) (ds : List (List Int)) (w : World) (hr : RowBB w a n hs ds) (hn : n ≤ 1099511627776) :
    Calls Tryz.prog 166 #[.slice a n c, .func (.func 91) #[] #[]] w fun e w' => ∃ z : Int, e = .returned (.int .i64 z) ∧ (0 ≤ z ↔ ∃ b ∈ ds, 1073741824 < b.length) ∧ w' = w := by
  have HR := hide hr
  have HL := hide hr.len
  clear hr
  go_enter Tryz.func166, Tryz.ntmps166
  go_wp2
  go_loopw [8] (fun i wr => ∃ k : Nat, k ≤ n ∧ i = .int .i64 (k : Int) ∧ Hid (∀ b ∈ ds.take k, ¬ 1073741824 < b.length) ∧ wr = w) (fun i _ => n - (intOf i).toNat)
  case atStart => exact ⟨0, by omega, rfl, (fun b hb => by simp at hb), rfl⟩
  case round =>
    obtain ⟨k, hk, rfl, HA, rfl⟩ := hrel
    by_cases hlt : k < n
    · obtain ⟨b, off, x, d, rfl, cx, hd, hrow, -, -⟩ := HR.out.at' hlt
      have hdl := hrow.1
      have TL := hide (toolong_any x.1 x.2.1 x.2.2 wr)
      have i1 : (0 : Int) ≤ (k : Int) := by omega
      have i2 : (k : Int) < (n : Int) := by omega
      have HD := hide hd
      obtain ⟨xa, xn, xc⟩ := x
      dsimp only at cx hdl TL hrow
      clear hd hrow
      by_cases hlong : 1073741824 < xn
      · rw [decide_eq_true hlong] at TL
        have FIN : Hid ((0 : Int) ≤ (k : Int) ↔ ∃ b ∈ ds, 1073741824 < b.length) := ⟨fun _ => ⟨d, List.mem_of_getElem? HD.out, by omega⟩, fun _ => by omega⟩
        go_wp2_with fail
        with_reducible refine TL.out.mono ?_
        rintro e u ⟨rfl, hu⟩
        rw [hu]
        clear hu
        go_wp2
        go_ret
        exact ⟨(k : Int), rfl, FIN.out, rfl⟩
      · rw [decide_eq_false hlong] at TL
        have HA2 : Hid (∀ b ∈ ds.take (k + 1), ¬ 1073741824 < b.length) := fun b hb => by
          obtain ⟨hk2, e2⟩ := List.getElem?_eq_some_iff.1 HD.out
          rw [List.take_succ_eq_append_getElem hk2, e2] at hb
          rcases List.mem_append.1 hb with q | q
          · exact HA.out b q
          · obtain rfl := List.mem_singleton.1 q
            omega
        clear HA
        go_wp2_with fail
        with_reducible refine TL.out.mono ?_
        rintro e u ⟨rfl, hu⟩
        rw [hu]
        clear hu
        go_wp2
        go_roundw
        case rel => exact ⟨k + 1, by omega, by go_num, HA2, by trivial⟩
        case measure => simp [intOf]; omega
    · obtain rfl : k = n := by omega
      have FIN : Hid ((0 : Int) ≤ -1 ↔ ∃ b ∈ ds, 1073741824 < b.length) := ⟨fun h => by omega, fun ⟨b, hb, hl⟩ => by
        have := HA.out b (by rw [List.take_of_length_le (by rw [HL.out]; exact Nat.le_refl _)]; exact hb)
        omega⟩
      go_wp2
      go_ret
      exact ⟨-1, rfl, FIN.out, rfl⟩
theorem contlong_any (a : Option Addr) (n c : Nat) (hs : List H3) (ds : List (List Int)) (w : World) (hr : RowBB w a n hs ds) (hn : n ≤ 1099511627776) :
    Calls Tryz.prog 92 #[.slice a n c, .func (.func 91) #[] #[]] w fun e w' => ∃ b, e = .returned (.bool b) ∧ (b = true ↔ ∃ b ∈ ds, 1073741824 < b.length) ∧ w' = w := by
  have IX := hide (indexlong_any a n c hs ds w hr hn)
  clear hr
  go_enter Tryz.func92, Tryz.ntmps92
  go_wp2_with fail
  with_reducible refine IX.out.mono ?_
  rintro e u ⟨z, rfl, hz, hu⟩
  rw [hu]
  clear hu IX
  have HZ : Hid (decide (0 ≤ z) = true ↔ ∃ b ∈ ds, 1073741824 < b.length) := by
    show _ ↔ _
    rw [decide_eq_true_eq]
    exact hz
  clear hz
  go_wp2
  go_ret
  exact ⟨decide (0 ≤ z), rfl, HZ.out, rfl⟩
/-- The first k files. -/
def layK (ns : List ByteArray) (ds : List (List Int)) (k : Nat) : Fs := { fs0 with files := (ds.take k).map fun b => ⟨b, []⟩, sure := (ns.take k).mapIdx fun i s => ⟨s, i⟩ }
theorem layK_zero (ns : List ByteArray) (ds : List (List Int)) : layK ns ds 0 = fs0 := by unfold layK; simp [fs0]
theorem layK_step {ns : List ByteArray} {ds : List (List Int)} {k : Nat} {s : ByteArray} {d : List Int} (hs : ns[k]? = some s) (hd : ds[k]? = some d) : layF (layK ns ds k) s d = layK ns ds (k + 1) := by
  obtain ⟨h1, e1⟩ := List.getElem?_eq_some_iff.1 hs
  obtain ⟨h2, e2⟩ := List.getElem?_eq_some_iff.1 hd
  unfold layF layK
  dsimp only
  rw [List.take_succ_eq_append_getElem h1, List.take_succ_eq_append_getElem h2, e1, e2, List.map_append, List.mapIdx_append, List.length_map, List.length_take, List.length_take, Nat.min_eq_left (by omega), Nat.min_eq_left (by omega)]
  simp
theorem layK_name {ns : List ByteArray} {ds : List (List Int)} {k : Nat} {s : ByteArray} (h : areN ns) (hs : ns[k]? = some s) : fileD (layK ns ds k).sure s = none := by
  cases hf : fileD (layK ns ds k).sure s with
  | none => rfl
  | some f =>
    have hm := fileD_mem hf
    obtain ⟨h1, e1⟩ := List.getElem?_eq_some_iff.1 hs
    obtain ⟨i, hi, e⟩ := List.mem_mapIdx.1 hm
    have es : (ns.take k)[i] = s := by simpa using congrArg Dn.nm e
    have hmem : s ∈ ns.take k := es ▸ List.getElem_mem hi
    have q : areN (ns.take k ++ [s]) := by
      have := areN_pre (l := ns.take (k + 1)) (r := ns.drop (k + 1)) (by rw [List.take_append_drop]; exact h)
      rwa [List.take_succ_eq_append_getElem h1, e1] at this
    exact absurd hmem (areN_snoc.1 q).2.2
theorem layK_lim {ns : List ByteArray} {ds : List (List Int)} {k m : Nat} (hk : k ≤ 1024) (hm : 1073741824 = m) (hd : ∀ b ∈ ds, b.length ≤ 1073741824) : Lim m (layK ns ds k) := by
  subst hm
  refine ⟨?_, ?_, ?_, ?_, by show (0 : Int) ≤ 0 ∧ (0 : Int) ≤ _; omega⟩
  · show ((ds.take k).map _).length ≤ _
    rw [List.length_map, List.length_take]; omega
  · show ((ns.take k).mapIdx _).length ≤ _
    rw [List.length_mapIdx, List.length_take]; omega
  · show ([] : List Tn).length ≤ _
    simp
  · intro x hx
    obtain ⟨b, hb, rfl⟩ := List.mem_map.1 hx
    exact ⟨hd b (List.mem_of_mem_take hb), by simp⟩
/-- What Laid tells. -/
def LaidV (At : World → Nat → (Nat → Prop) → Fs → Prop) (x : Option Fs × Int) (w : World) (e : Ending) (w' : World) : Prop := Below w.heap.size w w' ∧ match x with
  | (none, z) => e = .returned (.tuple #[.pointer none, .int .i64 z])
  | (some F, z) => ∃ g, e = .returned (.tuple #[.pointer (some ⟨g, 0, none⟩), .int .i64 z]) ∧ MadeV At w w' g F
theorem laidV_none {At : World → Nat → (Nat → Prop) → Fs → Prop} {x : Option Fs × Int} {z : Int} (h : x = (none, z)) {w w' : World} (b : Below w.heap.size w w') : LaidV At x w (.returned (.tuple #[.pointer none, .int .i64 z])) w' := by
  subst h
  exact ⟨b, rfl⟩
theorem laidV_some {At : World → Nat → (Nat → Prop) → Fs → Prop} {x : Option Fs × Int} {F : Fs} (h : x = (some F, 0)) {w w' : World} {g : Nat} (b : MadeV At w w' g F) : LaidV At x w (.returned (.tuple #[.pointer (some ⟨g, 0, none⟩), .int .i64 0])) w' := by
  subst h
  exact ⟨b.choose_spec.2.2, g, rfl, b⟩

set_option maxHeartbeats 8000000 in
theorem llaid_any (a : Option Addr) (n c : Nat) (ns : List ByteArray) (a2 : Option Addr) (n2 c2 : Nat) (hs : List H3) (ds : List (List Int)) (w : World) (hr : RowX w a n ns) (hsz : ∀ s ∈ ns, s.size ≤ maxLen) (hr2 : RowBB w a2 n2 hs ds) (hn : n ≤ 1099511627776) (hn2 : n2 ≤ 1099511627776) :
    Calls Tryz.prog 30 #[.slice a n c, .slice a2 n2 c2] w fun e w' => LaidV LAt (laidF ns ds) w e w' := by
  have hl := hr.1
  have hl2 := hr2.len
  by_cases hne : n = n2
  · subst hne
    have AN := hide (arenames_any a n c ns w hr hn hsz)
    by_cases hA : areN ns
    · have i0 : ¬ ns.length ≠ ds.length := by rw [hl, hl2]; exact fun h => h rfl
      have i1 : ¬ ¬ ((∀ s ∈ ns, mayN s = true) ∧ ns.Nodup) := fun h => h hA
      by_cases hbig : 1024 < n ∨ ∃ b ∈ ds, 1073741824 < b.length
      · have HE : Hid (laidF ns ds = (none, 2)) := by show _ = _; unfold laidF; rw [if_neg i0, if_neg i1, if_pos (by rw [hl]; exact hbig)]
        by_cases hb1 : 1024 < n
        · have d1 : decide ((1024 : Int) < (n : Int)) = true := decide_eq_true (by omega)
          have d2 : decide (1024 < n) = true := decide_eq_true hb1
          have d3 : (1024 : Int) < (n : Int) := by omega
          have HA := hide hA
          clear hr hr2 hbig hA i0 i1
          go_enter Tryz.func30, Tryz.ntmps30
          go_wp2_with fail
          with_reducible refine AN.out.mono ?_
          rintro e u ⟨b, rfl, hb, bu⟩
          obtain rfl : b = true := hb.2 HA.out
          have BU := hide bu
          clear hb bu AN
          go_wp2
          refine bodyPost_ret (v := .tuple #[.pointer none, .int .i64 2]) (by simp [results, Tryz.results30, go_sem]) rfl ?_
          exact laidV_none HE.out BU.out
        · have d1 : decide ((1024 : Int) < (n : Int)) = false := decide_eq_false (by omega)
          have d2 : decide (1024 < n) = false := decide_eq_false hb1
          have d3 : ¬ (1024 : Int) < (n : Int) := by omega
          have HA := hide hA
          have HB := hide (hbig.resolve_left hb1)
          have CN := hide (fun u (hu : Below w.heap.size w u) => contlong_any a2 n c2 hs ds u (hr2.below hu (Nat.le_refl _)) hn)
          clear hr hr2 hbig hA i0 i1
          go_enter Tryz.func30, Tryz.ntmps30
          go_wp2_with fail
          with_reducible refine AN.out.mono ?_
          rintro e u ⟨b, rfl, hb, bu⟩
          obtain rfl : b = true := hb.2 HA.out
          have BU := hide bu
          clear hb bu AN
          go_wp2_with fail
          with_reducible refine (CN.out _ BU.out).mono ?_
          rintro e u2 ⟨b2, rfl, hb2, hu2⟩
          obtain rfl : b2 = true := hb2.2 HB.out
          rw [hu2]
          clear hb2 hu2 CN
          go_wp2
          refine bodyPost_ret (v := .tuple #[.pointer none, .int .i64 2]) (by simp [results, Tryz.results30, go_sem]) rfl ?_
          exact laidV_none HE.out BU.out
      · have HE : Hid (laidF ns ds = (some (layK ns ds n), 0)) := by
          show _ = _
          unfold laidF
          rw [if_neg i0, if_neg i1, if_neg (by rw [hl]; exact hbig)]
          unfold layK
          rw [List.take_of_length_le (by omega), List.take_of_length_le (by omega)]
        have hb1 : ¬ 1024 < n := fun h => hbig (Or.inl h)
        have hb2 : ∀ b ∈ ds, b.length ≤ 1073741824 := fun b hb => Nat.le_of_not_lt (fun h => hbig (Or.inr ⟨b, hb, h⟩))
        have d1 : decide ((1024 : Int) < (n : Int)) = false := decide_eq_false (by omega)
        have d2 : decide (1024 < n) = false := decide_eq_false hb1
        have d3 : ¬ (1024 : Int) < (n : Int) := by omega
        have HA := hide hA
        have HB := hide (fun q : ∃ b ∈ ds, 1073741824 < b.length => hbig (Or.inr q))
        have CN := hide (fun u (hu : Below w.heap.size w u) => contlong_any a2 n c2 hs ds u (hr2.below hu (Nat.le_refl _)) hn)
        have HR := hide hr
        have HR2 := hide hr2
        have HB2 := hide hb2
        have HL := hide hl
        clear hr hr2 hbig hA i0 i1 hsz hb2 hl
        go_enter Tryz.func30, Tryz.ntmps30
        go_wp2_with fail
        with_reducible refine AN.out.mono ?_
        rintro e u ⟨b, rfl, hb, bu⟩
        obtain rfl : b = true := hb.2 HA.out
        have BU := hide bu
        clear hb bu AN
        go_wp2_with fail
        with_reducible refine (CN.out _ BU.out).mono ?_
        rintro e u2 ⟨b2, rfl, hb2, hu2⟩
        have : b2 = false := by
          cases hq : b2 with
          | false => rfl
          | true => exact (HB.out (hb2.1 hq)).elim
        subst this
        rw [hu2]
        clear hb2 hu2 CN
        go_wp2_with fail
        with_reducible refine (lnew_any _).mono ?_
        rintro e v0 ⟨g, rfl, hmade⟩
        have MV : Hid (MadeV LAt w v0 g fs0) := by
          obtain ⟨S, q1, q2, q3⟩ := hmade
          exact ⟨S, q1, fun k hk => Nat.le_trans BU.out.size (q2 k hk), bel_to BU.out (Nat.le_refl _) q3⟩
        clear hmade BU
        go_wp2
        go_loopw [31] (fun i wr => ∃ k : Nat, k ≤ n ∧ i = .int .i64 (k : Int) ∧ Hid (MadeV LAt w wr g (layK ns ds k))) (fun i _ => n - (intOf i).toNat)
        case atStart => exact ⟨0, by omega, rfl, by rw [layK_zero]; exact MV.out⟩
        case round =>
          clear MV
          obtain ⟨k, hk, rfl, HM⟩ := hrel
          obtain ⟨v, rfl⟩ : ∃ v, v = wr := ⟨wr, rfl⟩
          by_cases hlt : k < n
          · obtain ⟨S, ⟨hV, hN, fb, fh, bn, bc, at', ct, B⟩, hSb, hbv⟩ := HM.out
            obtain ⟨b, off, rfl, hc⟩ := HR.out.2.2.resolve_left (by omega)
            have cs := hc k hlt
            have cs := (hbv.cell (p := ⟨b, off + k, none⟩) (World.block_lt_of_cell? w _ cs)).trans cs
            have hns : ns[k]? = some (ns.getD k ByteArray.empty) := (getD_at (by rw [HL.out]; exact hlt)).2
            obtain ⟨b2, off2, x, d, rfl, cx, hd, hrow, hxc, hxn⟩ := (HR2.out.below hbv (Nat.le_refl _)).at' hlt
            obtain ⟨s, hs'⟩ : ∃ s, ns.getD k ByteArray.empty = s := ⟨_, rfl⟩
            rw [hs'] at cs hns
            have i1 : (0 : Int) ≤ (k : Int) := by omega
            have i2 : (k : Int) < (n : Int) := by omega
            have hdl := hrow.1
            have hdle := HB2.out d (List.mem_of_getElem? hd)
            have CL := hide (clone8_any x.1 x.2.1 x.2.2 d v hrow (by omega) hxn)
            have hsm : mayN s = true := HA.out.1 s (List.mem_of_getElem? hns)
            have hnn := layK_name (ds := ds) HA.out hns
            have LY := hide (fun u (hu : Below v.heap.size v u) (xa : Option Addr) (xc : Nat) (ox : OwnVb u v.heap.size xa x.2.1 xc d) => lay_any u g S (layK ns ds k) fb fh bn bc at' ct 1073741824 s (xa, x.2.1, xc) d (B.below hu) hV hN rfl (layK_lim (by omega) rfl HB2.out) (by omega) hsm hnn hrow.bytes (OwnG.mono ox (Nat.zero_le _)) (fun j hj hS => by
              have h1 := (OwnG.cellsT ox j hj).2
              have h2 := B.lt j hS
              omega))
            have ST := hide (layK_step hns hd)
            have NX : Hid (∀ (u u2 : World) (xa : Option Addr) (xc : Nat), Below v.heap.size v u → OwnVb u v.heap.size xa x.2.1 xc d → (∃ S' fb' fh', LB u2 g S' (layF (layK ns ds k) s d) fb' fh' bn bc at' ct ∧ (∀ j, S' j → S j ∨ u.heap.size ≤ j ∨ (h3V (xa, x.2.1, xc)).ownBlock = some j) ∧ Ch S u u2) → MadeV LAt w u2 g (layK ns ds (k + 1))) := fun u u2 xa xc hu ox hq => by
              obtain ⟨S', fb', fh', q1, q2, q3⟩ := hq
              rw [← ST.out]
              have z1 := hbv.size
              have z2 := hu.size
              refine ⟨S', ⟨hV.lay s hrow.bytes, GoodN.lay hV hN rfl hsm hnn d, _, _, _, _, _, _, q1⟩, fun j hj => ?_, (hbv.trans (hu.mono z1)).trans (q3.below (by omega) (fun j hj hS => by have := hSb j hS; omega))⟩
              rcases q2 j hj with e | e | e
              · exact hSb j e
              · omega
              · have := (OwnG.cellsT ox j e).2
                omega
            obtain ⟨xa0, xn, xc0⟩ := x
            dsimp only at cx CL LY NX
            have HST := hide (fun (h : k + 1 ≤ n) => h)
            clear HM hV hN B hSb hbv hc hns hd hrow hxc hxn hdl ST hs'
            go_wp2_with fail
            with_reducible refine CL.out.mono ?_
            rintro e u ⟨xa, xc, rfl, ox, bu⟩
            have LY2 := hide (LY.out u bu xa xc ox)
            have NX2 := hide (fun u2 => NX.out u u2 xa xc bu ox)
            clear ox bu CL LY NX
            go_wp2_with fail
            with_reducible refine LY2.out.mono ?_
            rintro e u2 ⟨rfl, hq⟩
            have HM2 := hide (NX2.out u2 hq)
            clear hq LY2 NX2
            go_wp2
            go_roundw
            case rel => exact ⟨k + 1, by omega, by go_num, HM2⟩
            case measure => simp [intOf]; omega
          · obtain rfl : k = n := by omega
            go_wp2
            refine bodyPost_ret (v := .tuple #[.pointer (some ⟨g, 0, none⟩), .int .i64 0]) (by simp [results, Tryz.results30, go_sem]) rfl ?_
            exact laidV_some HE.out HM.out
    · have HE : Hid (laidF ns ds = (none, 1)) := by
        show _ = _
        unfold laidF
        rw [if_neg (by rw [hl, hl2]; exact fun h => h rfl), if_pos (show ¬ ((∀ s ∈ ns, mayN s = true) ∧ ns.Nodup) from hA)]
      have HA := hide hA
      clear hr hr2 hA
      go_enter Tryz.func30, Tryz.ntmps30
      go_wp2_with fail
      with_reducible refine AN.out.mono ?_
      rintro e u ⟨b, rfl, hb, bu⟩
      have : b = false := by
        cases hq : b with
        | false => rfl
        | true => exact (HA.out (hb.1 hq)).elim
      subst this
      have BU := hide bu
      clear hb bu AN
      go_wp2
      refine bodyPost_ret (v := .tuple #[.pointer none, .int .i64 1]) (by simp [results, Tryz.results30, go_sem]) rfl ?_
      exact laidV_none HE.out BU.out
  · have HE : Hid (laidF ns ds = (none, 1)) := by
      show _ = _
      unfold laidF
      rw [if_pos (by rw [hl, hl2]; exact hne)]
    have d1 : ((n : Int) != (n2 : Int)) = true := by simp; omega
    have d2 : (n != n2) = true := by simpa using hne
    clear hr hr2
    go_enter Tryz.func30, Tryz.ntmps30
    go_wp2
    refine bodyPost_ret (v := .tuple #[.pointer none, .int .i64 1]) (by simp [results, Tryz.results30, go_sem]) rfl ?_
    exact laidV_none HE.out (Below.refl _ _)
end Go.Proofs.YtknghoecjobkiaaGreatDoor
