/-
  The landed file system: a file grows: a contract, for every world (written by gen/vfsdh.gen.py).
  Conditions: the file lies in memory; the bytes are told.
-/
import Derived.Test.YthlkmjaflomflaaGreatVfsDg
namespace Go.Proofs.YthlkmjaflomflaaGreat
open Go.RowKit Go.Maps
set_option maxRecDepth 20000
set_option linter.unusedVariables false

theorem Tryz.infoPu : (Tryz.prog.info? 128).map (fun i => (i.zero, i.size, i.bytes)) = some (some (.agg #[.int .i64 0, .slice none 0 0]), 2, 32) := by kernel_rfl
theorem pu_cells (w : World) (n : Int) (q : Nat × H3) (e : TypeId) (h1 : (q.1 : Int) = n) : ∀ j u, (puV q)[j]? = some u → (w.alloc (.cells #[.int .i64 n, .slice q.2.1 q.2.2.1 q.2.2.2] e)).cell? ((⟨w.heap.size, 0, none⟩ : Addr).add j) = some u := by
  subst h1
  intro j u h
  match j, h with
  | 0, h => simp [puV] at h; subst h; rw [Addr.add_lit, World.cell?_alloc_mark]; rfl
  | 1, h => simp [puV] at h; subst h; rw [Addr.add_lit, World.cell?_alloc_mark]; rfl
theorem flat_pu (q : Nat × H3) : [q].flatMap puV = puV q := by simp
/-- Where a row ends. -/
theorem last_of {α : Type} {l : List α} {L : Nat} (h : l.length = L + 1) : ∃ x, l = l.take L ++ [x] ∧ l[L]? = some x := by
  have hlt : L < l.length := by omega
  refine ⟨l[L], ?_, List.getElem?_eq_getElem hlt⟩
  rw [← List.take_succ_eq_append_getElem hlt, List.take_of_length_le (by omega)]
/-- A group more: bytes that were appended. -/
theorem FlP.pushApp {w u : World} {h : Fh} {k : Nat} {b su : List Int} {us : List Un} (m : FlP w h k b su us) {zs : List Int} (hz : zs ≠ []) {P g' c' : Nat} (hP : h.p.2.1 = P) (gr : Ch (fun j => (h3V h.p).ownBlock = some j) w u) (o : OwnP u 0 (some ⟨g', 0, none⟩) (P + 1) c' (h.hp ++ [(zs.length, (none, 0, 0))])) (lies : (h3V h.p).ownBlock = some g' ∨ w.heap.size ≤ g') :
    StepP w (u.setCell ⟨h.b, 2, none⟩ (.slice (some ⟨g', 0, none⟩) (P + 1) c')) h k b su (us ++ moreU zs) := by
  have q := m.putPend gr (p' := (some ⟨g', 0, none⟩, P + 1, c')) (ps' := h.ps ++ [(zs.length, [])]) (hp' := h.hp ++ [(zs.length, (none, 0, 0))]) (su' := su) (us' := us ++ moreU zs) o (Pd.app us h.ps zs m.pd hz) (by rw [List.length_append, List.length_append, m.len]; rfl) (fun i q r h1 h2 => by
    by_cases e : i < h.hp.length
    · rw [List.getElem?_append_left e] at h1
      rw [List.getElem?_append_left (by rw [← m.len]; exact e)] at h2
      obtain ⟨e1, e2, e3⟩ := m.each i q r h1 h2
      exact ⟨e1, OwnG.ch e2 gr (fun j hj e => (OwnG.cellsT m.pend j e).1.ne (OwnG.cellsT e2 j hj).1 (by decide) rfl), e3⟩
    · rw [List.getElem?_append_right (by omega), List.getElem?_singleton] at h1
      rw [List.getElem?_append_right (by rw [← m.len]; omega), List.getElem?_singleton] at h2
      split at h1
      · rename_i e4
        rw [if_pos (by rw [← m.len]; exact e4)] at h2
        obtain rfl := Option.some.inj h1
        obtain rfl := Option.some.inj h2
        exact ⟨rfl, ownG_nil _ _, fun j hj => by simp [h3V, Value.ownBlock] at hj⟩
      · cases h1)
  refine ⟨{ h with p := (some ⟨g', 0, none⟩, P + 1, c'), ps := h.ps ++ [(zs.length, [])], hp := h.hp ++ [(zs.length, (none, 0, 0))] }, rfl, q, fun j hj => ?_, (gr.more (fun j _ e => Or.inr (Or.inr (Or.inl e)))).trans ((ch_set u h.b 2 _).more (fun j _ e => Or.inl e))⟩
  rcases hj with e | e | e | ⟨q', e, e2⟩
  · exact Or.inl (Or.inl e)
  · exact Or.inl (Or.inr (Or.inl e))
  · have : g' = j := by simpa [h3V, Value.ownBlock] using e
    subst this
    rcases lies with e | e
    · exact Or.inl (Or.inr (Or.inr (Or.inl e)))
    · exact Or.inr e
  · rcases List.mem_append.1 e with e | e
    · exact Or.inl (Or.inr (Or.inr (Or.inr ⟨q', e, e2⟩)))
    · obtain rfl := List.mem_singleton.1 e
      simp [h3V, Value.ownBlock] at e2

set_option maxHeartbeats 8000000 in
theorem grow_any (w : World) (h : Fh) (k : Nat) (b su : List Int) (us : List Un) (m : FlP w h k b su us) (a : Option Addr) (n c : Nat) (zs : List Int) (hr : Row .u8 w a n zs) (hb : b.length ≤ 4294967296) (hn : n ≤ 4294967296) (hus : us.length ≤ 4294967296) :
    Calls Tryz.prog 75 #[.pointer (some ⟨h.b, 0, none⟩), .slice a n c] w fun e w' => e = .returned (.tuple #[]) ∧ StepP w w' h k (b ++ zs) su (us ++ moreU zs) := by
  have hlz := hr.1
  by_cases hn0 : n = 0
  · subst hn0
    have hz : zs = [] := List.length_eq_zero_iff.1 hlz
    subst hz
    have FIN : Hid (StepP w w h k (b ++ []) su (us ++ moreU [])) := by
      refine ⟨h, rfl, ?_, fun _ e => Or.inl e, Ch.refl _ _⟩
      rw [List.append_nil, show moreU [] = [] from rfl, List.append_nil]
      exact m
    clear m hr
    go_enter Tryz.func75, Tryz.ntmps75
    go_wp2
    refine bodyPost_ret (results_none rfl _ _ _) rfl ?_
    exact ⟨rfl, FIN.out⟩
  · have hzne : zs ≠ [] := by intro e; subst e; simp at hlz; omega
    obtain ⟨i0, hi0, hz00, hz01, hz02⟩ := info_parts Tryz.infoU8
    obtain ⟨i1, hi1, hz10, hz11, hz12⟩ := info_parts Tryz.infoPu
    obtain ⟨b2, off, rfl, -⟩ := hr.2.2.2.resolve_left hn0
    have HR := hide (fun j u (hj : (zs.flatMap byV)[j]? = some u) => hr.cells j u (by rw [flat_by] at hj; exact hj))
    have HLZ : Hid ((zs.flatMap byV).length = n * 1) := by show _ = _; rw [flatG_len byV_len, hlz]
    have HOZ : Hid (∀ u ∈ zs.flatMap byV, u.oneCell' = true) := fun u hu => by
      obtain ⟨y, -, hy⟩ := List.mem_flatMap.1 hu
      exact byV_one1 y u hy
    have c1 := m.c1
    have M := hide m
    have hdl := OwnG.len byV_len (by decide) m.data
    have hpl := OwnG.len puV_len (by decide) m.pend
    have hP : h.p.2.1 ≤ 4294967296 := by rw [← hpl, m.len]; exact Nat.le_trans m.pd.len hus
    have hD : h.d.2.1 ≤ 4294967296 := by rw [← hdl]; exact hb
    obtain ⟨da, dn, dc, hd⟩ : ∃ da dn dc, h.d = (da, dn, dc) := ⟨_, _, _, rfl⟩
    have OD := hide m.data
    rw [hd] at c1 hdl hD OD
    dsimp only at c1 hdl hD OD
    have ONN : Hid (0 < n) := by show 0 < n; omega
    have hlz' := hide hlz
    clear m hr hb hpl hlz
    have LNH : h.p.2.1 = 0 ∨ ∃ L, h.p.2.1 = L + 1 := by
      cases hx : h.p.2.1 with
      | zero => exact Or.inl rfl
      | succ L => exact Or.inr ⟨L, rfl⟩
    rcases LNH with hP0 | ⟨L, hPL⟩
    · -- none is pending
      obtain ⟨pa, pc, hpe⟩ : ∃ pa pc, h.p = (pa, 0, pc) := ⟨h.p.1, h.p.2.2, by rw [← hP0]⟩
      go_enter Tryz.func75, Tryz.ntmps75
      go_wp2_with (at_builtin; refine wpList_append_lies _ rfl _ _ 33 rfl 0 5 i0 (.int .u8 0) 1 1 Tryz.underlying33 hi0 hz00 hz01 hz02 rfl (by decide) (.slice da dn dc) dn (b.flatMap byV) rfl OD.out ⟨b2, off, none⟩ n c (zs.flatMap byV) rfl HLZ.out HR.out HOZ.out ONN.out (by unfold maxLen; omega) (by omega) (Nat.zero_le _) _ rfl ?_)
      intro gC cC wC oC grC atC ltC
      have KC : Hid (Ch (fun j => (h3V h.d).ownBlock = some j) w wC) := by rw [hd]; exact Ch.grown grC
      have OC : Hid (OwnB wC 0 (some ⟨gC, 0, none⟩) (dn + n) cC (b ++ zs)) := by
        show OwnG _ _ _ _ _ _ _ _ _
        unfold OwnG
        rw [List.flatMap_append]
        exact oC
      have LC : Hid ((h3V h.d).ownBlock = some gC ∨ w.heap.size ≤ gC) := by
        rw [hd]
        rcases atC with e | e
        · exact Or.inl e
        · exact Or.inr (by rw [e]; exact Nat.le_refl _)
      have M2 : Hid (FlP (wC.setCell ⟨h.b, 1, none⟩ (.slice (some ⟨gC, 0, none⟩) (dn + n) cC)) { h with d := (some ⟨gC, 0, none⟩, dn + n, cC) } k (b ++ zs) su us) := M.out.putData KC.out (d' := (some ⟨gC, 0, none⟩, dn + n, cC)) OC.out (fun j hj => by
        have : gC = j := by simpa [h3V, Value.ownBlock] using hj
        subst this
        exact LC.out)
      have K2 : Hid (Ch (SFh h) w (wC.setCell ⟨h.b, 1, none⟩ (.slice (some ⟨gC, 0, none⟩) (dn + n) cC))) := (KC.out.more (fun j _ e => Or.inr (Or.inl e))).trans ((ch_set wC h.b 1 _).more (fun j _ e => Or.inl e))
      have S2 : Hid (∀ j, SFh { h with d := (some ⟨gC, 0, none⟩, dn + n, cC) } j → SFh h j ∨ w.heap.size ≤ j) := fun j hj => by
        rcases hj with e | e | e | e
        · exact Or.inl (Or.inl e)
        · have : gC = j := by simpa [h3V, Value.ownBlock] using e
          subst this
          rcases LC.out with e | e
          · exact Or.inl (Or.inr (Or.inl e))
          · exact Or.inr e
        · exact Or.inl (Or.inr (Or.inr (Or.inl e)))
        · exact Or.inl (Or.inr (Or.inr (Or.inr e)))
      have FB : wC.heap[h.b]? = some (.cells #[.int .i64 (k : Int), .slice h.d.1 h.d.2.1 h.d.2.2, .slice h.p.1 h.p.2.1 h.p.2.2] 102 (0, 0)) := (KC.out.block h.b (M.out.lt (Or.inl rfl)) (fun e => (OwnG.cellsT M.out.data h.b e).1.ne M.out.cells (by decide) rfl)).trans M.out.str
      have x1 : wC.cell? ⟨h.b, 1, none⟩ = some (.slice da dn dc) := by rw [cell_of_row wC h.b 1 _ _ (0, 0) FB, hd]; rfl
      have x2 := frozen_of_row wC h.b 1 _ _ FB
      clear oC grC atC ltC FB c1 OD KC OC LC M HR HLZ HOZ
      go_upto_region 2 with fail
      obtain ⟨W2, hW2⟩ : ∃ W2, Hid (wC.setCell ⟨h.b, 1, none⟩ (.slice (some ⟨gC, 0, none⟩) (dn + n) cC) = W2) := ⟨_, rfl⟩
      rw [hW2.out] at M2 K2 ⊢
      clear hW2 x1 x2
      have p2 := M2.out.c2
      have f2 := M2.out.fz 2
      have OP2 := hide M2.out.pend
      dsimp only at p2 f2 OP2
      rw [hpe] at p2 OP2
      dsimp only at p2 OP2
      have NC := hide (pu_cells W2 (n : Int) (n, (none, 0, 0)) 128 rfl)
      go_wp2_with (at_builtin; refine wpList_append_lies _ rfl _ _ 100 rfl 0 128 i1 (.agg #[.int .i64 0, .slice none 0 0]) 2 32 Tryz.underlying100 hi1 hz10 hz11 hz12 rfl (by decide) (.slice pa 0 pc) (0) (h.hp.flatMap puV) rfl (OwnG.alloc OP2.out _) ⟨W2.heap.size, 0, none⟩ 1 1 (puV (n, (none, 0, 0))) rfl rfl NC.out (puV_one1 _) (by omega) (by unfold maxLen; omega) (by omega) (Nat.zero_le _) _ rfl ?_)
      intro g3 c3 w3 o3 gr3 at3 lt3
      have KC3 : Hid (Ch (fun j => (h3V h.p).ownBlock = some j) W2 w3) := by rw [hpe]; exact ((Ch.refl _ W2).alloc _).trans (Ch.grown gr3)
      have FIN : Hid (StepP w (w3.setCell ⟨h.b, 2, none⟩ (.slice (some ⟨g3, 0, none⟩) (0 + 1) c3)) h k (b ++ zs) su (us ++ moreU zs)) := by
        refine stepP_join (h1 := { h with d := (some ⟨gC, 0, none⟩, dn + n, cC) }) rfl S2.out K2.out (M2.out.pushApp hzne (P := 0) (by dsimp only; rw [hpe]) KC3.out ?_ ?_)
        · show OwnG _ _ _ _ _ _ _ _ _
          unfold OwnG
          dsimp only
          rw [List.flatMap_append, flat_pu, hlz'.out]
          exact o3
        · dsimp only
          rw [hpe]
          rcases at3 with e | e
          · exact Or.inl e
          · exact Or.inr (by rw [e]; simp)
      have FB3 : w3.heap[h.b]? = some (.cells #[.int .i64 (k : Int), .slice (some ⟨gC, 0, none⟩) (dn + n) cC, .slice h.p.1 h.p.2.1 h.p.2.2] 102 (0, 0)) := (KC3.out.block h.b (M2.out.lt (Or.inl rfl)) (fun e => (OwnG.cellsT M2.out.pend h.b e).1.ne M2.out.cells (by decide) rfl)).trans M2.out.str
      have y2 : w3.cell? ⟨h.b, 2, none⟩ = some (.slice pa 0 pc) := by rw [cell_of_row w3 h.b 2 _ _ (0, 0) FB3, hpe]; rfl
      have y3 := frozen_of_row w3 h.b 2 _ _ FB3
      clear o3 gr3 at3 lt3 FB3 KC3 M2 K2 S2 OP2 NC p2 f2
      go_wp2
      go_end0
      exact ⟨rfl, FIN.out⟩
    · obtain ⟨pa, pc, hpe⟩ : ∃ pa pc, h.p = (pa, L + 1, pc) := ⟨h.p.1, h.p.2.2, by rw [← hPL]⟩
      have OPd := M.out.pend
      rw [hpe] at OPd
      dsimp only at OPd
      obtain ⟨ql, hql, hqL⟩ := last_of (OwnG.len puV_len (by decide) OPd)
      obtain ⟨gp, rfl, hlt, hcp, hcq⟩ := OwnG.at puV_len (by decide) OPd hqL
      obtain ⟨pl, hpl, hpL⟩ := last_of (l := h.ps) (L := L) (by rw [← M.out.len]; exact OwnG.len puV_len (by decide) OPd)
      obtain ⟨eqp, -, -⟩ := M.out.each L ql pl hqL hpL
      have cq0 : w.cell? ⟨gp, L * 2, none⟩ = some (.int .i64 (ql.1 : Int)) := hcq 0 _ rfl
      have HQL := hide hqL
      have HPL := hide hpl
      have HEQ := hide eqp
      have hql1 : ql.1 ≤ 4294967296 := by
        have q := M.out.pd
        rw [hpl] at q
        rw [eqp]
        rcases q.last with ⟨_, _, us', l, e1, e2, _⟩ | ⟨e1, _⟩
        · rw [e1, List.length_append, moreU_len, e2] at hus
          omega
        · omega
      have hL1 : L ≤ 4294967296 := by omega
      obtain ⟨q1, q2⟩ := ql
      dsimp only at cq0 HEQ hql1
      have CGP : Hid (CellsT w gp 128) := (OwnG.cellsT OPd gp rfl).1
      have cq00 := hide cq0
      clear hcq hql hqL hpl hpL eqp OPd cq0 hPL hus
      by_cases hq0 : 0 < q1
      · -- the last was appended
        go_enter Tryz.func75, Tryz.ntmps75
        go_wp2_with (at_builtin; refine wpList_append_lies _ rfl _ _ 33 rfl 0 5 i0 (.int .u8 0) 1 1 Tryz.underlying33 hi0 hz00 hz01 hz02 rfl (by decide) (.slice da dn dc) dn (b.flatMap byV) rfl OD.out ⟨b2, off, none⟩ n c (zs.flatMap byV) rfl HLZ.out HR.out HOZ.out ONN.out (by unfold maxLen; omega) (by omega) (Nat.zero_le _) _ rfl ?_)
        intro gC cC wC oC grC atC ltC
        have KC : Hid (Ch (fun j => (h3V h.d).ownBlock = some j) w wC) := by rw [hd]; exact Ch.grown grC
        have OC : Hid (OwnB wC 0 (some ⟨gC, 0, none⟩) (dn + n) cC (b ++ zs)) := by
          show OwnG _ _ _ _ _ _ _ _ _
          unfold OwnG
          rw [List.flatMap_append]
          exact oC
        have LC : Hid ((h3V h.d).ownBlock = some gC ∨ w.heap.size ≤ gC) := by
          rw [hd]
          rcases atC with e | e
          · exact Or.inl e
          · exact Or.inr (by rw [e]; exact Nat.le_refl _)
        have M2 : Hid (FlP (wC.setCell ⟨h.b, 1, none⟩ (.slice (some ⟨gC, 0, none⟩) (dn + n) cC)) { h with d := (some ⟨gC, 0, none⟩, dn + n, cC) } k (b ++ zs) su us) := M.out.putData KC.out (d' := (some ⟨gC, 0, none⟩, dn + n, cC)) OC.out (fun j hj => by
          have : gC = j := by simpa [h3V, Value.ownBlock] using hj
          subst this
          exact LC.out)
        have K2 : Hid (Ch (SFh h) w (wC.setCell ⟨h.b, 1, none⟩ (.slice (some ⟨gC, 0, none⟩) (dn + n) cC))) := (KC.out.more (fun j _ e => Or.inr (Or.inl e))).trans ((ch_set wC h.b 1 _).more (fun j _ e => Or.inl e))
        have S2 : Hid (∀ j, SFh { h with d := (some ⟨gC, 0, none⟩, dn + n, cC) } j → SFh h j ∨ w.heap.size ≤ j) := fun j hj => by
          rcases hj with e | e | e | e
          · exact Or.inl (Or.inl e)
          · have : gC = j := by simpa [h3V, Value.ownBlock] using e
            subst this
            rcases LC.out with e | e
            · exact Or.inl (Or.inr (Or.inl e))
            · exact Or.inr e
          · exact Or.inl (Or.inr (Or.inr (Or.inl e)))
          · exact Or.inl (Or.inr (Or.inr (Or.inr e)))
        have FB : wC.heap[h.b]? = some (.cells #[.int .i64 (k : Int), .slice h.d.1 h.d.2.1 h.d.2.2, .slice h.p.1 h.p.2.1 h.p.2.2] 102 (0, 0)) := (KC.out.block h.b (M.out.lt (Or.inl rfl)) (fun e => (OwnG.cellsT M.out.data h.b e).1.ne M.out.cells (by decide) rfl)).trans M.out.str
        have x1 : wC.cell? ⟨h.b, 1, none⟩ = some (.slice da dn dc) := by rw [cell_of_row wC h.b 1 _ _ (0, 0) FB, hd]; rfl
        have x2 := frozen_of_row wC h.b 1 _ _ FB
        have UC : Hid (CellsT wC gp 128 ∧ wC.cell? ⟨gp, L * 2, none⟩ = some (.int .i64 (q1 : Int))) := by
          have kk := KC.out.block gp CGP.out.lt (fun e => (OwnG.cellsT M.out.data gp e).1.ne CGP.out (by decide) rfl)
          refine ⟨?_, ?_⟩
          · obtain ⟨cu, mk, q⟩ := CGP.out
            exact ⟨cu, mk, kk.trans q⟩
          · have := cq00.out
            simp only [World.cell?] at this ⊢
            rw [kk]
            exact this
        have U2 : Hid ((wC.setCell ⟨h.b, 1, none⟩ (.slice (some ⟨gC, 0, none⟩) (dn + n) cC)).cell? ⟨gp, L * 2, none⟩ = some (.int .i64 (q1 : Int))) := by
          have hne : h.b ≠ gp := by
            have cb : CellsT wC h.b 102 := ⟨_, _, FB⟩
            exact cb.ne UC.out.1 (by decide)
          rw [World.cell?_setCell_other _ _ _ _ (fun e => hne (congrArg Addr.block e))]
          exact UC.out.2
        clear UC
        clear oC grC atC ltC FB c1 OD KC OC LC M HR HLZ HOZ
        go_upto_region 2 with fail
        obtain ⟨W2, hW2⟩ : ∃ W2, Hid (wC.setCell ⟨h.b, 1, none⟩ (.slice (some ⟨gC, 0, none⟩) (dn + n) cC) = W2) := ⟨_, rfl⟩
        rw [hW2.out] at M2 K2 U2 ⊢
        clear hW2 x1 x2
        have n1 : (0 : Int) ≤ (L : Int) := by omega
        have n2 : (L : Int) < (L : Int) + 1 := by omega
        have n3 : IntKind.i64.wrap (((L + 1 : Nat) : Int) - 1) = (L : Int) := by rw [IntKind.wrap_i64]; omega
        have n4 : IntKind.i64.wrap ((L : Int) + 1 - 1) = (L : Int) := by rw [IntKind.wrap_i64]; omega
        have n5 : IntKind.i64.wrap (L : Int) = (L : Int) := by rw [IntKind.wrap_i64]; omega
        have u2 := U2.out
        have p2 := M2.out.c2
        dsimp only at p2
        rw [hpe] at p2
        dsimp only at p2
        have fg : W2.frozen? ⟨gp, L * 2, none⟩ = false := by
          have o := M2.out.pend
          dsimp only at o
          rw [hpe] at o
          exact World.ownsRow.frozenAt o _
        have d1 : decide ((0 : Int) < (q1 : Int)) = true := decide_eq_true (by omega)
        have d2 : decide (0 < q1) = true := decide_eq_true hq0
        have d3 : (0 : Int) < (q1 : Int) := by omega
        have n6 : IntKind.i64.wrap ((q1 : Int) + (n : Int)) = (q1 : Int) + (n : Int) := by rw [IntKind.wrap_i64]; omega
        have FIN : Hid (StepP w (W2.setCell ⟨gp, L * 2, none⟩ (.int .i64 ((q1 : Int) + (n : Int)))) h k (b ++ zs) su (us ++ moreU zs)) := by
          have hobp : (h3V h.p).ownBlock = some gp := by rw [hpe]; rfl
          obtain ⟨pl1, pl2⟩ := pl
          dsimp only at HEQ HPL
          have e1 : q1 = pl1 := HEQ.out
          subst e1
          have mm := M2.out.bump (gp := gp) (L := L) (cp := pc) hpe (ps0 := h.ps.take L) (p := (q1, pl2)) HPL.out (q := (q1, q2)) HQL.out hq0 zs
          rw [hlz'.out] at mm
          dsimp only at mm
          rw [Int.natCast_add] at mm
          refine stepP_join (h1 := { h with d := (some ⟨gC, 0, none⟩, dn + n, cC) }) rfl S2.out K2.out ⟨{ b := h.b, d := (some ⟨gC, 0, none⟩, dn + n, cC), p := h.p, ps := h.ps.take L ++ [(q1 + n, pl2)], hp := h.hp.set L (q1 + n, q2) }, rfl, mm, fun j hj => ?_, (ch_set W2 gp _ _).more (fun j _ e => Or.inr (Or.inr (Or.inl (by rw [e]; exact hobp))))⟩
          rcases hj with e | e | e | ⟨q', e, e2⟩
          · exact Or.inl (Or.inl e)
          · exact Or.inl (Or.inr (Or.inl e))
          · exact Or.inl (Or.inr (Or.inr (Or.inl e)))
          · rcases List.mem_or_eq_of_mem_set e with e | e
            · exact Or.inl (Or.inr (Or.inr (Or.inr ⟨q', e, e2⟩)))
            · subst e
              exact Or.inl (Or.inr (Or.inr (Or.inr ⟨(q1, q2), List.mem_of_getElem? HQL.out, e2⟩)))
        clear M2 K2 S2 HQL HPL HEQ U2 cq00 CGP
        go_wp2
        refine bodyPost_ret (results_none rfl _ _ _) rfl ?_
        exact ⟨rfl, FIN.out⟩
      · have dq1 : decide ((0 : Int) < (q1 : Int)) = false := decide_eq_false (by omega)
        have dq2 : decide (0 < q1) = false := decide_eq_false hq0
        have dq3 : ¬ (0 : Int) < (q1 : Int) := by omega
        go_enter Tryz.func75, Tryz.ntmps75
        go_wp2_with (at_builtin; refine wpList_append_lies _ rfl _ _ 33 rfl 0 5 i0 (.int .u8 0) 1 1 Tryz.underlying33 hi0 hz00 hz01 hz02 rfl (by decide) (.slice da dn dc) dn (b.flatMap byV) rfl OD.out ⟨b2, off, none⟩ n c (zs.flatMap byV) rfl HLZ.out HR.out HOZ.out ONN.out (by unfold maxLen; omega) (by omega) (Nat.zero_le _) _ rfl ?_)
        intro gC cC wC oC grC atC ltC
        have KC : Hid (Ch (fun j => (h3V h.d).ownBlock = some j) w wC) := by rw [hd]; exact Ch.grown grC
        have OC : Hid (OwnB wC 0 (some ⟨gC, 0, none⟩) (dn + n) cC (b ++ zs)) := by
          show OwnG _ _ _ _ _ _ _ _ _
          unfold OwnG
          rw [List.flatMap_append]
          exact oC
        have LC : Hid ((h3V h.d).ownBlock = some gC ∨ w.heap.size ≤ gC) := by
          rw [hd]
          rcases atC with e | e
          · exact Or.inl e
          · exact Or.inr (by rw [e]; exact Nat.le_refl _)
        have M2 : Hid (FlP (wC.setCell ⟨h.b, 1, none⟩ (.slice (some ⟨gC, 0, none⟩) (dn + n) cC)) { h with d := (some ⟨gC, 0, none⟩, dn + n, cC) } k (b ++ zs) su us) := M.out.putData KC.out (d' := (some ⟨gC, 0, none⟩, dn + n, cC)) OC.out (fun j hj => by
          have : gC = j := by simpa [h3V, Value.ownBlock] using hj
          subst this
          exact LC.out)
        have K2 : Hid (Ch (SFh h) w (wC.setCell ⟨h.b, 1, none⟩ (.slice (some ⟨gC, 0, none⟩) (dn + n) cC))) := (KC.out.more (fun j _ e => Or.inr (Or.inl e))).trans ((ch_set wC h.b 1 _).more (fun j _ e => Or.inl e))
        have S2 : Hid (∀ j, SFh { h with d := (some ⟨gC, 0, none⟩, dn + n, cC) } j → SFh h j ∨ w.heap.size ≤ j) := fun j hj => by
          rcases hj with e | e | e | e
          · exact Or.inl (Or.inl e)
          · have : gC = j := by simpa [h3V, Value.ownBlock] using e
            subst this
            rcases LC.out with e | e
            · exact Or.inl (Or.inr (Or.inl e))
            · exact Or.inr e
          · exact Or.inl (Or.inr (Or.inr (Or.inl e)))
          · exact Or.inl (Or.inr (Or.inr (Or.inr e)))
        have FB : wC.heap[h.b]? = some (.cells #[.int .i64 (k : Int), .slice h.d.1 h.d.2.1 h.d.2.2, .slice h.p.1 h.p.2.1 h.p.2.2] 102 (0, 0)) := (KC.out.block h.b (M.out.lt (Or.inl rfl)) (fun e => (OwnG.cellsT M.out.data h.b e).1.ne M.out.cells (by decide) rfl)).trans M.out.str
        have x1 : wC.cell? ⟨h.b, 1, none⟩ = some (.slice da dn dc) := by rw [cell_of_row wC h.b 1 _ _ (0, 0) FB, hd]; rfl
        have x2 := frozen_of_row wC h.b 1 _ _ FB
        have UC : Hid (CellsT wC gp 128 ∧ wC.cell? ⟨gp, L * 2, none⟩ = some (.int .i64 (q1 : Int))) := by
          have kk := KC.out.block gp CGP.out.lt (fun e => (OwnG.cellsT M.out.data gp e).1.ne CGP.out (by decide) rfl)
          refine ⟨?_, ?_⟩
          · obtain ⟨cu, mk, q⟩ := CGP.out
            exact ⟨cu, mk, kk.trans q⟩
          · have := cq00.out
            simp only [World.cell?] at this ⊢
            rw [kk]
            exact this
        have U2 : Hid ((wC.setCell ⟨h.b, 1, none⟩ (.slice (some ⟨gC, 0, none⟩) (dn + n) cC)).cell? ⟨gp, L * 2, none⟩ = some (.int .i64 (q1 : Int))) := by
          have hne : h.b ≠ gp := by
            have cb : CellsT wC h.b 102 := ⟨_, _, FB⟩
            exact cb.ne UC.out.1 (by decide)
          rw [World.cell?_setCell_other _ _ _ _ (fun e => hne (congrArg Addr.block e))]
          exact UC.out.2
        clear UC
        clear oC grC atC ltC FB c1 OD KC OC LC M HR HLZ HOZ
        go_upto_region 2 with fail
        obtain ⟨W2, hW2⟩ : ∃ W2, Hid (wC.setCell ⟨h.b, 1, none⟩ (.slice (some ⟨gC, 0, none⟩) (dn + n) cC) = W2) := ⟨_, rfl⟩
        rw [hW2.out] at M2 K2 U2 ⊢
        clear hW2 x1 x2
        have n1 : (0 : Int) ≤ (L : Int) := by omega
        have n2 : (L : Int) < (L : Int) + 1 := by omega
        have n3 : IntKind.i64.wrap (((L + 1 : Nat) : Int) - 1) = (L : Int) := by rw [IntKind.wrap_i64]; omega
        have n4 : IntKind.i64.wrap ((L : Int) + 1 - 1) = (L : Int) := by rw [IntKind.wrap_i64]; omega
        have n5 : IntKind.i64.wrap (L : Int) = (L : Int) := by rw [IntKind.wrap_i64]; omega
        have u2 := U2.out
        have p2 := M2.out.c2
        have f2 := M2.out.fz 2
        have OP2 := hide M2.out.pend
        dsimp only at p2 f2 OP2
        rw [hpe] at p2 OP2
        dsimp only at p2 OP2
        clear HQL HPL HEQ U2 cq00 CGP
        have NC := hide (pu_cells W2 (n : Int) (n, (none, 0, 0)) 128 rfl)
        go_wp2_with (at_builtin; refine wpList_append_lies _ rfl _ _ 100 rfl 0 128 i1 (.agg #[.int .i64 0, .slice none 0 0]) 2 32 Tryz.underlying100 hi1 hz10 hz11 hz12 rfl (by decide) (.slice (some ⟨gp, 0, none⟩) (L + 1) pc) (L + 1) (h.hp.flatMap puV) rfl (OwnG.alloc OP2.out _) ⟨W2.heap.size, 0, none⟩ 1 1 (puV (n, (none, 0, 0))) rfl rfl NC.out (puV_one1 _) (by omega) (by unfold maxLen; omega) (by omega) (Nat.zero_le _) _ rfl ?_)
        intro g3 c3 w3 o3 gr3 at3 lt3
        have KC3 : Hid (Ch (fun j => (h3V h.p).ownBlock = some j) W2 w3) := by rw [hpe]; exact ((Ch.refl _ W2).alloc _).trans (Ch.grown gr3)
        have FIN : Hid (StepP w (w3.setCell ⟨h.b, 2, none⟩ (.slice (some ⟨g3, 0, none⟩) (L + 1 + 1) c3)) h k (b ++ zs) su (us ++ moreU zs)) := by
          refine stepP_join (h1 := { h with d := (some ⟨gC, 0, none⟩, dn + n, cC) }) rfl S2.out K2.out (M2.out.pushApp hzne (P := L + 1) (by dsimp only; rw [hpe]) KC3.out ?_ ?_)
          · show OwnG _ _ _ _ _ _ _ _ _
            unfold OwnG
            dsimp only
            rw [List.flatMap_append, flat_pu, hlz'.out]
            exact o3
          · dsimp only
            rw [hpe]
            rcases at3 with e | e
            · exact Or.inl e
            · exact Or.inr (by rw [e]; simp)
        have FB3 : w3.heap[h.b]? = some (.cells #[.int .i64 (k : Int), .slice (some ⟨gC, 0, none⟩) (dn + n) cC, .slice h.p.1 h.p.2.1 h.p.2.2] 102 (0, 0)) := (KC3.out.block h.b (M2.out.lt (Or.inl rfl)) (fun e => (OwnG.cellsT M2.out.pend h.b e).1.ne M2.out.cells (by decide) rfl)).trans M2.out.str
        have y2 : w3.cell? ⟨h.b, 2, none⟩ = some (.slice (some ⟨gp, 0, none⟩) (L + 1) pc) := by rw [cell_of_row w3 h.b 2 _ _ (0, 0) FB3, hpe]; rfl
        have y3 := frozen_of_row w3 h.b 2 _ _ FB3
        clear o3 gr3 at3 lt3 FB3 KC3 M2 K2 S2 OP2 NC p2 f2
        go_wp2
        go_end0
        exact ⟨rfl, FIN.out⟩
end Go.Proofs.YthlkmjaflomflaaGreat
