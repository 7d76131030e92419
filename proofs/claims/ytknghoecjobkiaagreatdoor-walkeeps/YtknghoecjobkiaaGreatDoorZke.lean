/-
  The landed file system: a file grows: a contract, for every world (written by gen/vfsdh.gen.py). The landed file system: a file is cut: a contract, for every world (written by gen/vfsdi.gen.py). The landed file system: put, Append, Cut, Sync, Read: contracts, for every world (written by gen/vfsdj.gen.py). The landed file system: a file that is certain, as is its name (lay): a contract, for every world. The landed file system: SyncDir: contracts, for every world (written by gen/vfsdq.gen.py). The landed file system: Arm: contracts, for every world (written by gen/vfsdq.gen.py). What the laws' own Place comes to: the number's place among n, 0 to n - 1; it changes nothing. What fnv.More, fnv.Of and the document's examples come to, at any text behind any number: contracts, for every world. What the document's own answer (the product as a sum of shifts) comes to, at any text behind any number: contracts, for every world. The document's own answer of layer 8 (the laws' reference): a thing comes, how many unlike things: contracts, for every world.
  Conditions: as each theorem says.
-/
import Derived.Test.YtknghoecjobkiaaGreatDoorZkd
import Derived.Test.YtknghoecjobkiaaGreatDoorZka
import Derived.Test.YtknghoecjobkiaaGreatDoorRows
import Derived.WalkKit
import Derived.WalkSpells
import Derived.Test.YtknghoecjobkiaaGreatDoorZkb
namespace Go.Proofs.YtknghoecjobkiaaGreatDoor
open Go.RowKit Go.Maps
set_option maxRecDepth 20000
set_option linter.unusedVariables false

theorem Tryz.infoPu : (Tryz.prog.info? 266).map (fun i => (i.zero, i.size, i.bytes)) = some (some (.agg #[.int .i64 0, .slice none 0 0]), 2, 32) := by kernel_rfl
theorem pu_cells (w : World) (n : Int) (q : Nat × H3) (e : TypeId) (h1 : (q.1 : Int) = n) : ∀ j u, (puV q)[j]? = some u → (w.alloc (.cells #[.int .i64 n, .slice q.2.1 q.2.2.1 q.2.2.2] e)).cell? ((⟨w.heap.size, 0, none⟩ : Addr).add j) = some u := by
  subst h1
  intro j u h
  match j, h with
  | 0, h => simp [puV] at h; subst h; rw [Addr.add_lit, World.cell?_alloc_mark]; rfl
  | 1, h => simp [puV] at h; subst h; rw [Addr.add_lit, World.cell?_alloc_mark]; rfl
theorem flat_pu (q : Nat × H3) : [q].flatMap puV = puV q := by simp
/-- Where a row ends. -/
theorem last_of {α : Type} {l : List α} {L : Nat} (h : l.length = L + 1) : ∃ x, l = l.take L ++ [x] ∧ l[L]? = some x := by
  have hlt : L < l.length := by omega
  refine ⟨l[L], ?_, List.getElem?_eq_getElem hlt⟩
  rw [← List.take_succ_eq_append_getElem hlt, List.take_of_length_le (by omega)]
/-- A group more: bytes that were appended. -/
theorem FlP.pushApp {w u : World} {h : Fh} {k : Nat} {b su : List Int} {us : List Un} (m : FlP w h k b su us) {zs : List Int} (hz : zs ≠ []) {P g' c' : Nat} (hP : h.p.2.1 = P) (gr : Ch (fun j => (h3V h.p).ownBlock = some j) w u) (o : OwnP u 0 (some ⟨g', 0, none⟩) (P + 1) c' (h.hp ++ [(zs.length, (none, 0, 0))])) (lies : (h3V h.p).ownBlock = some g' ∨ w.heap.size ≤ g') :
    StepP w (u.setCell ⟨h.b, 2, none⟩ (.slice (some ⟨g', 0, none⟩) (P + 1) c')) h k b su (us ++ moreU zs) := by
  have q := m.putPend gr (p' := (some ⟨g', 0, none⟩, P + 1, c')) (ps' := h.ps ++ [(zs.length, [])]) (hp' := h.hp ++ [(zs.length, (none, 0, 0))]) (su' := su) (us' := us ++ moreU zs) o (Pd.app us h.ps zs m.pd hz) (by rw [List.length_append, List.length_append, m.len]; rfl) (fun i q r h1 h2 => by
    by_cases e : i < h.hp.length
    · rw [List.getElem?_append_left e] at h1
      rw [List.getElem?_append_left (by rw [← m.len]; exact e)] at h2
      obtain ⟨e1, e2, e3⟩ := m.each i q r h1 h2
      exact ⟨e1, OwnG.ch e2 gr (fun j hj e => (OwnG.cellsT m.pend j e).1.ne (OwnG.cellsT e2 j hj).1 (by decide) rfl), e3⟩
    · rw [List.getElem?_append_right (by omega), List.getElem?_singleton] at h1
      rw [List.getElem?_append_right (by rw [← m.len]; omega), List.getElem?_singleton] at h2
      split at h1
      · rename_i e4
        rw [if_pos (by rw [← m.len]; exact e4)] at h2
        obtain rfl := Option.some.inj h1
        obtain rfl := Option.some.inj h2
        exact ⟨rfl, ownG_nil _ _, fun j hj => by simp [h3V, Value.ownBlock] at hj⟩
      · cases h1)
  refine ⟨{ h with p := (some ⟨g', 0, none⟩, P + 1, c'), ps := h.ps ++ [(zs.length, [])], hp := h.hp ++ [(zs.length, (none, 0, 0))] }, rfl, q, fun j hj => ?_, (gr.more (fun j _ e => Or.inr (Or.inr (Or.inl e)))).trans ((ch_set u h.b 2 _).more (fun j _ e => Or.inl e))⟩
  rcases hj with e | e | e | ⟨q', e, e2⟩
  · exact Or.inl (Or.inl e)
  · exact Or.inl (Or.inr (Or.inl e))
  · have : g' = j := by simpa [h3V, Value.ownBlock] using e
    subst this
    rcases lies with e | e
    · exact Or.inl (Or.inr (Or.inr (Or.inl e)))
    · exact Or.inr e
  · rcases List.mem_append.1 e with e | e
    · exact Or.inl (Or.inr (Or.inr (Or.inr ⟨q', e, e2⟩)))
    · obtain rfl := List.mem_singleton.1 e
      simp [h3V, Value.ownBlock] at e2

set_option maxHeartbeats 8000000 in
theorem vgrow_any (w : World) (h : Fh) (k : Nat) (b su : List Int) (us : List Un) (m : FlP w h k b su us) (a : Option Addr) (n c : Nat) (zs : List Int) (hr : Row .u8 w a n zs) (hb : b.length ≤ 4294967296) (hn : n ≤ 4294967296) (hus : us.length ≤ 4294967296) :
    Calls Tryz.prog 232 #[.pointer (some ⟨h.b, 0, none⟩), .slice a n c] w fun e w' => e = .returned (.tuple #[]) ∧ StepP w w' h k (b ++ zs) su (us ++ moreU zs) := by
  have hlz := hr.1
  by_cases hn0 : n = 0
  · subst hn0
    have hz : zs = [] := List.length_eq_zero_iff.1 hlz
    subst hz
    have FIN : Hid (StepP w w h k (b ++ []) su (us ++ moreU [])) := by
      refine ⟨h, rfl, ?_, fun _ e => Or.inl e, Ch.refl _ _⟩
      rw [List.append_nil, show moreU [] = [] from rfl, List.append_nil]
      exact m
    clear m hr
    go_enter Tryz.func232, Tryz.ntmps232
    go_wp2
    refine bodyPost_ret (results_none rfl _ _ _) rfl ?_
    exact ⟨rfl, FIN.out⟩
  · have hzne : zs ≠ [] := by intro e; subst e; simp at hlz; omega
    obtain ⟨i0, hi0, hz00, hz01, hz02⟩ := info_parts Tryz.infoU8
    obtain ⟨i1, hi1, hz10, hz11, hz12⟩ := info_parts Tryz.infoPu
    obtain ⟨b2, off, rfl, -⟩ := hr.2.2.2.resolve_left hn0
    have HR := hide (fun j u (hj : (zs.flatMap byV)[j]? = some u) => hr.cells j u (by rw [flat_by] at hj; exact hj))
    have HLZ : Hid ((zs.flatMap byV).length = n * 1) := by show _ = _; rw [flatG_len byV_len, hlz]
    have HOZ : Hid (∀ u ∈ zs.flatMap byV, u.oneCell' = true) := fun u hu => by
      obtain ⟨y, -, hy⟩ := List.mem_flatMap.1 hu
      exact byV_one1 y u hy
    have c1 := m.c1
    have M := hide m
    have hdl := OwnG.len byV_len (by decide) m.data
    have hpl := OwnG.len puV_len (by decide) m.pend
    have hP : h.p.2.1 ≤ 4294967296 := by rw [← hpl, m.len]; exact Nat.le_trans m.pd.len hus
    have hD : h.d.2.1 ≤ 4294967296 := by rw [← hdl]; exact hb
    obtain ⟨da, dn, dc, hd⟩ : ∃ da dn dc, h.d = (da, dn, dc) := ⟨_, _, _, rfl⟩
    have OD := hide m.data
    rw [hd] at c1 hdl hD OD
    dsimp only at c1 hdl hD OD
    have ONN : Hid (0 < n) := by show 0 < n; omega
    have hlz' := hide hlz
    clear m hr hb hpl hlz
    have LNH : h.p.2.1 = 0 ∨ ∃ L, h.p.2.1 = L + 1 := by
      cases hx : h.p.2.1 with
      | zero => exact Or.inl rfl
      | succ L => exact Or.inr ⟨L, rfl⟩
    rcases LNH with hP0 | ⟨L, hPL⟩
    · -- none is pending
      obtain ⟨pa, pc, hpe⟩ : ∃ pa pc, h.p = (pa, 0, pc) := ⟨h.p.1, h.p.2.2, by rw [← hP0]⟩
      go_enter Tryz.func232, Tryz.ntmps232
      go_wp2_with (at_builtin; refine wpList_append_lies _ rfl _ _ 40 rfl 0 5 i0 (.int .u8 0) 1 1 Tryz.underlying40 hi0 hz00 hz01 hz02 rfl (by decide) (.slice da dn dc) dn (b.flatMap byV) rfl OD.out ⟨b2, off, none⟩ n c (zs.flatMap byV) rfl HLZ.out HR.out HOZ.out ONN.out (by unfold maxLen; omega) (by omega) (Nat.zero_le _) _ rfl ?_)
      intro gC cC wC oC grC atC ltC
      have KC : Hid (Ch (fun j => (h3V h.d).ownBlock = some j) w wC) := by rw [hd]; exact Ch.grown grC
      have OC : Hid (OwnVb wC 0 (some ⟨gC, 0, none⟩) (dn + n) cC (b ++ zs)) := by
        show OwnG _ _ _ _ _ _ _ _ _
        unfold OwnG
        rw [List.flatMap_append]
        exact oC
      have LC : Hid ((h3V h.d).ownBlock = some gC ∨ w.heap.size ≤ gC) := by
        rw [hd]
        rcases atC with e | e
        · exact Or.inl e
        · exact Or.inr (by rw [e]; exact Nat.le_refl _)
      have M2 : Hid (FlP (wC.setCell ⟨h.b, 1, none⟩ (.slice (some ⟨gC, 0, none⟩) (dn + n) cC)) { h with d := (some ⟨gC, 0, none⟩, dn + n, cC) } k (b ++ zs) su us) := M.out.putData KC.out (d' := (some ⟨gC, 0, none⟩, dn + n, cC)) OC.out (fun j hj => by
        have : gC = j := by simpa [h3V, Value.ownBlock] using hj
        subst this
        exact LC.out)
      have K2 : Hid (Ch (SFh h) w (wC.setCell ⟨h.b, 1, none⟩ (.slice (some ⟨gC, 0, none⟩) (dn + n) cC))) := (KC.out.more (fun j _ e => Or.inr (Or.inl e))).trans ((ch_set wC h.b 1 _).more (fun j _ e => Or.inl e))
      have S2 : Hid (∀ j, SFh { h with d := (some ⟨gC, 0, none⟩, dn + n, cC) } j → SFh h j ∨ w.heap.size ≤ j) := fun j hj => by
        rcases hj with e | e | e | e
        · exact Or.inl (Or.inl e)
        · have : gC = j := by simpa [h3V, Value.ownBlock] using e
          subst this
          rcases LC.out with e | e
          · exact Or.inl (Or.inr (Or.inl e))
          · exact Or.inr e
        · exact Or.inl (Or.inr (Or.inr (Or.inl e)))
        · exact Or.inl (Or.inr (Or.inr (Or.inr e)))
      have FB : wC.heap[h.b]? = some (.cells #[.int .i64 (k : Int), .slice h.d.1 h.d.2.1 h.d.2.2, .slice h.p.1 h.p.2.1 h.p.2.2] 185 (0, 0)) := (KC.out.block h.b (M.out.lt (Or.inl rfl)) (fun e => (OwnG.cellsT M.out.data h.b e).1.ne M.out.cells (by decide) rfl)).trans M.out.str
      have x1 : wC.cell? ⟨h.b, 1, none⟩ = some (.slice da dn dc) := by rw [cell_of_row wC h.b 1 _ _ (0, 0) FB, hd]; rfl
      have x2 := frozen_of_row wC h.b 1 _ _ FB
      clear oC grC atC ltC FB c1 OD KC OC LC M HR HLZ HOZ
      go_upto_region 2 with fail
      obtain ⟨W2, hW2⟩ : ∃ W2, Hid (wC.setCell ⟨h.b, 1, none⟩ (.slice (some ⟨gC, 0, none⟩) (dn + n) cC) = W2) := ⟨_, rfl⟩
      rw [hW2.out] at M2 K2 ⊢
      clear hW2 x1 x2
      have p2 := M2.out.c2
      have f2 := M2.out.fz 2
      have OP2 := hide M2.out.pend
      dsimp only at p2 f2 OP2
      rw [hpe] at p2 OP2
      dsimp only at p2 OP2
      have NC := hide (pu_cells W2 (n : Int) (n, (none, 0, 0)) 266 rfl)
      go_wp2_with (at_builtin; refine wpList_append_lies _ rfl _ _ 183 rfl 0 266 i1 (.agg #[.int .i64 0, .slice none 0 0]) 2 32 Tryz.underlying183 hi1 hz10 hz11 hz12 rfl (by decide) (.slice pa 0 pc) (0) (h.hp.flatMap puV) rfl (OwnG.alloc OP2.out _) ⟨W2.heap.size, 0, none⟩ 1 1 (puV (n, (none, 0, 0))) rfl rfl NC.out (puV_one1 _) (by omega) (by unfold maxLen; omega) (by omega) (Nat.zero_le _) _ rfl ?_)
      intro g3 c3 w3 o3 gr3 at3 lt3
      have KC3 : Hid (Ch (fun j => (h3V h.p).ownBlock = some j) W2 w3) := by rw [hpe]; exact ((Ch.refl _ W2).alloc _).trans (Ch.grown gr3)
      have FIN : Hid (StepP w (w3.setCell ⟨h.b, 2, none⟩ (.slice (some ⟨g3, 0, none⟩) (0 + 1) c3)) h k (b ++ zs) su (us ++ moreU zs)) := by
        refine stepP_join (h1 := { h with d := (some ⟨gC, 0, none⟩, dn + n, cC) }) rfl S2.out K2.out (M2.out.pushApp hzne (P := 0) (by dsimp only; rw [hpe]) KC3.out ?_ ?_)
        · show OwnG _ _ _ _ _ _ _ _ _
          unfold OwnG
          dsimp only
          rw [List.flatMap_append, flat_pu, hlz'.out]
          exact o3
        · dsimp only
          rw [hpe]
          rcases at3 with e | e
          · exact Or.inl e
          · exact Or.inr (by rw [e]; simp)
      have FB3 : w3.heap[h.b]? = some (.cells #[.int .i64 (k : Int), .slice (some ⟨gC, 0, none⟩) (dn + n) cC, .slice h.p.1 h.p.2.1 h.p.2.2] 185 (0, 0)) := (KC3.out.block h.b (M2.out.lt (Or.inl rfl)) (fun e => (OwnG.cellsT M2.out.pend h.b e).1.ne M2.out.cells (by decide) rfl)).trans M2.out.str
      have y2 : w3.cell? ⟨h.b, 2, none⟩ = some (.slice pa 0 pc) := by rw [cell_of_row w3 h.b 2 _ _ (0, 0) FB3, hpe]; rfl
      have y3 := frozen_of_row w3 h.b 2 _ _ FB3
      clear o3 gr3 at3 lt3 FB3 KC3 M2 K2 S2 OP2 NC p2 f2
      go_wp2
      go_end0
      exact ⟨rfl, FIN.out⟩
    · obtain ⟨pa, pc, hpe⟩ : ∃ pa pc, h.p = (pa, L + 1, pc) := ⟨h.p.1, h.p.2.2, by rw [← hPL]⟩
      have OPd := M.out.pend
      rw [hpe] at OPd
      dsimp only at OPd
      obtain ⟨ql, hql, hqL⟩ := last_of (OwnG.len puV_len (by decide) OPd)
      obtain ⟨gp, rfl, hlt, hcp, hcq⟩ := OwnG.at puV_len (by decide) OPd hqL
      obtain ⟨pl, hpl, hpL⟩ := last_of (l := h.ps) (L := L) (by rw [← M.out.len]; exact OwnG.len puV_len (by decide) OPd)
      obtain ⟨eqp, -, -⟩ := M.out.each L ql pl hqL hpL
      have cq0 : w.cell? ⟨gp, L * 2, none⟩ = some (.int .i64 (ql.1 : Int)) := hcq 0 _ rfl
      have HQL := hide hqL
      have HPL := hide hpl
      have HEQ := hide eqp
      have hql1 : ql.1 ≤ 4294967296 := by
        have q := M.out.pd
        rw [hpl] at q
        rw [eqp]
        rcases q.last with ⟨_, _, us', l, e1, e2, _⟩ | ⟨e1, _⟩
        · rw [e1, List.length_append, moreU_len, e2] at hus
          omega
        · omega
      have hL1 : L ≤ 4294967296 := by omega
      obtain ⟨q1, q2⟩ := ql
      dsimp only at cq0 HEQ hql1
      have CGP : Hid (CellsT w gp 266) := (OwnG.cellsT OPd gp rfl).1
      have cq00 := hide cq0
      clear hcq hql hqL hpl hpL eqp OPd cq0 hPL hus
      by_cases hq0 : 0 < q1
      · -- the last was appended
        go_enter Tryz.func232, Tryz.ntmps232
        go_wp2_with (at_builtin; refine wpList_append_lies _ rfl _ _ 40 rfl 0 5 i0 (.int .u8 0) 1 1 Tryz.underlying40 hi0 hz00 hz01 hz02 rfl (by decide) (.slice da dn dc) dn (b.flatMap byV) rfl OD.out ⟨b2, off, none⟩ n c (zs.flatMap byV) rfl HLZ.out HR.out HOZ.out ONN.out (by unfold maxLen; omega) (by omega) (Nat.zero_le _) _ rfl ?_)
        intro gC cC wC oC grC atC ltC
        have KC : Hid (Ch (fun j => (h3V h.d).ownBlock = some j) w wC) := by rw [hd]; exact Ch.grown grC
        have OC : Hid (OwnVb wC 0 (some ⟨gC, 0, none⟩) (dn + n) cC (b ++ zs)) := by
          show OwnG _ _ _ _ _ _ _ _ _
          unfold OwnG
          rw [List.flatMap_append]
          exact oC
        have LC : Hid ((h3V h.d).ownBlock = some gC ∨ w.heap.size ≤ gC) := by
          rw [hd]
          rcases atC with e | e
          · exact Or.inl e
          · exact Or.inr (by rw [e]; exact Nat.le_refl _)
        have M2 : Hid (FlP (wC.setCell ⟨h.b, 1, none⟩ (.slice (some ⟨gC, 0, none⟩) (dn + n) cC)) { h with d := (some ⟨gC, 0, none⟩, dn + n, cC) } k (b ++ zs) su us) := M.out.putData KC.out (d' := (some ⟨gC, 0, none⟩, dn + n, cC)) OC.out (fun j hj => by
          have : gC = j := by simpa [h3V, Value.ownBlock] using hj
          subst this
          exact LC.out)
        have K2 : Hid (Ch (SFh h) w (wC.setCell ⟨h.b, 1, none⟩ (.slice (some ⟨gC, 0, none⟩) (dn + n) cC))) := (KC.out.more (fun j _ e => Or.inr (Or.inl e))).trans ((ch_set wC h.b 1 _).more (fun j _ e => Or.inl e))
        have S2 : Hid (∀ j, SFh { h with d := (some ⟨gC, 0, none⟩, dn + n, cC) } j → SFh h j ∨ w.heap.size ≤ j) := fun j hj => by
          rcases hj with e | e | e | e
          · exact Or.inl (Or.inl e)
          · have : gC = j := by simpa [h3V, Value.ownBlock] using e
            subst this
            rcases LC.out with e | e
            · exact Or.inl (Or.inr (Or.inl e))
            · exact Or.inr e
          · exact Or.inl (Or.inr (Or.inr (Or.inl e)))
          · exact Or.inl (Or.inr (Or.inr (Or.inr e)))
        have FB : wC.heap[h.b]? = some (.cells #[.int .i64 (k : Int), .slice h.d.1 h.d.2.1 h.d.2.2, .slice h.p.1 h.p.2.1 h.p.2.2] 185 (0, 0)) := (KC.out.block h.b (M.out.lt (Or.inl rfl)) (fun e => (OwnG.cellsT M.out.data h.b e).1.ne M.out.cells (by decide) rfl)).trans M.out.str
        have x1 : wC.cell? ⟨h.b, 1, none⟩ = some (.slice da dn dc) := by rw [cell_of_row wC h.b 1 _ _ (0, 0) FB, hd]; rfl
        have x2 := frozen_of_row wC h.b 1 _ _ FB
        have UC : Hid (CellsT wC gp 266 ∧ wC.cell? ⟨gp, L * 2, none⟩ = some (.int .i64 (q1 : Int))) := by
          have kk := KC.out.block gp CGP.out.lt (fun e => (OwnG.cellsT M.out.data gp e).1.ne CGP.out (by decide) rfl)
          refine ⟨?_, ?_⟩
          · obtain ⟨cu, mk, q⟩ := CGP.out
            exact ⟨cu, mk, kk.trans q⟩
          · have := cq00.out
            simp only [World.cell?] at this ⊢
            rw [kk]
            exact this
        have U2 : Hid ((wC.setCell ⟨h.b, 1, none⟩ (.slice (some ⟨gC, 0, none⟩) (dn + n) cC)).cell? ⟨gp, L * 2, none⟩ = some (.int .i64 (q1 : Int))) := by
          have hne : h.b ≠ gp := by
            have cb : CellsT wC h.b 185 := ⟨_, _, FB⟩
            exact cb.ne UC.out.1 (by decide)
          rw [World.cell?_setCell_other _ _ _ _ (fun e => hne (congrArg Addr.block e))]
          exact UC.out.2
        clear UC
        clear oC grC atC ltC FB c1 OD KC OC LC M HR HLZ HOZ
        go_upto_region 2 with fail
        obtain ⟨W2, hW2⟩ : ∃ W2, Hid (wC.setCell ⟨h.b, 1, none⟩ (.slice (some ⟨gC, 0, none⟩) (dn + n) cC) = W2) := ⟨_, rfl⟩
        rw [hW2.out] at M2 K2 U2 ⊢
        clear hW2 x1 x2
        have n1 : (0 : Int) ≤ (L : Int) := by omega
        have n2 : (L : Int) < (L : Int) + 1 := by omega
        have n3 : IntKind.i64.wrap (((L + 1 : Nat) : Int) - 1) = (L : Int) := by rw [IntKind.wrap_i64]; omega
        have n4 : IntKind.i64.wrap ((L : Int) + 1 - 1) = (L : Int) := by rw [IntKind.wrap_i64]; omega
        have n5 : IntKind.i64.wrap (L : Int) = (L : Int) := by rw [IntKind.wrap_i64]; omega
        have u2 := U2.out
        have p2 := M2.out.c2
        dsimp only at p2
        rw [hpe] at p2
        dsimp only at p2
        have fg : W2.frozen? ⟨gp, L * 2, none⟩ = false := by
          have o := M2.out.pend
          dsimp only at o
          rw [hpe] at o
          exact World.ownsRow.frozenAt o _
        have d1 : decide ((0 : Int) < (q1 : Int)) = true := decide_eq_true (by omega)
        have d2 : decide (0 < q1) = true := decide_eq_true hq0
        have d3 : (0 : Int) < (q1 : Int) := by omega
        have n6 : IntKind.i64.wrap ((q1 : Int) + (n : Int)) = (q1 : Int) + (n : Int) := by rw [IntKind.wrap_i64]; omega
        have FIN : Hid (StepP w (W2.setCell ⟨gp, L * 2, none⟩ (.int .i64 ((q1 : Int) + (n : Int)))) h k (b ++ zs) su (us ++ moreU zs)) := by
          have hobp : (h3V h.p).ownBlock = some gp := by rw [hpe]; rfl
          obtain ⟨pl1, pl2⟩ := pl
          dsimp only at HEQ HPL
          have e1 : q1 = pl1 := HEQ.out
          subst e1
          have mm := M2.out.bump (gp := gp) (L := L) (cp := pc) hpe (ps0 := h.ps.take L) (p := (q1, pl2)) HPL.out (q := (q1, q2)) HQL.out hq0 zs
          rw [hlz'.out] at mm
          dsimp only at mm
          rw [Int.natCast_add] at mm
          refine stepP_join (h1 := { h with d := (some ⟨gC, 0, none⟩, dn + n, cC) }) rfl S2.out K2.out ⟨{ b := h.b, d := (some ⟨gC, 0, none⟩, dn + n, cC), p := h.p, ps := h.ps.take L ++ [(q1 + n, pl2)], hp := h.hp.set L (q1 + n, q2) }, rfl, mm, fun j hj => ?_, (ch_set W2 gp _ _).more (fun j _ e => Or.inr (Or.inr (Or.inl (by rw [e]; exact hobp))))⟩
          rcases hj with e | e | e | ⟨q', e, e2⟩
          · exact Or.inl (Or.inl e)
          · exact Or.inl (Or.inr (Or.inl e))
          · exact Or.inl (Or.inr (Or.inr (Or.inl e)))
          · rcases List.mem_or_eq_of_mem_set e with e | e
            · exact Or.inl (Or.inr (Or.inr (Or.inr ⟨q', e, e2⟩)))
            · subst e
              exact Or.inl (Or.inr (Or.inr (Or.inr ⟨(q1, q2), List.mem_of_getElem? HQL.out, e2⟩)))
        clear M2 K2 S2 HQL HPL HEQ U2 cq00 CGP
        go_wp2
        refine bodyPost_ret (results_none rfl _ _ _) rfl ?_
        exact ⟨rfl, FIN.out⟩
      · have dq1 : decide ((0 : Int) < (q1 : Int)) = false := decide_eq_false (by omega)
        have dq2 : decide (0 < q1) = false := decide_eq_false hq0
        have dq3 : ¬ (0 : Int) < (q1 : Int) := by omega
        go_enter Tryz.func232, Tryz.ntmps232
        go_wp2_with (at_builtin; refine wpList_append_lies _ rfl _ _ 40 rfl 0 5 i0 (.int .u8 0) 1 1 Tryz.underlying40 hi0 hz00 hz01 hz02 rfl (by decide) (.slice da dn dc) dn (b.flatMap byV) rfl OD.out ⟨b2, off, none⟩ n c (zs.flatMap byV) rfl HLZ.out HR.out HOZ.out ONN.out (by unfold maxLen; omega) (by omega) (Nat.zero_le _) _ rfl ?_)
        intro gC cC wC oC grC atC ltC
        have KC : Hid (Ch (fun j => (h3V h.d).ownBlock = some j) w wC) := by rw [hd]; exact Ch.grown grC
        have OC : Hid (OwnVb wC 0 (some ⟨gC, 0, none⟩) (dn + n) cC (b ++ zs)) := by
          show OwnG _ _ _ _ _ _ _ _ _
          unfold OwnG
          rw [List.flatMap_append]
          exact oC
        have LC : Hid ((h3V h.d).ownBlock = some gC ∨ w.heap.size ≤ gC) := by
          rw [hd]
          rcases atC with e | e
          · exact Or.inl e
          · exact Or.inr (by rw [e]; exact Nat.le_refl _)
        have M2 : Hid (FlP (wC.setCell ⟨h.b, 1, none⟩ (.slice (some ⟨gC, 0, none⟩) (dn + n) cC)) { h with d := (some ⟨gC, 0, none⟩, dn + n, cC) } k (b ++ zs) su us) := M.out.putData KC.out (d' := (some ⟨gC, 0, none⟩, dn + n, cC)) OC.out (fun j hj => by
          have : gC = j := by simpa [h3V, Value.ownBlock] using hj
          subst this
          exact LC.out)
        have K2 : Hid (Ch (SFh h) w (wC.setCell ⟨h.b, 1, none⟩ (.slice (some ⟨gC, 0, none⟩) (dn + n) cC))) := (KC.out.more (fun j _ e => Or.inr (Or.inl e))).trans ((ch_set wC h.b 1 _).more (fun j _ e => Or.inl e))
        have S2 : Hid (∀ j, SFh { h with d := (some ⟨gC, 0, none⟩, dn + n, cC) } j → SFh h j ∨ w.heap.size ≤ j) := fun j hj => by
          rcases hj with e | e | e | e
          · exact Or.inl (Or.inl e)
          · have : gC = j := by simpa [h3V, Value.ownBlock] using e
            subst this
            rcases LC.out with e | e
            · exact Or.inl (Or.inr (Or.inl e))
            · exact Or.inr e
          · exact Or.inl (Or.inr (Or.inr (Or.inl e)))
          · exact Or.inl (Or.inr (Or.inr (Or.inr e)))
        have FB : wC.heap[h.b]? = some (.cells #[.int .i64 (k : Int), .slice h.d.1 h.d.2.1 h.d.2.2, .slice h.p.1 h.p.2.1 h.p.2.2] 185 (0, 0)) := (KC.out.block h.b (M.out.lt (Or.inl rfl)) (fun e => (OwnG.cellsT M.out.data h.b e).1.ne M.out.cells (by decide) rfl)).trans M.out.str
        have x1 : wC.cell? ⟨h.b, 1, none⟩ = some (.slice da dn dc) := by rw [cell_of_row wC h.b 1 _ _ (0, 0) FB, hd]; rfl
        have x2 := frozen_of_row wC h.b 1 _ _ FB
        have UC : Hid (CellsT wC gp 266 ∧ wC.cell? ⟨gp, L * 2, none⟩ = some (.int .i64 (q1 : Int))) := by
          have kk := KC.out.block gp CGP.out.lt (fun e => (OwnG.cellsT M.out.data gp e).1.ne CGP.out (by decide) rfl)
          refine ⟨?_, ?_⟩
          · obtain ⟨cu, mk, q⟩ := CGP.out
            exact ⟨cu, mk, kk.trans q⟩
          · have := cq00.out
            simp only [World.cell?] at this ⊢
            rw [kk]
            exact this
        have U2 : Hid ((wC.setCell ⟨h.b, 1, none⟩ (.slice (some ⟨gC, 0, none⟩) (dn + n) cC)).cell? ⟨gp, L * 2, none⟩ = some (.int .i64 (q1 : Int))) := by
          have hne : h.b ≠ gp := by
            have cb : CellsT wC h.b 185 := ⟨_, _, FB⟩
            exact cb.ne UC.out.1 (by decide)
          rw [World.cell?_setCell_other _ _ _ _ (fun e => hne (congrArg Addr.block e))]
          exact UC.out.2
        clear UC
        clear oC grC atC ltC FB c1 OD KC OC LC M HR HLZ HOZ
        go_upto_region 2 with fail
        obtain ⟨W2, hW2⟩ : ∃ W2, Hid (wC.setCell ⟨h.b, 1, none⟩ (.slice (some ⟨gC, 0, none⟩) (dn + n) cC) = W2) := ⟨_, rfl⟩
        rw [hW2.out] at M2 K2 U2 ⊢
        clear hW2 x1 x2
        have n1 : (0 : Int) ≤ (L : Int) := by omega
        have n2 : (L : Int) < (L : Int) + 1 := by omega
        have n3 : IntKind.i64.wrap (((L + 1 : Nat) : Int) - 1) = (L : Int) := by rw [IntKind.wrap_i64]; omega
        have n4 : IntKind.i64.wrap ((L : Int) + 1 - 1) = (L : Int) := by rw [IntKind.wrap_i64]; omega
        have n5 : IntKind.i64.wrap (L : Int) = (L : Int) := by rw [IntKind.wrap_i64]; omega
        have u2 := U2.out
        have p2 := M2.out.c2
        have f2 := M2.out.fz 2
        have OP2 := hide M2.out.pend
        dsimp only at p2 f2 OP2
        rw [hpe] at p2 OP2
        dsimp only at p2 OP2
        clear HQL HPL HEQ U2 cq00 CGP
        have NC := hide (pu_cells W2 (n : Int) (n, (none, 0, 0)) 266 rfl)
        go_wp2_with (at_builtin; refine wpList_append_lies _ rfl _ _ 183 rfl 0 266 i1 (.agg #[.int .i64 0, .slice none 0 0]) 2 32 Tryz.underlying183 hi1 hz10 hz11 hz12 rfl (by decide) (.slice (some ⟨gp, 0, none⟩) (L + 1) pc) (L + 1) (h.hp.flatMap puV) rfl (OwnG.alloc OP2.out _) ⟨W2.heap.size, 0, none⟩ 1 1 (puV (n, (none, 0, 0))) rfl rfl NC.out (puV_one1 _) (by omega) (by unfold maxLen; omega) (by omega) (Nat.zero_le _) _ rfl ?_)
        intro g3 c3 w3 o3 gr3 at3 lt3
        have KC3 : Hid (Ch (fun j => (h3V h.p).ownBlock = some j) W2 w3) := by rw [hpe]; exact ((Ch.refl _ W2).alloc _).trans (Ch.grown gr3)
        have FIN : Hid (StepP w (w3.setCell ⟨h.b, 2, none⟩ (.slice (some ⟨g3, 0, none⟩) (L + 1 + 1) c3)) h k (b ++ zs) su (us ++ moreU zs)) := by
          refine stepP_join (h1 := { h with d := (some ⟨gC, 0, none⟩, dn + n, cC) }) rfl S2.out K2.out (M2.out.pushApp hzne (P := L + 1) (by dsimp only; rw [hpe]) KC3.out ?_ ?_)
          · show OwnG _ _ _ _ _ _ _ _ _
            unfold OwnG
            dsimp only
            rw [List.flatMap_append, flat_pu, hlz'.out]
            exact o3
          · dsimp only
            rw [hpe]
            rcases at3 with e | e
            · exact Or.inl e
            · exact Or.inr (by rw [e]; simp)
        have FB3 : w3.heap[h.b]? = some (.cells #[.int .i64 (k : Int), .slice (some ⟨gC, 0, none⟩) (dn + n) cC, .slice h.p.1 h.p.2.1 h.p.2.2] 185 (0, 0)) := (KC3.out.block h.b (M2.out.lt (Or.inl rfl)) (fun e => (OwnG.cellsT M2.out.pend h.b e).1.ne M2.out.cells (by decide) rfl)).trans M2.out.str
        have y2 : w3.cell? ⟨h.b, 2, none⟩ = some (.slice (some ⟨gp, 0, none⟩) (L + 1) pc) := by rw [cell_of_row w3 h.b 2 _ _ (0, 0) FB3, hpe]; rfl
        have y3 := frozen_of_row w3 h.b 2 _ _ FB3
        clear o3 gr3 at3 lt3 FB3 KC3 M2 K2 S2 OP2 NC p2 f2
        go_wp2
        go_end0
        exact ⟨rfl, FIN.out⟩
end Go.Proofs.YtknghoecjobkiaaGreatDoor

namespace Go.Proofs.YtknghoecjobkiaaGreatDoor
open Go.RowKit Go.Maps
set_option maxRecDepth 20000
set_option linter.unusedVariables false

theorem slice_from8 (a : Option Addr) (n cap k : Nat) (hk : k ≤ n) (hc : n ≤ cap) (w : World) :
    (Instr.slice 40 (.slice a n cap) (some (.int .i64 (k : Int))) none none).run Tryz.prog w = .ok (.slice (if cap = k then a else a.map (·.add k)) (n - k) (cap - k)) w := by
  rw [run_slice_l (P := Tryz.prog) w 40 a n cap Tryz.underlying40 .i64 (k : Int) (by omega) (by omega)]
  have hs : (sizeOf (Tryz.prog.elem 40)).run Tryz.prog w = .ok 1 w := by kernel_rfl
  rw [hs]
  simp only [Result.andThen, sliced, Int.toNat_natCast, Nat.mul_one]
/-- A group more: a cut. -/
theorem FlP.pushCut {w u : World} {h : Fh} {k : Nat} {b su : List Int} {us : List Un} (m : FlP w h k b su us) (hb : b = unsB su us) {n : Nat} (hn : n ≤ b.length) {x : H3} {P g' c' : Nat} (gr : Ch (fun j => (h3V h.p).ownBlock = some j) w u) (ox : OwnVb u 0 x.1 x.2.1 x.2.2 (b.drop n)) (hx : ∀ j, (h3V x).ownBlock = some j → w.heap.size ≤ j) (o : OwnP u 0 (some ⟨g', 0, none⟩) (P + 1) c' (h.hp ++ [(0, x)])) (lies : (h3V h.p).ownBlock = some g' ∨ w.heap.size ≤ g') :
    FlP (u.setCell ⟨h.b, 2, none⟩ (.slice (some ⟨g', 0, none⟩) (P + 1) c')) { h with p := (some ⟨g', 0, none⟩, P + 1, c'), ps := h.ps ++ [(0, b.drop n)], hp := h.hp ++ [(0, x)] } k b su (us ++ [⟨0, true, (n : Int)⟩]) ∧ (∀ j, SFh { h with p := (some ⟨g', 0, none⟩, P + 1, c'), ps := h.ps ++ [(0, b.drop n)], hp := h.hp ++ [(0, x)] } j → SFh h j ∨ w.heap.size ≤ j) ∧ Ch (SFh h) w (u.setCell ⟨h.b, 2, none⟩ (.slice (some ⟨g', 0, none⟩) (P + 1) c')) := by
  have q := m.putPend gr (p' := (some ⟨g', 0, none⟩, P + 1, c')) (ps' := h.ps ++ [(0, b.drop n)]) (hp' := h.hp ++ [(0, x)]) (su' := su) (us' := us ++ [⟨0, true, (n : Int)⟩]) o (by rw [hb]; exact Pd.cut us h.ps n m.pd (by rw [← hb]; exact hn)) (by rw [List.length_append, List.length_append, m.len]; rfl) (fun i q r h1 h2 => by
    by_cases e : i < h.hp.length
    · rw [List.getElem?_append_left e] at h1
      rw [List.getElem?_append_left (by rw [← m.len]; exact e)] at h2
      obtain ⟨e1, e2, e3⟩ := m.each i q r h1 h2
      exact ⟨e1, OwnG.ch e2 gr (fun j hj e => (OwnG.cellsT m.pend j e).1.ne (OwnG.cellsT e2 j hj).1 (by decide) rfl), e3⟩
    · rw [List.getElem?_append_right (by omega), List.getElem?_singleton] at h1
      rw [List.getElem?_append_right (by rw [← m.len]; omega), List.getElem?_singleton] at h2
      split at h1
      · rename_i e4
        rw [if_pos (by rw [← m.len]; exact e4)] at h2
        obtain rfl := Option.some.inj h1
        obtain rfl := Option.some.inj h2
        exact ⟨rfl, ox, fun j hj e => by
          have := hx j hj
          have := (OwnG.cellsT m.data j e).1.lt
          omega⟩
      · cases h1)
  refine ⟨q, fun j hj => ?_, (gr.more (fun j _ e => Or.inr (Or.inr (Or.inl e)))).trans ((ch_set u h.b 2 _).more (fun j _ e => Or.inl e))⟩
  rcases hj with e | e | e | ⟨q', e, e2⟩
  · exact Or.inl (Or.inl e)
  · exact Or.inl (Or.inr (Or.inl e))
  · have : g' = j := by simpa [h3V, Value.ownBlock] using e
    subst this
    rcases lies with e | e
    · exact Or.inl (Or.inr (Or.inr (Or.inl e)))
    · exact Or.inr e
  · rcases List.mem_append.1 e with e | e
    · exact Or.inl (Or.inr (Or.inr (Or.inr ⟨q', e, e2⟩)))
    · obtain rfl := List.mem_singleton.1 e
      exact Or.inr (hx j e2)

set_option maxHeartbeats 8000000 in
theorem fcut_any (w : World) (h : Fh) (k : Nat) (b su : List Int) (us : List Un) (m : FlP w h k b su us) (hbu : b = unsB su us) (n : Nat) (hn : n ≤ b.length) (hb : b.length ≤ 4294967296) (hus : us.length ≤ 4294967296) (hby : ∀ z ∈ b, 0 ≤ z ∧ z ≤ 255) :
    Calls Tryz.prog 221 #[.pointer (some ⟨h.b, 0, none⟩), .int .i64 (n : Int)] w fun e w' => e = .returned (.tuple #[]) ∧ StepP w w' h k (b.take n) su (us ++ [⟨0, true, (n : Int)⟩]) := by
  obtain ⟨i1, hi1, hz10, hz11, hz12⟩ := info_parts Tryz.infoPu
  have c1 := m.c1
  have c2 := m.c2
  have M := hide m
  have hdl := OwnG.len byV_len (by decide) m.data
  have hpl := OwnG.len puV_len (by decide) m.pend
  have hP : h.p.2.1 ≤ 4294967296 := by rw [← hpl, m.len]; exact Nat.le_trans m.pd.len hus
  obtain ⟨da, dn, dc, hd⟩ : ∃ da dn dc, h.d = (da, dn, dc) := ⟨_, _, _, rfl⟩
  obtain ⟨pa, pn, pc, hp⟩ : ∃ pa pn pc, h.p = (pa, pn, pc) := ⟨_, _, _, rfl⟩
  have OD := hide m.data
  have OP := hide m.pend
  rw [hd] at c1 hdl OD
  rw [hp] at c2 hP OP
  dsimp only at c1 c2 hdl hP OD OP
  have hdc := (OwnG.capped OD.out).1
  have hnd : n ≤ dn := by omega
  have ROW : Hid (Row .u8 w da dn b) := ownB_row OD.out (by omega) hby
  obtain ⟨fa, hfa⟩ : ∃ fa : Option Addr, Hid ((if dc = n then da else da.map (·.add n)) = fa) := ⟨_, rfl⟩
  have RF : Hid (Row .u8 w fa (dn - n) (b.drop n)) := by rw [← hfa.out]; exact ROW.out.from n hnd hdc
  have hfc : Hid (fa = none → dc - n = 0) := fun e => by
    rw [← hfa.out] at e
    split at e
    · omega
    · cases da with
      | none => have := (OwnG.capped OD.out).2 rfl; omega
      | some x => simp at e
  have sl : ∀ u, (Instr.slice 40 (.slice da dn dc) (some (.int .i64 (n : Int))) none none).run Tryz.prog u = .ok (.slice fa (dn - n) (dc - n)) u := fun u => by
    rw [← hfa.out]
    exact slice_from8 da dn dc n hnd hdc u
  have sl2 := fun u => slice_to16 da dn dc n (by omega) u
  have CL := hide (fun u (hu : Below w.heap.size w u) => clone8_any fa (dn - n) (dc - n) (b.drop n) u (RF.out.below hu (Nat.le_refl _)) (by omega) hfc.out)
  have OTK : Hid (∀ u, OwnVb u 0 da dn dc b → OwnVb u 0 da n dc (b.take n)) := fun u hu => OwnG.cut byV_len (by decide) hu hnd
  have HB := hide hbu
  have HN := hide hn
  clear m hbu hn hb hus hby hdl hpl ROW RF hfc hfa
  go_enter Tryz.func221, Tryz.ntmps221
  go_upto_region 0 with fail
  refine wp_region_held_drew (S := fun u => u.cell? ⟨h.b, 1, none⟩ = some (.slice da dn dc)) (by kernel_rfl) c1 (fun hHeld => ?_)
  refine held_tk 0 (some 4) rfl rfl ?_
  refine held_tk 1 (some 5) rfl rfl ?_
  refine held_tk 2 (some 6) rfl rfl ?_
  refine held_tk 3 (some 7) rfl rfl ?_
  refine held_tk 5 (some 9) rfl rfl ?_
  refine held_tk 6 (some 10) rfl rfl ?_
  refine held_tk 7 (some 11) rfl rfl ?_
  refine held_tk 8 (some 12) rfl rfl ?_
  refine held_tk 9 (some 13) rfl rfl ?_
  refine held_tk 10 (some 14) rfl rfl ?_
  refine held_pair (i := 4) (j := 11) (by kernel_rfl) rfl (by rfl) rfl (by rfl) (fun K1 hK1 => ?_) (fun K1 hK1 => ?_)
  · go_simp
    refine hK1.out _ _ c1 ?_
    clear hK1
    refine held_next (i := 11) (by kernel_rfl) rfl (by rfl) (fun K1 hK1 => ?_)
    go_simp
    with_reducible refine (CL.out _ (Below.refl _ _).drew).mono ?_
    rintro e w2 ⟨xa, xc, rfl, ox, bx⟩
    have B2 : Hid (Below w.heap.size w w2) := bel_to (Below.refl _ _).drew (Nat.le_refl _) bx
    have OX : Hid (OwnVb w2 w.heap.size xa (dn - n) xc (b.drop n)) := ox
    have q1 : w2.cell? ⟨h.b, 1, none⟩ = some (.slice da dn dc) := (B2.out.cell (p := ⟨h.b, 1, none⟩) (World.block_lt_of_cell? w _ c1)).trans c1
    have q2 : w2.cell? ⟨h.b, 2, none⟩ = some (.slice pa pn pc) := (B2.out.cell (p := ⟨h.b, 2, none⟩) (World.block_lt_of_cell? w _ c2)).trans c2
    clear ox bx CL
    go_wp2_with fail
    refine hK1.out _ _ q1 ?_
    clear hK1
    refine held_tk 12 (some 16) rfl rfl ?_
    refine held_next (i := 13) (by kernel_rfl) rfl (by rfl) (fun K1 hK1 => ?_)
    go_simp
    obtain ⟨u6, hu6⟩ : ∃ u6, Hid ((w2.alloc (.cells #[.int .i64 0, .slice xa (dn - n) xc] 266)) = u6) := ⟨_, rfl⟩
    have NC : Hid (∀ j u, (puV (0, (xa, dn - n, xc)))[j]? = some u → u6.cell? ((⟨w2.heap.size, 0, none⟩ : Addr).add j) = some u) := by rw [← hu6.out]; exact pu_cells w2 0 (0, (xa, dn - n, xc)) _ rfl
    have B6 : Hid (Below w2.heap.size w2 u6) := by rw [← hu6.out]; exact bel_al (Below.refl _ _) (Nat.le_refl _) _
    rw [hu6.out]
    have B7 : Hid (Below w.heap.size w u6) := bel_to B2.out (Nat.le_refl _) B6.out
    have r1 : u6.cell? ⟨h.b, 1, none⟩ = some (.slice da dn dc) := (B7.out.cell (p := ⟨h.b, 1, none⟩) (World.block_lt_of_cell? w _ c1)).trans c1
    have r2 : u6.cell? ⟨h.b, 2, none⟩ = some (.slice pa pn pc) := (B7.out.cell (p := ⟨h.b, 2, none⟩) (World.block_lt_of_cell? w _ c2)).trans c2
    refine hK1.out _ _ r1 ?_
    clear hK1
    refine held_next (i := 14) (by kernel_rfl) rfl (by rfl) (fun K1 hK1 => ?_)
    refine wp_append_lies _ (.tmp 8) (.tmp 17) 183 rfl 0 266 i1 (.agg #[.int .i64 0, .slice none 0 0]) 2 32 Tryz.underlying183 hi1 hz10 hz11 hz12 rfl (by decide) (.slice pa pn pc) pn (h.hp.flatMap puV) rfl (OwnG.below OP.out B7.out (Nat.le_refl _)) ⟨w2.heap.size, 0, none⟩ 1 1 (puV (0, (xa, dn - n, xc))) rfl rfl NC.out (puV_one1 _) (by omega) (by unfold maxLen; omega) (by omega) (Nat.zero_le _) _ rfl ?_
    intro gC cC wC oC grC atC ltC
    have GR : Hid (Ch (fun j => (h3V h.p).ownBlock = some j) w wC) := by rw [hp]; exact ((Ch.of_below B7.out).more (fun _ _ h => h.elim)).trans (Ch.grown grC)
    have OXC : Hid (OwnVb wC w.heap.size xa (dn - n) xc (b.drop n)) := OwnG.ch (OwnG.below OX.out B6.out (Nat.le_refl _)) (Ch.grown grC) (fun j hj e => by
      have h1 := (OwnG.cellsT OX.out j hj).2
      have h2 := (OwnG.cellsT OP.out j e).1.lt
      omega)
    have PC := hide (M.out.pushCut HB.out HN.out (x := (xa, dn - n, xc)) (P := pn) (g' := gC) (c' := cC) GR.out (OwnG.mono OXC.out (Nat.zero_le _)) (fun j hj => (OwnG.cellsT OXC.out j hj).2) (by
      show OwnG _ _ _ _ _ _ _ _ _
      unfold OwnG
      rw [List.flatMap_append, flat_pu]
      exact oC) (by
      rw [hp]
      rcases atC with e | e
      · exact Or.inl e
      · exact Or.inr (by rw [e]; exact B7.out.size)))
    have FB : wC.heap[h.b]? = some (.cells #[.int .i64 (k : Int), .slice da dn dc, .slice pa pn pc] 185 (0, 0)) := by
      have e := (GR.out.block h.b (M.out.lt (Or.inl rfl)) (fun e => (OwnG.cellsT M.out.pend h.b e).1.ne M.out.cells (by decide) rfl)).trans M.out.str
      rw [hd, hp] at e
      exact e
    have z1 : wC.cell? ⟨h.b, 1, none⟩ = some (.slice da dn dc) := by rw [cell_of_row wC h.b 1 _ _ (0, 0) FB]; rfl
    have z2 : wC.cell? ⟨h.b, 2, none⟩ = some (.slice pa pn pc) := by rw [cell_of_row wC h.b 2 _ _ (0, 0) FB]; rfl
    have z3 := frozen_of_row wC h.b 2 _ _ FB
    clear oC grC atC ltC OXC NC B6 B7 OX B2 GR OP FB hu6 M HB HN r1 r2 q1 q2 c1 c2
    go_simp
    refine hK1.out _ _ z1 ?_
    clear hK1
    refine held_tk 15 (some 19) rfl rfl ?_
    refine held_tk 16 (some 20) rfl rfl ?_
    refine held_next (i := 17) (by kernel_rfl) rfl (by rfl) (fun K1 hK1 => ?_)
    obtain ⟨W3, hW3⟩ : ∃ W3, Hid (wC.setCell ⟨h.b, 2, none⟩ (.slice (some ⟨gC, 0, none⟩) (pn + 1) cC) = W3) := ⟨_, rfl⟩
    rw [hW3.out] at PC
    have v1 : W3.cell? ⟨h.b, 1, none⟩ = some (.slice da dn dc) := by
      have := PC.out.1.c1
      dsimp only at this
      rw [hd] at this
      exact this
    have v2 : W3.frozen? ⟨h.b, 1, none⟩ = false := PC.out.1.fz 1
    have FIN : Hid (StepP w (W3.setCell ⟨h.b, 1, none⟩ (.slice da n dc)) h k (b.take n) su (us ++ [⟨0, true, (n : Int)⟩])) := by
      obtain ⟨m1, s1, k1⟩ := PC.out
      have od := m1.data
      dsimp only at od
      rw [hd] at od
      have hob : (h3V (da, n, dc)).ownBlock = (h3V h.d).ownBlock := by rw [hd]; cases da <;> rfl
      have m2 := m1.putData (u := W3) (Ch.refl _ _) (d' := (da, n, dc)) (OTK.out _ od) (fun j hj => Or.inl (by dsimp only; rw [← hob]; exact hj))
      refine stepP_join (h1 := { h with p := (some ⟨gC, 0, none⟩, pn + 1, cC), ps := h.ps ++ [(0, b.drop n)], hp := h.hp ++ [(0, (xa, dn - n, xc))] }) rfl s1 k1 ⟨{ h with d := (da, n, dc), p := (some ⟨gC, 0, none⟩, pn + 1, cC), ps := h.ps ++ [(0, b.drop n)], hp := h.hp ++ [(0, (xa, dn - n, xc))] }, rfl, m2, fun j hj => ?_, (ch_set W3 h.b 1 _).more (fun j _ e => Or.inl e)⟩
      rcases hj with e | e | e | e
      · exact Or.inl (Or.inl e)
      · exact Or.inl (Or.inr (Or.inl (by dsimp only at e ⊢; rw [← hob]; exact e)))
      · exact Or.inl (Or.inr (Or.inr (Or.inl e)))
      · exact Or.inl (Or.inr (Or.inr (Or.inr e)))
    clear PC OTK OD
    go_simp
    rw [hW3.out]
    refine hK1.out _ _ v1 ?_
    clear hK1 hHeld hW3 z1 z2 z3
    refine wpAnyH_done (by kernel_rfl) ?_ _
    go_wp2
    go_end0
    exact ⟨rfl, FIN.out⟩
  · go_simp
    with_reducible refine (CL.out _ (Below.refl _ _).drew).mono ?_
    rintro e w2 ⟨xa, xc, rfl, ox, bx⟩
    have B2 : Hid (Below w.heap.size w w2) := bel_to (Below.refl _ _).drew (Nat.le_refl _) bx
    have OX : Hid (OwnVb w2 w.heap.size xa (dn - n) xc (b.drop n)) := ox
    have q1 : w2.cell? ⟨h.b, 1, none⟩ = some (.slice da dn dc) := (B2.out.cell (p := ⟨h.b, 1, none⟩) (World.block_lt_of_cell? w _ c1)).trans c1
    have q2 : w2.cell? ⟨h.b, 2, none⟩ = some (.slice pa pn pc) := (B2.out.cell (p := ⟨h.b, 2, none⟩) (World.block_lt_of_cell? w _ c2)).trans c2
    clear ox bx CL
    go_wp2_with fail
    refine hK1.out _ _ q1 ?_
    clear hK1
    refine held_tk 12 (some 16) rfl rfl ?_
    refine held_pair (i := 4) (j := 13) (by kernel_rfl) rfl (by rfl) rfl (by rfl) (fun K1 hK1 => ?_) (fun K1 hK1 => ?_)
    · go_simp
      refine hK1.out _ _ q1 ?_
      clear hK1
      refine held_next (i := 13) (by kernel_rfl) rfl (by rfl) (fun K1 hK1 => ?_)
      go_simp
      obtain ⟨u6, hu6⟩ : ∃ u6, Hid ((w2.alloc (.cells #[.int .i64 0, .slice xa (dn - n) xc] 266)) = u6) := ⟨_, rfl⟩
      have NC : Hid (∀ j u, (puV (0, (xa, dn - n, xc)))[j]? = some u → u6.cell? ((⟨w2.heap.size, 0, none⟩ : Addr).add j) = some u) := by rw [← hu6.out]; exact pu_cells w2 0 (0, (xa, dn - n, xc)) _ rfl
      have B6 : Hid (Below w2.heap.size w2 u6) := by rw [← hu6.out]; exact bel_al (Below.refl _ _) (Nat.le_refl _) _
      rw [hu6.out]
      have B7 : Hid (Below w.heap.size w u6) := bel_to B2.out (Nat.le_refl _) B6.out
      have r1 : u6.cell? ⟨h.b, 1, none⟩ = some (.slice da dn dc) := (B7.out.cell (p := ⟨h.b, 1, none⟩) (World.block_lt_of_cell? w _ c1)).trans c1
      have r2 : u6.cell? ⟨h.b, 2, none⟩ = some (.slice pa pn pc) := (B7.out.cell (p := ⟨h.b, 2, none⟩) (World.block_lt_of_cell? w _ c2)).trans c2
      refine hK1.out _ _ r1 ?_
      clear hK1
      refine held_next (i := 14) (by kernel_rfl) rfl (by rfl) (fun K1 hK1 => ?_)
      refine wp_append_lies _ (.tmp 8) (.tmp 17) 183 rfl 0 266 i1 (.agg #[.int .i64 0, .slice none 0 0]) 2 32 Tryz.underlying183 hi1 hz10 hz11 hz12 rfl (by decide) (.slice pa pn pc) pn (h.hp.flatMap puV) rfl (OwnG.below OP.out B7.out (Nat.le_refl _)) ⟨w2.heap.size, 0, none⟩ 1 1 (puV (0, (xa, dn - n, xc))) rfl rfl NC.out (puV_one1 _) (by omega) (by unfold maxLen; omega) (by omega) (Nat.zero_le _) _ rfl ?_
      intro gC cC wC oC grC atC ltC
      have GR : Hid (Ch (fun j => (h3V h.p).ownBlock = some j) w wC) := by rw [hp]; exact ((Ch.of_below B7.out).more (fun _ _ h => h.elim)).trans (Ch.grown grC)
      have OXC : Hid (OwnVb wC w.heap.size xa (dn - n) xc (b.drop n)) := OwnG.ch (OwnG.below OX.out B6.out (Nat.le_refl _)) (Ch.grown grC) (fun j hj e => by
        have h1 := (OwnG.cellsT OX.out j hj).2
        have h2 := (OwnG.cellsT OP.out j e).1.lt
        omega)
      have PC := hide (M.out.pushCut HB.out HN.out (x := (xa, dn - n, xc)) (P := pn) (g' := gC) (c' := cC) GR.out (OwnG.mono OXC.out (Nat.zero_le _)) (fun j hj => (OwnG.cellsT OXC.out j hj).2) (by
        show OwnG _ _ _ _ _ _ _ _ _
        unfold OwnG
        rw [List.flatMap_append, flat_pu]
        exact oC) (by
        rw [hp]
        rcases atC with e | e
        · exact Or.inl e
        · exact Or.inr (by rw [e]; exact B7.out.size)))
      have FB : wC.heap[h.b]? = some (.cells #[.int .i64 (k : Int), .slice da dn dc, .slice pa pn pc] 185 (0, 0)) := by
        have e := (GR.out.block h.b (M.out.lt (Or.inl rfl)) (fun e => (OwnG.cellsT M.out.pend h.b e).1.ne M.out.cells (by decide) rfl)).trans M.out.str
        rw [hd, hp] at e
        exact e
      have z1 : wC.cell? ⟨h.b, 1, none⟩ = some (.slice da dn dc) := by rw [cell_of_row wC h.b 1 _ _ (0, 0) FB]; rfl
      have z2 : wC.cell? ⟨h.b, 2, none⟩ = some (.slice pa pn pc) := by rw [cell_of_row wC h.b 2 _ _ (0, 0) FB]; rfl
      have z3 := frozen_of_row wC h.b 2 _ _ FB
      clear oC grC atC ltC OXC NC B6 B7 OX B2 GR OP FB hu6 M HB HN r1 r2 q1 q2 c1 c2
      go_simp
      refine hK1.out _ _ z1 ?_
      clear hK1
      refine held_tk 15 (some 19) rfl rfl ?_
      refine held_tk 16 (some 20) rfl rfl ?_
      refine held_next (i := 17) (by kernel_rfl) rfl (by rfl) (fun K1 hK1 => ?_)
      obtain ⟨W3, hW3⟩ : ∃ W3, Hid (wC.setCell ⟨h.b, 2, none⟩ (.slice (some ⟨gC, 0, none⟩) (pn + 1) cC) = W3) := ⟨_, rfl⟩
      rw [hW3.out] at PC
      have v1 : W3.cell? ⟨h.b, 1, none⟩ = some (.slice da dn dc) := by
        have := PC.out.1.c1
        dsimp only at this
        rw [hd] at this
        exact this
      have v2 : W3.frozen? ⟨h.b, 1, none⟩ = false := PC.out.1.fz 1
      have FIN : Hid (StepP w (W3.setCell ⟨h.b, 1, none⟩ (.slice da n dc)) h k (b.take n) su (us ++ [⟨0, true, (n : Int)⟩])) := by
        obtain ⟨m1, s1, k1⟩ := PC.out
        have od := m1.data
        dsimp only at od
        rw [hd] at od
        have hob : (h3V (da, n, dc)).ownBlock = (h3V h.d).ownBlock := by rw [hd]; cases da <;> rfl
        have m2 := m1.putData (u := W3) (Ch.refl _ _) (d' := (da, n, dc)) (OTK.out _ od) (fun j hj => Or.inl (by dsimp only; rw [← hob]; exact hj))
        refine stepP_join (h1 := { h with p := (some ⟨gC, 0, none⟩, pn + 1, cC), ps := h.ps ++ [(0, b.drop n)], hp := h.hp ++ [(0, (xa, dn - n, xc))] }) rfl s1 k1 ⟨{ h with d := (da, n, dc), p := (some ⟨gC, 0, none⟩, pn + 1, cC), ps := h.ps ++ [(0, b.drop n)], hp := h.hp ++ [(0, (xa, dn - n, xc))] }, rfl, m2, fun j hj => ?_, (ch_set W3 h.b 1 _).more (fun j _ e => Or.inl e)⟩
        rcases hj with e | e | e | e
        · exact Or.inl (Or.inl e)
        · exact Or.inl (Or.inr (Or.inl (by dsimp only at e ⊢; rw [← hob]; exact e)))
        · exact Or.inl (Or.inr (Or.inr (Or.inl e)))
        · exact Or.inl (Or.inr (Or.inr (Or.inr e)))
      clear PC OTK OD
      go_simp
      rw [hW3.out]
      refine hK1.out _ _ v1 ?_
      clear hK1 hHeld hW3 z1 z2 z3
      refine wpAnyH_done (by kernel_rfl) ?_ _
      go_wp2
      go_end0
      exact ⟨rfl, FIN.out⟩
    · go_simp
      obtain ⟨u6, hu6⟩ : ∃ u6, Hid ((w2.alloc (.cells #[.int .i64 0, .slice xa (dn - n) xc] 266)) = u6) := ⟨_, rfl⟩
      have NC : Hid (∀ j u, (puV (0, (xa, dn - n, xc)))[j]? = some u → u6.cell? ((⟨w2.heap.size, 0, none⟩ : Addr).add j) = some u) := by rw [← hu6.out]; exact pu_cells w2 0 (0, (xa, dn - n, xc)) _ rfl
      have B6 : Hid (Below w2.heap.size w2 u6) := by rw [← hu6.out]; exact bel_al (Below.refl _ _) (Nat.le_refl _) _
      rw [hu6.out]
      have B7 : Hid (Below w.heap.size w u6) := bel_to B2.out (Nat.le_refl _) B6.out
      have r1 : u6.cell? ⟨h.b, 1, none⟩ = some (.slice da dn dc) := (B7.out.cell (p := ⟨h.b, 1, none⟩) (World.block_lt_of_cell? w _ c1)).trans c1
      have r2 : u6.cell? ⟨h.b, 2, none⟩ = some (.slice pa pn pc) := (B7.out.cell (p := ⟨h.b, 2, none⟩) (World.block_lt_of_cell? w _ c2)).trans c2
      refine hK1.out _ _ r1 ?_
      clear hK1
      refine held_next (i := 4) (by kernel_rfl) rfl (by rfl) (fun K1 hK1 => ?_)
      go_simp
      refine hK1.out _ _ r1 ?_
      clear hK1
      refine held_next (i := 14) (by kernel_rfl) rfl (by rfl) (fun K1 hK1 => ?_)
      refine wp_append_lies _ (.tmp 8) (.tmp 17) 183 rfl 0 266 i1 (.agg #[.int .i64 0, .slice none 0 0]) 2 32 Tryz.underlying183 hi1 hz10 hz11 hz12 rfl (by decide) (.slice pa pn pc) pn (h.hp.flatMap puV) rfl (OwnG.below OP.out B7.out (Nat.le_refl _)) ⟨w2.heap.size, 0, none⟩ 1 1 (puV (0, (xa, dn - n, xc))) rfl rfl NC.out (puV_one1 _) (by omega) (by unfold maxLen; omega) (by omega) (Nat.zero_le _) _ rfl ?_
      intro gC cC wC oC grC atC ltC
      have GR : Hid (Ch (fun j => (h3V h.p).ownBlock = some j) w wC) := by rw [hp]; exact ((Ch.of_below B7.out).more (fun _ _ h => h.elim)).trans (Ch.grown grC)
      have OXC : Hid (OwnVb wC w.heap.size xa (dn - n) xc (b.drop n)) := OwnG.ch (OwnG.below OX.out B6.out (Nat.le_refl _)) (Ch.grown grC) (fun j hj e => by
        have h1 := (OwnG.cellsT OX.out j hj).2
        have h2 := (OwnG.cellsT OP.out j e).1.lt
        omega)
      have PC := hide (M.out.pushCut HB.out HN.out (x := (xa, dn - n, xc)) (P := pn) (g' := gC) (c' := cC) GR.out (OwnG.mono OXC.out (Nat.zero_le _)) (fun j hj => (OwnG.cellsT OXC.out j hj).2) (by
        show OwnG _ _ _ _ _ _ _ _ _
        unfold OwnG
        rw [List.flatMap_append, flat_pu]
        exact oC) (by
        rw [hp]
        rcases atC with e | e
        · exact Or.inl e
        · exact Or.inr (by rw [e]; exact B7.out.size)))
      have FB : wC.heap[h.b]? = some (.cells #[.int .i64 (k : Int), .slice da dn dc, .slice pa pn pc] 185 (0, 0)) := by
        have e := (GR.out.block h.b (M.out.lt (Or.inl rfl)) (fun e => (OwnG.cellsT M.out.pend h.b e).1.ne M.out.cells (by decide) rfl)).trans M.out.str
        rw [hd, hp] at e
        exact e
      have z1 : wC.cell? ⟨h.b, 1, none⟩ = some (.slice da dn dc) := by rw [cell_of_row wC h.b 1 _ _ (0, 0) FB]; rfl
      have z2 : wC.cell? ⟨h.b, 2, none⟩ = some (.slice pa pn pc) := by rw [cell_of_row wC h.b 2 _ _ (0, 0) FB]; rfl
      have z3 := frozen_of_row wC h.b 2 _ _ FB
      clear oC grC atC ltC OXC NC B6 B7 OX B2 GR OP FB hu6 M HB HN r1 r2 q1 q2 c1 c2
      go_simp
      refine hK1.out _ _ z1 ?_
      clear hK1
      refine held_tk 15 (some 19) rfl rfl ?_
      refine held_tk 16 (some 20) rfl rfl ?_
      refine held_next (i := 17) (by kernel_rfl) rfl (by rfl) (fun K1 hK1 => ?_)
      obtain ⟨W3, hW3⟩ : ∃ W3, Hid (wC.setCell ⟨h.b, 2, none⟩ (.slice (some ⟨gC, 0, none⟩) (pn + 1) cC) = W3) := ⟨_, rfl⟩
      rw [hW3.out] at PC
      have v1 : W3.cell? ⟨h.b, 1, none⟩ = some (.slice da dn dc) := by
        have := PC.out.1.c1
        dsimp only at this
        rw [hd] at this
        exact this
      have v2 : W3.frozen? ⟨h.b, 1, none⟩ = false := PC.out.1.fz 1
      have FIN : Hid (StepP w (W3.setCell ⟨h.b, 1, none⟩ (.slice da n dc)) h k (b.take n) su (us ++ [⟨0, true, (n : Int)⟩])) := by
        obtain ⟨m1, s1, k1⟩ := PC.out
        have od := m1.data
        dsimp only at od
        rw [hd] at od
        have hob : (h3V (da, n, dc)).ownBlock = (h3V h.d).ownBlock := by rw [hd]; cases da <;> rfl
        have m2 := m1.putData (u := W3) (Ch.refl _ _) (d' := (da, n, dc)) (OTK.out _ od) (fun j hj => Or.inl (by dsimp only; rw [← hob]; exact hj))
        refine stepP_join (h1 := { h with p := (some ⟨gC, 0, none⟩, pn + 1, cC), ps := h.ps ++ [(0, b.drop n)], hp := h.hp ++ [(0, (xa, dn - n, xc))] }) rfl s1 k1 ⟨{ h with d := (da, n, dc), p := (some ⟨gC, 0, none⟩, pn + 1, cC), ps := h.ps ++ [(0, b.drop n)], hp := h.hp ++ [(0, (xa, dn - n, xc))] }, rfl, m2, fun j hj => ?_, (ch_set W3 h.b 1 _).more (fun j _ e => Or.inl e)⟩
        rcases hj with e | e | e | e
        · exact Or.inl (Or.inl e)
        · exact Or.inl (Or.inr (Or.inl (by dsimp only at e ⊢; rw [← hob]; exact e)))
        · exact Or.inl (Or.inr (Or.inr (Or.inl e)))
        · exact Or.inl (Or.inr (Or.inr (Or.inr e)))
      clear PC OTK OD
      go_simp
      rw [hW3.out]
      refine hK1.out _ _ v1 ?_
      clear hK1 hHeld hW3 z1 z2 z3
      refine wpAnyH_done (by kernel_rfl) ?_ _
      go_wp2
      go_end0
      exact ⟨rfl, FIN.out⟩
end Go.Proofs.YtknghoecjobkiaaGreatDoor

namespace Go.Proofs.YtknghoecjobkiaaGreatDoor
open Go.RowKit Go.Maps
set_option maxRecDepth 20000
set_option linter.unusedVariables false

theorem stepL_below {w w' : World} {g : Nat} {S : Nat → Prop} {F : Fs} (h : LAt w' g S F) (b : Below w.heap.size w w') : StepV LAt w w' g S F := ⟨S, h, fun _ hk => Or.inl hk, (Ch.of_below b).more (fun _ _ h => h.elim)⟩
/-- First the struct alone, then a step. -/
theorem stepL_after {w w0 w' : World} {g : Nat} {S : Nat → Prop} {F : Fs} (h : Ch S w w0) (k : StepV LAt w0 w' g S F) : StepV LAt w w' g S F := by
  obtain ⟨S', q1, q2, q3⟩ := k
  refine ⟨S', q1, fun j hj => ?_, h.trans q3⟩
  rcases q2 j hj with e | e
  · exact Or.inl e
  · exact Or.inr (Nat.le_trans h.size e)
/-- A file's step is the file system's. -/
theorem stepV_file {w w' : World} {g : Nat} {S : Nat → Prop} {G : Fs} {fb : List Nat} {fh : List Fh} {bn bc : Nat} {at' : Option Addr} {ct : Nat} (B : LB w g S G fb fh bn bc at' ct) (GN : GoodN G) {k : Nat} {h : Fh} (hk : fh[k]? = some h) {x : Fi} (GV : GoodV { G with files := G.files.set k x }) (st : StepL w w' h k x) : StepV LAt w w' g S { G with files := G.files.set k x } := by
  obtain ⟨h', eb, m', q, c⟩ := st
  refine ⟨_, ⟨GV, GN.like rfl rfl, fb, fh.set k h', bn, bc, at', ct, B.step hk eb m' q c⟩, fun j hj => ?_, c.more (fun j _ e => B.filesS k h j hk e)⟩
  rcases hj with e | e
  · exact Or.inl e
  · exact Or.inr e.1
theorem bytF_more (x : Fi) (zs : List Int) : bytF ⟨x.sure, x.us ++ moreU zs⟩ = bytF x ++ zs := by unfold bytF; rw [unsB_app, unsB_more]
theorem bytF_cut (x : Fi) (n : Nat) : bytF ⟨x.sure, x.us ++ [⟨0, true, (n : Int)⟩]⟩ = (bytF x).take n := by
  unfold bytF
  dsimp only
  have e : ∀ b : List Int, unsB b [⟨0, true, (n : Int)⟩] = b.take n := fun b => by unfold unsB unB; simp
  rw [unsB_app, e]
theorem bytF_byte {G : Fs} (h : GoodV G) {k : Nat} (hk : k < G.files.length) : ∀ z ∈ bytF (atF G k), 0 ≤ z ∧ z ≤ 255 := unsB_byte (h.byte _ (atF_mem hk)).1 (h.byte _ (atF_mem hk)).2
theorem bytF_len {G : Fs} {m : Nat} (h : Lim m G) {k : Nat} (hk : k < G.files.length) : (bytF (atF G k)).length ≤ 2 * m ∧ (atF G k).us.length ≤ m := by
  have h1 := unsB_len (atF G k).us (atF G k).sure
  have h2 := h.each _ (atF_mem hk)
  unfold bytF
  omega
theorem lfC_no8 (F : Fs) (bn bc : Nat) (at' : Option Addr) (ct i : Nat) (z : Int) : ¬ (lfC F bn bc at' ct)[i]? = some (.int .u8 z) := by
  intro h
  match i, h with
  | 0, h => simp [lfC] at h
  | 1, h => simp [lfC] at h
  | 2, h => simp [lfC] at h
  | 3, h => simp [lfC] at h
  | 4, h => simp [lfC] at h
  | 5, h => simp [lfC] at h
  | 6, h => simp [lfC] at h
  | 7, h => simp [lfC] at h
  | 8, h => simp [lfC] at h
  | i + 9, h => simp [lfC] at h
/-- An Append that does not fail. -/
def addF (G : Fs) (s : ByteArray) (b : List Int) : Fs × Int := if mayN s = false then (G, 1) else match fileF G s with
  | none => (G, 3)
  | some k => if 1073741824 < (bytF (atF G k)).length + b.length then (G, 2) else (moreF G k (moreU b), 0)
theorem fileF_may {G : Fs} (h : GoodN G) {s : ByteArray} {k : Nat} (hk : fileF G s = some k) : mayN s = true := h.dir.may _ (fileD_mem hk)

set_option maxHeartbeats 8000000 in
theorem vput_any (g : Nat) (S : Nat → Prop) (G : Fs) (s : ByteArray) (a : Option Addr) (n c : Nat) (zs : List Int) (m : Nat) (w : World) (hF : LAt w g S G) (hL : Lim m G) (hm : m ≤ 1073741825) (hs : s.size ≤ 9223372036854775807) (hr : Row .u8 w a n zs) (hn : n ≤ 4294967296) :
    Calls Tryz.prog 174 #[.pointer (some ⟨g, 0, none⟩), .string s, .slice a n c] w fun e w' => e = .returned (.int .i64 (addF G s zs).2) ∧ StepV LAt w w' g S (addF G s zs).1 := by
  have HF := hide hF
  obtain ⟨hV, hN, fb, fh, bn, bc, at', ct, B⟩ := hF
  have FI := hide (lfind_any w g S G fb fh bn bc at' ct s B hs)
  have HP : Hid (∀ (x : Fs × Int) (u : World), addF G s zs = x → StepV LAt w u g S x.1 → (Ending.returned (.int .i64 x.2) = .returned (.int .i64 (addF G s zs).2) ∧ StepV LAt w u g S (addF G s zs).1)) := fun x u e hu => by
    rw [e]
    exact ⟨rfl, hu⟩
  cases hm1 : mayN s with
  | false =>
    have HE : Hid (addF G s zs = (G, 1)) := by show _ = _; unfold addF; rw [if_pos hm1]
    have H1 := hide (HP.out _ w HE.out (stepL_below HF.out (Below.refl _ _)))
    rw [show findV fb G s = .tuple #[.pointer none, .int .i64 1] by unfold findV; rw [if_pos hm1]] at FI
    clear B hV hN hL hr HF HP HE
    go_enter Tryz.func174, Tryz.ntmps174
    go_wp2_with fail
    with_reducible refine FI.out.mono ?_
    rintro e u ⟨rfl, hu⟩
    rw [hu]
    clear hu
    go_wp2
    go_ret
    exact H1.out
  | true =>
    have hm2 : ¬ mayN s = false := by rw [hm1]; simp
    cases hf : fileF G s with
    | none =>
      have HE : Hid (addF G s zs = (G, 3)) := by show _ = _; unfold addF; rw [if_neg hm2, hf]
      have H1 := hide (HP.out _ w HE.out (stepL_below HF.out (Below.refl _ _)))
      rw [show findV fb G s = .tuple #[.pointer none, .int .i64 3] by unfold findV; rw [if_neg hm2, hf]] at FI
      clear B hV hN hL hr HF HP HE
      go_enter Tryz.func174, Tryz.ntmps174
      go_wp2_with fail
      with_reducible refine FI.out.mono ?_
      rintro e u ⟨rfl, hu⟩
      rw [hu]
      clear hu
      go_wp2
      go_ret
      exact H1.out
    | some k =>
      have hk := hV.file hf
      obtain ⟨h, hh, mh, eb⟩ := B.fileAt hk
      rw [show findV fb G s = .tuple #[.pointer (some ⟨h.b, 0, none⟩), .int .i64 0] by unfold findV; rw [if_neg hm2, hf]; unfold ptrV; dsimp only; rw [eb]] at FI
      have hdl := OwnG.len byV_len (by decide) mh.data
      obtain ⟨hbl, hul⟩ := bytF_len hL hk
      have GR := hide (vgrow_any w h k _ _ _ mh a n c zs hr (by omega) hn (by omega))
      have hz := hr.1
      have c1 := mh.c1
      obtain ⟨da, dn, dc, hd⟩ : ∃ da dn dc, h.d = (da, dn, dc) := ⟨_, _, _, rfl⟩
      rw [hd] at c1 hdl
      dsimp only at c1 hdl
      by_cases hfull : 1073741824 < (bytF (atF G k)).length + zs.length
      · have HE : Hid (addF G s zs = (G, 2)) := by show _ = _; unfold addF; rw [if_neg hm2, hf]; dsimp only; rw [if_pos hfull]
        have H1 := hide (HP.out _ w HE.out (stepL_below HF.out (Below.refl _ _)))
        rw [hdl, hz] at hfull
        have w1 : IntKind.i64.wrap (1073741824 - (dn : Int)) = 1073741824 - (dn : Int) := by rw [IntKind.wrap_i64]; omega
        have d1 : decide ((1073741824 : Int) - (dn : Int) < (n : Int)) = true := decide_eq_true (by omega)
        have d2 : (1073741824 : Int) - (dn : Int) < (n : Int) := by omega
        obtain ⟨hb, hhb⟩ : ∃ hb, h.b = hb := ⟨_, rfl⟩
        rw [hhb] at c1 FI
        clear B hV hN hL hr HF HP HE mh GR hd hh
        go_enter Tryz.func174, Tryz.ntmps174
        go_wp2_with fail
        with_reducible refine FI.out.mono ?_
        rintro e u ⟨rfl, hu⟩
        rw [hu]
        clear hu
        go_wp2
        go_ret
        exact H1.out
      · have HE : Hid (addF G s zs = (moreF G k (moreU zs), 0)) := by show _ = _; unfold addF; rw [if_neg hm2, hf]; dsimp only; rw [if_neg hfull]
        have GVX := hV.mores hk (us := moreU zs) (fun u hu => by
          unfold moreU at hu
          obtain ⟨z, hz1, rfl⟩ := List.mem_map.1 hu
          exact hr.bytes z hz1) (okUs_more _ _)
        have FIN : Hid (∀ u, StepP w u h k (bytF (atF G k) ++ zs) (atF G k).sure ((atF G k).us ++ moreU zs) → (Ending.returned (.int .i64 0) = .returned (.int .i64 (addF G s zs).2) ∧ StepV LAt w u g S (addF G s zs).1)) := fun u hu => by
          refine HP.out _ u HE.out (stepV_file B hN hh GVX ?_)
          show StepP _ _ _ _ (bytF ⟨(atF G k).sure, (atF G k).us ++ moreU zs⟩) _ _
          rw [bytF_more]
          exact hu
        rw [hdl, hz] at hfull
        have w1 : IntKind.i64.wrap (1073741824 - (dn : Int)) = 1073741824 - (dn : Int) := by rw [IntKind.wrap_i64]; omega
        have d1 : decide ((1073741824 : Int) - (dn : Int) < (n : Int)) = false := decide_eq_false (by omega)
        have d2 : ¬ (1073741824 : Int) - (dn : Int) < (n : Int) := by omega
        obtain ⟨hb, hhb⟩ : ∃ hb, h.b = hb := ⟨_, rfl⟩
        rw [hhb] at c1 FI GR
        clear B hV hN hL hr HF HP HE mh hd hh GVX
        go_enter Tryz.func174, Tryz.ntmps174
        go_wp2_with fail
        with_reducible refine FI.out.mono ?_
        rintro e u ⟨rfl, hu⟩
        rw [hu]
        clear hu
        go_wp2_with fail
        with_reducible refine GR.out.mono ?_
        rintro e u2 ⟨rfl, st⟩
        have H1 := hide (FIN.out u2 st)
        clear st FIN GR
        go_wp2
        go_ret
        exact H1.out

set_option maxHeartbeats 8000000 in
theorem lsync_any (g : Nat) (S : Nat → Prop) (F : Fs) (s : ByteArray) (m : Nat) (w : World) (hF : LAt w g S F) (hL : Lim m F) (hm : m < 1073741824) (hs : s.size ≤ 9223372036854775807) :
    Calls Tryz.prog 74 #[.pointer (some ⟨g, 0, none⟩), .string s] w fun e w' => e = .returned (.int .i64 (syncF F s).2) ∧ StepV LAt w w' g S (syncF F s).1 := by
  obtain ⟨hV, hN, fb, fh, bn, bc, at', ct, B⟩ := hF
  have CA := hide (vbegin_any w g S F fb fh bn bc at' ct m B hV hL (by omega))
  have LC := hide hL.call'
  have GV := hide hV.call
  have GN := hide hN.call
  have HG := hide B.own
  rcases hq : callF F with ⟨G, o⟩
  rw [hq] at CA LC GV GN
  dsimp only at CA LC GV GN
  have LA : Hid (∀ u, LB u g S G fb fh bn bc at' ct → LAt u g S G) := fun u hu => ⟨GV.out, GN.out, fb, fh, bn, bc, at', ct, hu⟩
  have HP : Hid (∀ (x : Fs × Int) (u : World), syncF F s = x → StepV LAt w u g S x.1 → (Ending.returned (.int .i64 x.2) = .returned (.int .i64 (syncF F s).2) ∧ StepV LAt w u g S (syncF F s).1)) := fun x u e hu => by
    rw [e]
    exact ⟨rfl, hu⟩
  clear B hV hN hL
  cases o with
  | some e1 =>
    have ne := callF_err hq
    have HE : Hid (syncF F s = (G, e1)) := by show _ = _; unfold syncF; rw [hq]
    clear hq
    rw [Option.getD_some] at CA
    go_enter Tryz.func74, Tryz.ntmps74
    go_wp2_with fail
    with_reducible refine CA.out.mono ?_
    rintro e u1 ⟨rfl, h1, k1⟩
    have H1 := hide (HP.out _ _ HE.out (stepL_same (LA.out _ h1) k1 HG.out))
    clear h1 k1 CA HP
    go_wp2
    go_ret
    exact H1.out
  | none =>
    rw [Option.getD_none] at CA
    cases hm1 : mayN s with
    | false =>
      have HE : Hid (syncF F s = (G, 1)) := by show _ = _; unfold syncF; rw [hq]; dsimp only; rw [if_pos hm1]
      have hfv : findV fb G s = .tuple #[.pointer none, .int .i64 1] := by unfold findV; rw [if_pos hm1]
      clear hq
      go_enter Tryz.func74, Tryz.ntmps74
      go_wp2_with fail
      with_reducible refine CA.out.mono ?_
      rintro e u1 ⟨rfl, h1, k1⟩
      have H1 := hide (HP.out _ _ HE.out (stepL_same (LA.out _ h1) k1 HG.out))
      have FI := hide (lfind_any u1 g S G fb fh bn bc at' ct s h1 hs)
      rw [hfv] at FI
      clear h1 k1 CA HP HE
      go_wp2_with fail
      with_reducible refine FI.out.mono ?_
      rintro e u ⟨rfl, hu⟩
      rw [hu]
      clear hu
      go_wp2
      go_ret
      exact H1.out
    | true =>
      have hm2 : ¬ mayN s = false := by rw [hm1]; simp
      cases hf : fileF G s with
      | none =>
        have HE : Hid (syncF F s = (G, 3)) := by show _ = _; unfold syncF; rw [hq]; dsimp only; rw [if_neg hm2, hf]
        have hfv : findV fb G s = .tuple #[.pointer none, .int .i64 3] := by unfold findV; rw [if_neg hm2, hf]
        clear hq
        go_enter Tryz.func74, Tryz.ntmps74
        go_wp2_with fail
        with_reducible refine CA.out.mono ?_
        rintro e u1 ⟨rfl, h1, k1⟩
        have H1 := hide (HP.out _ _ HE.out (stepL_same (LA.out _ h1) k1 HG.out))
        have FI := hide (lfind_any u1 g S G fb fh bn bc at' ct s h1 hs)
        rw [hfv] at FI
        clear h1 k1 CA HP HE
        go_wp2_with fail
        with_reducible refine FI.out.mono ?_
        rintro e u ⟨rfl, hu⟩
        rw [hu]
        clear hu
        go_wp2
        go_ret
        exact H1.out
      | some k =>
        have hk := GV.out.file hf
        have HE : Hid (syncF F s = ({ G with files := G.files.set k ⟨bytF (atF G k), []⟩ }, 0)) := by show _ = _; unfold syncF; rw [hq]; dsimp only; rw [if_neg hm2, hf]
        clear hq
        go_enter Tryz.func74, Tryz.ntmps74
        go_wp2_with fail
        with_reducible refine CA.out.mono ?_
        rintro e u1 ⟨rfl, h1, k1⟩
        have FI := hide (lfind_any u1 g S G fb fh bn bc at' ct s h1 hs)
        obtain ⟨h, hh, mh, eb⟩ := h1.fileAt hk
        rw [show findV fb G s = .tuple #[.pointer (some ⟨h.b, 0, none⟩), .int .i64 0] by unfold findV; rw [if_neg hm2, hf]; unfold ptrV; dsimp only; rw [eb]] at FI
        have FS' := hide (fsync_any u1 h k _ _ _ mh)
        have FIN : Hid (∀ u, StepP u1 u h k (bytF (atF G k)) (bytF (atF G k)) [] → (Ending.returned (.int .i64 0) = .returned (.int .i64 (syncF F s).2) ∧ StepV LAt w u g S (syncF F s).1)) := fun u hu => by
          refine HP.out _ u HE.out (stepL_after (k1.more (fun j _ e => e ▸ HG.out)) (stepV_file h1 GN.out hh (GV.out.synced hk (bytF_byte GV.out hk)) hu))
        obtain ⟨hb, hhb⟩ : ∃ hb, h.b = hb := ⟨_, rfl⟩
        rw [hhb] at FI FS'
        clear h1 k1 CA HP HE mh hh
        go_wp2_with fail
        with_reducible refine FI.out.mono ?_
        rintro e u ⟨rfl, hu⟩
        rw [hu]
        clear hu
        go_wp2_with fail
        with_reducible refine FS'.out.mono ?_
        rintro e u2 ⟨rfl, st⟩
        have H1 := hide (FIN.out u2 st)
        clear st FIN FS'
        go_wp2
        go_ret
        exact H1.out

set_option maxHeartbeats 8000000 in
theorem lcut_any (g : Nat) (S : Nat → Prop) (F : Fs) (s : ByteArray) (z : Int) (m : Nat) (w : World) (hF : LAt w g S F) (hL : Lim m F) (hm : m < 1073741824) (hs : s.size ≤ 9223372036854775807) (hz : (Lit.int .i64 z).wf = true) :
    Calls Tryz.prog 153 #[.pointer (some ⟨g, 0, none⟩), .string s, .int .i64 z] w fun e w' => e = .returned (.int .i64 (cutF F s z).2) ∧ StepV LAt w w' g S (cutF F s z).1 := by
  obtain ⟨hV, hN, fb, fh, bn, bc, at', ct, B⟩ := hF
  have CA := hide (vbegin_any w g S F fb fh bn bc at' ct m B hV hL (by omega))
  have LC := hide hL.call'
  have GV := hide hV.call
  have GN := hide hN.call
  have HG := hide B.own
  rcases hq : callF F with ⟨G, o⟩
  rw [hq] at CA LC GV GN
  dsimp only at CA LC GV GN
  have LA : Hid (∀ u, LB u g S G fb fh bn bc at' ct → LAt u g S G) := fun u hu => ⟨GV.out, GN.out, fb, fh, bn, bc, at', ct, hu⟩
  have HP : Hid (∀ (x : Fs × Int) (u : World), cutF F s z = x → StepV LAt w u g S x.1 → (Ending.returned (.int .i64 x.2) = .returned (.int .i64 (cutF F s z).2) ∧ StepV LAt w u g S (cutF F s z).1)) := fun x u e hu => by
    rw [e]
    exact ⟨rfl, hu⟩
  clear B hV hN hL
  cases o with
  | some e1 =>
    have ne := callF_err hq
    have HE : Hid (cutF F s z = (G, e1)) := by show _ = _; unfold cutF; rw [hq]
    clear hq
    rw [Option.getD_some] at CA
    go_enter Tryz.func153, Tryz.ntmps153
    go_wp2_with fail
    with_reducible refine CA.out.mono ?_
    rintro e u1 ⟨rfl, h1, k1⟩
    have H1 := hide (HP.out _ _ HE.out (stepL_same (LA.out _ h1) k1 HG.out))
    clear h1 k1 CA HP
    go_wp2
    go_ret
    exact H1.out
  | none =>
    rw [Option.getD_none] at CA
    cases hm1 : mayN s with
    | false =>
      have HE : Hid (cutF F s z = (G, 1)) := by show _ = _; unfold cutF; rw [hq]; dsimp only; rw [if_pos hm1]
      have hfv : findV fb G s = .tuple #[.pointer none, .int .i64 1] := by unfold findV; rw [if_pos hm1]
      clear hq
      go_enter Tryz.func153, Tryz.ntmps153
      go_wp2_with fail
      with_reducible refine CA.out.mono ?_
      rintro e u1 ⟨rfl, h1, k1⟩
      have H1 := hide (HP.out _ _ HE.out (stepL_same (LA.out _ h1) k1 HG.out))
      have FI := hide (lfind_any u1 g S G fb fh bn bc at' ct s h1 hs)
      rw [hfv] at FI
      clear h1 k1 CA HP HE
      go_wp2_with fail
      with_reducible refine FI.out.mono ?_
      rintro e u ⟨rfl, hu⟩
      rw [hu]
      clear hu
      go_wp2
      go_ret
      exact H1.out
    | true =>
      have hm2 : ¬ mayN s = false := by rw [hm1]; simp
      cases hf : fileF G s with
      | none =>
        have HE : Hid (cutF F s z = (G, 3)) := by show _ = _; unfold cutF; rw [hq]; dsimp only; rw [if_neg hm2, hf]
        have hfv : findV fb G s = .tuple #[.pointer none, .int .i64 3] := by unfold findV; rw [if_neg hm2, hf]
        clear hq
        go_enter Tryz.func153, Tryz.ntmps153
        go_wp2_with fail
        with_reducible refine CA.out.mono ?_
        rintro e u1 ⟨rfl, h1, k1⟩
        have H1 := hide (HP.out _ _ HE.out (stepL_same (LA.out _ h1) k1 HG.out))
        have FI := hide (lfind_any u1 g S G fb fh bn bc at' ct s h1 hs)
        rw [hfv] at FI
        clear h1 k1 CA HP HE
        go_wp2_with fail
        with_reducible refine FI.out.mono ?_
        rintro e u ⟨rfl, hu⟩
        rw [hu]
        clear hu
        go_wp2
        go_ret
        exact H1.out
      | some k =>
        have hk := GV.out.file hf
        by_cases hbad : z < 0 ∨ ((bytF (atF G k)).length : Int) < z
        · have HE : Hid (cutF F s z = (G, 1)) := by show _ = _; unfold cutF; rw [hq]; dsimp only; rw [if_neg hm2, hf]; dsimp only; rw [if_pos hbad]
          clear hq
          by_cases hz0 : z < 0
          · have d1 : decide (z < 0) = true := decide_eq_true hz0
            go_enter Tryz.func153, Tryz.ntmps153
            go_wp2_with fail
            with_reducible refine CA.out.mono ?_
            rintro e u1 ⟨rfl, h1, k1⟩
            have FI := hide (lfind_any u1 g S G fb fh bn bc at' ct s h1 hs)
            obtain ⟨h, hh, mh, eb⟩ := h1.fileAt hk
            rw [show findV fb G s = .tuple #[.pointer (some ⟨h.b, 0, none⟩), .int .i64 0] by unfold findV; rw [if_neg hm2, hf]; unfold ptrV; dsimp only; rw [eb]] at FI
            have c1 := mh.c1
            have hdl := OwnG.len byV_len (by decide) mh.data
            obtain ⟨hbl, hul⟩ := bytF_len LC.out hk
            obtain ⟨da, dn, dc, hd⟩ : ∃ da dn dc, h.d = (da, dn, dc) := ⟨_, _, _, rfl⟩
            rw [hd] at c1 hdl
            dsimp only at c1 hdl
            obtain ⟨hb, hhb⟩ : ∃ hb, h.b = hb := ⟨_, rfl⟩
            have H1 := hide (HP.out _ _ HE.out (stepL_same (LA.out _ h1) k1 HG.out))
            rw [hhb] at FI c1
            clear h1 k1 CA HP HE mh hh hd
            go_wp2_with fail
            with_reducible refine FI.out.mono ?_
            rintro e u ⟨rfl, hu⟩
            rw [hu]
            clear hu
            go_wp2
            go_ret
            exact H1.out
          · have d1 : decide (z < 0) = false := decide_eq_false hz0
            go_enter Tryz.func153, Tryz.ntmps153
            go_wp2_with fail
            with_reducible refine CA.out.mono ?_
            rintro e u1 ⟨rfl, h1, k1⟩
            have FI := hide (lfind_any u1 g S G fb fh bn bc at' ct s h1 hs)
            obtain ⟨h, hh, mh, eb⟩ := h1.fileAt hk
            rw [show findV fb G s = .tuple #[.pointer (some ⟨h.b, 0, none⟩), .int .i64 0] by unfold findV; rw [if_neg hm2, hf]; unfold ptrV; dsimp only; rw [eb]] at FI
            have c1 := mh.c1
            have hdl := OwnG.len byV_len (by decide) mh.data
            obtain ⟨hbl, hul⟩ := bytF_len LC.out hk
            obtain ⟨da, dn, dc, hd⟩ : ∃ da dn dc, h.d = (da, dn, dc) := ⟨_, _, _, rfl⟩
            rw [hd] at c1 hdl
            dsimp only at c1 hdl
            obtain ⟨hb, hhb⟩ : ∃ hb, h.b = hb := ⟨_, rfl⟩
            have H1 := hide (HP.out _ _ HE.out (stepL_same (LA.out _ h1) k1 HG.out))
            have d3 : (dn : Int) < z := by rw [← hdl]; exact hbad.resolve_left (by omega)
            have d2 : decide ((dn : Int) < z) = true := decide_eq_true d3
            rw [hhb] at FI c1
            clear h1 k1 CA HP HE mh hh hd
            go_wp2_with fail
            with_reducible refine FI.out.mono ?_
            rintro e u ⟨rfl, hu⟩
            rw [hu]
            clear hu
            go_wp2
            go_ret
            exact H1.out
        · obtain ⟨n, rfl⟩ : ∃ n : Nat, z = (n : Int) := ⟨z.toNat, by omega⟩
          have HE : Hid (cutF F s (n : Int) = (moreF G k [⟨0, true, (n : Int)⟩], 0)) := by show _ = _; unfold cutF; rw [hq]; dsimp only; rw [if_neg hm2, hf]; dsimp only; rw [if_neg hbad]
          have hnl : n ≤ (bytF (atF G k)).length := by omega
          clear hq
          have d1 : decide ((n : Int) < 0) = false := decide_eq_false (by omega)
          have d0 : ¬ (n : Int) < 0 := by omega
          go_enter Tryz.func153, Tryz.ntmps153
          go_wp2_with fail
          with_reducible refine CA.out.mono ?_
          rintro e u1 ⟨rfl, h1, k1⟩
          have FI := hide (lfind_any u1 g S G fb fh bn bc at' ct s h1 hs)
          obtain ⟨h, hh, mh, eb⟩ := h1.fileAt hk
          rw [show findV fb G s = .tuple #[.pointer (some ⟨h.b, 0, none⟩), .int .i64 0] by unfold findV; rw [if_neg hm2, hf]; unfold ptrV; dsimp only; rw [eb]] at FI
          have c1 := mh.c1
          have hdl := OwnG.len byV_len (by decide) mh.data
          obtain ⟨hbl, hul⟩ := bytF_len LC.out hk
          obtain ⟨da, dn, dc, hd⟩ : ∃ da dn dc, h.d = (da, dn, dc) := ⟨_, _, _, rfl⟩
          rw [hd] at c1 hdl
          dsimp only at c1 hdl
          obtain ⟨hb, hhb⟩ : ∃ hb, h.b = hb := ⟨_, rfl⟩
          have d3 : ¬ (dn : Int) < (n : Int) := by omega
          have d2 : decide ((dn : Int) < (n : Int)) = false := decide_eq_false d3
          have d4 : decide (dn < n) = false := decide_eq_false (by omega)
          have FC := hide (fcut_any u1 h k _ _ _ mh rfl n hnl (by omega) (by omega) (bytF_byte GV.out hk))
          have FIN : Hid (∀ u, StepP u1 u h k ((bytF (atF G k)).take n) (atF G k).sure ((atF G k).us ++ [⟨0, true, (n : Int)⟩]) → (Ending.returned (.int .i64 0) = .returned (.int .i64 (cutF F s (n : Int)).2) ∧ StepV LAt w u g S (cutF F s (n : Int)).1)) := fun u hu => by
            refine HP.out _ u HE.out (stepL_after (k1.more (fun j _ e => e ▸ HG.out)) (stepV_file h1 GN.out hh (GV.out.mores hk (us := [⟨0, true, (n : Int)⟩]) (fun u hu => ?_) ⟨fun _ => ⟨by dsimp only; omega, by dsimp only; omega⟩, trivial⟩) ?_))
            · obtain rfl := List.mem_singleton.1 hu
              exact ⟨Int.le_refl _, by dsimp only; omega⟩
            · show StepP _ _ _ _ (bytF ⟨(atF G k).sure, (atF G k).us ++ [⟨0, true, (n : Int)⟩]⟩) _ _
              rw [bytF_cut]
              exact hu
          rw [hhb] at FI c1 FC
          clear h1 k1 CA HP HE mh hh hd
          go_wp2_with fail
          with_reducible refine FI.out.mono ?_
          rintro e u ⟨rfl, hu⟩
          rw [hu]
          clear hu
          go_wp2_with fail
          with_reducible refine FC.out.mono ?_
          rintro e u2 ⟨rfl, st⟩
          have H1 := hide (FIN.out u2 st)
          clear st FIN FC
          go_wp2
          go_ret
          exact H1.out

set_option maxHeartbeats 8000000 in
theorem lappend_any (g : Nat) (S : Nat → Prop) (F : Fs) (s : ByteArray) (a : Option Addr) (n c : Nat) (zs : List Int) (m : Nat) (w : World) (hF : LAt w g S F) (hL : Lim m F) (hm : m < 1073741824) (hs : s.size ≤ 9223372036854775807) (hr : Row .u8 w a n zs) (hn : n ≤ 4294967296) (hnc : n ≤ c) :
    Calls Tryz.prog 102 #[.pointer (some ⟨g, 0, none⟩), .string s, .slice a n c] w fun e w' => e = .returned (.int .i64 (appendF F s zs).2) ∧ StepV LAt w w' g S (appendF F s zs).1 := by
  obtain ⟨hV, hN, fb, fh, bn, bc, at', ct, B⟩ := hF
  have CA := hide (vbegin_any w g S F fb fh bn bc at' ct m B hV hL (by omega))
  have LC := hide hL.call'
  have GV := hide hV.call
  have GN := hide hN.call
  have HG := hide B.own
  have c8 := B.c8
  have hz := hr.1
  have HNG : Hid (∀ (b off i : Nat) (zs : List Int), ¬ w.cell? ⟨g, off + i, none⟩ = some (.int .u8 (zs.getD i 0))) := fun b off i zs h => by
    rw [cell_of_row w g (off + i) _ _ (0, 0) B.str] at h
    exact lfC_no8 _ _ _ _ _ _ _ h
  rcases hq : callF F with ⟨G, o⟩
  rw [hq] at CA LC GV GN
  dsimp only at CA LC GV GN
  have LA : Hid (∀ u, LB u g S G fb fh bn bc at' ct → LAt u g S G) := fun u hu => ⟨GV.out, GN.out, fb, fh, bn, bc, at', ct, hu⟩
  have HP : Hid (∀ (x : Fs × Int) (u : World), appendF F s zs = x → StepV LAt w u g S x.1 → (Ending.returned (.int .i64 x.2) = .returned (.int .i64 (appendF F s zs).2) ∧ StepV LAt w u g S (appendF F s zs).1)) := fun x u e hu => by
    rw [e]
    exact ⟨rfl, hu⟩
  have HR : Hid (∀ u, Ch (fun j => j = g) w u → Row .u8 u a n zs) := fun u hu => by
    obtain ⟨h1, h2, h3, h4⟩ := hr
    refine ⟨h1, h2, h3, ?_⟩
    rcases h4 with h4 | ⟨b, off, rfl, hc⟩
    · exact Or.inl h4
    · by_cases hz : n = 0
      · exact Or.inl hz
      · refine Or.inr ⟨b, off, rfl, fun i hi => ?_⟩
        have h5 := hc i hi
        have kk := hu.block b (World.block_lt_of_cell? w _ h5) (fun e => HNG.out b off i zs (by rw [← e]; exact h5))
        simp only [World.cell?] at h5 ⊢
        rw [kk]
        exact h5
  clear B hV hN hL hr
  cases o with
  | none =>
    have HE : Hid (appendF F s zs = addF G s zs) := by
      show _ = _
      unfold appendF addF
      rw [hq]
      rfl
    clear hq
    rw [Option.getD_none] at CA
    cases hdk : F.dark with
    | true =>
      rw [hdk] at c8
      go_enter Tryz.func102, Tryz.ntmps102
      go_wp2_with fail
      with_reducible refine CA.out.mono ?_
      rintro e u1 ⟨rfl, h1, k1⟩
      have PU := hide (vput_any g S G s a n c zs (m + 1) u1 (LA.out _ h1) LC.out (by omega) hs (HR.out _ k1) hn)
      have K1 := hide (k1.more (fun j _ (e : j = g) => (e ▸ HG.out : S j)))
      have FIN : Hid (∀ u, StepV LAt u1 u g S (addF G s zs).1 → (Ending.returned (.int .i64 (addF G s zs).2) = .returned (.int .i64 (appendF F s zs).2) ∧ StepV LAt w u g S (appendF F s zs).1)) := fun u hu => HP.out _ u HE.out (stepL_after K1.out hu)
      clear h1 k1 CA c8 HR HP HE K1
      generalize addF G s zs = px at *
      go_wp2_with fail
      with_reducible refine PU.out.mono ?_
      rintro e u2 ⟨rfl, st⟩
      have H1 := hide (FIN.out _ st)
      clear st PU FIN
      go_wp2
      go_ret
      exact H1.out
    | false =>
      rw [hdk] at c8
      go_enter Tryz.func102, Tryz.ntmps102
      go_wp2_with fail
      with_reducible refine CA.out.mono ?_
      rintro e u1 ⟨rfl, h1, k1⟩
      have PU := hide (vput_any g S G s a n c zs (m + 1) u1 (LA.out _ h1) LC.out (by omega) hs (HR.out _ k1) hn)
      have K1 := hide (k1.more (fun j _ (e : j = g) => (e ▸ HG.out : S j)))
      have FIN : Hid (∀ u, StepV LAt u1 u g S (addF G s zs).1 → (Ending.returned (.int .i64 (addF G s zs).2) = .returned (.int .i64 (appendF F s zs).2) ∧ StepV LAt w u g S (appendF F s zs).1)) := fun u hu => HP.out _ u HE.out (stepL_after K1.out hu)
      clear h1 k1 CA c8 HR HP HE K1
      generalize addF G s zs = px at *
      go_wp2_with fail
      with_reducible refine PU.out.mono ?_
      rintro e u2 ⟨rfl, st⟩
      have H1 := hide (FIN.out _ st)
      clear st PU FIN
      go_wp2
      go_ret
      exact H1.out
  | some e1 =>
    have ne := callF_err hq
    have ne2 : (e1 == 0) = false := by simpa using ne
    rw [Option.getD_some] at CA
    cases hdk : F.dark with
    | true =>
      have HE : Hid (appendF F s zs = (G, e1)) := by
        show _ = _
        unfold appendF
        rw [hq]
        dsimp only
        split
        · rfl
        · rw [if_neg (by rw [hdk]; simp)]
      rw [hdk] at c8
      clear hq
      go_enter Tryz.func102, Tryz.ntmps102
      go_wp2_with fail
      with_reducible refine CA.out.mono ?_
      rintro e u1 ⟨rfl, h1, k1⟩
      have H1 := hide (HP.out _ _ HE.out (stepL_same (LA.out _ h1) k1 HG.out))
      clear h1 k1 CA HP HE c8
      go_wp2
      go_ret
      exact H1.out
    | false =>
      have HE : Hid (appendF F s zs = ((addF G s (zs.take (n / 2))).1, e1)) := by
        show _ = _
        unfold appendF addF
        rw [hq]
        dsimp only
        cases hf : fileF G s with
        | none =>
          dsimp only
          split <;> rfl
        | some k =>
          dsimp only
          rw [if_neg (show ¬ mayN s = false by rw [fileF_may GN.out hf]; simp), List.length_take, hz]
          by_cases h : (bytF (atF G k)).length + n / 2 ≤ 1073741824
          · rw [if_pos ⟨hdk, h⟩, if_neg (by omega)]
          · rw [if_neg (fun q => h q.2), if_pos (by omega)]
      rw [hdk] at c8
      have sl := fun u => slice_to16 a n c (n / 2) (by omega) u
      have hq2 : (n : Int).tdiv 2 = ((n / 2 : Nat) : Int) := by rw [Int.tdiv_eq_ediv_of_nonneg (by omega)]; omega
      have hq3 : (n : Int) / 2 = ((n / 2 : Nat) : Int) := by omega
      have hw2 : IntKind.i64.wrap ((n / 2 : Nat) : Int) = ((n / 2 : Nat) : Int) := by rw [IntKind.wrap_i64]; omega
      obtain ⟨q2, hq4⟩ : ∃ q2 : Nat, n / 2 = q2 := ⟨_, rfl⟩
      rw [hq4] at sl hq2 hq3 hw2 HE
      have hq2n : q2 ≤ n := by omega
      clear hq
      go_enter Tryz.func102, Tryz.ntmps102
      go_wp2_with fail
      with_reducible refine CA.out.mono ?_
      rintro e u1 ⟨rfl, h1, k1⟩
      have PU := hide (vput_any g S G s a q2 c (zs.take q2) (m + 1) u1 (LA.out _ h1) LC.out (by omega) hs ((HR.out _ k1).to q2 hq2n) (by omega))
      have K1 := hide (k1.more (fun j _ (e : j = g) => (e ▸ HG.out : S j)))
      clear h1 k1 CA c8 HR
      go_wp2_with fail
      with_reducible refine PU.out.mono ?_
      rintro e u2 ⟨rfl, st⟩
      have H1 := hide (HP.out _ _ HE.out (stepL_after K1.out st))
      clear st PU HP HE K1
      go_wp2
      go_ret
      exact H1.out

set_option maxHeartbeats 4000000 in
theorem lread_any (g : Nat) (S : Nat → Prop) (F : Fs) (s : ByteArray) (m : Nat) (w : World) (hF : LAt w g S F) (hL : Lim m F) (hm : m ≤ 1073741824) (hs : s.size ≤ maxLen) :
    Calls Tryz.prog 88 #[.pointer (some ⟨g, 0, none⟩), .string s] w fun e w' => ReadVp (readF F s) w e w' := by
  obtain ⟨hV, hN, fb, fh, bn, bc, at', ct, B⟩ := hF
  have lk := look_name B.names hs
  have c0 := B.c0
  cases hf : fileD (dirF F) s with
  | none =>
    rw [hf] at lk
    dsimp only [Option.map_none, Option.getD_none, Option.isSome_none] at lk
    have HE : Hid (readF F s = none) := by show _ = _; unfold readF fileF; rw [hf]; rfl
    rw [HE.out]
    clear B hV hN hL hf
    go_enter Tryz.func88, Tryz.ntmps88
    go_wp2
    refine bodyPost_ret (v := .tuple #[.slice none 0 0, .int .i64 3]) (by simp [results, Tryz.results88, go_sem]) rfl ?_
    exact ⟨Below.refl _ _, rfl⟩
  | some k =>
    have hk : k < F.files.length := hV.file hf
    obtain ⟨h, hh, mh, eb⟩ := B.fileAt hk
    rw [hf] at lk
    dsimp only [Option.map_some, Option.getD_some, Option.isSome_some] at lk
    unfold ptrV at lk
    rw [eb] at lk
    obtain ⟨hbl, hul⟩ := bytF_len hL hk
    have HE : Hid (readF F s = some (bytF (atF F k))) := by show _ = _; unfold readF fileF; rw [hf]; rfl
    rw [HE.out]
    have hdl := OwnG.len byV_len (by decide) mh.data
    have hcp := (OwnG.capped mh.data).2
    have c1 := mh.c1
    have CL := hide (clone8_any h.d.1 h.d.2.1 h.d.2.2 (bytF (atF F k)) w (ownB_row mh.data (by omega) (bytF_byte hV hk)) (by omega) (fun e => (hcp e).2))
    obtain ⟨da, dn, dc, hd⟩ : ∃ da dn dc, h.d = (da, dn, dc) := ⟨_, _, _, rfl⟩
    rw [hd] at c1 hdl CL
    dsimp only at c1 hdl CL
    obtain ⟨hb, hhb⟩ : ∃ hb, h.b = hb := ⟨_, rfl⟩
    rw [hhb] at lk c1
    have HDL := hide hdl
    generalize bytF (atF F k) = bs at *
    clear B hV hN hL hf mh hh eb hd hcp hbl hul hdl
    go_enter Tryz.func88, Tryz.ntmps88
    go_wp2_with fail
    with_reducible refine CL.out.mono ?_
    rintro e u ⟨xa, xc, rfl, ox, bx⟩
    have OX := hide ox
    have BX := hide bx
    clear ox bx CL
    go_wp2
    refine bodyPost_ret (v := .tuple #[.slice xa dn xc, .int .i64 0]) (by simp [results, Tryz.results88, go_sem]) rfl ?_
    refine ⟨BX.out, xa, xc, ?_, ?_⟩
    · rw [HDL.out]
    · rw [HDL.out]; exact OX.out
end Go.Proofs.YtknghoecjobkiaaGreatDoor

namespace Go.Proofs.YtknghoecjobkiaaGreatDoor
open Go.RowKit Go.Maps
set_option maxRecDepth 20000
set_option linter.unusedVariables false

/-- A file that is laid. -/
def layF (F : Fs) (s : ByteArray) (bs : List Int) : Fs := { F with files := F.files ++ [⟨bs, []⟩], sure := F.sure ++ [⟨s, F.files.length⟩] }
theorem nmV_lay {fb : List Nat} {l : List Dn} {s : ByteArray} (h : fileD l s = none) (k : Nat) (t : ByteArray) : updF (nmV fb l) s (ptrV fb k) t = nmV fb (l ++ [⟨s, k⟩]) t := by
  unfold updF nmV
  rw [fileD_snoc]
  by_cases e : t = s
  · rw [if_pos e, if_pos e, e, h]; rfl
  · rw [if_neg e, if_neg e]; cases fileD l t <;> rfl
theorem dirF_nil {F : Fs} (h : F.turns = []) : dirF F = F.sure := by unfold dirF turnsD; rw [h]; rfl
theorem GoodV.lay {F : Fs} (h : GoodV F) (s : ByteArray) {bs : List Int} (hb : ∀ z ∈ bs, 0 ≤ z ∧ z ≤ 255) : GoodV (layF F s bs) := by
  have q := h.more1 (x := ⟨bs, []⟩) trivial ⟨hb, fun u hu => by simp at hu⟩
  refine ⟨fun d hd => ?_, q.turns, q.cuts, q.byte, q.aft, q.knd⟩
  rcases List.mem_append.1 hd with e | e
  · exact q.sure d e
  · obtain rfl := List.mem_singleton.1 e
    show F.files.length < (F.files ++ [_]).length
    rw [List.length_append, List.length_singleton]; omega
theorem GoodN.lay {F : Fs} (hV : GoodV F) (h : GoodN F) (hT : F.turns = []) {s : ByteArray} (hs : mayN s = true) (hn : fileD F.sure s = none) (bs : List Int) : GoodN (layF F s bs) := by
  refine ⟨h.sure.snoc hs (fileD_none hn) (fun d hd e => ?_), ?_⟩
  · have := hV.sure d hd
    omega
  · show OkT _ F.turns
    rw [hT]; trivial
/-- Its name in both maps. -/
theorem LB.laid {w w2 w3 : World} {g : Nat} {S : Nat → Prop} {F : Fs} {fb : List Nat} {fh : List Fh} {bn bc : Nat} {at' : Option Addr} {ct : Nat} {s : ByteArray} {bs : List Int} (B : LB w g S { F with files := F.files ++ [⟨bs, []⟩] } fb fh bn bc at' ct) (hN : GoodN (layF F s bs)) (hT : F.turns = []) (hn : fileD F.sure s = none)
    (k2 : Ch (fun j => j = bn) w w2) {n2 : Nat} (m2 : MapS w2 bn n2 (updF (nmV fb F.sure) s (ptrV fb F.files.length))) (k3 : Ch (fun j => j = bc) w2 w3) {n3 : Nat} (m3 : MapS w3 bc n3 (updF (nmV fb F.sure) s (ptrV fb F.files.length))) :
    LB w3 g S (layF F s bs) fb fh bn bc at' ct := by
  have k : Ch (fun j => j = bn ∨ j = bc) w w3 := (k2.more (fun _ _ e => Or.inl e)).trans (k3.more (fun _ _ e => Or.inr e))
  have hbn := B.names.isMap
  have hbc := B.certain.isMap
  have hg : ∀ j t, CellsT w j t → ¬ (j = bn ∨ j = bc) := fun j t hj e => by
    rcases e with e | e
    · exact hbn.ne hj e.symm
    · exact hbc.ne hj e.symm
  have hd : dirF (layF F s bs) = F.sure ++ [⟨s, F.files.length⟩] := dirF_nil (F := layF F s bs) hT
  have hd2 : (layF F s bs).sure = F.sure ++ [⟨s, F.files.length⟩] := rfl
  refine ⟨B.own, fun j hj => Nat.lt_of_lt_of_le (B.lt j hj) k.size, ?_, ?_, ?_, B.ne, B.bnS, B.bcS, OwnG.ch B.turns k (fun b hb => hg b _ (OwnG.cellsT B.turns b hb).1), B.turnsS, B.fbs, B.len, fun i h x hi hx => ?_, B.filesS, B.apart⟩
  · rw [k.block g (B.lt g B.own) (hg g _ B.cellsT), B.str]
    rfl
  · rw [hd]
    exact (((m2.ch k3 (fun e => B.ne e)).congr (nmV_lay hn _)).tightD hN.sure)
  · rw [hd2]
    exact ((m3.congr (nmV_lay hn _)).tightD hN.sure)
  · have m := B.files i h x hi hx
    exact m.ch k (fun j hj e => by
      rcases e with e | e
      · exact hbn.ne3 (m.kind hj) e.symm
      · exact hbc.ne3 (m.kind hj) e.symm)

set_option maxHeartbeats 4000000 in
theorem lay_any (w : World) (g : Nat) (S : Nat → Prop) (F : Fs) (fb : List Nat) (fh : List Fh) (bn bc : Nat) (at' : Option Addr) (ct m : Nat) (s : ByteArray) (d : H3) (bs : List Int) (B : LB w g S F fb fh bn bc at' ct) (hV : GoodV F) (hN : GoodN F) (hT : F.turns = []) (hL : Lim m F) (hm : m ≤ 1073741825) (hs : mayN s = true) (hn : fileD F.sure s = none) (hb : ∀ z ∈ bs, 0 ≤ z ∧ z ≤ 255) (hd : OwnVb w 0 d.1 d.2.1 d.2.2 bs) (hdS : ∀ j, (h3V d).ownBlock = some j → ¬ S j) :
    Calls Tryz.prog 93 #[.pointer (some ⟨g, 0, none⟩), .string s, .slice d.1 d.2.1 d.2.2] w fun e w' => e = .returned (.tuple #[]) ∧ ∃ S' fb' fh', LB w' g S' (layF F s bs) fb' fh' bn bc at' ct ∧ (∀ j, S' j → S j ∨ w.heap.size ≤ j ∨ (h3V d).ownBlock = some j) ∧ Ch S w w' := by
  have HG := hide B.own
  have HBN := hide B.bnS
  have HBC := hide B.bcS
  have GN := hide (GoodN.lay hV hN hT hs hn bs)
  have hsl := hL.sure
  have hml := mayN_max hs
  have hml := mayN_max hs
  have HF : Hid (fb.length = F.files.length) := by show _ = _; rw [← B.fbs, List.length_map, B.len]
  have BE := hide (lbear_any w g S F fb fh bn bc at' ct m d bs B hV hL hm hd hdS)
  have HT := hide hT
  have HN := hide hn
  clear B hV hN hL hd hdS hs hT hn hb
  obtain ⟨da, dn, dc⟩ := d
  dsimp only at BE ⊢
  go_enter Tryz.func93, Tryz.ntmps93
  go_wp2_with fail
  with_reducible refine BE.out.mono ?_
  rintro e u ⟨h, rfl, hge, B1, hsf, k1⟩
  have hpk : (fb ++ [h.b]).getD F.files.length 0 = h.b := by
    rw [List.getD_eq_getElem?_getD, List.getElem?_append_right (by have := HF.out; omega), HF.out, Nat.sub_self]; rfl
  have hpv : ptrV (fb ++ [h.b]) F.files.length = .pointer (some ⟨h.b, 0, none⟩) := by unfold ptrV; rw [hpk]
  have mn := B1.names
  rw [dirF_nil (F := { F with files := F.files ++ [⟨bs, []⟩] }) HT.out] at mn
  have mc := B1.certain
  dsimp only at mn mc
  obtain ⟨w2, r2, q2, g2⟩ := mn.store Tryz.underlying134 (by unfold maxLen; omega) hml (ptrV (fb ++ [h.b]) F.files.length)
  have K2 : Hid (Ch (fun j => j = bn) u w2) := (Ch.grown g2).more (fun j _ e => (Option.some.inj e).symm)
  have mc2 := mc.ch K2.out (fun e => B1.ne e.symm)
  obtain ⟨w3, r3, q3, g3⟩ := mc2.store Tryz.underlying134 (by unfold maxLen; omega) hml (ptrV (fb ++ [h.b]) F.files.length)
  have K3 : Hid (Ch (fun j => j = bc) w2 w3) := (Ch.grown g3).more (fun j _ e => (Option.some.inj e).symm)
  have LX := hide (B1.laid GN.out HT.out HN.out K2.out q2 K3.out q3)
  rw [hpv] at r2 r3
  have x0 := B1.c0
  have x1 : w2.cell? ⟨g, 1, none⟩ = some (.map (some bc)) := by
    have hb := K2.out.block g (B1.lt g B1.own) (fun e => B1.names.isMap.ne B1.cellsT e.symm)
    rw [cell_of_row w2 g 1 _ _ (0, 0) (hb.trans B1.str)]; rfl
  have FIN : Hid (∃ S' fb' fh', LB w3 g S' (layF F s bs) fb' fh' bn bc at' ct ∧ (∀ j, S' j → S j ∨ w.heap.size ≤ j ∨ (h3V (da, dn, dc)).ownBlock = some j) ∧ Ch S w w3) := by
    refine ⟨_, _, _, LX.out, fun j hj => ?_, (k1.more (fun j _ e => e ▸ HG.out)).trans ?_⟩
    · rcases hj with e | e
      · exact Or.inl e
      · exact Or.inr (hsf j e)
    · refine (K2.out.more (fun j _ e => e ▸ HBN.out)).trans (K3.out.more (fun j _ e => e ▸ HBC.out))
  obtain ⟨hb, hhb⟩ : ∃ hb, h.b = hb := ⟨_, rfl⟩
  rw [hhb] at r2 r3 ⊢
  clear hge B1 hsf k1 mn mc mc2 q2 q3 g2 g3 K2 K3 LX GN HT HN BE HG HBN HBC hpk hpv hhb
  go_wp2
  go_end0
  exact ⟨rfl, FIN.out⟩
end Go.Proofs.YtknghoecjobkiaaGreatDoor

namespace Go.Proofs.YtknghoecjobkiaaGreatDoor
open Go.RowKit Go.Maps
set_option maxRecDepth 20000
set_option linter.unusedVariables false

/-- The directory is certain. -/
theorem LB.certained {u v : World} {g : Nat} {S : Nat → Prop} {F : Fs} {fb : List Nat} {fh : List Fh} {bn bc : Nat} {at' : Option Addr} {ct n : Nat} (B : LB u g S F fb fh bn bc at' ct) (hN : GoodN F) (c : Ch (fun j => j = bc) u v) (m : MapS v bc n (nmV fb (dirF F))) :
    LB (v.setCell ⟨g, 2, none⟩ (.slice none 0 0)) g S { F with sure := dirF F, turns := [] } fb fh bn bc none 0 ∧ Ch S u (v.setCell ⟨g, 2, none⟩ (.slice none 0 0)) := by
  have hbn := B.names.isMap
  have hbc := B.certain.isMap
  have ks : Ch (fun j => j = g) v (v.setCell ⟨g, 2, none⟩ (.slice none 0 0)) := ch_set v g 2 _
  have k : Ch (fun j => j = bc ∨ j = g) u (v.setCell ⟨g, 2, none⟩ (.slice none 0 0)) := (c.more (fun _ _ e => Or.inl e)).trans (ks.more (fun _ _ e => Or.inr e))
  have hgv : v.heap[g]? = some (.cells (lfC F bn bc at' ct) 139 (0, 0)) := (c.block g (B.lt g B.own) (fun e => hbc.ne B.cellsT e.symm)).trans B.str
  refine ⟨⟨B.own, fun j hj => Nat.lt_of_lt_of_le (B.lt j hj) k.size, ?_, ?_, ?_, B.ne, B.bnS, B.bcS, ownG_nil _ _, fun b hb => by simp [Value.ownBlock] at hb, B.fbs, B.len, fun i h x hi hx => ?_, B.filesS, B.apart⟩, k.more (fun j _ e => ?_)⟩
  · rw [heap_setCell_same v g 2 _ _ _ hgv]
    rfl
  · have ed : dirF { F with sure := dirF F, turns := [] } = dirF F := rfl
    rw [ed]
    exact B.names.ch k (fun e => by
      rcases e with e | e
      · exact B.ne e
      · exact hbn.ne B.cellsT e)
  · have mm := m.ch ks (fun e => hbc.ne B.cellsT e)
    exact mm.tightD hN.dir
  · have q := B.files i h x hi hx
    exact q.ch k (fun j hj e => by
      rcases e with e | e
      · exact hbc.ne3 (q.kind hj) e.symm
      · exact ne_ty3 B.cellsT (q.kind hj) (by decide) (by decide) (by decide) e.symm)
  · rcases e with e | e
    · exact e ▸ B.bcS
    · exact e ▸ B.own

/-- A turn's cells. -/
theorem tu_at2 {fb : List Nat} {w : World} {a : Option Addr} {n c : Nat} {l : List Tn} (h : OwnTu fb w 0 a n c l) {i : Nat} {t : Tn} (hi : l[i]? = some t) : ∃ g k s u p, a = some ⟨g, 0, none⟩ ∧ i < n ∧ n ≤ c ∧ tuV fb t = [.int .i64 k, .string s, .string u, .pointer p] ∧ w.cell? ⟨g, i * 4, none⟩ = some (.int .i64 k) ∧ w.cell? ⟨g, i * 4 + 1, none⟩ = some (.string s) ∧ w.cell? ⟨g, i * 4 + 2, none⟩ = some (.string u) ∧ w.cell? ⟨g, i * 4 + 3, none⟩ = some (.pointer p) := by
  obtain ⟨g, e1, e2, e3, e4⟩ := OwnG.at (tuV_len fb) (by decide) h hi
  obtain ⟨k, s, u, p, e0⟩ := tuV_four fb t
  rw [e0] at e4
  exact ⟨g, k, s, u, p, e1, e2, e3, e0, e4 0 _ rfl, e4 1 _ rfl, e4 2 _ rfl, e4 3 _ rfl⟩

set_option maxHeartbeats 8000000 in
theorem lsyncdir_any (g : Nat) (S : Nat → Prop) (F : Fs) (m : Nat) (w : World) (hF : LAt w g S F) (hL : Lim m F) (hm : m < 1073741824) :
    Calls Tryz.prog 75 #[.pointer (some ⟨g, 0, none⟩)] w fun e w' => e = .returned (.int .i64 (syncdirF F).2) ∧ StepV LAt w w' g S (syncdirF F).1 := by
  obtain ⟨hV, hN, fb, fh, bn, bc, at', ct, B⟩ := hF
  have CA := hide (vbegin_any w g S F fb fh bn bc at' ct m B hV hL (by omega))
  have LC := hide hL.call'
  have GV := hide hV.call
  have GN := hide hN.call
  have HG := hide B.own
  rcases hq : callF F with ⟨G, o⟩
  rw [hq] at CA LC GV GN
  dsimp only at CA LC GV GN
  have LA : Hid (∀ u, LB u g S G fb fh bn bc at' ct → LAt u g S G) := fun u hu => ⟨GV.out, GN.out, fb, fh, bn, bc, at', ct, hu⟩
  have HP : Hid (∀ (x : Fs × Int) (u : World), syncdirF F = x → StepV LAt w u g S x.1 → (Ending.returned (.int .i64 x.2) = .returned (.int .i64 (syncdirF F).2) ∧ StepV LAt w u g S (syncdirF F).1)) := fun x u e hu => by
    rw [e]
    exact ⟨rfl, hu⟩
  clear B hV hN hL
  cases o with
  | some e1 =>
    have ne := callF_err hq
    have HE : Hid (syncdirF F = (G, e1)) := by show _ = _; unfold syncdirF; rw [hq]
    clear hq
    rw [Option.getD_some] at CA
    go_enter Tryz.func75, Tryz.ntmps75
    go_wp2_with fail
    with_reducible refine CA.out.mono ?_
    rintro e u1 ⟨rfl, h1, k1⟩
    have H1 := hide (HP.out _ _ HE.out (stepL_same (LA.out _ h1) k1 HG.out))
    clear h1 k1 CA HP
    go_wp2
    go_ret
    exact H1.out
  | none =>
    rw [Option.getD_none] at CA
    have HE : Hid (syncdirF F = ({ G with sure := dirF G, turns := [] }, 0)) := by show _ = _; unfold syncdirF; rw [hq]
    clear hq
    obtain ⟨NT, hNT⟩ : ∃ NT, G.turns.length = NT := ⟨_, rfl⟩
    have hsl := LC.out.sure
    have htl := LC.out.turns
    rw [hNT] at htl
    have HNT := hide hNT
    go_enter Tryz.func75, Tryz.ntmps75
    go_wp2_with fail
    with_reducible refine CA.out.mono ?_
    rintro e u1 ⟨rfl, h1, k1⟩
    have c1 := h1.c1
    have c2 := h1.c2
    rw [hNT] at c2
    have OTS := hide h1.turns
    rw [hNT] at OTS
    have K1 := hide k1
    have HB := hide h1
    have M1 : Hid (MapS u1 bc G.sure.length (nmV fb G.sure)) := h1.certain
    have C0 : Hid (Ch (fun j => j = bc) u1 u1) := Ch.refl _ _
    have BNE : Hid (bc ≠ g) := h1.certain.isMap.ne h1.cellsT
    clear h1 k1 CA hNT
    go_wp2
    go_loopw [16] (fun i wr => ∃ j : Nat, j ≤ NT ∧ i = .int .i64 (j : Int) ∧ Hid (MapS wr bc (G.sure.length + j) (nmV fb (turnsD G.sure (G.turns.take j)))) ∧ Hid (Ch (fun j => j = bc) u1 wr)) (fun i _ => NT - (intOf i).toNat)
    case atStart => exact ⟨0, by omega, rfl, by rw [List.take_zero]; exact M1.out, C0.out⟩
    case round =>
      clear M1 C0
      obtain ⟨j, hj, rfl, HM, HC⟩ := hrel
      obtain ⟨v, rfl⟩ : ∃ v, v = wr := ⟨wr, rfl⟩
      have hg : v.heap[g]? = u1.heap[g]? := HC.out.block g (HB.out.lt g HB.out.own) (fun e => BNE.out e.symm)
      have HGS : Hid (v.heap[g]? = some (.cells (lfC G bn bc at' ct) 139 (0, 0))) := hg.trans HB.out.str
      have x1 : v.cell? ⟨g, 1, none⟩ = some (.map (some bc)) := by rw [cell_of_row v g 1 _ _ (0, 0) HGS.out]; rfl
      clear hg c1 c2
      by_cases hlt : j < NT
      · obtain ⟨t, ht⟩ : ∃ t, G.turns[j]? = some t := ⟨_, List.getElem?_eq_getElem (by have := HNT.out; omega)⟩
        have OV : Hid (OwnTu fb v 0 at' NT ct G.turns) := OwnG.ch OTS.out HC.out (fun b hb e => by
          have q := (OwnG.cellsT OTS.out b hb).1
          exact HB.out.certain.isMap.ne q e.symm)
        obtain ⟨gt, tk, ts, tu, tp, rfl, hjn, -, etu, t0, t1, t2, t3⟩ := tu_at2 OV.out ht
        have okt := okT_at GN.out.turns ht
        have kt := (GV.out.turns t (List.mem_of_getElem? ht)).1
        have DO := hide (fun u (hu : Below v.heap.size v u) => ldo_any u bc (G.sure.length + j) fb _ t (HM.out.below hu) okt kt (by omega))
        rw [etu, ← turnsD_take ht] at DO
        have i1 : (0 : Int) ≤ (j : Int) := by omega
        have i2 : (j : Int) < (NT : Int) := by omega
        obtain ⟨vA, hvA⟩ : ∃ vA, Hid (v.alloc (.cells #[.int .i64 tk, .string ts, .string tu, .pointer tp] 177) = vA) := ⟨_, rfl⟩
        have BA : Hid (Below v.heap.size v vA) := by rw [← hvA.out]; exact (Below.refl _ _).alloc (Nat.le_refl _) _
        have a0 : vA.cell? ⟨v.heap.size, 0, none⟩ = some (.int .i64 tk) := by rw [← hvA.out, World.cell?_alloc_mark]; rfl
        have a1 : vA.cell? ⟨v.heap.size, 1, none⟩ = some (.string ts) := by rw [← hvA.out, World.cell?_alloc_mark]; rfl
        have a2 : vA.cell? ⟨v.heap.size, 2, none⟩ = some (.string tu) := by rw [← hvA.out, World.cell?_alloc_mark]; rfl
        have a3 : vA.cell? ⟨v.heap.size, 3, none⟩ = some (.pointer tp) := by rw [← hvA.out, World.cell?_alloc_mark]; rfl
        have xc : vA.cell? ⟨g, 1, none⟩ = some (.map (some bc)) := (BA.out.cell (p := ⟨g, 1, none⟩) (World.block_lt_of_cell? v _ x1)).trans x1
        have FSH : Hid (∀ u, Ch (fun j => j = bc) vA u → u.cell? ⟨g, 1, none⟩ = some (.map (some bc)) ∧ u.cell? ⟨v.heap.size, 0, none⟩ = some (.int .i64 tk) ∧ u.cell? ⟨v.heap.size, 1, none⟩ = some (.string ts) ∧ u.cell? ⟨v.heap.size, 2, none⟩ = some (.string tu) ∧ u.cell? ⟨v.heap.size, 3, none⟩ = some (.pointer tp)) := fun u hu => by
          have hbl := HM.out.lt
          have n1 : ¬ v.heap.size = bc := fun e => by omega
          have n2 : ¬ g = bc := fun e => BNE.out e.symm
          have kc : ∀ (p : Addr) (x : Value), vA.cell? p = some x → ¬ p.block = bc → u.cell? p = some x := fun p x h q => by
            have hb := hu.block p.block (World.block_lt_of_cell? vA _ h) q
            simp only [World.cell?] at h ⊢
            rw [hb]
            exact h
          exact ⟨kc _ _ xc n2, kc _ _ a0 n1, kc _ _ a1 n1, kc _ _ a2 n1, kc _ _ a3 n1⟩
        clear ht okt kt etu HM OV
        go_upto_region 7 with fail
        rw [hvA.out]
        clear hvA t0 t1 t2 t3
        refine wp_region_held_drew (S := fun u => u.cell? ⟨g, 1, none⟩ = some (.map (some bc)) ∧ u.cell? ⟨v.heap.size, 0, none⟩ = some (.int .i64 tk) ∧ u.cell? ⟨v.heap.size, 1, none⟩ = some (.string ts) ∧ u.cell? ⟨v.heap.size, 2, none⟩ = some (.string tu) ∧ u.cell? ⟨v.heap.size, 3, none⟩ = some (.pointer tp)) (by kernel_rfl) ⟨xc, a0, a1, a2, a3⟩ (fun hHeld => ?_)
        refine held_tk 0 (some 20) rfl rfl ?_
        refine held_tk 1 (some 21) rfl rfl ?_
        refine held_tk 2 (some 22) rfl rfl ?_
        refine held_tk 3 (some 23) rfl rfl ?_
        refine held_tk 4 (some 24) rfl rfl ?_
        refine held_next (i := 5) (by kernel_rfl) rfl (by rfl) (fun K2 hK2 => ?_)
        go_simp
        with_reducible refine (DO.out _ BA.out.drew).mono ?_
        rintro e u ⟨rfl, mu, ku⟩
        have MU := hide mu
        have NU : Hid (Ch (fun j => j = bc) u1 u) := (HC.out.trans ((Ch.of_below BA.out.drew).more (fun _ _ h => h.elim))).trans ku
        have SU := FSH.out u (((Ch.of_below (Below.refl _ vA).drew).more (fun _ _ h => h.elim)).trans ku)
        clear mu ku DO a0 a1 a2 a3 xc BA HC HGS x1 FSH
        go_wp2_with fail
        refine hK2.out _ _ SU ?_
        clear hK2 hHeld SU
        refine wpAnyH_done (by kernel_rfl) ?_ _
        go_wp2
        go_roundw
        case rel => exact ⟨j + 1, by omega, by go_num, MU, NU⟩
        case measure => simp [intOf]; omega
      · obtain rfl : j = NT := by omega
        have i2 : ¬ (j : Int) < (j : Int) := by omega
        have fz : v.frozen? ⟨g, 2, none⟩ = false := frozen_of_row v g 2 _ _ HGS.out
        have ETK : Hid (turnsD G.sure (G.turns.take j) = dirF G) := by show _ = _; rw [← HNT.out, List.take_length]; rfl
        rw [ETK.out] at HM
        have x2 : v.cell? ⟨g, 2, none⟩ = some (.slice at' j ct) := by rw [cell_of_row v g 2 _ _ (0, 0) HGS.out, ← HNT.out]; rfl
        have FIN := hide (HB.out.certained GN.out HC.out HM.out)
        have H1 := hide (HP.out _ (v.setCell ⟨g, 2, none⟩ (.slice none 0 0)) HE.out (stepL_after (K1.out.more (fun j _ (e : j = g) => (e ▸ HG.out : S j))) ⟨S, ⟨GV.out.sync, GN.out.sync, _, _, _, _, _, _, FIN.out.1⟩, fun _ hk => Or.inl hk, FIN.out.2⟩))
        clear HP HE FIN HM HC HGS OTS HB K1
        go_wp2
        go_ret
        exact H1.out
end Go.Proofs.YtknghoecjobkiaaGreatDoor

namespace Go.Proofs.YtknghoecjobkiaaGreatDoor
open Go.RowKit Go.Maps
set_option maxRecDepth 20000
set_option linter.unusedVariables false

theorem armF_bad {F : Fs} {k a : Int} (h : (k ≠ 0 ∧ k ≠ 14 ∧ k ≠ 15) ∨ a < 0) : armF F k a = (F, 1) := by unfold armF; rw [if_pos h]
theorem armF_ok {F : Fs} {k a : Int} (h1 : k = 0 ∨ k = 14 ∨ k = 15) (h2 : 0 ≤ a) : armF F k a = ({ F with armed := true, kind := k, after := a }, 0) := by unfold armF; rw [if_neg (by omega)]

set_option maxHeartbeats 4000000 in
theorem larm_any (g : Nat) (S : Nat → Prop) (F : Fs) (k a : Int) (w : World) (hF : LAt w g S F) (hk : (Lit.int .i64 k).wf = true) (ha : (Lit.int .i64 a).wf = true) :
    Calls Tryz.prog 34 #[.pointer (some ⟨g, 0, none⟩), .int .i64 k, .int .i64 a] w fun e w' => e = .returned (.int .i64 (armF F k a).2) ∧ StepV LAt w w' g S (armF F k a).1 := by
  obtain ⟨hV, hN, fb, fh, bn, bc, at', ct, B⟩ := hF
  have HG := hide B.own
  obtain ⟨a0, a1⟩ := i64_of_wf ha
  have HS : Hid (StepV LAt w w g S F) := stepL_same ⟨hV, hN, fb, fh, bn, bc, at', ct, B⟩ (Ch.refl _ _) B.own
  by_cases h2 : a < 0
  · rw [armF_bad (Or.inr h2)]
    have d2 : decide (a < 0) = true := decide_eq_true h2
    by_cases h0 : k = 0
    · subst h0
      clear B hV hN
      go_enter Tryz.func34, Tryz.ntmps34
      go_wp2
      go_ret
      exact ⟨rfl, HS.out⟩
    · have e0 : (k != 0) = true := by simpa using h0
      by_cases h14 : k = 14
      · subst h14
        clear B hV hN
        go_enter Tryz.func34, Tryz.ntmps34
        go_wp2
        go_ret
        exact ⟨rfl, HS.out⟩
      · have e14 : (k != 14) = true := by simpa using h14
        by_cases h15 : k = 15
        · subst h15
          clear B hV hN
          go_enter Tryz.func34, Tryz.ntmps34
          go_wp2
          go_ret
          exact ⟨rfl, HS.out⟩
        · have e15 : (k != 15) = true := by simpa using h15
          clear B hV hN
          go_enter Tryz.func34, Tryz.ntmps34
          go_wp2
          go_ret
          exact ⟨rfl, HS.out⟩
  · have d2 : decide (a < 0) = false := decide_eq_false h2
    by_cases hk3 : k = 0 ∨ k = 14 ∨ k = 15
    · rw [armF_ok hk3 (by omega)]
      have c5 := B.c5
      have c6 := B.c6
      have c7 := B.c7
      have c8 := B.c8
      have f5 := B.fz 5
      have f6 := B.fz 6
      have f7 := B.fz 7
      have f8 := B.fz 8
      have x5 := B.setArmed true
      have x6 := x5.setKind k
      have x7 := x6.setAfter a
      have x8 := x7.setDark F.dark
      have K : Hid (Ch (fun j => j = g) w ((((w.setCell ⟨g, 5, none⟩ (.bool true)).setCell ⟨g, 6, none⟩ (.int .i64 k)).setCell ⟨g, 7, none⟩ (.int .i64 a)).setCell ⟨g, 8, none⟩ (.bool F.dark))) := (((ch_set w g 5 _).trans (ch_set _ g 6 _)).trans (ch_set _ g 7 _)).trans (ch_set _ g 8 _)
      have FIN := hide (stepL_same (w := w) ⟨(⟨hV.sure, hV.turns, hV.cuts, hV.byte, ⟨by dsimp only; omega, a1⟩, hk3⟩ : GoodV { F with armed := true, kind := k, after := a }), (⟨hN.sure, hN.turns⟩ : GoodN { F with armed := true, kind := k, after := a }), _, _, _, _, _, _, x8⟩ K.out HG.out)
      clear B hV hN x5 x6 x7 x8 K HS
      rcases hk3 with rfl | rfl | rfl
      · go_enter Tryz.func34, Tryz.ntmps34
        go_wp2
        go_ret
        exact ⟨rfl, FIN.out⟩
      · go_enter Tryz.func34, Tryz.ntmps34
        go_wp2
        go_ret
        exact ⟨rfl, FIN.out⟩
      · go_enter Tryz.func34, Tryz.ntmps34
        go_wp2
        go_ret
        exact ⟨rfl, FIN.out⟩
    · rw [armF_bad (Or.inl (by omega))]
      have e0 : (k != 0) = true := by simp; omega
      have e14 : (k != 14) = true := by simp; omega
      have e15 : (k != 15) = true := by simp; omega
      clear B hV hN
      go_enter Tryz.func34, Tryz.ntmps34
      go_wp2
      go_ret
      exact ⟨rfl, HS.out⟩

end Go.Proofs.YtknghoecjobkiaaGreatDoor

namespace Go.Proofs.YtknghoecjobkiaaGreatDoor
open Go.RowKit
set_option maxRecDepth 20000

theorem tmod_place {v n : Int} (h : 0 < n) : -n < v.tmod n ∧ v.tmod n < n ∧ (v.tmod n < 0 → v % n = v.tmod n + n) ∧ (0 ≤ v.tmod n → v % n = v.tmod n) := by
  have e := Int.tmod_eq_emod (a := v) (b := n)
  have h0 := Int.emod_nonneg v (show n ≠ 0 by omega)
  have h1 := Int.emod_lt_of_pos v h
  split at e
  · exact ⟨by omega, by omega, by omega, by omega⟩
  · rename_i hn
    have hp : v % n ≠ 0 := fun hz => hn (Or.inr (Int.dvd_of_emod_eq_zero hz))
    exact ⟨by omega, by omega, by omega, by omega⟩

set_option maxHeartbeats 400000 in
theorem place_any (v n : Int) (h0 : 0 < n) (h1 : n ≤ 9223372036854775807) (w : World) :
    Calls Tryz.prog 29 #[.int .i64 v, .int .i64 n] w fun e w' => e = .returned (.int .i64 (v % n)) ∧ w' = w := by
  have e1 : (n == 0) = false := beq_eq_false_iff_ne.2 (by omega)
  obtain ⟨t0, t1, t2, t3⟩ := tmod_place (v := v) h0
  have T2 : Hid (v.tmod n < 0 → v % n = v.tmod n + n) := t2
  have T3 : Hid (0 ≤ v.tmod n → v % n = v.tmod n) := t3
  clear t2 t3
  by_cases hs : v.tmod n < 0
  · go_enter Tryz.func29, Tryz.ntmps29
    go_wp2
    go_ret
    exact ⟨congrArg (fun x => Ending.returned (.int .i64 x)) (T2.out hs).symm, rfl⟩
  · go_enter Tryz.func29, Tryz.ntmps29
    go_wp2
    go_ret
    exact ⟨congrArg (fun x => Ending.returned (.int .i64 x)) (T3.out (by omega)).symm, rfl⟩
end Go.Proofs.YtknghoecjobkiaaGreatDoor

namespace Go.Proofs.YtknghoecjobkiaaGreatDoor
open Go.RowKit
set_option maxRecDepth 20000

/-- A text's byte. -/
def btN (s : ByteArray) (n : Nat) : Int := (numsOf s).getD n 0
theorem get_nums (s : ByteArray) : ∀ (n : Nat) (h : n < s.size), ((s[n]'h).toNat : Int) = btN s n := by
  intro n h
  unfold btN
  have h1 : n < s.data.toList.length := by rw [Array.length_toList]; exact h
  unfold numsOf
  rw [List.getD_eq_getElem?_getD, List.getElem?_map, List.getElem?_eq_getElem h1]
  rfl
theorem nums_byte (s : ByteArray) (n : Nat) : 0 ≤ btN s n ∧ btN s n ≤ 255 := getD_all (fun z hz => u8_of_wf (numsOf_wf s z hz)) (by decide) n
theorem byte_word {z : Int} (h : 0 ≤ z ∧ z ≤ 255) : W64 z := ⟨h.1, by omega⟩
theorem xor_u64 {a b : Int} (ha : W64 a) (hb : W64 b) : bits .xor .u64 a b = fxor a b := by
  have hw := fxor_word ha hb
  unfold W64 at ha hb hw
  obtain ⟨a, rfl⟩ := Int.eq_ofNat_of_zero_le ha.1
  obtain ⟨b, rfl⟩ := Int.eq_ofNat_of_zero_le hb.1
  unfold fxor at *
  simp only [Int.toNat_natCast] at *
  show IntKind.u64.wrap ((BitVec.ofInt 64 (a : Int) ^^^ BitVec.ofInt 64 (b : Int)).toNat : Int) = _
  rw [BitVec.toNat_xor, nat_u64 (by omega), nat_u64 (by omega), IntKind.wrap_u64]
  omega
theorem take_getD {zs : List Int} {k : Nat} (h : k < zs.length) : zs.take (k + 1) = zs.take k ++ [zs.getD k 0] := by
  rw [List.take_succ_eq_append_getElem h, List.getD_eq_getElem?_getD, List.getElem?_eq_getElem h]
  rfl
theorem fnv_step (h : Int) (s : ByteArray) (k : Nat) (hk : k < s.size) : fnvS h ((numsOf s).take (k + 1)) = fnv1 (fnvS h ((numsOf s).take k)) (btN s k) := by
  rw [take_getD (by rw [numsOf_len]; exact hk), fnvS_one]
  rfl
theorem fnv_whole (h : Int) (s : ByteArray) : fnvS h ((numsOf s).take s.size) = fnvS h (numsOf s) := by
  rw [List.take_of_length_le (by rw [numsOf_len]; omega)]

end Go.Proofs.YtknghoecjobkiaaGreatDoor

namespace Go.Proofs.YtknghoecjobkiaaGreatDoor
open Go.RowKit
set_option maxRecDepth 20000

set_option maxHeartbeats 1000000 in
theorem refMore_any (h : Int) (s : ByteArray) (w : World) (hh : W64 h) (hs : s.size ≤ 9223372036854775807) :
    Calls Tryz.prog 272 #[.int .u64 h, .string s] w fun e w' => e = .returned (.int .u64 (fnvS h (numsOf s))) ∧ w' = w := by
  have HH := hide hh
  have HB := hide (get_nums s)
  clear hh
  go_enter Tryz.func272, Tryz.ntmps272
  go_wp2
  go_loop [0, 5] (fun r i => ∃ (k : Nat) (R : Int), k ≤ s.size ∧ i = .int .i64 k ∧ r = .int .u64 R ∧ 0 ≤ R ∧ R < 18446744073709551616 ∧ Hid (R = fnvS h ((numsOf s).take k))) (fun _ i => s.size - (intOf i).toNat)
  case atStart => exact ⟨0, h, by omega, rfl, rfl, HH.out.1, HH.out.2, rfl⟩
  case round =>
    obtain ⟨k, R, hk, rfl, rfl, r0, r1, HN⟩ := hrel
    by_cases hlt : k < s.size
    · have HS := hide (fnv_step h s k hlt)
      have hz := nums_byte s k
      have hbk := HB.out k hlt
      generalize btN s k = z at *
      have hx := xor_u64 ⟨r0, r1⟩ (byte_word hz)
      have HX := hide (fxor_word ⟨r0, r1⟩ (byte_word hz))
      have HY : Hid (fxor R z * 1099511628211 % 18446744073709551616 = fnv1 R z) := rfl
      generalize fxor R z = X at *
      obtain ⟨x0, x1⟩ := HX.out
      obtain ⟨z0, z1⟩ := hz
      go_wp2
      refine ⟨⟨k + 1, X * 1099511628211 % 18446744073709551616, by omega, by go_num, ?_, by omega, by omega, by show _ = _; rw [HS.out, ← HN.out]; exact HY.out⟩, by simp [intOf]; omega⟩
      exact congrArg (Value.int .u64) (by simp only [IntKind.wrap_u64]; exact fnv1_shifts X)
    · have : k = s.size := by omega
      subst this
      have HE : Hid (R = fnvS h (numsOf s)) := by show _ = _; rw [HN.out, fnv_whole]
      go_wp2
      go_ret
      rw [← HE.out]
      exact ⟨rfl, rfl⟩

theorem refOf_any (s : ByteArray) (w : World) (hs : s.size ≤ 9223372036854775807) :
    Calls Tryz.prog 229 #[.string s] w fun e w' => e = .returned (.int .u64 (fnvOf (numsOf s))) ∧ w' = w := by
  have M := hide (refMore_any 14695981039346656037 s w ⟨by decide, by decide⟩ hs)
  go_enter Tryz.func229, Tryz.ntmps229
  go_wp2_with fail
  refine M.out.mono ?_
  rintro e w' ⟨rfl, rfl⟩
  go_wp2
  go_ret
  exact ⟨rfl, rfl⟩
end Go.Proofs.YtknghoecjobkiaaGreatDoor

namespace Go.Proofs.YtknghoecjobkiaaGreatDoor
open Go.RowKit
set_option maxRecDepth 20000

theorem refkadd_any (a : Option Addr) (n cap : Nat) (l : List Int) (s : ByteArray) (w : World) (hr : Row .u64 w a n l) (hup : Up l) (hn : n ≤ 1024) (hc : n ≤ cap) (hnil : a = none → cap = 0) (hs : s.size ≤ 9223372036854775807) :
    Calls Tryz.prog 171 #[.slice a n cap, .string s] w fun e w' => BackU w w' e a (hashK 1024 l (fnvOf (numsOf s))) := by
  have C1 := hide (refOf_any s w hs)
  have C2 := hide (refhash_any a n cap l (fnvOf (numsOf s)) w hr hup hn hc hnil (fnvOf_word _))
  clear hr hup hn hc hnil
  go_enter Tryz.func171, Tryz.ntmps171
  go_wp2_with fail
  refine C1.out.mono ?_
  rintro e w1 ⟨rfl, rfl⟩
  go_wp2_with fail
  refine C2.out.mono ?_
  rintro e w2 ⟨a2, c2, rfl, h⟩
  have H := hide h
  clear h
  go_wp2
  go_ret
  exact ⟨a2, c2, rfl, H.out⟩

end Go.Proofs.YtknghoecjobkiaaGreatDoor
