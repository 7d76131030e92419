/-
  The landed file system: a copy of bytes; a file's bytes and pending units exchanged: laws and contracts, for every world.
  Conditions: as each theorem says.
-/
import Derived.Test.YthlkmjaflomflaaGreatVfsDf
import Derived.Lib.SliceRun
import Derived.Laws.AppendOwnNone
namespace Go.Proofs.YthlkmjaflomflaaGreat
open Go.RowKit Go.Maps
set_option maxRecDepth 20000
set_option linter.unusedVariables false

theorem flat_by (zs : List Int) : zs.flatMap byV = zs.map (Value.int .u8) := by
  induction zs with
  | nil => rfl
  | cons z t ih => rw [List.flatMap_cons, ih]; rfl
/-- Bytes of the call's own are a row of bytes. -/
theorem ownB_row {w : World} {base n cap : Nat} {a : Option Addr} {zs : List Int} (h : OwnB w base a n cap zs) (hn : n ≤ 281474976710656) (hz : ∀ z ∈ zs, 0 ≤ z ∧ z ≤ 255) : Row .u8 w a n zs := by
  have : Own 5 .u8 w base a n cap zs := by
    unfold OwnB OwnG at h
    rw [flat_by] at h
    exact h
  exact this.row hn (fun z hz' => by have := hz z hz'; simp [Lit.wf, IntKind.min, IntKind.max, IntKind.signed, IntKind.bits]; omega)
theorem eqlB_nil (w : World) (a : Option Addr) (n c n' c' : Nat) : (binOp .eql 33 (.slice a n c) (.slice none n' c')).run Tryz.prog w = .ok (.bool a.isNone) w :=
  Lib.run_eql_slice_nil w _ _ a n c n' c' Tryz.underlying33

set_option maxHeartbeats 1000000 in
theorem clone8_any (a : Option Addr) (n cap : Nat) (zs : List Int) (w : World) (hr : Row .u8 w a n zs) (hn : n ≤ 1099511627776) (hc : a = none → cap = 0) :
    Calls Tryz.prog 44 #[.slice a n cap] w fun e w' => ∃ a' cap', e = .returned (.slice a' n cap') ∧ OwnB w' w.heap.size a' n cap' zs ∧ Below w.heap.size w w' := by
  obtain ⟨i0, hi, hz0, hz1, hz2⟩ := info_parts Tryz.infoU8
  have hq := eqlB_nil
  have hl := hr.1
  cases a with
  | none =>
    have h0 := hr.nz rfl
    subst h0
    have hz : zs = [] := List.length_eq_zero_iff.1 hl
    subst hz
    go_enter Tryz.func44, Tryz.ntmps44
    go_wp2
    go_ret
    exact ⟨none, 0, rfl, ownG_nil _ _, Below.refl _ _⟩
  | some ad =>
    have HR := hide (fun o j u (hj : (zs.flatMap byV)[j]? = some u) => (hr.alloc o).cells j u (by rw [flat_by] at hj; exact hj))
    have HM : Hid (OwnB (w.alloc (.cells #[] 5)) w.heap.size (some ⟨w.heap.size, 0, none⟩) 0 0 []) := World.ownsRow_made w #[] 0 (Nat.le_refl _) (Nat.zero_le _) rfl
    clear hr
    go_enter Tryz.func44, Tryz.ntmps44
    go_wp2_with (at_builtin; refine wpList_app_g byV_len (by decide) byV_one1 _ rfl _ _ 33 rfl w.heap.size i0 (.int .u8 0) 1 Tryz.underlying33 hi hz0 hz1 hz2 rfl (some ⟨w.heap.size, 0, none⟩) 0 0 [] rfl HM.out (some ad) n cap zs rfl hl (fun ad' e => by cases e; exact HR.out _) (fun e => by cases e) (by omega) (by omega) (by simp) ?_)
    intro a2 c2 w1 o1 g1
    have O1 : Hid (OwnB w1 w.heap.size a2 n c2 zs) := by
      first
        | exact o1
        | (have := o1; simp only [Nat.zero_add, List.nil_append] at this; exact this)
    have B1 : Hid (Below w.heap.size w w1) := ((Below.refl _ w).alloc (Nat.le_refl _) _).grown g1 (by simp) (by intro k hk; simp [Value.ownBlock] at hk; omega)
    clear o1 g1 HR HM
    go_wp2
    go_ret
    exact ⟨a2, c2, by simp, O1.out, B1.out⟩

theorem pu_set0 : ∀ (l : List (Nat × H3)) (k : Nat) (q : Nat × H3) (n : Nat), l[k]? = some q → (l.flatMap puV).set (k * 2) (.int .i64 (n : Int)) = (l.set k (n, q.2)).flatMap puV
  | [], k, _, _, h => by simp at h
  | x :: t, 0, q, n, h => by
    simp at h
    subst h
    rfl
  | x :: t, k + 1, q, n, h => by
    rw [List.flatMap_cons, List.set_cons_succ, List.flatMap_cons, List.set_append_right _ _ (by rw [puV_len]; omega), puV_len, show (k + 1) * 2 - 2 = k * 2 by omega, pu_set0 t k q n (by simpa using h)]
section
variable {w u : World} {h : Fh} {k : Nat} {b su : List Int} {us : List Un}
/-- Other pending units. -/
theorem FlP.putPend (m : FlP w h k b su us) (c : Ch (fun j => (h3V h.p).ownBlock = some j) w u) {p' : H3} {hp' : List (Nat × H3)} {ps' : List Pu} {su' : List Int} {us' : List Un} (o : OwnP u 0 p'.1 p'.2.1 p'.2.2 hp') (hpd : Pd su' us' ps') (hlen : hp'.length = ps'.length)
    (he : ∀ (i : Nat) (q : Nat × H3) (r : Pu), hp'[i]? = some q → ps'[i]? = some r → q.1 = r.1 ∧ OwnB u 0 q.2.1 q.2.2.1 q.2.2.2 r.2 ∧ ∀ j, (h3V q.2).ownBlock = some j → ¬ (h3V h.d).ownBlock = some j) : FlP (u.setCell ⟨h.b, 2, none⟩ (.slice p'.1 p'.2.1 p'.2.2)) { h with p := p', ps := ps', hp := hp' } k b su' us' := by
  have hu : u.heap[h.b]? = some (.cells #[.int .i64 (k : Int), .slice h.d.1 h.d.2.1 h.d.2.2, .slice h.p.1 h.p.2.1 h.p.2.2] 102 (0, 0)) := (c.block h.b (m.lt (Or.inl rfl)) (fun e => (OwnG.cellsT m.pend h.b e).1.ne m.cells (by decide) rfl)).trans m.str
  have cu : CellsT u h.b 102 := ⟨_, _, hu⟩
  have ks : Ch (fun j => j = h.b) u (u.setCell ⟨h.b, 2, none⟩ (.slice p'.1 p'.2.1 p'.2.2)) := ch_set u h.b 2 _
  have od := OwnG.ch m.data c (fun j hj e => (OwnG.cellsT m.pend j e).1.ne (OwnG.cellsT m.data j hj).1 (by decide) rfl)
  refine ⟨?_, OwnG.ch od ks (fun j hj => (OwnG.cellsT od j hj).1.ne cu (by decide)), hpd, OwnG.ch o ks (fun j hj => (OwnG.cellsT o j hj).1.ne cu (by decide)), hlen, fun i q r h1 h2 => ?_⟩
  · show (u.setCell ⟨h.b, 2, none⟩ _).heap[h.b]? = _
    rw [heap_setCell_same u h.b 2 _ _ _ hu]; rfl
  · obtain ⟨e1, e2, e3⟩ := he i q r h1 h2
    exact ⟨e1, OwnG.ch e2 ks (fun j hj => (OwnG.cellsT e2 j hj).1.ne cu (by decide)), e3⟩
/-- Other bytes. -/
theorem FlP.putData (m : FlP w h k b su us) (c : Ch (fun j => (h3V h.d).ownBlock = some j) w u) {d' : H3} {b' : List Int} (o : OwnB u 0 d'.1 d'.2.1 d'.2.2 b') (hl : ∀ j, (h3V d').ownBlock = some j → (h3V h.d).ownBlock = some j ∨ w.heap.size ≤ j) : FlP (u.setCell ⟨h.b, 1, none⟩ (.slice d'.1 d'.2.1 d'.2.2)) { h with d := d' } k b' su us := by
  have hu : u.heap[h.b]? = some (.cells #[.int .i64 (k : Int), .slice h.d.1 h.d.2.1 h.d.2.2, .slice h.p.1 h.p.2.1 h.p.2.2] 102 (0, 0)) := (c.block h.b (m.lt (Or.inl rfl)) (fun e => (OwnG.cellsT m.data h.b e).1.ne m.cells (by decide) rfl)).trans m.str
  have cu : CellsT u h.b 102 := ⟨_, _, hu⟩
  have ks : Ch (fun j => j = h.b) u (u.setCell ⟨h.b, 1, none⟩ (.slice d'.1 d'.2.1 d'.2.2)) := ch_set u h.b 1 _
  have op := OwnG.ch m.pend c (fun j hj e => (OwnG.cellsT m.data j e).1.ne (OwnG.cellsT m.pend j hj).1 (by decide) rfl)
  refine ⟨?_, OwnG.ch o ks (fun j hj => (OwnG.cellsT o j hj).1.ne cu (by decide)), m.pd, OwnG.ch op ks (fun j hj => (OwnG.cellsT op j hj).1.ne cu (by decide)), m.len, fun i q r h1 h2 => ?_⟩
  · show (u.setCell ⟨h.b, 1, none⟩ _).heap[h.b]? = _
    rw [heap_setCell_same u h.b 1 _ _ _ hu]; rfl
  · obtain ⟨e1, e2, e3⟩ := m.each i q r h1 h2
    have e4 := OwnG.ch e2 c (fun j hj e => e3 j hj e)
    refine ⟨e1, OwnG.ch e4 ks (fun j hj => (OwnG.cellsT e4 j hj).1.ne cu (by decide)), fun j hj e => ?_⟩
    rcases hl j e with q' | q'
    · exact e3 j hj q'
    · have := (OwnG.cellsT e2 j hj).1.lt
      omega
/-- So many more in the last. -/
theorem FlP.bump (m : FlP w h k b su us) {gp L cp : Nat} (hp : h.p = (some ⟨gp, 0, none⟩, L + 1, cp)) {ps0 : List Pu} {p : Pu} (hps : h.ps = ps0 ++ [p]) {q : Nat × H3} (hq : h.hp[L]? = some q) (hpos : 0 < p.1) (zs : List Int) :
    FlP (w.setCell ⟨gp, L * 2, none⟩ (.int .i64 ((p.1 + zs.length : Nat) : Int))) { h with ps := ps0 ++ [(p.1 + zs.length, p.2)], hp := h.hp.set L (p.1 + zs.length, q.2) } k b su (us ++ moreU zs) := by
  have o := m.pend
  rw [hp] at o
  have hL := OwnG.len puV_len (by decide) o
  dsimp only at hL o
  have hlen := m.len
  rw [hps, List.length_append, List.length_singleton, hL] at hlen
  have hps0 : ps0.length = L := by omega
  have hob : (h3V h.p).ownBlock = some gp := by rw [hp]; rfl
  have cg := (OwnG.cellsT o gp rfl).1
  have ks : Ch (fun j => j = gp) w (w.setCell ⟨gp, L * 2, none⟩ (.int .i64 ((p.1 + zs.length : Nat) : Int))) := ch_set w gp _ _
  have hpd := m.pd
  rw [hps] at hpd
  refine ⟨(ks.block h.b (m.lt (Or.inl rfl)) (fun e => cg.ne m.cells (by decide) e.symm)).trans m.str, OwnG.ch m.data ks (fun j hj => (OwnG.cellsT m.data j hj).1.ne cg (by decide)), hpd.more hpos zs, ?_, ?_, fun i q' r h1 h2 => ?_⟩
  · dsimp only
    rw [hp]
    have q1 := (World.ownsRow.stored o (L * 2) (.int .i64 ((p.1 + zs.length : Nat) : Int))).1
    rw [pu_set0 h.hp L q _ hq] at q1
    exact q1
  · dsimp only
    rw [List.length_set, List.length_append, List.length_singleton, hL]
    omega
  · dsimp only at h1 h2
    by_cases e : i = L
    · subst e
      rw [List.getElem?_set_self (by omega)] at h1
      rw [List.getElem?_append_right (by omega), hps0, Nat.sub_self] at h2
      obtain rfl := Option.some.inj h1
      obtain rfl := Option.some.inj h2
      obtain ⟨-, e2, e3⟩ := m.each i q p hq (by rw [hps, List.getElem?_append_right (by omega), hps0, Nat.sub_self]; rfl)
      exact ⟨rfl, OwnG.ch e2 ks (fun j hj => (OwnG.cellsT e2 j hj).1.ne cg (by decide)), e3⟩
    · rw [List.getElem?_set_ne (Ne.symm e)] at h1
      have hil : i < L := by
        have := (List.getElem?_eq_some_iff.1 h1).1
        omega
      rw [List.getElem?_append_left (by omega)] at h2
      obtain ⟨e1, e2, e3⟩ := m.each i q' r h1 (by rw [hps, List.getElem?_append_left (by omega)]; exact h2)
      exact ⟨e1, OwnG.ch e2 ks (fun j hj => (OwnG.cellsT e2 j hj).1.ne cg (by decide)), e3⟩
end

set_option maxHeartbeats 1000000 in
theorem fsync_any (w : World) (h : Fh) (k : Nat) (b su : List Int) (us : List Un) (m : FlP w h k b su us) :
    Calls Tryz.prog 56 #[.pointer (some ⟨h.b, 0, none⟩)] w fun e w' => e = .returned (.tuple #[]) ∧ StepP w w' h k b b [] := by
  have FIN : Hid (StepP w (w.setCell ⟨h.b, 2, none⟩ (.slice none 0 0)) h k b b []) := by
    have q := m.putPend (u := w) (Ch.refl _ _) (p' := (none, 0, 0)) (hp' := []) (ps' := []) (su' := b) (us' := []) (ownG_nil _ _) Pd.nil rfl (fun i q r h1 => by simp at h1)
    refine ⟨{ h with p := (none, 0, 0), ps := [], hp := [] }, rfl, q, fun j hj => ?_, (ch_set w h.b 2 _).more (fun j _ e => Or.inl e)⟩
    rcases hj with e | e | e | ⟨q', e, _⟩
    · exact Or.inl (Or.inl e)
    · exact Or.inl (Or.inr (Or.inl e))
    · simp [h3V, Value.ownBlock] at e
    · simp at e
  have c2 := m.c2
  have f2 := m.fz 2
  generalize h.p = hp at *
  clear m
  go_enter Tryz.func56, Tryz.ntmps56
  go_wp2
  go_end0
  exact ⟨rfl, FIN.out⟩
end Go.Proofs.YthlkmjaflomflaaGreat
