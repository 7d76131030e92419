/-
  Lists gathered in a row of the call's own, and what among, meantByAll and meantByOne of the index come to (the latter two over what is asked of the kids): contracts, for every world.
  Conditions: the index, the values and the kids lie in memory.
-/
import Derived.Test.YtpffhpnmbpjifaaGreatIdxDy
import Derived.Test.YtpffhpnmbpjifaaGreatIdxI
import Derived.Test.YtpffhpnmbpjifaaGreatMatE
import Derived.Maps.AppendAt
namespace Go.Proofs.YtpffhpnmbpjifaaGreat
open Go.RowKit Go.Maps
set_option maxRecDepth 20000

/-- A list in memory of this many numbers at most. -/
def LsM (w : World) (h : Hl) (l : List Int) : Prop := MineI w 0 h.1 h.2.1 h.2.2 l ∧ l.length ≤ 4096 ∧ ∀ z ∈ l, (Lit.int .i64 z).wf = true
/-- Lists gathered in a row of the call's own. -/
structure GatL (w : World) (base : Nat) (a : Option Addr) (n cap : Nat) (ls : List (List Int)) (zs : List Hl) : Prop where
  len : ls.length = n
  row : OwnH w base a n cap zs
  each : ∀ (i : Nat) (h : Hl) (l : List Int), zs[i]? = some h → ls[i]? = some l → LsM w h l
def Gat (w : World) (base : Nat) (a : Option Addr) (n cap : Nat) (ls : List (List Int)) : Prop := ∃ zs, GatL w base a n cap ls zs
theorem LsM.ch {S : Nat → Prop} {w w' : World} {h : Hl} {l : List Int} (q : LsM w h l) (k : Ch S w w') (hn : ∀ g, CellsT w g 3 → ¬ S g) : LsM w' h l :=
  ⟨mineI_ch q.1 k (fun g hg => hn g (row_cells q.1 hg).1), q.2⟩
theorem LsM.below {w w' : World} {h : Hl} {l : List Int} (q : LsM w h l) (b : Below w.heap.size w w') : LsM w' h l := q.ch (Ch.of_below b) (fun _ _ => id)
theorem gat_nil (w : World) (base : Nat) : Gat w base none 0 0 [] := ⟨[], rfl, World.ownsRow_nil _ _ _ _, fun i h l hi => by simp at hi⟩
theorem Gat.below {w w' : World} {base : Nat} {a : Option Addr} {n cap : Nat} {ls : List (List Int)} (q : Gat w base a n cap ls) (b : Below w.heap.size w w') : Gat w' base a n cap ls := by
  obtain ⟨zs, h1, h2, h3⟩ := q
  exact ⟨zs, h1, row_ch h2 (Ch.of_below b) (fun _ _ => id), fun i h l hi hl => (h3 i h l hi hl).below b⟩
theorem Gat.alloc {w : World} {base : Nat} {a : Option Addr} {n cap : Nat} {ls : List (List Int)} (q : Gat w base a n cap ls) (o : Obj) : Gat (w.alloc o) base a n cap ls := q.below ((Below.refl _ _).alloc (Nat.le_refl _) _)
theorem Gat.len {w : World} {base : Nat} {a : Option Addr} {n cap : Nat} {ls : List (List Int)} (q : Gat w base a n cap ls) : ls.length = n := by
  obtain ⟨zs, h1, h2, h3⟩ := q
  exact h1
theorem Gat.rowII {w : World} {base : Nat} {a : Option Addr} {n cap : Nat} {ls : List (List Int)} (q : Gat w base a n cap ls) (hn : n ≤ 5000) : RowII w a n ls := by
  obtain ⟨zs, h1, h2, h3⟩ := q
  have hl1 : zs.length = n := by have := h2.1; simpa using this
  refine ⟨h1, by omega, ?_⟩
  rcases id h2.2 with ⟨-, e2⟩ | ⟨b, c, cur, e1, _⟩
  · exact Or.inl e2
  · simp only [Value.slice.injEq, true_and] at e1
    obtain ⟨rfl, rfl⟩ := e1
    refine Or.inr ⟨b, 0, rfl, fun i hi => ?_⟩
    have hc := h2.cellAt i (by omega)
    have hzi : zs[i]? = some (zs[i]'(by omega)) := List.getElem?_eq_getElem _
    have hsi : ls[i]? = some (ls[i]'(by omega)) := List.getElem?_eq_getElem _
    rw [List.getElem?_map, hzi] at hc
    obtain ⟨r1, r2, r3⟩ := h3 i _ _ hzi hsi
    refine ⟨_, _, _, by rw [Nat.zero_add]; exact hc, ?_⟩
    rw [List.getD_eq_getElem?_getD, hsi]
    exact MineI.sl r1 (by have := r1.len; omega) r3
theorem Gat.lens {w : World} {base : Nat} {a : Option Addr} {n cap : Nat} {ls : List (List Int)} (q : Gat w base a n cap ls) : ∀ l ∈ ls, l.length ≤ 5000 := by
  obtain ⟨zs, h1, h2, h3⟩ := q
  intro l hl
  obtain ⟨i, hi, rfl⟩ := List.mem_iff_getElem.1 hl
  have hl1 : zs.length = n := by have := h2.1; simpa using this
  have := (h3 i _ _ (List.getElem?_eq_getElem (by omega)) (List.getElem?_eq_getElem hi)).2.1
  omega
/-- One list more. -/
theorem Gat.push {w w' : World} {base : Nat} {a a' : Option Addr} {n cap cap' : Nat} {ls : List (List Int)} {h : Hl} {l : List Int} {zs : List Hl} (q : GatL w base a n cap ls zs) (hM : LsM w h l)
    (ho : OwnH w' base a' (n + 1) cap' (zs ++ [h])) (hg : w.grownBy w' (Value.slice a n cap).ownBlock) : Gat w' base a' (n + 1) cap' (ls ++ [l]) := by
  have hl1 : zs.length = n := by have := q.row.1; simpa using this
  have hl2 := q.len
  have kk : ∀ g, CellsT w g 3 → ¬ (Value.slice a n cap).ownBlock = some g := fun g hg e => (row_cells q.row e).1.ne hg (by decide) rfl
  refine ⟨zs ++ [h], by simp [hl2], ho, fun i x y hi hy => ?_⟩
  by_cases hlt : i < n
  · rw [List.getElem?_append_left (by omega)] at hi hy
    exact (q.each i x y hi hy).ch (Ch.grown hg) kk
  · have : i < (zs ++ [h]).length := (List.getElem?_eq_some_iff.1 hi).1
    rw [List.length_append, hl1] at this
    simp at this
    have e : i = n := by omega
    subst e
    rw [List.getElem?_append_right (by omega), hl1, Nat.sub_self] at hi
    rw [List.getElem?_append_right (by omega), hl2, Nat.sub_self] at hy
    simp at hi hy
    subst hi
    subst hy
    exact hM.ch (Ch.grown hg) kk
theorem wpList_gather (w : World) {ops : Array Oper} {rest : List Oper} {o : Oper} {a : Act} {Q : Exit → Act → World → Prop} (hgd : o.guard = none) (s x : Operand)
    (ho : o.op = .call { callee := .builtin .append, args := #[s, x], argTypes := #[71, 71] })
    (base : Nat) (ao : Option Addr) (n cap : Nat) (ls : List (List Int)) (hs : a.eval s = .slice ao n cap) (hG : Gat w base ao n cap ls) (ad : Addr) (y : Hl) (l : List Int) (hx : a.eval x = .slice (some ad) 1 1)
    (hc : ∀ j v, [hlV y][j]? = some v → w.cell? (ad.add j) = some v) (hM : LsM w y l) (hn : n ≤ 5000) (hb : base ≤ w.heap.size)
    (h : ∀ a' cap' w', Gat w' base a' (n + 1) cap' (ls ++ [l]) → Below base w w' → wpList Tryz.prog ops Q rest (a.put o.dst (.slice a' (n + 1) cap')) w') : wpList Tryz.prog ops Q (o :: rest) a w := by
  obtain ⟨i0, hi, hz0, hz1, hz2⟩ := info_parts Tryz.infoSl
  obtain ⟨zs, q⟩ := hG
  refine wpList_append_own w hgd s x 71 ho base 33 i0 (.slice none 0 0) 1 24 Tryz.underlying71 hi hz0 hz1 hz2 rfl (by decide) _ n (zs.map hlV) hs q.row ad 1 1 [hlV y] hx rfl hc (by simp [hlV, Value.oneCell']) (by unfold maxLen; omega) (by omega) hb ?_
  intro v' w' h1 h2 _
  obtain ⟨a', cap', rfl⟩ := row_form h1
  refine h a' cap' w' (Gat.push q hM (by rw [OwnH, List.map_append]; exact h1) h2) ((Below.refl _ _).grown h2 hb (fun g hg => (row_cells q.row hg).2))

/-- Those that have one of the values. -/
def amS (L : Lx) (nm : ByteArray) (vs : List ByteArray) : List Int := idxs (fun l => vs.any fun v => decide (v = valL l nm)) 0 L
theorem amS_most (L : Lx) (nm : ByteArray) (vs : List ByteArray) : mostS (vs.map (fun v => postX L nm v)) 1 = amS L nm vs := by
  have := most_idxs (L := L) (ps := vs.map (fun v => valP nm v)) (p := fun l => vs.any fun v => decide (v = valL l nm)) (fun l _ => by
    rw [List.any_map]
    congr 1
    funext v
    simp only [Function.comp, valP]
    rw [decide_eq_decide]
    exact eq_comm)
  rw [List.map_map] at this
  exact this
theorem take_of {α : Type} {l : List α} {k : Nat} {x : α} (h : l[k]? = some x) : l.take (k + 1) = l.take k ++ [x] := by
  obtain ⟨hk, e⟩ := List.getElem?_eq_some_iff.1 h
  rw [List.take_succ_eq_append_getElem hk, e]

set_option maxHeartbeats 2000000 in
theorem among_any (g : Nat) (S T : Nat → Prop) (L : Lx) (nm : ByteArray) (a : Option Addr) (n c : Nat) (vs : List ByteArray) (w : World) (h : IAt w g S L) (hv : TxR T w a n vs) (hn : n ≤ 4096) (hnm : nm.size ≤ 9223372036854775807) :
    Calls Tryz.prog 44 #[.pointer (some ⟨g, 0, none⟩), .string nm, .slice a n c] w fun e w' => PosP (amS L nm vs) w e w' := by
  have PO := hide (fun (u : World) (v : ByteArray) (hb : Below w.heap.size w u) (hs : v.size ≤ 9223372036854775807) => post_any g S L nm v u (h.below hb) hnm hs)
  have HV := hide hv
  have HLN := hide hv.1
  have hL := h.2.1
  have HPL : Hid (∀ v, (postX L nm v).length ≤ 4096 ∧ ∀ z ∈ postX L nm v, (Lit.int .i64 z).wf = true) := fun v => ⟨Nat.le_trans (postX_len L nm v) hL, postX_wf L nm v (by omega)⟩
  have HAL : Hid ((amS L nm vs).length ≤ 4096) := Nat.le_trans (idxs_len _ _ _) hL
  have HAM := hide (amS_most L nm vs)
  obtain ⟨X, hX⟩ : ∃ X, Hid (amS L nm vs = X) := ⟨_, rfl⟩
  rw [hX.out] at HAL HAM
  rw [hX.out]
  clear h hv hL
  go_enter Tryz.func44, Tryz.ntmps44
  go_wp2
  go_loopw [7, 12] (fun x i wr => ∃ (k : Nat) (ar : Option Addr) (cr : Nat), k ≤ n ∧ i = .int .i64 k ∧ x = .slice ar k cr ∧ Hid (Gat wr w.heap.size ar k cr ((vs.map (fun v => postX L nm v)).take k)) ∧ Hid (Below w.heap.size w wr)) (fun _ i _ => n - (intOf i).toNat)
  case atStart => exact ⟨0, none, 0, by omega, rfl, rfl, gat_nil _ _, Below.refl _ _⟩
  case round =>
    obtain ⟨k, ar, cr, hk, rfl, rfl, HG, HB⟩ := hrel
    obtain ⟨u, rfl⟩ : ∃ u, u = wr := ⟨wr, rfl⟩
    by_cases hlt : k < n
    · obtain ⟨b, off, s, rfl, hs, hsz, -, hcell⟩ := (HV.out.ch (Ch.of_below HB.out) (fun _ _ => id)).at' hlt
      have P1 := hide (PO.out u s HB.out hsz)
      have HS : Hid ((vs.map (fun v => postX L nm v)).take (k + 1) = (vs.map (fun v => postX L nm v)).take k ++ [postX L nm s]) := take_of (by rw [List.getElem?_map, hs]; rfl)
      have HP1 := hide (HPL.out s)
      generalize postX L nm s = Y at *
      have i1 : (0 : Int) ≤ (k : Int) := by omega
      have i2 : (k : Int) < (n : Int) := by omega
      clear hs
      go_wp2_with fail
      with_reducible refine P1.out.mono ?_
      rintro e u1 ⟨a1, n1, c1, rfl, o1, b1⟩
      have B1 := hide (bel_to HB.out (Nat.le_refl _) b1)
      have G1 := hide (HG.out.below b1)
      have M1 : Hid (LsM u1 (a1, n1, c1) Y) := ⟨Own.mono o1 (Nat.zero_le _), HP1.out⟩
      have HSZ : Hid (w.heap.size ≤ u1.heap.size) := B1.out.size
      clear o1 b1 P1 hcell HG HB
      go_wp2_with (at_builtin; refine wpList_gather _ rfl _ _ rfl w.heap.size ar k cr _ rfl (G1.out.alloc _) ⟨u1.heap.size, 0, none⟩ (a1, n1, c1) Y rfl (cell_one_new _ _ _) (M1.out.below ((Below.refl _ _).alloc (Nat.le_refl _) _)) (by omega) (Nat.le_trans HSZ.out (by simp)) ?_)
      intro a2 c2 w2 g2 b2
      rw [← HS.out] at g2
      have G2 := hide g2
      have B2 := hide ((bel_al B1.out (Nat.le_refl _) _).trans b2)
      clear g2 b2 G1 M1 B1 HS
      go_wp2
      go_roundw
      case rel => exact ⟨k + 1, a2, c2, by omega, by go_num, rfl, G2, B2⟩
      case measure => simp [intOf]; omega
    · have e : n = k := by omega
      subst e
      have i2 : ¬ (n : Int) < (n : Int) := by omega
      rw [List.take_of_length_le (by rw [List.length_map, HLN.out]; omega)] at HG
      have OR := hide (or_any ar n cr _ u (HG.out.rowII (by omega)) (by omega) HG.out.lens)
      rw [HAM.out] at OR
      clear HG
      go_wp2_with fail
      with_reducible refine OR.out.mono ?_
      rintro e u1 ⟨F, rfl, tF, b1⟩
      have B1 := hide (bel_to HB.out (Nat.le_refl _) b1)
      have IL := hide (ilist_any F X u1 tF HAL.out)
      clear b1 tF OR
      go_wp2_with fail
      with_reducible refine IL.out.mono ?_
      intro e u2 h2
      have H2 := hide (h2.from' B1.out).posP
      obtain ⟨a2, n2, d2, rfl, -⟩ := h2
      clear IL
      go_wp2
      go_ret
      exact H2.out

/-- What is asked of meant at a matcher. -/
def MnP (L : Lx) (m : Mt) : Prop := ∀ (g : Nat) (S T : Nat → Prop) (h : Hm) (w : World), IAt w g S L → SeeM T w m h → okM m →
    Calls Tryz.prog 24 #[.pointer (some ⟨g, 0, none⟩), .agg #[.int .i64 h.op, .string h.nm, .string h.vl, .slice h.va h.vn h.vc, .slice h.ka h.kn h.kc]] w fun e w' => PosP (selX L m) w e w'
theorem selX_len (L : Lx) (m : Mt) : (selX L m).length ≤ L.length := idxs_len _ _ _
theorem selX_wf (L : Lx) (m : Mt) (hL : L.length ≤ 100000) : ∀ z ∈ selX L m, (Lit.int .i64 z).wf = true := fun z hz => by
  have := idxs_wf _ _ z hz
  exact wfI (by omega) (by omega)
/-- Those that one of the kids means, those that all of them mean. -/
def oneS (L : Lx) (ks : List Mt) : List Int := idxs (fun l => ks.any (evalM l)) 0 L
def allS (L : Lx) (ks : List Mt) : List Int := idxs (fun l => ks.all (evalM l)) 0 L
theorem oneS_most (L : Lx) (ks : List Mt) : mostS (ks.map (fun m => selX L m)) 1 = oneS L ks := by
  have := most_idxs (L := L) (ps := ks.map (fun m => evalP m)) (p := fun l => ks.any (evalM l)) (fun l _ => by
    rw [List.any_map]
    rfl)
  rw [List.map_map] at this
  exact this
theorem allS_start (L : Lx) : uptoI L.length = allS L [] := upto_idxs L
theorem allS_step {L : Lx} {ks : List Mt} {k : Nat} {m : Mt} (h : ks[k]? = some m) : mostS [allS L (ks.take k), selX L m] 2 = allS L (ks.take (k + 1)) := by
  rw [take_of h]
  unfold allS selX
  rw [and_idxs]
  congr 1
  funext l
  rw [List.all_append]
  simp [evalP]
theorem lookKs_many {ks : List Mt} : ∀ {d n b : Nat} {r : Nat × Nat}, lookKs ks d n b = some r → n + ks.length ≤ r.1 ∧ (ks ≠ [] → r.1 ≤ 64) := by
  induction ks with
  | nil =>
    intro d n b r h
    simp [lookKs] at h
    subst h
    simp
  | cons x t ih =>
    intro d n b r h
    obtain ⟨r', hx, ht⟩ := lookKs_cons h
    have h1 := look_up x _ _ _ _ hx
    have h2 := ih ht
    refine ⟨by simp; omega, fun _ => ?_⟩
    by_cases e : t = []
    · subst e
      simp [lookKs] at ht
      subst ht
      exact h1.2.1
    · exact h2.2 e
theorem okM.many {m : Mt} (h : okM m) : m.ks.length ≤ 64 := by
  obtain ⟨d, n, b, r, h⟩ := h
  have h3 := (lookF_some h).2.2.2.2
  have h4 := lookKs_many h3
  by_cases e : m.ks = []
  · rw [e]
    simp
  · have := h4.2 e
    omega

set_option maxHeartbeats 2000000 in
theorem byOne_of (L : Lx) (m : Mt) (ih : ∀ k ∈ m.ks, MnP L k) (g : Nat) (S T : Nat → Prop) (h : Hm) (w : World) (hA : IAt w g S L) (q : SeeM T w m h) (ok : okM m) :
    Calls Tryz.prog 46 #[.pointer (some ⟨g, 0, none⟩), .slice h.ka h.kn h.kc] w fun e w' => PosP (oneS L m.ks) w e w' := by
  obtain ⟨op, nm, vl, va, vn, vc, ka, kn, kc⟩ := h
  obtain ⟨-, -, -, hw, -, hk, -⟩ := seeM_iff.1 q
  dsimp only at hk ⊢
  have hk64 : kn ≤ 64 := by have := ok.many; omega
  have IH := hide ih
  have OK := hide ok
  have HA := hide hA
  have HQ := hide q
  have HKL := hide hk
  have hL := hA.2.1
  have HPL : Hid (∀ k, (selX L k).length ≤ 4096 ∧ ∀ z ∈ selX L k, (Lit.int .i64 z).wf = true) := fun k => ⟨Nat.le_trans (selX_len L k) hL, selX_wf L k (by omega)⟩
  have HAL : Hid ((oneS L m.ks).length ≤ 4096) := Nat.le_trans (idxs_len _ _ _) hL
  have HAM := hide (oneS_most L m.ks)
  obtain ⟨X, hX⟩ : ∃ X, Hid (oneS L m.ks = X) := ⟨_, rfl⟩
  rw [hX.out] at HAL HAM
  rw [hX.out]
  clear ih ok q hA hk hw hL
  go_enter Tryz.func46, Tryz.ntmps46
  go_wp2
  go_loopw [5, 10] (fun x i wr => ∃ (k : Nat) (ar : Option Addr) (cr : Nat), k ≤ kn ∧ i = .int .i64 k ∧ x = .slice ar k cr ∧ Hid (Gat wr w.heap.size ar k cr ((m.ks.map (fun m => selX L m)).take k)) ∧ Hid (Below w.heap.size w wr)) (fun _ i _ => kn - (intOf i).toNat)
  case atStart => exact ⟨0, none, 0, by omega, rfl, rfl, gat_nil _ _, Below.refl _ _⟩
  case round =>
    obtain ⟨k, ar, cr, hk, rfl, rfl, HG, HB⟩ := hrel
    obtain ⟨v, rfl⟩ : ∃ v, v = wr := ⟨wr, rfl⟩
    by_cases hlt : k < kn
    · obtain ⟨x1, y1, kd, h', e, hkd, -, q5, qk⟩ := (HQ.out.below HB.out).kid hlt
      obtain ⟨p0, p1, p2, p3, p4, p5, p6, p7, p8⟩ := h'
      dsimp only at e
      subst e
      obtain ⟨g0, g1, g2, g3, g4⟩ := q5.all
      dsimp only at g0 g1 g2 g3 g4
      have i1 : (0 : Int) ≤ (k : Int) := by omega
      have i2 : (k : Int) < (kn : Int) := by omega
      have hkm := List.mem_of_getElem? hkd
      have A1 : Hid (Below w.heap.size w (v.alloc (.cells #[.int .i64 p0, .string p1, .string p2, .slice p3 p4 p5, .slice p6 p7 p8] 26))) := bel_al HB.out (Nat.le_refl _) _
      have T1 := hide (IH.out kd hkm g S T _ _ (HA.out.below A1.out) (qk.alloc (.cells #[.int .i64 p0, .string p1, .string p2, .slice p3 p4 p5, .slice p6 p7 p8] 26)) (OK.out.kid hkm))
      dsimp only at T1
      have HS : Hid ((m.ks.map (fun m => selX L m)).take (k + 1) = (m.ks.map (fun m => selX L m)).take k ++ [selX L kd]) := take_of (by rw [List.getElem?_map, hkd]; rfl)
      have HP1 := hide (HPL.out kd)
      have GA := hide (HG.out.alloc (.cells #[.int .i64 p0, .string p1, .string p2, .slice p3 p4 p5, .slice p6 p7 p8] 26))
      generalize selX L kd = Y at *
      clear hkd q5 qk hkm
      go_wp2_with fail
      with_reducible refine T1.out.mono ?_
      rintro e u1 ⟨a1, n1, c1, rfl, o1, b1⟩
      have B1 := hide (bel_to A1.out (Nat.le_refl _) b1)
      have G1 := hide (GA.out.below b1)
      have M1 : Hid (LsM u1 (a1, n1, c1) Y) := ⟨Own.mono o1 (Nat.zero_le _), HP1.out⟩
      have HSZ : Hid (w.heap.size ≤ u1.heap.size) := B1.out.size
      clear o1 b1 T1 HG HB A1 GA g0 g1 g2 g3 g4
      go_wp2_with (at_builtin; refine wpList_gather _ rfl _ _ rfl w.heap.size ar k cr _ rfl (G1.out.alloc _) ⟨u1.heap.size, 0, none⟩ (a1, n1, c1) Y rfl (cell_one_new _ _ _) (M1.out.below ((Below.refl _ _).alloc (Nat.le_refl _) _)) (by omega) (Nat.le_trans HSZ.out (by simp)) ?_)
      intro a2 c2 w2 g2 b2
      rw [← HS.out] at g2
      have G2 := hide g2
      have B2 := hide ((bel_al B1.out (Nat.le_refl _) _).trans b2)
      clear g2 b2 G1 M1 B1 HS
      go_wp2
      go_roundw
      case rel => exact ⟨k + 1, a2, c2, by omega, by go_num, rfl, G2, B2⟩
      case measure => simp [intOf]; omega
    · obtain ⟨j0, hj0⟩ : ∃ j0, j0 = k := ⟨k, rfl⟩
      have : kn = j0 := by omega
      subst this
      subst hj0
      have i2 : ¬ (kn : Int) < (kn : Int) := by omega
      rw [List.take_of_length_le (by rw [List.length_map, HKL.out]; exact Nat.le_refl _)] at HG
      have OR := hide (or_any ar kn cr _ v (HG.out.rowII (by omega)) (by omega) HG.out.lens)
      rw [HAM.out] at OR
      clear HG
      go_wp2_with fail
      with_reducible refine OR.out.mono ?_
      rintro e u1 ⟨F, rfl, tF, b1⟩
      have B1 := hide (bel_to HB.out (Nat.le_refl _) b1)
      have IL := hide (ilist_any F X u1 tF HAL.out)
      clear b1 tF OR
      go_wp2_with fail
      with_reducible refine IL.out.mono ?_
      intro e u2 h2
      have H2 := hide (h2.from' B1.out).posP
      obtain ⟨a2, n2, d2, rfl, -⟩ := h2
      clear IL
      go_wp2
      go_ret
      exact H2.out

set_option maxHeartbeats 2000000 in
theorem byAll_of (L : Lx) (m : Mt) (ih : ∀ k ∈ m.ks, MnP L k) (g : Nat) (S T : Nat → Prop) (h : Hm) (w : World) (hA : IAt w g S L) (q : SeeM T w m h) (ok : okM m) :
    Calls Tryz.prog 45 #[.pointer (some ⟨g, 0, none⟩), .slice h.ka h.kn h.kc] w fun e w' => PosP (allS L m.ks) w e w' := by
  obtain ⟨op, nm, vl, va, vn, vc, ka, kn, kc⟩ := h
  obtain ⟨-, -, -, hw, -, hk, -⟩ := seeM_iff.1 q
  dsimp only at hk ⊢
  have hk64 : kn ≤ 64 := by have := ok.many; omega
  have IH := hide ih
  have OK := hide ok
  have HA := hide hA
  have HQ := hide q
  have HKL := hide hk
  obtain ⟨hG, hL, ax, cx, hs, bn, bp, nb, p, q', hnb, hB⟩ := hA
  have AL := hide (all_any g S L L L ax cx hs bn bp nb p q' w hB hL)
  rw [allS_start] at AL
  have HWF : Hid (∀ k, (allS L (m.ks.take k)).length ≤ 4096 ∧ ∀ z ∈ allS L (m.ks.take k), (Lit.int .i64 z).wf = true) := fun k => ⟨Nat.le_trans (idxs_len _ _ _) hL, fun z hz => by
    have := idxs_wf _ _ z hz
    exact wfI (by omega) (by omega)⟩
  have HPL : Hid (∀ k, (selX L k).length ≤ 4096 ∧ ∀ z ∈ selX L k, (Lit.int .i64 z).wf = true) := fun k => ⟨Nat.le_trans (selX_len L k) hL, selX_wf L k (by omega)⟩
  generalize hNN : L.length = NN at *
  clear ih ok q hk hw hB hG hnb
  go_enter Tryz.func45, Tryz.ntmps45
  go_wp2_with fail
  with_reducible refine AL.out.mono ?_
  rintro e u1 ⟨x1, d1, rfl, o1, b1⟩
  have O1 : Hid (MineI u1 w.heap.size x1 NN d1 (allS L (m.ks.take 0))) := o1
  have B1 := hide b1
  clear o1 b1 AL
  go_wp2
  go_loopw [5, 12] (fun x i wr => ∃ (k : Nat) (ar : Option Addr) (nr cr : Nat), k ≤ kn ∧ i = .int .i64 k ∧ x = .slice ar nr cr ∧ Hid (MineI wr w.heap.size ar nr cr (allS L (m.ks.take k))) ∧ Hid (Below w.heap.size w wr)) (fun _ i _ => kn - (intOf i).toNat)
  case atStart => exact ⟨0, x1, NN, d1, by omega, rfl, rfl, O1, B1⟩
  case round =>
    clear O1 B1
    obtain ⟨k, ar, nr, cr, hk, rfl, rfl, HO, HB⟩ := hrel
    obtain ⟨v, rfl⟩ : ∃ v, v = wr := ⟨wr, rfl⟩
    by_cases hlt : k < kn
    · obtain ⟨x1, y1, kd, h', e, hkd, -, q5, qk⟩ := (HQ.out.below HB.out).kid hlt
      obtain ⟨p0, p1, p2, p3, p4, p5, p6, p7, p8⟩ := h'
      dsimp only at e
      subst e
      obtain ⟨g0, g1, g2, g3, g4⟩ := q5.all
      dsimp only at g0 g1 g2 g3 g4
      have i1 : (0 : Int) ≤ (k : Int) := by omega
      have i2 : (k : Int) < (kn : Int) := by omega
      have hkm := List.mem_of_getElem? hkd
      have A1 : Hid (Below w.heap.size w (v.alloc (.cells #[.int .i64 p0, .string p1, .string p2, .slice p3 p4 p5, .slice p6 p7 p8] 26))) := bel_al HB.out (Nat.le_refl _) _
      have T1 := hide (IH.out kd hkm g S T _ _ (HA.out.below A1.out) (qk.alloc (.cells #[.int .i64 p0, .string p1, .string p2, .slice p3 p4 p5, .slice p6 p7 p8] 26)) (OK.out.kid hkm))
      dsimp only at T1
      have HS := hide (allS_step (L := L) hkd)
      have HP1 := hide (HPL.out kd)
      have HW0 := hide (HWF.out k)
      have HW1 := hide (HWF.out (k + 1)).1
      have OA := hide (HO.out.alloc (.cells #[.int .i64 p0, .string p1, .string p2, .slice p3 p4 p5, .slice p6 p7 p8] 26))
      generalize selX L kd = Y at *
      generalize allS L (m.ks.take k) = Z at *
      clear hkd q5 qk hkm
      go_wp2_with fail
      with_reducible refine T1.out.mono ?_
      rintro e u1 ⟨a1, n1, c1, rfl, o1, b1⟩
      have B1 := hide (bel_to A1.out (Nat.le_refl _) b1)
      have O1 := hide (OA.out.below b1 (Nat.le_refl _))
      have AN := hide (and_any ar nr cr Z a1 n1 c1 Y u1 (MineI.sl O1.out (by have := O1.out.len; have := HW0.out.1; omega) HW0.out.2) (MineI.sl o1 (by have := o1.len; have := HP1.out.1; omega) HP1.out.2) (by have := O1.out.len; have := HW0.out.1; omega))
      rw [HS.out] at AN
      clear o1 b1 T1 HO HB A1 OA g0 g1 g2 g3 g4 O1
      go_wp2_with fail
      with_reducible refine AN.out.mono ?_
      rintro e u2 ⟨F, rfl, tF, b2⟩
      have B2 := hide (bel_to B1.out (Nat.le_refl _) b2)
      have IL := hide (ilist_any F _ u2 tF HW1.out)
      clear b2 tF AN B1
      go_wp2_with fail
      with_reducible refine IL.out.mono ?_
      intro e u3 h3
      obtain ⟨a3, n3, d3, rfl, o3, b3⟩ := (h3.from' B2.out).posP
      have O3 := hide o3
      have B3 := hide b3
      clear IL h3 o3 b3 HS
      go_wp2
      go_roundw
      case rel => exact ⟨k + 1, a3, n3, d3, by omega, by go_num, rfl, O3, B3⟩
      case measure => simp [intOf]; omega
    · obtain ⟨j0, hj0⟩ : ∃ j0, j0 = k := ⟨k, rfl⟩
      have : kn = j0 := by omega
      subst this
      subst hj0
      have i2 : ¬ (kn : Int) < (kn : Int) := by omega
      rw [List.take_of_length_le (show m.ks.length ≤ kn by rw [HKL.out]; exact Nat.le_refl _)] at HO
      go_wp2
      go_ret
      exact ⟨_, _, _, rfl, HO.out, HB.out⟩
end Go.Proofs.YtpffhpnmbpjifaaGreat
