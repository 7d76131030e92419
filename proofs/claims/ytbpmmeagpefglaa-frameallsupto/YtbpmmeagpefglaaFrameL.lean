/-
  What the law's own collector does (it puts a place and a text behind two lists that lie in boxes): a contract, for every world; which blocks may have turned.
  Conditions: the lists are the call's own; there is room for one more.
-/
import Derived.Test.YtbpmmeagpefglaaFrameI
namespace Go.Proofs.Ytbpmmeagpefglaa
open Go.RowKit

/-- These blocks alone may have turned. -/
structure Ch (S : Nat → Prop) (w w' : World) : Prop where
  os : w'.os = w.os
  tape : w'.tape = w.tape
  output : w'.output = w.output
  size : w.heap.size ≤ w'.heap.size
  block : ∀ k, k < w.heap.size → ¬ S k → w'.heap[k]? = w.heap[k]?

theorem Ch.refl (S : Nat → Prop) (w : World) : Ch S w w := ⟨rfl, rfl, rfl, Nat.le_refl _, fun _ _ _ => rfl⟩
theorem Ch.trans {S : Nat → Prop} {a b c : World} (h : Ch S a b) (k : Ch S b c) : Ch S a c :=
  ⟨k.os.trans h.os, k.tape.trans h.tape, k.output.trans h.output, Nat.le_trans h.size k.size, fun i hi hs => (k.block i (Nat.lt_of_lt_of_le hi h.size) hs).trans (h.block i hi hs)⟩
theorem Ch.more {S S' : Nat → Prop} {a b : World} (h : Ch S a b) (hs : ∀ k, k < a.heap.size → S k → S' k) : Ch S' a b :=
  ⟨h.os, h.tape, h.output, h.size, fun k hk hn => h.block k hk (fun h' => hn (hs k hk h'))⟩
theorem Ch.grown {w w' : World} {row : Option Nat} (h : w.grownBy w' row) : Ch (fun k => row = some k) w w' :=
  ⟨h.os, h.tape, h.output, h.size, fun k hk hn => h.block k hk (fun e => hn e.symm)⟩
theorem Ch.alloc {S : Nat → Prop} {a w : World} (h : Ch S a w) (o : Obj) : Ch S a (w.alloc o) :=
  ⟨h.os, h.tape, h.output, by simp; exact Nat.le_trans h.size (by omega), fun k hk hn => (Below.heap_alloc w o k (Nat.lt_of_lt_of_le hk h.size)).trans (h.block k hk hn)⟩
theorem Ch.set (w : World) (b : Nat) (v : Value) : Ch (fun k => k = b) w (w.setCell ⟨b, 0, none⟩ v) :=
  ⟨rfl, rfl, rfl, (KeepsWalks.setCell w _ v).size, fun k _ hn => Below.heap_setCell _ _ _ k hn⟩
theorem Ch.of_below {w w' : World} (h : Below w.heap.size w w') : Ch (fun _ => False) w w' := ⟨h.os, h.tape, h.output, h.size, fun k hk _ => h.block k hk⟩
theorem Ch.below {S : Nat → Prop} {w w' : World} {B : Nat} (h : Ch S w w') (hB : B ≤ w.heap.size) (hs : ∀ k, k < B → ¬ S k) : Below B w w' :=
  ⟨h.os, h.tape, h.output, h.size, fun k hk => h.block k (by omega) (hs k hk)⟩

/-- A block of cells of a type. -/
def CellsT (w : World) (g : Nat) (t : TypeId) : Prop := ∃ cur mk, w.heap[g]? = some (.cells cur t mk)
theorem CellsT.lt {w : World} {g : Nat} {t : TypeId} (h : CellsT w g t) : g < w.heap.size := by
  obtain ⟨_, _, h⟩ := h
  exact (Array.getElem?_eq_some_iff.1 h).1
theorem CellsT.ne {w : World} {g g' : Nat} {t t' : TypeId} (h : CellsT w g t) (k : CellsT w g' t') (hn : t ≠ t') : g ≠ g' := by
  rintro rfl
  obtain ⟨_, _, h⟩ := h
  obtain ⟨_, _, k⟩ := k
  rw [h] at k
  simp at k
  exact hn k.2.1
theorem boxed_cells {w : World} {B : Nat} {t : TypeId} {v : Value} (h : Boxed w B t v) : CellsT w B t := ⟨_, _, h⟩
theorem row_cells {w : World} {base : Nat} {e : TypeId} {size : Nat} {v : Value} {n : Nat} {xs : List Value} (h : w.ownsRow base e size v n xs) {g : Nat} (hg : v.ownBlock = some g) : CellsT w g e ∧ base ≤ g := by
  rcases h.2 with ⟨rfl, _⟩ | ⟨g', cap, cur, rfl, hb, hgb, _⟩
  · simp [Value.ownBlock] at hg
  · obtain rfl : g' = g := by simpa [Value.ownBlock] using hg
    exact ⟨⟨_, _, hgb⟩, hb⟩
theorem boxed_ch {S : Nat → Prop} {w w' : World} {B : Nat} {t : TypeId} {v : Value} (h : Boxed w B t v) (c : Ch S w w') (hn : ¬ S B) : Boxed w' B t v := (c.block B h.lt hn).trans h
theorem row_ch {S : Nat → Prop} {w w' : World} {base : Nat} {e : TypeId} {size : Nat} {v : Value} {n : Nat} {xs : List Value} (h : w.ownsRow base e size v n xs) (c : Ch S w w') (hn : ∀ g, v.ownBlock = some g → ¬ S g) : w'.ownsRow base e size v n xs := by
  refine ⟨h.1, ?_⟩
  rcases h.2 with h1 | ⟨g, cap, cur, rfl, hb, hgb, hr⟩
  · exact .inl h1
  · exact .inr ⟨g, cap, cur, rfl, hb, (c.block g (Array.getElem?_eq_some_iff.1 hgb).1 (hn g rfl)).trans hgb, hr⟩

/-- The collector's three boxes and two lists. -/
structure Coll (w : World) (n0 Ba Bl Bm : Nat) (ks : List Int) (ss : List ByteArray) (most : Int) (va vl : Value) : Prop where
  ba : Boxed w Ba 48 va
  bl : Boxed w Bl 23 vl
  bm : Boxed w Bm 3 (.int .i64 most)
  ra : w.ownsRow n0 3 1 va ks.length (ks.map (Value.int .i64))
  rl : w.ownsRow n0 9 1 vl ss.length (ss.map Value.string)
  na : n0 ≤ Ba
  nl : n0 ≤ Bl
  ne : ∀ g, va.ownBlock = some g → g ≠ Bm

theorem Coll.keep {S : Nat → Prop} {w w' : World} {n0 Ba Bl Bm : Nat} {ks : List Int} {ss : List ByteArray} {most : Int} {va vl : Value} (h : Coll w n0 Ba Bl Bm ks ss most va vl) (c : Ch S w w')
    (h1 : ¬ S Ba) (h2 : ¬ S Bl) (h3 : ¬ S Bm) (h4 : ∀ g, va.ownBlock = some g → ¬ S g) (h5 : ∀ g, vl.ownBlock = some g → ¬ S g) : Coll w' n0 Ba Bl Bm ks ss most va vl :=
  ⟨boxed_ch h.ba c h1, boxed_ch h.bl c h2, boxed_ch h.bm c h3, row_ch h.ra c h4, row_ch h.rl c h5, h.na, h.nl, h.ne⟩
theorem Coll.grow {w w' : World} {n0 Ba Bl Bm : Nat} {ks : List Int} {ss : List ByteArray} {most : Int} {va vl : Value} (h : Coll w n0 Ba Bl Bm ks ss most va vl) (c : Below w.heap.size w w') : Coll w' n0 Ba Bl Bm ks ss most va vl :=
  h.keep (Ch.of_below c) id id id (fun _ _ => id) (fun _ _ => id)

theorem Try.infoI : (Try.prog.info? 3).map (fun i => (i.zero, i.size, i.bytes)) = some (some (.int .i64 0), 1, 8) := by kernel_rfl
theorem Try.infoS : (Try.prog.info? 9).map (fun i => (i.zero, i.size, i.bytes)) = some (some (.string { data := #[] }), 1, 16) := by kernel_rfl

theorem row_form {w : World} {base : Nat} {e : TypeId} {v : Value} {n : Nat} {xs : List Value} (h : w.ownsRow base e 1 v n xs) : ∃ a cap, v = .slice a n cap := by
  rcases h.2 with ⟨rfl, rfl⟩ | ⟨g, cap, cur, rfl, _⟩
  · exact ⟨none, 0, rfl⟩
  · exact ⟨_, _, rfl⟩

/-- One element behind a row of the call's own: where the longer row lies. -/
theorem wpList_push {P : Program} (w : World) {ops : Array Oper} {rest : List Oper} {o : Oper} {a : Act} {Q : Exit → Act → World → Prop} (hgd : o.guard = none) (s x : Operand) (t : TypeId)
    (ho : o.op = .call { callee := .builtin .append, args := #[s, x], argTypes := #[t, t] })
    (base : Nat) (e : TypeId) (i : TypeInfo) (z : Value) (bytes : Nat) (ht : P.underlying t = some (.slice e)) (hi : P.info? e = some i) (hz : i.zero = some z) (hsize : i.size = 1) (hby : i.bytes = bytes) (hzs : z.cells.size = 1)
    (ao : Option Addr) (n cap : Nat) (xs : List Value) (hs : a.eval s = .slice ao n cap) (hown : w.ownsRow base e 1 (.slice ao n cap) n xs)
    (ad : Addr) (c : Nat) (u : Value) (hx : a.eval x = .slice (some ad) 1 c) (hc : ∀ j u', [u][j]? = some u' → w.cell? (ad.add j) = some u') (h1 : u.oneCell' = true)
    (h63 : n + 1 ≤ maxLen) (hbytes : (n + 1) * bytes ≤ 140737488355328) (hbase : base ≤ w.heap.size)
    (h : ∀ g' cap' w', w'.ownsRow base e 1 (.slice (some ⟨g', 0, none⟩) (n + 1) cap') (n + 1) (xs ++ [u]) → w.grownBy w' (Value.slice ao n cap).ownBlock → ((Value.slice ao n cap).ownBlock = some g' ∨ w.heap.size ≤ g') → wpList P ops Q rest (a.put o.dst (.slice (some ⟨g', 0, none⟩) (n + 1) cap')) w') : wpList P ops Q (o :: rest) a w := by
  have hlen : xs.length = n := by simpa using hown.1
  have h1' : ∀ u' ∈ [u], u'.oneCell' = true := by intro u' hu'; simp at hu'; rw [hu']; exact h1
  have grow : cap < n + 1 → (ao = none → n = 0 ∧ cap = 0) → (∀ b, ao = some b → ∀ j u', xs[j]? = some u' → w.cell? (b.add j) = some u') → wpList P ops Q (o :: rest) a w := by
    intro hf hnone hcells
    refine wpList_append_grows w hgd s x t ho e i z 1 bytes ht hi hz hsize hby hzs (by decide) ao n cap xs hs hnone (by omega) hcells ad 1 c [u] hx rfl hc h1' hf h63 hbytes ?_
    intro v' w' h2 h3
    obtain ⟨g', cap', rfl⟩ := ownsRow_succ h2
    have hg := (row_cells h2 (g := g') rfl).2
    have h4 : w'.ownsRow base e 1 (.slice (some ⟨g', 0, none⟩) (n + 1) cap') (n + 1) (xs ++ [u]) := by
      refine ⟨h2.1, ?_⟩
      rcases h2.2 with h5 | ⟨g, c', cur, h5, h6, h7⟩
      · exact .inl h5
      · exact .inr ⟨g, c', cur, h5, by omega, h7⟩
    exact h g' cap' w' h4 ⟨h3.os, h3.tape, h3.output, h3.size, fun k hk _ => h3.block k hk (by simp)⟩ (Or.inr hg)
  rcases id hown.2 with ⟨h2, h3⟩ | ⟨g, c', cur, h2, h3, h4, h5, _⟩
  · simp only [Value.slice.injEq] at h2
    obtain ⟨rfl, rfl, rfl⟩ := h2
    exact grow (by omega) (fun _ => ⟨rfl, rfl⟩) (fun b hb => by simp at hb)
  · simp only [Value.slice.injEq, true_and] at h2
    obtain ⟨rfl, rfl⟩ := h2
    by_cases hroom : n + 1 ≤ cap
    · refine wpList_append_fits w hgd s x t ho base e i 1 ht hi hsize g n cap xs hs hown ad 1 c [u] hx rfl hc h1' hroom ?_
      intro w' h6 h7
      exact h g cap w' h6 h7 (Or.inl rfl)
    · exact grow (by omega) (fun hb => by simp at hb) (fun b hb => by simp at hb; subst hb; exact hown.cells (g := g) rfl)

theorem one_strcell (w : World) (s : ByteArray) (e : TypeId) (j : Nat) (u : Value) (h : [Value.string s][j]? = some u) : (w.alloc (.cells #[.string s] e)).cell? ((⟨w.heap.size, 0, none⟩ : Addr).add j) = some u := by
  match j, h with
  | 0, h => simp at h; subst h; rw [Addr.add_lit, World.cell?_alloc_mark]; rfl
theorem one_intcell (w : World) (k : Int) (e : TypeId) (j : Nat) (u : Value) (h : [Value.int .i64 k][j]? = some u) : (w.alloc (.cells #[.int .i64 k] e)).cell? ((⟨w.heap.size, 0, none⟩ : Addr).add j) = some u := by
  match j, h with
  | 0, h => simp at h; subst h; rw [Addr.add_lit, World.cell?_alloc_mark]; rfl

set_option maxHeartbeats 4000000 in
set_option maxRecDepth 100000 in
theorem collect_any (k : Int) (m0 : Nat) (a : Option Addr) (n cap : Nat) (bs : List Int) (w : World) (n0 Ba Bl Bm L : Nat) (ks : List Int) (ss : List ByteArray) (most : Int) (va vl : Value)
    (hx : Mine w m0 a n cap bs) (hz : Bytes8 bs) (hn : n ≤ 281474976710656) (hC : Coll w n0 Ba Bl Bm ks ss most va vl) (h0 : n0 ≤ w.heap.size) (hks : ks.length = L) (hss : ss.length = L) (hlen : (L + 1) * 16 ≤ 140737488355328) :
    Calls Try.prog 38 #[.int .i64 k, .slice a n cap, .pointer (some ⟨Ba, 0, none⟩), .pointer (some ⟨Bl, 0, none⟩), .pointer (some ⟨Bm, 0, none⟩)] w fun e w' =>
      e = .returned (.bool (decide ((L : Int) + 1 < most))) ∧ ∃ va' vl', Coll w' n0 Ba Bl Bm (ks ++ [k]) (ss ++ [strOfNums bs]) most va' vl' ∧
        Ch (fun g => g = Ba ∨ g = Bl ∨ va.ownBlock = some g ∨ vl.ownBlock = some g) w w' ∧ (∀ g, va'.ownBlock = some g → va.ownBlock = some g ∨ w.heap.size ≤ g) := by
  obtain ⟨i1, hi1, hz10, hz11, hz12⟩ := info_parts Try.infoI
  obtain ⟨i2, hi2, hz20, hz21, hz22⟩ := info_parts Try.infoS
  have ra := hC.ra
  have rl := hC.rl
  rw [hks] at ra
  rw [hss] at rl
  obtain ⟨aa, ca, rfl⟩ := row_form ra
  obtain ⟨al, cl, rfl⟩ := row_form rl
  have HC := hide hC
  have HX := hide hx
  have HZ := hide hz
  have cba := hC.ba.cell
  have RA := hide ra
  have RL := hide rl
  have HKS := hide hks
  have HSS := hide hss
  have HM : Hid (∀ W, Mine W m0 a n cap bs → (convert 25 9 (.slice a n cap)).run Try.prog W = .ok (.string (strOfNums bs)) W) := fun W h => mine_string h hn HZ.out
  clear hC hx hz hks hss ra rl
  generalize strOfNums bs = S at *
  go_enter Try.func38, Try.ntmps38
  go_wp2_with (at_builtin; refine wpList_push _ rfl _ _ 48 rfl n0 3 i1 (.int .i64 0) 8 Try.underlying48 hi1 hz10 hz11 hz12 rfl aa L ca (ks.map (Value.int .i64)) rfl (RA.out.alloc _) ⟨w.heap.size, 0, none⟩ 1 (.int .i64 k) rfl (one_intcell w k _) rfl (by unfold maxLen; omega) (by omega) (by simp; omega) ?_)
  intro gg1 cc1 w1 o1 g1 n1
  have O1 : Hid (w1.ownsRow n0 3 1 (.slice (some ⟨gg1, 0, none⟩) (L + 1) cc1) (L + 1) ((ks ++ [k]).map (Value.int .i64))) := by
    show w1.ownsRow _ _ _ _ _ _
    rw [List.map_append]; exact o1
  have C1 : Hid (Ch (fun g => (Value.slice aa L ca).ownBlock = some g) w w1) := ((Ch.refl (fun g => (Value.slice aa L ca).ownBlock = some g) w).alloc (.cells #[.int .i64 k] 3)).trans (Ch.grown g1)
  have N1 : Hid ((Value.slice aa L ca).ownBlock = some gg1 ∨ w.heap.size ≤ gg1) := n1.imp id (fun h => by omega)
  have BA1 := hide (boxed_ch HC.out.ba C1.out (fun h => (row_cells HC.out.ra h).1.ne (boxed_cells HC.out.ba) (by decide) rfl))
  have BL1 := hide (boxed_ch HC.out.bl C1.out (fun h => (row_cells HC.out.ra h).1.ne (boxed_cells HC.out.bl) (by decide) rfl))
  have BM1 := hide (boxed_ch HC.out.bm C1.out (fun h => HC.out.ne _ h rfl))
  have RL1 := hide (row_ch RL.out C1.out (fun g h h' => (row_cells HC.out.ra h').1.ne (row_cells HC.out.rl h).1 (by decide) rfl))
  have X1 := hide (row_ch HX.out C1.out (fun g h h' => (row_cells HC.out.ra h').1.ne (row_cells HX.out h).1 (by decide) rfl))
  have hca1 := BA1.out.cell
  have hfa1 := BA1.out.frozen
  have D2 : Hid (Ch (fun g => g = Ba) w1 (w1.setCell ⟨Ba, 0, none⟩ (.slice (some ⟨gg1, 0, none⟩) (L + 1) cc1))) := Ch.set w1 Ba _
  have hBL : Hid (Bl ≠ Ba) := (boxed_cells HC.out.bl).ne (boxed_cells HC.out.ba) (by decide)
  have hBM : Hid (Bm ≠ Ba) := (boxed_cells HC.out.bm).ne (boxed_cells HC.out.ba) (by decide)
  have hBML : Hid (Bm ≠ Bl) := (boxed_cells HC.out.bm).ne (boxed_cells HC.out.bl) (by decide)
  have BA2 := hide (BA1.out.set (.slice (some ⟨gg1, 0, none⟩) (L + 1) cc1))
  have BL2 := hide (boxed_ch BL1.out D2.out hBL.out)
  have BM2 := hide (boxed_ch BM1.out D2.out hBM.out)
  have RA2 := hide (row_ch O1.out D2.out (fun g h => (row_cells O1.out h).1.ne (boxed_cells BA1.out) (by decide)))
  have RL2 := hide (row_ch RL1.out D2.out (fun g h => (row_cells RL1.out h).1.ne (boxed_cells BA1.out) (by decide)))
  have X2 := hide (row_ch X1.out D2.out (fun g h => (row_cells X1.out h).1.ne (boxed_cells BA1.out) (by decide)))
  have NE1 : Hid (gg1 ≠ Bm) := by
    rcases N1.out with h | h
    · exact HC.out.ne _ h
    · have := HC.out.bm.lt; show gg1 ≠ Bm; omega
  clear o1 g1 n1 cba O1 BA1 BL1 BM1 RL1 X1 RA
  go_upto_region 2 with fail
  obtain ⟨W2, hW2⟩ : ∃ W2, w1.setCell ⟨Ba, 0, none⟩ (.slice (some ⟨gg1, 0, none⟩) (L + 1) cc1) = W2 := ⟨_, rfl⟩
  rw [hW2] at D2 BA2 BL2 BM2 RA2 RL2 X2 ⊢
  clear hW2 hca1 hfa1
  have E2 : Hid (Ch (fun g => g = Ba ∨ g = Bl ∨ (Value.slice aa L ca).ownBlock = some g ∨ (Value.slice al L cl).ownBlock = some g) w W2) :=
    (C1.out.more (fun k _ h => Or.inr (Or.inr (Or.inl h)))).trans (D2.out.more (fun k _ h => Or.inl h))
  have hcl2 := BL2.out.cell
  have hs2 := HM.out W2 X2.out
  have h02 : n0 ≤ W2.heap.size := Nat.le_trans h0 E2.out.size
  have hsz2 : w.heap.size ≤ W2.heap.size := E2.out.size
  clear C1 D2 X2
  go_wp2_with (at_builtin; refine wpList_push _ rfl _ _ 23 rfl n0 9 i2 (.string { data := #[] }) 16 Try.underlying23 hi2 hz20 hz21 hz22 rfl al L cl (ss.map Value.string) rfl (RL2.out.alloc _) ⟨W2.heap.size, 0, none⟩ 1 (.string S) rfl (one_strcell W2 S _) rfl (by unfold maxLen; omega) (by omega) (by simp; omega) ?_)
  intro gg2 cc2 w3 o3 g3 n3
  have O3 : Hid (w3.ownsRow n0 9 1 (.slice (some ⟨gg2, 0, none⟩) (L + 1) cc2) (L + 1) ((ss ++ [S]).map Value.string)) := by
    show w3.ownsRow _ _ _ _ _ _
    rw [List.map_append]; exact o3
  have C3 : Hid (Ch (fun g => (Value.slice al L cl).ownBlock = some g) W2 w3) := ((Ch.refl (fun g => (Value.slice al L cl).ownBlock = some g) W2).alloc (.cells #[.string S] 9)).trans (Ch.grown g3)
  have BA3 := hide (boxed_ch BA2.out C3.out (fun h => (row_cells RL2.out h).1.ne (boxed_cells BA2.out) (by decide) rfl))
  have BL3 := hide (boxed_ch BL2.out C3.out (fun h => (row_cells RL2.out h).1.ne (boxed_cells BL2.out) (by decide) rfl))
  have BM3 := hide (boxed_ch BM2.out C3.out (fun h => (row_cells RL2.out h).1.ne (boxed_cells BM2.out) (by decide) rfl))
  have RA3 := hide (row_ch RA2.out C3.out (fun g h h' => (row_cells RL2.out h').1.ne (row_cells RA2.out h).1 (by decide) rfl))
  have hca3 := BL3.out.cell
  have hfa3 := BL3.out.frozen
  have D4 : Hid (Ch (fun g => g = Bl) w3 (w3.setCell ⟨Bl, 0, none⟩ (.slice (some ⟨gg2, 0, none⟩) (L + 1) cc2))) := Ch.set w3 Bl _
  have BL4 := hide (BL3.out.set (.slice (some ⟨gg2, 0, none⟩) (L + 1) cc2))
  have BA4 := hide (boxed_ch BA3.out D4.out (fun h => hBL.out h.symm))
  have BM4 := hide (boxed_ch BM3.out D4.out hBML.out)
  have RA4 := hide (row_ch RA3.out D4.out (fun g h => (row_cells RA3.out h).1.ne (boxed_cells BL3.out) (by decide)))
  have RL4 := hide (row_ch O3.out D4.out (fun g h => (row_cells O3.out h).1.ne (boxed_cells BL3.out) (by decide)))
  clear o3 g3 n3 hcl2 hs2 O3 BA3 BL3 BM3 RA3 BA2 BL2 BM2 RA2 RL2
  go_upto_region 3 with fail
  obtain ⟨W4, hW4⟩ : ∃ W4, w3.setCell ⟨Bl, 0, none⟩ (.slice (some ⟨gg2, 0, none⟩) (L + 1) cc2) = W4 := ⟨_, rfl⟩
  rw [hW4] at D4 BA4 BL4 BM4 RA4 RL4 ⊢
  clear hW4 hca3 hfa3
  have E4 : Hid (Ch (fun g => g = Ba ∨ g = Bl ∨ (Value.slice aa L ca).ownBlock = some g ∨ (Value.slice al L cl).ownBlock = some g) w W4) :=
    (E2.out.trans (C3.out.more (fun k _ h => Or.inr (Or.inr (Or.inr h))))).trans (D4.out.more (fun k _ h => Or.inr (Or.inl h)))
  have HF : Hid (Coll W4 n0 Ba Bl Bm (ks ++ [k]) (ss ++ [S]) most (.slice (some ⟨gg1, 0, none⟩) (L + 1) cc1) (.slice (some ⟨gg2, 0, none⟩) (L + 1) cc2)) := by
    refine ⟨BA4.out, BL4.out, BM4.out, ?_, ?_, HC.out.na, HC.out.nl, fun g h => ?_⟩
    · rw [List.length_append, HKS.out]; exact RA4.out
    · rw [List.length_append, HSS.out]; exact RL4.out
    · simp only [Value.ownBlock, Option.some.injEq] at h; rw [← h]; exact NE1.out
  have HN : Hid (∀ g, (Value.slice (some ⟨gg1, 0, none⟩) (L + 1) cc1).ownBlock = some g → (Value.slice aa L ca).ownBlock = some g ∨ w.heap.size ≤ g) := by
    intro g h
    simp only [Value.ownBlock, Option.some.injEq] at h
    rw [← h]; exact N1.out
  have hl4 := BL4.out.cell
  have hm4 := BM4.out.cell
  clear BA4 BL4 BM4 RA4 RL4 E2 C3 D4 HC N1 NE1
  go_wp2
  go_ret
  exact ⟨rfl, _, _, HF, E4, HN⟩
end Go.Proofs.Ytbpmmeagpefglaa
