/-
  What Values of the index comes to: the values and how many have each, in memory of the call's own; and what its iterator tells: contracts, for every world.
  Conditions: the index lies in memory.
-/
import Derived.Test.YtpffhpnmbpjifaaGreatIdxDy
import Derived.Test.YtpffhpnmbpjifaaGreatIdxDe
import Derived.Test.YtpffhpnmbpjifaaGreatIter
import Derived.Lib.SmallJoins
namespace Go.Proofs.YtpffhpnmbpjifaaGreat
open Go.RowKit Go.Maps
set_option maxRecDepth 20000

/-- The counts of the first k values, noughts behind. -/
def cnk (vs : List Vn) (k : Nat) : List Int := (vs.take k).map (fun y => (y.2 : Int)) ++ List.replicate (vs.length - k) 0
theorem cnk_start (vs : List Vn) : cnk vs 0 = List.replicate vs.length 0 := by simp [cnk]
theorem cnk_end (vs : List Vn) : cnk vs vs.length = vs.map (fun y => (y.2 : Int)) := by simp [cnk]
theorem cnk_set {vs : List Vn} {k : Nat} {y : Vn} (h : vs[k]? = some y) : (cnk vs k).set k (y.2 : Int) = cnk vs (k + 1) := by
  obtain ⟨hk, e⟩ := List.getElem?_eq_some_iff.1 h
  unfold cnk
  have hl : ((vs.take k).map (fun y => (y.2 : Int))).length = k := by simp; omega
  rw [List.set_append_right _ _ (by omega), hl, Nat.sub_self, show vs.length - k = (vs.length - (k + 1)) + 1 by omega, List.replicate_succ, List.set_cons_zero, List.take_succ_eq_append_getElem hk, List.map_append, e]
  simp
/-- The values in memory, and how many have each: two boxes, two rows. -/
structure VlB (w : World) (Bv Bc M : Nat) (vs : List Vn) (a : Option Addr) (c : Nat) (a' : Option Addr) (c' : Nat) : Prop where
  len : vs.length = M
  few : M ≤ 4096
  bv : Boxed w Bv 23 (.slice a M c)
  bc : Boxed w Bc 33 (.slice a' M c')
  rv : w.ownsRow 0 9 1 (.slice a M c) M (vs.map (fun y => Value.string y.1))
  rc : MineI w 0 a' M c' (vs.map (fun y => (y.2 : Int)))
theorem VlB.below {w w' : World} {Bv Bc M : Nat} {vs : List Vn} {a : Option Addr} {c : Nat} {a' : Option Addr} {c' : Nat} (h : VlB w Bv Bc M vs a c a' c') (b : Below w.heap.size w w') : VlB w' Bv Bc M vs a c a' c' :=
  ⟨h.len, h.few, boxed_below h.bv b, boxed_below h.bc b, row_ch h.rv (Ch.of_below b) (fun _ _ => id), mineI_ch h.rc (Ch.of_below b) (fun _ _ => id)⟩
theorem VlB.at' {w : World} {Bv Bc M : Nat} {vs : List Vn} {a : Option Addr} {c : Nat} {a' : Option Addr} {c' : Nat} (h : VlB w Bv Bc M vs a c a' c') {k : Nat} (hk : k < M) : ∃ b b' y, a = some ⟨b, 0, none⟩ ∧ a' = some ⟨b', 0, none⟩ ∧ vs[k]? = some y ∧ w.cell? ⟨b, k, none⟩ = some (.string y.1) ∧ w.cell? ⟨b', k, none⟩ = some (.int .i64 (y.2 : Int)) := by
  have hl := h.len
  have hy : vs[k]? = some (vs[k]'(by omega)) := List.getElem?_eq_getElem _
  have r1 := h.rv
  have r2 := h.rc
  unfold MineI Own at r2
  rcases id r1.2 with ⟨-, e2⟩ | ⟨b, cb, cur, e1, _⟩
  · omega
  · rcases id r2.2 with ⟨-, e2⟩ | ⟨b', cb', cur', e1', _⟩
    · omega
    · simp only [Value.slice.injEq, true_and] at e1 e1'
      obtain ⟨rfl, rfl⟩ := e1
      obtain ⟨rfl, rfl⟩ := e1'
      have g1 := r1.cellAt k (by omega)
      have g2 := r2.cellAt k (by omega)
      rw [List.getElem?_map, hy] at g1
      rw [List.map_map, List.getElem?_map, hy] at g2
      exact ⟨b, b', _, rfl, rfl, hy, g1, g2⟩
/-- All of it lies from here on. -/
def VlO (lo Bv Bc M : Nat) (a : Option Addr) (c : Nat) (a' : Option Addr) (c' : Nat) : Prop := lo ≤ Bv ∧ lo ≤ Bc ∧ (∀ g, (Value.slice a M c).ownBlock = some g → lo ≤ g) ∧ ∀ g, (Value.slice a' M c').ownBlock = some g → lo ≤ g
/-- What lies there stays if just these blocks do. -/
theorem VlB.keep {w w' : World} {lo Bv Bc M : Nat} {vs : List Vn} {a : Option Addr} {c : Nat} {a' : Option Addr} {c' : Nat} (h : VlB w Bv Bc M vs a c a' c') (o : VlO lo Bv Bc M a c a' c') (k : Ch (fun k => ¬ (lo ≤ k ∧ k < w.heap.size)) w w') : VlB w' Bv Bc M vs a c a' c' :=
  ⟨h.len, h.few, boxed_ch h.bv k (fun e => e ⟨o.1, h.bv.lt⟩), boxed_ch h.bc k (fun e => e ⟨o.2.1, h.bc.lt⟩), row_ch h.rv k (fun g hg e => e ⟨o.2.2.1 g hg, (row_cells h.rv hg).1.lt⟩), mineI_ch h.rc k (fun g hg e => e ⟨o.2.2.2 g hg, (row_cells h.rc hg).1.lt⟩)⟩
/-- What Values hands back. -/
def VaP (vs : List Vn) (w : World) (e : Ending) (w' : World) : Prop := ∃ Bv Bc M a c a' c', e = .returned (.func (.func 84) #[] #[.pointer (some ⟨Bv, 0, none⟩), .pointer (some ⟨Bc, 0, none⟩)]) ∧ VlB w' Bv Bc M vs a c a' c' ∧ VlO w.heap.size Bv Bc M a c a' c' ∧ Below w.heap.size w w'

theorem enc_texts (vs : List Vn) : (vs.map (fun y => y.1.toList)).map encStr = vs.map (fun y => Value.string y.1) := by
  rw [List.map_map]
  refine List.map_congr_left (fun y _ => ?_)
  show encStr y.1.toList = _
  unfold encStr
  rw [ByteArray.toList_eq]
theorem keysS_any (mb : Option Nat) (w : World) :
    Calls Tryz.prog 83 #[.map mb] w fun e w' => e = .returned (.func (.func 92) #[] #[.pointer (some ⟨w.heap.size, 0, none⟩)]) ∧ w' = w.alloc (.cells #[.map mb] 76) :=
  callsIn_wide.1 (Tryz.maps_Keys_83 mb w)
theorem sortedS_any (g : Nat) (S : Nat → Prop) (L : Lx) (ax : Option Addr) (cx : Nat) (hs : List Hl) (bn bp nb : Nat) (p : ByteArray → Option Nat) (q : ByteArray → ByteArray → Option Hl) (nm : ByteArray) (w : World) (hB : IB w g S L L L ax cx hs bn bp nb p q) (hnb : nb ≤ 65536) :
    Calls Tryz.prog 82 #[.func (.func 92) #[] #[.pointer (some ⟨w.heap.size, 0, none⟩)]] (w.alloc (.cells #[.map (p nm)] 76)) fun e w' =>
      ∃ a c, e = .returned (.slice a (valsX L nm).length c) ∧ w'.ownsRow w.heap.size 9 1 (.slice a (valsX L nm).length c) (valsX L nm).length ((valsX L nm).map (fun y => Value.string y.1)) ∧ Below w.heap.size w w' := by
  have b1 : Below w.heap.size w (w.alloc (.cells #[.map (p nm)] 76)) := (Below.refl _ _).alloc (Nat.le_refl _) _
  have s1 : w.heap.size ≤ (w.alloc (.cells #[.map (p nm)] 76)).heap.size := b1.size
  cases hp : p nm with
  | none =>
    rw [hp] at b1 s1
    have hv : valsX L nm = [] := by
      cases hx : valsX L nm with
      | nil => rfl
      | cons y t =>
        have hm : y.1 ∈ (valsX L nm).map (·.1) := by rw [hx]; simp
        obtain ⟨h1, h2⟩ := mem_vals.1 hm
        exact absurd (hB.posts.has nm y.1 h1 (hB.posts.no nm hp y.1)) h2
    refine (callsIn_wide.1 (Tryz.slices_Sorted_keys_nil_82_83 w)).mono ?_
    rintro e w' ⟨v, ss, rfl, rfl, hrow, hnil, hb⟩
    obtain rfl := hnil.2 rfl
    rw [hv]
    exact ⟨none, 0, rfl, World.ownsRow_nil _ _ _ _, bel_to b1 (Nat.le_refl _) hb⟩
  | some b =>
    rw [hp] at b1 s1
    obtain ⟨D, hD, hR⟩ := (hB.posts.ins nm b hp).2.2
    have hsz := hD.size_le
    obtain ⟨hn, hm⟩ := keys_mem hD
    refine (callsIn_wide.1 (Tryz.slices_Sorted_keys_82_83 b nb D heldE w hD (by unfold maxLen; omega) (by omega))).mono ?_
    rintro e w' ⟨v, ss, rfl, hperm, hrow, -, hb⟩
    have e1 : ss.mergeSort (fun x y => decide (x ≤ y)) = (valsX L nm).map (fun y => y.1.toList) := by
      refine sorted_keys hperm hn ?_ (fun x => ?_)
      · rw [List.pairwise_map]
        exact (valsX_laws L nm).1
      · rw [hm, ← ba_of, hR.has, Option.isSome_map]
        have e2 : (q nm ⟨x.toArray⟩).isSome = true ↔ ((⟨x.toArray⟩ : ByteArray) ≠ .empty ∧ postX L nm ⟨x.toArray⟩ ≠ []) := by
          constructor
          · intro hq
            obtain ⟨z, hz⟩ := Option.isSome_iff_exists.1 hq
            exact ⟨(hB.posts.rows nm _ z hz).1, (hB.posts.rows nm _ z hz).2.1⟩
          · rintro ⟨h1, h2⟩
            cases hq : q nm ⟨x.toArray⟩ with
            | some z => rfl
            | none => exact absurd (hB.posts.has nm _ h1 hq) h2
        rw [e2, ← mem_vals, List.mem_map, List.mem_map]
        constructor
        · rintro ⟨y, hy, rfl⟩
          refine ⟨y, hy, ?_⟩
          rw [ByteArray.toList_eq]
        · rintro ⟨y, hy, e⟩
          refine ⟨y, hy, ?_⟩
          rw [e, ByteArray.toList_eq]
    have hlen : ss.length = (valsX L nm).length := by
      have := congrArg List.length e1
      rw [List.length_mergeSort, List.length_map] at this
      exact this
    rw [e1, enc_texts, hlen] at hrow
    obtain ⟨a, c, rfl⟩ := row_form hrow
    exact ⟨a, c, rfl, Joins.ownsRow_le hrow s1, bel_to b1 (Nat.le_refl _) hb⟩

set_option maxHeartbeats 4000000 in
theorem valuesX_any (g : Nat) (S : Nat → Prop) (L : Lx) (nm : ByteArray) (w : World) (h : IAt w g S L) (hnm : nm.size ≤ 9223372036854775807) :
    Calls Tryz.prog 65 #[.pointer (some ⟨g, 0, none⟩), .string nm] w fun e w' => VaP (valsX L nm) w e w' := by
  obtain ⟨hG, hL, ax, cx, hs, bn, bp, nb, p, q, hnb, hB⟩ := h
  obtain ⟨i0, hi, hz0, hz1, hz2⟩ := info_parts Tryz.infoI
  have hnb2 : nb ≤ 65536 := by have := cntX_le hG; omega
  have c2 := hB.c2
  have lk0 : (Instr.lookup 64 (.map (some bp)) (.string nm) false).run Tryz.prog w = .ok (.map (p nm)) w := by
    have := hB.posts.map.look Tryz.underlying64 (zeroMp w) (s := nm) (by unfold maxLen; omega)
    rw [this]
    cases p nm <;> rfl
  have LK : Hid (∀ u, Ch (fun k => w.heap.size ≤ k) w u → ∀ (k : Nat) (y : Vn), (valsX L nm)[k]? = some y → ∃ a' c', (Instr.lookup 76 (.map (p nm)) (.string y.1) false).run Tryz.prog u = .ok (.slice a' y.2 c') u) := fun u hu k y hy => by
    have hmem := List.mem_of_getElem? hy
    have hsz := vals_size nm hG y hmem
    have hne := vals_ne L nm y hmem
    have hBu := hB.ch hu (fun j hj e => by have := hB.lt j hj; omega)
    obtain ⟨q1, -⟩ := hBu.posts.at' nm y.1 hne
    have hct : (postX L nm y.1).length = y.2 := vals_count hmem
    have hq2 : (atQ q nm y.1).2.1 = y.2 := by rw [← hct]; exact q1.len.symm
    refine ⟨(atQ q nm y.1).1, (atQ q nm y.1).2.2, ?_⟩
    have e : hlV (atQ q nm y.1) = .slice (atQ q nm y.1).1 y.2 (atQ q nm y.1).2.2 := by rw [← hq2]; rfl
    rw [← e]
    cases hp : p nm with
    | none =>
      rw [look_none Tryz.underlying76 (zeroSi u) (s := y.1) (by unfold maxLen; omega)]
      unfold atQ
      rw [hB.posts.no nm hp y.1]
      rfl
    | some b =>
      rw [(hBu.posts.ins nm b hp).2.2.look Tryz.underlying76 (zeroSi u) (s := y.1) (by unfold maxLen; omega), atQ_val]
  have SO := hide (sortedS_any g S L ax cx hs bn bp nb p q nm w hB hnb2)
  have KE := hide (keysS_any (p nm) w)
  have hM : (valsX L nm).length ≤ 4096 := Nat.le_trans (len_valsX L nm) hL
  have HSZ : Hid (∀ (k : Nat) (y : Vn), (valsX L nm)[k]? = some y → y.1.size ≤ 64 ∧ y.2 ≤ 4096) := fun k y hy => by
    have hmem := List.mem_of_getElem? hy
    refine ⟨vals_size nm hG y hmem, ?_⟩
    rw [← vals_count hmem]
    exact Nat.le_trans (postX_len L nm y.1) hL
  generalize valsX L nm = vs at *
  generalize p nm = mb at *
  obtain ⟨M, hMM⟩ : ∃ M, Hid (vs.length = M) := ⟨_, rfl⟩
  rw [hMM.out] at SO hM
  clear hB hG hnb
  go_enter Tryz.func65, Tryz.ntmps65
  go_wp2_with fail
  with_reducible refine KE.out.mono ?_
  rintro e u1 ⟨rfl, hw⟩
  rw [hw]
  clear hw KE
  go_wp2_with fail
  with_reducible refine SO.out.mono ?_
  rintro e u2 ⟨a2, d2, rfl, r2, b2⟩
  have R2 := hide r2
  have B2 := hide b2
  clear r2 b2 SO lk0 c2
  go_upto_region 3 with fail
  obtain ⟨Bv, hBv⟩ : ∃ Bv, Hid (u2.heap.size = Bv) := ⟨_, rfl⟩
  obtain ⟨u3, hu3⟩ : ∃ u3, Hid (u2.alloc (.cells #[.slice a2 M d2] 23) = u3) := ⟨_, rfl⟩
  rw [hu3.out, hBv.out]
  have V3 : Hid (Boxed u3 Bv 23 (.slice a2 M d2)) := by rw [← hu3.out, ← hBv.out]; exact Boxed.new u2 _ _
  have B23 : Hid (Below u2.heap.size u2 u3) := by rw [← hu3.out]; exact (Below.refl _ _).alloc (Nat.le_refl _) _
  have B3 := hide (bel_to B2.out (Nat.le_refl _) B23.out)
  have R3 := hide (row_ch R2.out (Ch.of_below B23.out) (fun _ _ => id))
  have v3 := V3.out.cell
  have GBV : Hid (w.heap.size ≤ Bv) := by show _ ≤ _; rw [← hBv.out]; exact B2.out.size
  clear hu3 hBv B23 B2 R2
  go_wp2_with (at_make; refine wpList_make_full _ rfl _ _ 33 rfl u3.heap.size 3 i0 (.int .i64 0) 1 Tryz.underlying33 hi hz0 hz1 .i64 .i64 (M : Int) (M : Int) M rfl rfl rfl rfl (by rw [hz2]; omega) (by unfold maxLen; omega) (Nat.le_refl _) ?_)
  intro u4 o4 g4
  have B34 : Hid (Below u3.heap.size u3 u4) := (Below.refl _ _).grown g4 (Nat.le_refl _) (fun k hk => by simp at hk)
  obtain ⟨gs, hgs⟩ : ∃ gs, Hid (u3.heap.size = gs) := ⟨_, rfl⟩
  have O4 : Hid (MineI u4 w.heap.size (some ⟨gs, 0, none⟩) M M (cnk vs 0)) := by
    refine Own.mono (base := u3.heap.size) ?_ B3.out.size
    show u4.ownsRow _ _ _ _ _ _
    rw [cnk_start, hMM.out, List.map_replicate, ← hgs.out, ← toList_madeCells_one]
    exact o4
  have GW : Hid (w.heap.size ≤ gs) := by show _ ≤ _; rw [← hgs.out]; exact B3.out.size
  have V4 := hide (boxed_below V3.out B34.out)
  have B4 := hide (bel_to B3.out (Nat.le_refl _) B34.out)
  have R4 := hide (row_ch R3.out (Ch.of_below B34.out) (fun _ _ => id))
  rw [hgs.out]
  clear o4 g4 hi hz0 hz1 hz2 V3 B3 R3 v3 B34
  go_upto_region 4 with fail
  obtain ⟨Bc, hBc⟩ : ∃ Bc, Hid (u4.heap.size = Bc) := ⟨_, rfl⟩
  obtain ⟨u5, hu5⟩ : ∃ u5, Hid (u4.alloc (.cells #[.slice (some ⟨gs, 0, none⟩) M M] 33) = u5) := ⟨_, rfl⟩
  rw [hu5.out, hBc.out]
  have C5 : Hid (Boxed u5 Bc 33 (.slice (some ⟨gs, 0, none⟩) M M)) := by rw [← hu5.out, ← hBc.out]; exact Boxed.new u4 _ _
  have B45 : Hid (Below u4.heap.size u4 u5) := by rw [← hu5.out]; exact (Below.refl _ _).alloc (Nat.le_refl _) _
  have V5 := hide (boxed_below V4.out B45.out)
  have B5 := hide (bel_to B4.out (Nat.le_refl _) B45.out)
  have R5 := hide (row_ch R4.out (Ch.of_below B45.out) (fun _ _ => id))
  have O5 := hide (mineI_ch O4.out (Ch.of_below B45.out) (fun _ _ => id))
  have GBC : Hid (w.heap.size ≤ Bc) := by show _ ≤ _; rw [← hBc.out]; exact B4.out.size
  have GT : Hid (CellsT u5 gs 3) := (row_cells O5.out (g := gs) rfl).1
  have KEY : Hid (∀ wr, Ch (fun k => k = gs) u5 wr → Boxed wr Bv 23 (.slice a2 M d2) ∧ Boxed wr Bc 33 (.slice (some ⟨gs, 0, none⟩) M M) ∧ wr.ownsRow w.heap.size 9 1 (.slice a2 M d2) M (vs.map (fun y => Value.string y.1)) ∧ Below w.heap.size w wr) := fun wr k =>
    ⟨boxed_ch V5.out k (fun e => GT.out.ne (boxed_cells V5.out) (by decide) e.symm), boxed_ch C5.out k (fun e => GT.out.ne (boxed_cells C5.out) (by decide) e.symm), row_ch R5.out k (fun b hb e => GT.out.ne (row_cells R5.out hb).1 (by decide) e.symm), B5.out.trans (k.below B5.out.size (fun j hj e => by have := GW.out; omega))⟩
  have v5 := V5.out.cell
  clear hu5 hBc B45 B4 V4 R4 O4 C5 V5 R5 B5
  go_wp2
  clear v5
  go_loopw [24] (fun i wr => ∃ k : Nat, k ≤ M ∧ i = .int .i64 k ∧ Hid (MineI wr w.heap.size (some ⟨gs, 0, none⟩) M M (cnk vs k)) ∧ Hid (Ch (fun k => k = gs) u5 wr)) (fun i _ => M - (intOf i).toNat)
  case atStart => exact ⟨0, by omega, rfl, O5, Ch.refl _ _⟩
  case round =>
    clear O5
    obtain ⟨k, hk, rfl, HO, HC⟩ := hrel
    obtain ⟨x1, x2, x3, x4⟩ := KEY.out wr HC.out
    by_cases hlt : k < M
    · obtain ⟨y, hy⟩ : ∃ y, vs[k]? = some y := ⟨_, List.getElem?_eq_getElem (by rw [hMM.out]; exact hlt)⟩
      obtain ⟨bt, rfl⟩ : ∃ bt, a2 = some ⟨bt, 0, none⟩ := by
        rcases id x3.2 with ⟨-, e2⟩ | ⟨b, cb, cur, e1, _⟩
        · omega
        · simp only [Value.slice.injEq, true_and] at e1
          exact ⟨b, e1.1⟩
      have g1 := x3.cellAt k (by omega)
      rw [List.getElem?_map, hy] at g1
      obtain ⟨la, lc, lk⟩ := LK.out wr (ch_then (Ch.of_below x4 |>.more (fun _ _ h => h.elim)) (Ch.refl (fun _ => False) wr) (fun _ h => h.elim)) k y hy
      obtain ⟨hs1, hs2⟩ := HSZ.out k y hy
      have HS : Hid (MineI (wr.setCell ⟨gs, k, none⟩ (.int .i64 (y.2 : Int))) w.heap.size (some ⟨gs, 0, none⟩) M M (cnk vs (k + 1))) := by
        have ho := HO.out
        unfold MineI Own at ho
        have := (ho.stored k (.int .i64 (y.2 : Int))).1
        rw [← List.map_set, cnk_set hy] at this
        exact this
      have HC2 : Hid (Ch (fun k => k = gs) u5 (wr.setCell ⟨gs, k, none⟩ (.int .i64 (y.2 : Int)))) := HC.out.trans (ch_set wr gs k _)
      obtain ⟨ys, yn⟩ := y
      dsimp only at lk hs1 hs2 HS HC2
      have g2 : wr.cell? ⟨bt, k, none⟩ = some (.string ys) := g1
      obtain ⟨old, hold⟩ : ∃ old, wr.cell? ⟨gs, k, none⟩ = some old := by
        have ho := HO.out
        unfold MineI Own at ho
        have := ho.cellAt k (by omega)
        have hl := ho.1
        rw [List.getElem?_eq_getElem (by omega)] at this
        exact ⟨_, this⟩
      have hfr : wr.frozen? ⟨gs, k, none⟩ = false := by
        have ho := HO.out
        unfold MineI Own at ho
        exact ho.frozenAt k
      have y1 := x1.cell
      have y2 := x2.cell
      have i1 : (0 : Int) ≤ (k : Int) := by omega
      have i5 : (k : Int) < (M : Int) := by omega
      clear x1 x2 x3 x4 g1 hy HO HC
      go_wp2
      go_roundw
      case rel => exact ⟨k + 1, by omega, by go_num, HS, HC2⟩
      case measure => simp [intOf]; omega
    · have i5 : ¬ (k : Int) < (M : Int) := by omega
      obtain rfl : k = M := by omega
      have FIN : Hid (VaP vs w (.returned (.func (.func 84) #[] #[.pointer (some ⟨Bv, 0, none⟩), .pointer (some ⟨Bc, 0, none⟩)])) wr) := by
        refine ⟨Bv, Bc, k, a2, d2, _, _, rfl, ⟨hMM.out, hM, x1, x2, Joins.ownsRow_le x3 (Nat.zero_le _), ?_⟩, ⟨GBV.out, GBC.out, fun g hg => (row_cells x3 hg).2, fun g hg => (row_cells HO.out hg).2⟩, x4⟩
        have := HO.out
        have e := hMM.out
        subst e
        rw [cnk_end] at this
        exact Own.mono this (Nat.zero_le _)
      have hmf : ∀ (fn : Fn) (first cap : Array Value) (w : World), (Instr.makeFunc fn first cap).run Tryz.prog w = .ok (.func fn first cap) w := fun _ _ _ _ => rfl
      clear x1 x2 x3 x4
      go_wp2
      go_ret
      exact FIN.out
end Go.Proofs.YtpffhpnmbpjifaaGreat
