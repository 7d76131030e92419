/-
  The document's file system: Laid: a contract, for every world (written by gen/vfsrc.gen.py).
  Conditions: the names and the bytes are told.
-/
import Derived.Test.YthlkmjaflomflaaGreatVfsRb
import Derived.Test.YthlkmjaflomflaaGreatVfsDn
namespace Go.Proofs.YthlkmjaflomflaaGreat
open Go.RowKit
set_option maxRecDepth 20000
set_option linter.unusedVariables false

/-- Bytes behind none, at a step of a region. -/
theorem wp_app_b0 {w : World} {o : Oper} {a : Act} {K : Act → World → Prop} {Q : Exit → Act → World → Prop} (s x : Operand)
    (ho : o.op = .call { callee := .builtin .append, args := #[s, x], argTypes := #[33, 33] }) (hs : a.eval s = .slice none 0 0)
    (bo : Option Addr) (m c : Nat) (zs : List Int) (hx : a.eval x = .slice bo m c) (hrow : Row .u8 w bo m zs) (hbo : bo = none → c = 0) (hm : m ≤ 1099511627776)
    (h : ∀ a' c' w', OwnB w' w.heap.size a' m c' zs → Below w.heap.size w w' → K (a.put o.dst (.slice a' m c')) w') : o.wp Tryz.prog a w K Q := by
  obtain ⟨i, hi, hz0, hz1, hz2⟩ := info_parts Tryz.infoU8
  have h0 : w.ownsRow w.heap.size 5 1 (.slice none 0 0) 0 ([] : List Value) := World.ownsRow_nil _ _ _ _
  cases bo with
  | none =>
    have hn := hrow.nz rfl
    subst hn
    obtain rfl := hbo rfl
    have hz : zs = [] := List.length_eq_zero_iff.1 hrow.1
    subst hz
    have hrun := run_append_owned_none (P := Tryz.prog) (w := w) w.heap.size 33 o.type 5 i 1 Tryz.underlying33 hi _ 0 [] h0
    unfold Oper.wp
    simp [execOp, ho, resolve, invoke, builtin, hs, hx, hrun, Result.andThen]
    exact h none 0 w (ownG_nil _ _) (Below.refl _ _)
  | some ad =>
    refine wp_append_own w s x _ ho w.heap.size 5 i (.int .u8 0) 1 1 Tryz.underlying33 hi hz0 hz1 hz2 rfl (by decide) _ 0 [] hs h0 ad m c (zs.map (Value.int .u8)) hx (by simp [hrow.1]) hrow.cells (one_cell .u8 zs) (by unfold maxLen; omega) (by omega) (Nat.le_refl _) ?_
    intro v' w' h1 h2 _
    rw [List.nil_append, Nat.zero_add, ← flat_by] at h1
    obtain ⟨a', cap', rfl, h3⟩ := ownG_form h1
    exact h a' cap' w' h3 ((Below.refl _ _).grown h2 (Nat.le_refl _) (by intro k hk; simp [Value.ownBlock] at hk))
theorem layK_good {ns : List ByteArray} {ds : List (List Int)} (hl : ns.length = ds.length) (hz : ∀ d ∈ ds, ∀ z ∈ d, 0 ≤ z ∧ z ≤ 255) (k : Nat) : GoodV (layK ns ds k) := by
  refine ⟨fun d hd => ?_, fun t ht => by simp [layK, fs0] at ht, fun x hx => ?_, fun x hx => ?_, by simp [layK, fs0], Or.inl rfl⟩
  · obtain ⟨i, hi, rfl⟩ := List.mem_mapIdx.1 hd
    show i < ((ds.take k).map _).length
    rw [List.length_map, List.length_take]
    rw [List.length_take] at hi
    omega
  · obtain ⟨b, hb, rfl⟩ := List.mem_map.1 hx
    trivial
  · obtain ⟨b, hb, rfl⟩ := List.mem_map.1 hx
    exact ⟨hz b (List.mem_of_mem_take hb), fun u hu => by simp at hu⟩
theorem layK_up {ns : List ByteArray} {ds : List (List Int)} {k : Nat} {s : ByteArray} {d : List Int} (hs : ns[k]? = some s) (hd : ds[k]? = some d) : layK ns ds (k + 1) = { layK ns ds k with files := (layK ns ds k).files ++ [⟨d, []⟩], sure := (layK ns ds k).sure ++ [⟨s, k⟩] } := by
  obtain ⟨h1, e1⟩ := List.getElem?_eq_some_iff.1 hs
  obtain ⟨h2, e2⟩ := List.getElem?_eq_some_iff.1 hd
  unfold layK
  dsimp only
  rw [List.take_succ_eq_append_getElem h1, List.take_succ_eq_append_getElem h2, e1, e2, List.map_append, List.mapIdx_append, List.length_take, Nat.min_eq_left (by omega)]
  simp
theorem layK_filesLen {ns : List ByteArray} {ds : List (List Int)} {k : Nat} (h : k ≤ ds.length) : (layK ns ds k).files.length = k := by
  show ((ds.take k).map _).length = k
  rw [List.length_map, List.length_take]; omega
theorem layK_sureLen {ns : List ByteArray} {ds : List (List Int)} {k : Nat} (h : k ≤ ns.length) : (layK ns ds k).sure.length = k := by
  show ((ns.take k).mapIdx _).length = k
  rw [List.length_mapIdx, List.length_take]; omega
theorem layK_findNo {ns : List ByteArray} {ds : List (List Int)} {k : Nat} {s : ByteArray} (h : s ∉ ns.take k) : findI (layK ns ds k).sure s = -1 := by
  unfold findI
  rw [findD_none (fun d hd => by
    obtain ⟨i, hi, rfl⟩ := List.mem_mapIdx.1 hd
    intro e
    have e2 : (ns.take k)[i] = s := e
    exact h (e2 ▸ List.getElem_mem hi))]
theorem findD_mem {l : List Dn} {s : ByteArray} (h : ∃ d ∈ l, d.nm = s) : ∃ q, findD l s = some q := by
  induction l with
  | nil => obtain ⟨d, hd, _⟩ := h; simp at hd
  | cons y t ih =>
    unfold findD
    split
    · exact ⟨0, rfl⟩
    · rename_i hy
      obtain ⟨d, hd, e⟩ := h
      rcases List.mem_cons.1 hd with rfl | hd
      · exact absurd e hy
      · obtain ⟨q, hq⟩ := ih ⟨d, hd, e⟩
        exact ⟨q + 1, by rw [hq]; rfl⟩
theorem layK_findYes {ns : List ByteArray} {ds : List (List Int)} {k : Nat} {s : ByteArray} (h : s ∈ ns.take k) : ∃ q : Nat, findI (layK ns ds k).sure s = (q : Int) := by
  obtain ⟨i, hi, e⟩ := List.getElem_of_mem h
  obtain ⟨q, hq⟩ := findD_mem (l := (layK ns ds k).sure) (s := s) ⟨⟨s, i⟩, List.mem_mapIdx.2 ⟨i, hi, by rw [e]⟩, rfl⟩
  exact ⟨q, by unfold findI; rw [hq]⟩

set_option maxHeartbeats 16000000 in
theorem rlaid_any (a : Option Addr) (n c : Nat) (ns : List ByteArray) (a2 : Option Addr) (n2 c2 : Nat) (hs : List H3) (ds : List (List Int)) (w : World) (hr : RowX w a n ns) (hsz : ∀ s ∈ ns, s.size ≤ maxLen) (hr2 : RowBB w a2 n2 hs ds) (hn : n ≤ 1073741824) (hn2 : n2 ≤ 1073741824) (hdl : ∀ d ∈ ds, d.length ≤ 1099511627776) :
    Calls Tryz.prog 12 #[.slice a n c, .slice a2 n2 c2] w fun e w' => LaidV RAt (laidF ns ds) w e w' := by
  obtain ⟨i1, hi1, hz10, hz11, hz12⟩ := info_parts Tryz.infoF16
  obtain ⟨i2, hi2, hz20, hz21, hz22⟩ := info_parts Tryz.infoD16
  have hl := hr.1
  have hl2 := hr2.len
  by_cases hne : n = n2
  · subst hne
    have i0 : ¬ ns.length ≠ ds.length := by rw [hl, hl2]; exact fun h => h rfl
    have NOA : Hid (¬ areN ns → laidF ns ds = (none, 1)) := fun h => by
      have h' : ¬ ((∀ s ∈ ns, mayN s = true) ∧ ns.Nodup) := h
      unfold laidF
      rw [if_neg i0, if_pos h']
    have BIG : Hid (areN ns → (1024 < n ∨ ∃ b ∈ ds, 1073741824 < b.length) → laidF ns ds = (none, 2)) := fun h k => by
      have i1 : ¬ ¬ ((∀ s ∈ ns, mayN s = true) ∧ ns.Nodup) := fun e => e h
      unfold laidF
      rw [if_neg i0, if_neg i1, if_pos (by rw [hl]; exact k)]
    have ALL : Hid (areN ns → ¬ (1024 < n ∨ ∃ b ∈ ds, 1073741824 < b.length) → laidF ns ds = (some (layK ns ds n), 0)) := fun h k => by
      have i1 : ¬ ¬ ((∀ s ∈ ns, mayN s = true) ∧ ns.Nodup) := fun e => e h
      unfold laidF
      rw [if_neg i0, if_neg i1, if_neg (by rw [hl]; exact k)]
      unfold layK
      rw [List.take_of_length_le (by omega), List.take_of_length_le (by omega)]
    have GL := hide (fun k => layK_good (ns := ns) (ds := ds) (by omega) (fun d hd z hz => by
      obtain ⟨i, hi⟩ := List.mem_iff_getElem?.1 hd
      have hil := (List.getElem?_eq_some_iff.1 hi).1
      obtain ⟨b, off, x, d', -, -, q3, q4, -⟩ := hr2.at' (k := i) (by omega)
      rw [hi] at q3
      obtain rfl := Option.some.inj q3
      exact q4.bytes z hz) k)
    have SL := hide (fun k (h : k ≤ n) => layK_sureLen (ns := ns) (ds := ds) (k := k) (by omega))
    have FL := hide (fun k (h : k ≤ n) => layK_filesLen (ns := ns) (ds := ds) (k := k) (by omega))
    have NOT : Hid (∀ k, ¬ areN (ns.take k) → ¬ areN ns) := fun k h q => h (by
      rw [← List.take_append_drop k ns] at q
      exact areN_pre q)
    obtain ⟨X, hX⟩ : ∃ X, Hid (laidF ns ds = X) := ⟨_, rfl⟩
    rw [hX.out] at NOA BIG ALL ⊢
    have HR := hide hr
    have HR2 := hide hr2
    have HSZ := hide hsz
    have HDL := hide hdl
    have HLN := hide hl
    have HLD := hide hl2
    have t0 : ((n : Int) != (n : Int)) = false := by simp
    clear hr hr2 hl hl2 i0 hX hsz hdl
    go_enter Tryz.func12, Tryz.ntmps12
    go_upto_region 4 with fail
    obtain ⟨gx, hgx⟩ : ∃ gx, Hid (w.heap.size = gx) := ⟨_, rfl⟩
    obtain ⟨W0, hW0⟩ : ∃ W0, Hid (w.alloc (.cells #[.slice none 0 0, .slice none 0 0, .slice none 0 0, .int .i64 0, .bool false, .int .i64 0, .int .i64 0, .bool false] 32) = W0) := ⟨_, rfl⟩
    have M0 : Hid (MkR w W0 gx (layK ns ds 0)) := by
      rw [layK_zero, ← hgx.out]
      exact mkR_new w W0 hW0.out.symm
    rw [hW0.out, hgx.out]
    clear hW0
    go_wp2
    go_loopw [7] (fun x wr => ∃ k : Nat, k ≤ n ∧ x = .int .i64 (k : Int) ∧ Hid (areN (ns.take k)) ∧ Hid (MkR w wr gx (layK ns ds k))) (fun x _ => n - (intOf x).toNat)
    case atStart => exact ⟨0, by omega, rfl, by rw [List.take_zero]; exact areN_nil, M0.out⟩
    case round =>
      clear M0
      obtain ⟨k, hk, rfl, HA, HM⟩ := hrel
      obtain ⟨v, rfl⟩ : ∃ v, v = wr := ⟨wr, rfl⟩
      by_cases hlt : k < n
      · obtain ⟨s, hs⟩ : ∃ s, ns[k]? = some s := ⟨_, List.getElem?_eq_getElem (by rw [HLN.out]; exact hlt)⟩
        obtain ⟨d, hd⟩ : ∃ d, ds[k]? = some d := ⟨_, List.getElem?_eq_getElem (by rw [HLD.out]; exact hlt)⟩
        have HSS := hide (HSZ.out s (List.mem_of_getElem? hs))
        have HDD := hide (HDL.out d (List.mem_of_getElem? hd))
        have HUPK := hide (layK_up (ns := ns) (ds := ds) hs hd)
        have HTK : Hid (ns.take (k + 1) = ns.take k ++ [s]) := by
          obtain ⟨h1, e1⟩ := List.getElem?_eq_some_iff.1 hs
          show _ = _
          rw [List.take_succ_eq_append_getElem h1, e1]
        have AS := hide (areN_snoc (l := ns.take k) (s := s))
        have NK := hide (NOT.out (k + 1))
        rw [HTK.out] at NK
        obtain ⟨nb, noff, hna, hnc⟩ := HR.out.2.2.resolve_left (by omega)
        subst hna
        have KN : Hid (∀ u, Below w.heap.size w u → u.cell? ⟨nb, noff + k, none⟩ = some (.string s)) := fun u hu => by
          have h1 := hnc k hlt
          rw [List.getD_eq_getElem?_getD, hs] at h1
          exact (hu.cell (p := ⟨nb, noff + k, none⟩) (World.block_lt_of_cell? w _ h1)).trans h1
        obtain ⟨db, doff, y, d', hda, hdc, hd', hdr, hdc1, hdc2⟩ := HR2.out.at' hlt
        rw [hd] at hd'
        obtain rfl := Option.some.inj hd'
        subst hda
        obtain ⟨ya, yn, yc⟩ := y
        dsimp only at hdc hdr hdc1 hdc2
        have KD : Hid (∀ u, Below w.heap.size w u → u.cell? ⟨db, doff + k, none⟩ = some (.slice ya yn yc)) := fun u hu => (hu.cell (p := ⟨db, doff + k, none⟩) (World.block_lt_of_cell? w _ hdc)).trans hdc
        have RD : Hid (∀ u, Below w.heap.size w u → Row .u8 u ya yn d) := fun u hu => hdr.below hu (Nat.le_refl _)
        have HYN : yn ≤ 1099511627776 := by have := HDD.out; have := hdr.1; omega
        have HYC := hide hdc2
        have i1' : (0 : Int) ≤ (k : Int) := by omega
        have i2' : (k : Int) < (n : Int) := by omega
        have wk : IntKind.i64.wrap ((k : Int) + 1) = ((k + 1 : Nat) : Int) := by rw [IntKind.wrap_i64]; omega
        have M1 := hide (fun u => rmay_any s u (by have := HSS.out; unfold maxLen at this; omega))
        obtain ⟨BV, T, bf, cg, bs, ch, bt, ck, hx, HT, R⟩ := HM.out
        have HRX := hide R
        have HTT := hide HT
        have BVV := hide BV
        obtain ⟨-, y1, -⟩ := R.cells
        rw [SL.out k hk] at y1
        have OS : Hid (OwnD v 0 bs k ch (layK ns ds k).sure) := by
          have := R.sure
          rw [SL.out k hk] at this
          exact this
        have z0 := KN.out v BV
        clear hs hd hnc hdc hdr hdc1 hdc2 R HT BV
        by_cases hm1 : mayN s = false
        · have HE := hide (NOA.out (NK.out (fun q => by have := (AS.out.1 q).2.1; rw [hm1] at this; cases this)))
          clear KD RD HYN HYC HUPK OS
          go_wp2
          refine wp_region_held_drew (S := fun u => u.cell? ⟨gx, 1, none⟩ = some (.slice bs k ch) ∧ u.cell? ⟨nb, noff + k, none⟩ = some (.string s)) (by kernel_rfl) ⟨y1, z0⟩ (fun hHeld => ?_)
          refine held_take (i := 0) (d := (some 22)) (v := ?_) rfl rfl (by kernel_rfl) (by kernel_rfl) (by kernel_rfl) (fun _ _ _ h => h) (Or.inl ⟨by rfl, ?_⟩) (by first | assumption | rfl | trivial) ?_
          rotate_left 1
          · (intro w hSw; (try dsimp only at hSw); (try subst hSw); go_simp; try with_reducible rfl)
          simp only [Act.put, List.setIfInBounds_toArray, List.set_cons_zero, List.set_cons_succ]
          refine held_take (i := 1) (d := (some 23)) (v := ?_) rfl rfl (by kernel_rfl) (by kernel_rfl) (by kernel_rfl) (fun _ _ _ h => h) (Or.inl ⟨by rfl, ?_⟩) (by first | assumption | rfl | trivial) ?_
          rotate_left 1
          · (intro w hSw; (try dsimp only at hSw); (try subst hSw); go_simp; try with_reducible rfl)
          simp only [Act.put, List.setIfInBounds_toArray, List.set_cons_zero, List.set_cons_succ]
          refine held_take (i := 2) (d := (some 24)) (v := ?_) rfl rfl (by kernel_rfl) (by kernel_rfl) (by kernel_rfl) (fun _ _ _ h => h) (Or.inl ⟨by rfl, ?_⟩) (by first | assumption | rfl | trivial) ?_
          rotate_left 1
          · (intro w hSw; (try dsimp only at hSw); (try subst hSw); go_simp; try with_reducible rfl)
          simp only [Act.put, List.setIfInBounds_toArray, List.set_cons_zero, List.set_cons_succ]
          refine held_take (i := 3) (d := (some 25)) (v := ?_) rfl rfl (by kernel_rfl) (by kernel_rfl) (by kernel_rfl) (fun _ _ _ h => h) (Or.inl ⟨by rfl, ?_⟩) (by first | assumption | rfl | trivial) ?_
          rotate_left 1
          · (intro w hSw; (try dsimp only at hSw); (try subst hSw); go_simp; try with_reducible rfl)
          simp only [Act.put, List.setIfInBounds_toArray, List.set_cons_zero, List.set_cons_succ]
          refine held_next (i := 4) (by kernel_rfl) rfl (by rfl) (fun K1 hK1 => ?_)
          go_simp
          with_reducible refine (M1.out _).mono ?_
          rintro e u ⟨rfl, hu⟩
          rw [hu, hm1]
          clear hu
          go_wp2_with fail
          refine hK1.out _ _ ⟨y1, z0⟩ ?_
          clear hK1
          refine held_take (i := 5) (d := (some 27)) (v := ?_) rfl rfl (by kernel_rfl) (by kernel_rfl) (by kernel_rfl) (fun _ _ _ h => h) (Or.inl ⟨by rfl, ?_⟩) (by first | assumption | rfl | trivial) ?_
          rotate_left 1
          · (intro w hSw; (try dsimp only at hSw); (try subst hSw); go_simp; try with_reducible rfl)
          simp only [Act.put, List.setIfInBounds_toArray, List.set_cons_zero, List.set_cons_succ]
          refine held_take (i := 6) (d := (some 28)) (v := ?_) rfl rfl (by kernel_rfl) (by kernel_rfl) (by kernel_rfl) (fun _ _ _ h => h) (Or.inl ⟨by rfl, ?_⟩) (by first | assumption | rfl | trivial) ?_
          rotate_left 1
          · (intro w hSw; (try dsimp only at hSw); (try subst hSw); go_simp; try with_reducible rfl)
          simp only [Act.put, List.setIfInBounds_toArray, List.set_cons_zero, List.set_cons_succ]
          refine held_take (i := 7) (d := (some 29)) (v := undef) rfl rfl (by kernel_rfl) (by kernel_rfl) (by kernel_rfl) (fun _ _ _ h => h) (Or.inr ⟨by rfl, rfl⟩) (by first | assumption | rfl | trivial) ?_
          simp only [Act.put, List.setIfInBounds_toArray, List.set_cons_zero, List.set_cons_succ]
          refine held_take (i := 8) (d := (some 30)) (v := undef) rfl rfl (by kernel_rfl) (by kernel_rfl) (by kernel_rfl) (fun _ _ _ h => h) (Or.inr ⟨by rfl, rfl⟩) (by first | assumption | rfl | trivial) ?_
          simp only [Act.put, List.setIfInBounds_toArray, List.set_cons_zero, List.set_cons_succ]
          refine held_take (i := 9) (d := (some 31)) (v := undef) rfl rfl (by kernel_rfl) (by kernel_rfl) (by kernel_rfl) (fun _ _ _ h => h) (Or.inr ⟨by rfl, rfl⟩) (by first | assumption | rfl | trivial) ?_
          simp only [Act.put, List.setIfInBounds_toArray, List.set_cons_zero, List.set_cons_succ]
          refine held_take (i := 10) (d := (some 32)) (v := undef) rfl rfl (by kernel_rfl) (by kernel_rfl) (by kernel_rfl) (fun _ _ _ h => h) (Or.inr ⟨by rfl, rfl⟩) (by first | assumption | rfl | trivial) ?_
          simp only [Act.put, List.setIfInBounds_toArray, List.set_cons_zero, List.set_cons_succ]
          refine held_take (i := 11) (d := (some 33)) (v := undef) rfl rfl (by kernel_rfl) (by kernel_rfl) (by kernel_rfl) (fun _ _ _ h => h) (Or.inr ⟨by rfl, rfl⟩) (by first | assumption | rfl | trivial) ?_
          simp only [Act.put, List.setIfInBounds_toArray, List.set_cons_zero, List.set_cons_succ]
          refine held_take (i := 12) (d := (some 34)) (v := undef) rfl rfl (by kernel_rfl) (by kernel_rfl) (by kernel_rfl) (fun _ _ _ h => h) (Or.inr ⟨by rfl, rfl⟩) (by first | assumption | rfl | trivial) ?_
          simp only [Act.put, List.setIfInBounds_toArray, List.set_cons_zero, List.set_cons_succ]
          refine held_take (i := 13) (d := (some 35)) (v := undef) rfl rfl (by kernel_rfl) (by kernel_rfl) (by kernel_rfl) (fun _ _ _ h => h) (Or.inr ⟨by rfl, rfl⟩) (by first | assumption | rfl | trivial) ?_
          simp only [Act.put, List.setIfInBounds_toArray, List.set_cons_zero, List.set_cons_succ]
          refine held_take (i := 14) (d := (some 36)) (v := undef) rfl rfl (by kernel_rfl) (by kernel_rfl) (by kernel_rfl) (fun _ _ _ h => h) (Or.inr ⟨by rfl, rfl⟩) (by first | assumption | rfl | trivial) ?_
          simp only [Act.put, List.setIfInBounds_toArray, List.set_cons_zero, List.set_cons_succ]
          refine held_take (i := 15) (d := (some 37)) (v := undef) rfl rfl (by kernel_rfl) (by kernel_rfl) (by kernel_rfl) (fun _ _ _ h => h) (Or.inr ⟨by rfl, rfl⟩) (by first | assumption | rfl | trivial) ?_
          simp only [Act.put, List.setIfInBounds_toArray, List.set_cons_zero, List.set_cons_succ]
          refine held_take (i := 16) (d := (some 38)) (v := undef) rfl rfl (by kernel_rfl) (by kernel_rfl) (by kernel_rfl) (fun _ _ _ h => h) (Or.inr ⟨by rfl, rfl⟩) (by first | assumption | rfl | trivial) ?_
          simp only [Act.put, List.setIfInBounds_toArray, List.set_cons_zero, List.set_cons_succ]
          refine held_take (i := 17) (d := (some 39)) (v := ?_) rfl rfl (by kernel_rfl) (by kernel_rfl) (by kernel_rfl) (fun _ _ _ h => h) (Or.inl ⟨by rfl, ?_⟩) (by first | assumption | rfl | trivial) ?_
          rotate_left 1
          · (intro w hSw; (try dsimp only at hSw); (try subst hSw); go_simp; try with_reducible rfl)
          simp only [Act.put, List.setIfInBounds_toArray, List.set_cons_zero, List.set_cons_succ]
          clear hHeld
          refine wpAnyH_done (by kernel_rfl) ?_ _
          have BE := hide BVV.out.drew
          go_wp2
          refine bodyPost_ret (v := .tuple #[.pointer none, .int .i64 1]) (by simp [results, Tryz.results12, go_sem]) rfl ?_
          exact laidV_none HE.out BE.out
        · have hm2 : mayN s = true := by simpa using hm1
          clear hm1
          by_cases hin : s ∈ ns.take k
          · have HE := hide (NOA.out (NK.out (fun q => (AS.out.1 q).2.2 hin)))
            obtain ⟨q, hq⟩ := layK_findYes (ns := ns) (ds := ds) hin
            have FI := hide (rfind16_any 0 bs k ch (layK ns ds k).sure s v.drew (OwnG.below OS.out (Below.refl _ _).drew (Nat.le_refl _)) (by omega))
            rw [hq] at FI
            have q0 : (0 : Int) ≤ (q : Int) := by omega
            clear KD RD HYN HYC HUPK OS hin hq
            go_wp2
            refine wp_region_held_drew (S := fun u => u.cell? ⟨gx, 1, none⟩ = some (.slice bs k ch) ∧ u.cell? ⟨nb, noff + k, none⟩ = some (.string s)) (by kernel_rfl) ⟨y1, z0⟩ (fun hHeld => ?_)
            refine held_take (i := 0) (d := (some 22)) (v := ?_) rfl rfl (by kernel_rfl) (by kernel_rfl) (by kernel_rfl) (fun _ _ _ h => h) (Or.inl ⟨by rfl, ?_⟩) (by first | assumption | rfl | trivial) ?_
            rotate_left 1
            · (intro w hSw; (try dsimp only at hSw); (try subst hSw); go_simp; try with_reducible rfl)
            simp only [Act.put, List.setIfInBounds_toArray, List.set_cons_zero, List.set_cons_succ]
            refine held_take (i := 1) (d := (some 23)) (v := ?_) rfl rfl (by kernel_rfl) (by kernel_rfl) (by kernel_rfl) (fun _ _ _ h => h) (Or.inl ⟨by rfl, ?_⟩) (by first | assumption | rfl | trivial) ?_
            rotate_left 1
            · (intro w hSw; (try dsimp only at hSw); (try subst hSw); go_simp; try with_reducible rfl)
            simp only [Act.put, List.setIfInBounds_toArray, List.set_cons_zero, List.set_cons_succ]
            refine held_take (i := 2) (d := (some 24)) (v := ?_) rfl rfl (by kernel_rfl) (by kernel_rfl) (by kernel_rfl) (fun _ _ _ h => h) (Or.inl ⟨by rfl, ?_⟩) (by first | assumption | rfl | trivial) ?_
            rotate_left 1
            · (intro w hSw; (try dsimp only at hSw); (try subst hSw); go_simp; try with_reducible rfl)
            simp only [Act.put, List.setIfInBounds_toArray, List.set_cons_zero, List.set_cons_succ]
            refine held_take (i := 3) (d := (some 25)) (v := ?_) rfl rfl (by kernel_rfl) (by kernel_rfl) (by kernel_rfl) (fun _ _ _ h => h) (Or.inl ⟨by rfl, ?_⟩) (by first | assumption | rfl | trivial) ?_
            rotate_left 1
            · (intro w hSw; (try dsimp only at hSw); (try subst hSw); go_simp; try with_reducible rfl)
            simp only [Act.put, List.setIfInBounds_toArray, List.set_cons_zero, List.set_cons_succ]
            refine held_next (i := 4) (by kernel_rfl) rfl (by rfl) (fun K1 hK1 => ?_)
            go_simp
            with_reducible refine (M1.out _).mono ?_
            rintro e u ⟨rfl, hu⟩
            rw [hu, hm2]
            clear hu
            go_wp2_with fail
            refine hK1.out _ _ ⟨y1, z0⟩ ?_
            clear hK1
            refine held_take (i := 5) (d := (some 27)) (v := ?_) rfl rfl (by kernel_rfl) (by kernel_rfl) (by kernel_rfl) (fun _ _ _ h => h) (Or.inl ⟨by rfl, ?_⟩) (by first | assumption | rfl | trivial) ?_
            rotate_left 1
            · (intro w hSw; (try dsimp only at hSw); (try subst hSw); go_simp; try with_reducible rfl)
            simp only [Act.put, List.setIfInBounds_toArray, List.set_cons_zero, List.set_cons_succ]
            refine held_take (i := 6) (d := (some 28)) (v := ?_) rfl rfl (by kernel_rfl) (by kernel_rfl) (by kernel_rfl) (fun _ _ _ h => h) (Or.inl ⟨by rfl, ?_⟩) (by first | assumption | rfl | trivial) ?_
            rotate_left 1
            · (intro w hSw; (try dsimp only at hSw); (try subst hSw); go_simp; try with_reducible rfl)
            simp only [Act.put, List.setIfInBounds_toArray, List.set_cons_zero, List.set_cons_succ]
            refine held_take (i := 7) (d := (some 29)) (v := ?_) rfl rfl (by kernel_rfl) (by kernel_rfl) (by kernel_rfl) (fun _ _ _ h => h) (Or.inl ⟨by rfl, ?_⟩) (by first | assumption | rfl | trivial) ?_
            rotate_left 1
            · (intro w hSw; (try dsimp only at hSw); (try subst hSw); go_simp; try with_reducible rfl)
            simp only [Act.put, List.setIfInBounds_toArray, List.set_cons_zero, List.set_cons_succ]
            refine held_take (i := 8) (d := (some 30)) (v := ?_) rfl rfl (by kernel_rfl) (by kernel_rfl) (by kernel_rfl) (fun _ _ _ h => h) (Or.inl ⟨by rfl, ?_⟩) (by first | assumption | rfl | trivial) ?_
            rotate_left 1
            · (intro w hSw; (try dsimp only at hSw); (try subst hSw); go_simp; try with_reducible rfl)
            simp only [Act.put, List.setIfInBounds_toArray, List.set_cons_zero, List.set_cons_succ]
            refine held_take (i := 9) (d := (some 31)) (v := ?_) rfl rfl (by kernel_rfl) (by kernel_rfl) (by kernel_rfl) (fun _ _ _ h => h) (Or.inl ⟨by rfl, ?_⟩) (by first | assumption | rfl | trivial) ?_
            rotate_left 1
            · (intro w hSw; (try dsimp only at hSw); (try subst hSw); go_simp; try with_reducible rfl)
            simp only [Act.put, List.setIfInBounds_toArray, List.set_cons_zero, List.set_cons_succ]
            refine held_take (i := 10) (d := (some 32)) (v := ?_) rfl rfl (by kernel_rfl) (by kernel_rfl) (by kernel_rfl) (fun _ _ _ h => h) (Or.inl ⟨by rfl, ?_⟩) (by first | assumption | rfl | trivial) ?_
            rotate_left 1
            · (intro w hSw; (try dsimp only at hSw); (try subst hSw); go_simp; try with_reducible rfl)
            simp only [Act.put, List.setIfInBounds_toArray, List.set_cons_zero, List.set_cons_succ]
            refine held_take (i := 11) (d := (some 33)) (v := ?_) rfl rfl (by kernel_rfl) (by kernel_rfl) (by kernel_rfl) (fun _ _ _ h => h) (Or.inl ⟨by rfl, ?_⟩) (by first | assumption | rfl | trivial) ?_
            rotate_left 1
            · (intro w hSw; (try dsimp only at hSw); (try subst hSw); go_simp; try with_reducible rfl)
            simp only [Act.put, List.setIfInBounds_toArray, List.set_cons_zero, List.set_cons_succ]
            refine held_take (i := 12) (d := (some 34)) (v := ?_) rfl rfl (by kernel_rfl) (by kernel_rfl) (by kernel_rfl) (fun _ _ _ h => h) (Or.inl ⟨by rfl, ?_⟩) (by first | assumption | rfl | trivial) ?_
            rotate_left 1
            · (intro w hSw; (try dsimp only at hSw); (try subst hSw); go_simp; try with_reducible rfl)
            simp only [Act.put, List.setIfInBounds_toArray, List.set_cons_zero, List.set_cons_succ]
            refine held_take (i := 13) (d := (some 35)) (v := ?_) rfl rfl (by kernel_rfl) (by kernel_rfl) (by kernel_rfl) (fun _ _ _ h => h) (Or.inl ⟨by rfl, ?_⟩) (by first | assumption | rfl | trivial) ?_
            rotate_left 1
            · (intro w hSw; (try dsimp only at hSw); (try subst hSw); go_simp; try with_reducible rfl)
            simp only [Act.put, List.setIfInBounds_toArray, List.set_cons_zero, List.set_cons_succ]
            refine held_take (i := 14) (d := (some 36)) (v := ?_) rfl rfl (by kernel_rfl) (by kernel_rfl) (by kernel_rfl) (fun _ _ _ h => h) (Or.inl ⟨by rfl, ?_⟩) (by first | assumption | rfl | trivial) ?_
            rotate_left 1
            · (intro w hSw; (try dsimp only at hSw); (try subst hSw); go_simp; try with_reducible rfl)
            simp only [Act.put, List.setIfInBounds_toArray, List.set_cons_zero, List.set_cons_succ]
            refine held_next (i := 15) (by kernel_rfl) rfl (by rfl) (fun K1 hK1 => ?_)
            go_simp
            with_reducible refine FI.out.mono ?_
            rintro e u ⟨rfl, hu⟩
            rw [hu]
            clear hu
            go_wp2_with fail
            refine hK1.out _ _ ⟨y1, z0⟩ ?_
            clear hK1 FI
            refine held_take (i := 16) (d := (some 38)) (v := ?_) rfl rfl (by kernel_rfl) (by kernel_rfl) (by kernel_rfl) (fun _ _ _ h => h) (Or.inl ⟨by rfl, ?_⟩) (by first | assumption | rfl | trivial) ?_
            rotate_left 1
            · (intro w hSw; (try dsimp only at hSw); (try subst hSw); go_simp; try with_reducible rfl)
            simp only [Act.put, List.setIfInBounds_toArray, List.set_cons_zero, List.set_cons_succ]
            refine held_take (i := 17) (d := (some 39)) (v := ?_) rfl rfl (by kernel_rfl) (by kernel_rfl) (by kernel_rfl) (fun _ _ _ h => h) (Or.inl ⟨by rfl, ?_⟩) (by first | assumption | rfl | trivial) ?_
            rotate_left 1
            · (intro w hSw; (try dsimp only at hSw); (try subst hSw); go_simp; try with_reducible rfl)
            simp only [Act.put, List.setIfInBounds_toArray, List.set_cons_zero, List.set_cons_succ]
            clear hHeld
            refine wpAnyH_done (by kernel_rfl) ?_ _
            have BE := hide BVV.out.drew
            go_wp2
            refine bodyPost_ret (v := .tuple #[.pointer none, .int .i64 1]) (by simp [results, Tryz.results12, go_sem]) rfl ?_
            exact laidV_none HE.out BE.out
          · have HA2 : Hid (areN (ns.take (k + 1))) := by rw [HTK.out]; exact AS.out.2 ⟨HA.out, hm2, hin⟩
            have hq := layK_findNo (ns := ns) (ds := ds) hin
            have FI := hide (rfind16_any 0 bs k ch (layK ns ds k).sure s v.drew (OwnG.below OS.out (Below.refl _ _).drew (Nat.le_refl _)) (by omega))
            rw [hq] at FI
            clear hin hq HA AS NK
            go_wp2
            refine wp_region_held_drew (S := fun u => u.cell? ⟨gx, 1, none⟩ = some (.slice bs k ch) ∧ u.cell? ⟨nb, noff + k, none⟩ = some (.string s)) (by kernel_rfl) ⟨y1, z0⟩ (fun hHeld => ?_)
            refine held_take (i := 0) (d := (some 22)) (v := ?_) rfl rfl (by kernel_rfl) (by kernel_rfl) (by kernel_rfl) (fun _ _ _ h => h) (Or.inl ⟨by rfl, ?_⟩) (by first | assumption | rfl | trivial) ?_
            rotate_left 1
            · (intro w hSw; (try dsimp only at hSw); (try subst hSw); go_simp; try with_reducible rfl)
            simp only [Act.put, List.setIfInBounds_toArray, List.set_cons_zero, List.set_cons_succ]
            refine held_take (i := 1) (d := (some 23)) (v := ?_) rfl rfl (by kernel_rfl) (by kernel_rfl) (by kernel_rfl) (fun _ _ _ h => h) (Or.inl ⟨by rfl, ?_⟩) (by first | assumption | rfl | trivial) ?_
            rotate_left 1
            · (intro w hSw; (try dsimp only at hSw); (try subst hSw); go_simp; try with_reducible rfl)
            simp only [Act.put, List.setIfInBounds_toArray, List.set_cons_zero, List.set_cons_succ]
            refine held_take (i := 2) (d := (some 24)) (v := ?_) rfl rfl (by kernel_rfl) (by kernel_rfl) (by kernel_rfl) (fun _ _ _ h => h) (Or.inl ⟨by rfl, ?_⟩) (by first | assumption | rfl | trivial) ?_
            rotate_left 1
            · (intro w hSw; (try dsimp only at hSw); (try subst hSw); go_simp; try with_reducible rfl)
            simp only [Act.put, List.setIfInBounds_toArray, List.set_cons_zero, List.set_cons_succ]
            refine held_take (i := 3) (d := (some 25)) (v := ?_) rfl rfl (by kernel_rfl) (by kernel_rfl) (by kernel_rfl) (fun _ _ _ h => h) (Or.inl ⟨by rfl, ?_⟩) (by first | assumption | rfl | trivial) ?_
            rotate_left 1
            · (intro w hSw; (try dsimp only at hSw); (try subst hSw); go_simp; try with_reducible rfl)
            simp only [Act.put, List.setIfInBounds_toArray, List.set_cons_zero, List.set_cons_succ]
            refine held_next (i := 4) (by kernel_rfl) rfl (by rfl) (fun K1 hK1 => ?_)
            go_simp
            with_reducible refine (M1.out _).mono ?_
            rintro e u ⟨rfl, hu⟩
            rw [hu, hm2]
            clear hu
            go_wp2_with fail
            refine hK1.out _ _ ⟨y1, z0⟩ ?_
            clear hK1
            refine held_take (i := 5) (d := (some 27)) (v := ?_) rfl rfl (by kernel_rfl) (by kernel_rfl) (by kernel_rfl) (fun _ _ _ h => h) (Or.inl ⟨by rfl, ?_⟩) (by first | assumption | rfl | trivial) ?_
            rotate_left 1
            · (intro w hSw; (try dsimp only at hSw); (try subst hSw); go_simp; try with_reducible rfl)
            simp only [Act.put, List.setIfInBounds_toArray, List.set_cons_zero, List.set_cons_succ]
            refine held_take (i := 6) (d := (some 28)) (v := ?_) rfl rfl (by kernel_rfl) (by kernel_rfl) (by kernel_rfl) (fun _ _ _ h => h) (Or.inl ⟨by rfl, ?_⟩) (by first | assumption | rfl | trivial) ?_
            rotate_left 1
            · (intro w hSw; (try dsimp only at hSw); (try subst hSw); go_simp; try with_reducible rfl)
            simp only [Act.put, List.setIfInBounds_toArray, List.set_cons_zero, List.set_cons_succ]
            refine held_take (i := 7) (d := (some 29)) (v := ?_) rfl rfl (by kernel_rfl) (by kernel_rfl) (by kernel_rfl) (fun _ _ _ h => h) (Or.inl ⟨by rfl, ?_⟩) (by first | assumption | rfl | trivial) ?_
            rotate_left 1
            · (intro w hSw; (try dsimp only at hSw); (try subst hSw); go_simp; try with_reducible rfl)
            simp only [Act.put, List.setIfInBounds_toArray, List.set_cons_zero, List.set_cons_succ]
            refine held_take (i := 8) (d := (some 30)) (v := ?_) rfl rfl (by kernel_rfl) (by kernel_rfl) (by kernel_rfl) (fun _ _ _ h => h) (Or.inl ⟨by rfl, ?_⟩) (by first | assumption | rfl | trivial) ?_
            rotate_left 1
            · (intro w hSw; (try dsimp only at hSw); (try subst hSw); go_simp; try with_reducible rfl)
            simp only [Act.put, List.setIfInBounds_toArray, List.set_cons_zero, List.set_cons_succ]
            refine held_take (i := 9) (d := (some 31)) (v := ?_) rfl rfl (by kernel_rfl) (by kernel_rfl) (by kernel_rfl) (fun _ _ _ h => h) (Or.inl ⟨by rfl, ?_⟩) (by first | assumption | rfl | trivial) ?_
            rotate_left 1
            · (intro w hSw; (try dsimp only at hSw); (try subst hSw); go_simp; try with_reducible rfl)
            simp only [Act.put, List.setIfInBounds_toArray, List.set_cons_zero, List.set_cons_succ]
            refine held_take (i := 10) (d := (some 32)) (v := ?_) rfl rfl (by kernel_rfl) (by kernel_rfl) (by kernel_rfl) (fun _ _ _ h => h) (Or.inl ⟨by rfl, ?_⟩) (by first | assumption | rfl | trivial) ?_
            rotate_left 1
            · (intro w hSw; (try dsimp only at hSw); (try subst hSw); go_simp; try with_reducible rfl)
            simp only [Act.put, List.setIfInBounds_toArray, List.set_cons_zero, List.set_cons_succ]
            refine held_take (i := 11) (d := (some 33)) (v := ?_) rfl rfl (by kernel_rfl) (by kernel_rfl) (by kernel_rfl) (fun _ _ _ h => h) (Or.inl ⟨by rfl, ?_⟩) (by first | assumption | rfl | trivial) ?_
            rotate_left 1
            · (intro w hSw; (try dsimp only at hSw); (try subst hSw); go_simp; try with_reducible rfl)
            simp only [Act.put, List.setIfInBounds_toArray, List.set_cons_zero, List.set_cons_succ]
            refine held_take (i := 12) (d := (some 34)) (v := ?_) rfl rfl (by kernel_rfl) (by kernel_rfl) (by kernel_rfl) (fun _ _ _ h => h) (Or.inl ⟨by rfl, ?_⟩) (by first | assumption | rfl | trivial) ?_
            rotate_left 1
            · (intro w hSw; (try dsimp only at hSw); (try subst hSw); go_simp; try with_reducible rfl)
            simp only [Act.put, List.setIfInBounds_toArray, List.set_cons_zero, List.set_cons_succ]
            refine held_take (i := 13) (d := (some 35)) (v := ?_) rfl rfl (by kernel_rfl) (by kernel_rfl) (by kernel_rfl) (fun _ _ _ h => h) (Or.inl ⟨by rfl, ?_⟩) (by first | assumption | rfl | trivial) ?_
            rotate_left 1
            · (intro w hSw; (try dsimp only at hSw); (try subst hSw); go_simp; try with_reducible rfl)
            simp only [Act.put, List.setIfInBounds_toArray, List.set_cons_zero, List.set_cons_succ]
            refine held_take (i := 14) (d := (some 36)) (v := ?_) rfl rfl (by kernel_rfl) (by kernel_rfl) (by kernel_rfl) (fun _ _ _ h => h) (Or.inl ⟨by rfl, ?_⟩) (by first | assumption | rfl | trivial) ?_
            rotate_left 1
            · (intro w hSw; (try dsimp only at hSw); (try subst hSw); go_simp; try with_reducible rfl)
            simp only [Act.put, List.setIfInBounds_toArray, List.set_cons_zero, List.set_cons_succ]
            refine held_next (i := 15) (by kernel_rfl) rfl (by rfl) (fun K1 hK1 => ?_)
            go_simp
            with_reducible refine FI.out.mono ?_
            rintro e u ⟨rfl, hu⟩
            rw [hu]
            clear hu
            go_wp2_with fail
            refine hK1.out _ _ ⟨y1, z0⟩ ?_
            clear hK1 FI
            refine held_take (i := 16) (d := (some 38)) (v := ?_) rfl rfl (by kernel_rfl) (by kernel_rfl) (by kernel_rfl) (fun _ _ _ h => h) (Or.inl ⟨by rfl, ?_⟩) (by first | assumption | rfl | trivial) ?_
            rotate_left 1
            · (intro w hSw; (try dsimp only at hSw); (try subst hSw); go_simp; try with_reducible rfl)
            simp only [Act.put, List.setIfInBounds_toArray, List.set_cons_zero, List.set_cons_succ]
            refine held_take (i := 17) (d := (some 39)) (v := ?_) rfl rfl (by kernel_rfl) (by kernel_rfl) (by kernel_rfl) (fun _ _ _ h => h) (Or.inl ⟨by rfl, ?_⟩) (by first | assumption | rfl | trivial) ?_
            rotate_left 1
            · (intro w hSw; (try dsimp only at hSw); (try subst hSw); go_simp; try with_reducible rfl)
            simp only [Act.put, List.setIfInBounds_toArray, List.set_cons_zero, List.set_cons_succ]
            clear hHeld
            refine wpAnyH_done (by kernel_rfl) ?_ _
            obtain ⟨v1, hv1⟩ : ∃ v1, Hid (v.drew = v1) := ⟨_, rfl⟩
            have M1' : Hid (MkR w v1 gx (layK ns ds k)) := by rw [← hv1.out]; exact HM.out.below (Below.refl _ _).drew
            clear HM HRX HTT BVV y1 OS z0
            go_upto_region 9 with fail
            rw [hv1.out]
            clear hv1
            go_cut [] (fun wx => Hid (MkR w wx gx { layK ns ds k with sure := (layK ns ds k).sure ++ [⟨s, k⟩] }))
            case first =>
              obtain ⟨BV, T, bf, cg, bs, ch, bt, ck, hx, HT, R⟩ := M1'.out
              have HRX := hide R
              have HTT := hide HT
              have BVV := hide BV
              obtain ⟨-, y1, -⟩ := R.cells
              rw [SL.out k hk] at y1
              have OS : Hid (OwnD v1 0 bs k ch (layK ns ds k).sure) := by
                have := R.sure
                rw [SL.out k hk] at this
                exact this
              have z0 := KN.out v1 BV
              have NC5 := hide (dn_cells v1 ⟨s, k⟩ 80)
              dsimp only at NC5
              obtain ⟨w6, hw6⟩ : ∃ w6, Hid ((v1.alloc (.cells #[.string s, .int .i64 (k : Int)] 80)).drew = w6) := ⟨_, rfl⟩
              obtain ⟨g6, hg6⟩ : ∃ g6, Hid (v1.heap.size = g6) := ⟨_, rfl⟩
              have B6 : Hid (Below v1.heap.size v1 w6) := by rw [← hw6.out]; exact (bel_al (Below.refl _ _) (Nat.le_refl _) _).drew
              have BA6 : Hid (Below w.heap.size w w6) := BV.trans (B6.out.mono BV.size)
              have OS6 : Hid (OwnD w6 0 bs k ch (layK ns ds k).sure) := OwnG.below OS.out B6.out (Nat.le_refl _)
              have NC6 : Hid (∀ j u, (dnV ⟨s, k⟩)[j]? = some u → w6.cell? ((⟨g6, 0, none⟩ : Addr).add j) = some u) := by rw [← hw6.out, ← hg6.out]; exact NC5.out
              have v1' : w6.cell? ⟨gx, 1, none⟩ = some (.slice bs k ch) := (B6.out.cell (p := ⟨gx, 1, none⟩) (World.block_lt_of_cell? v1 _ y1)).trans y1
              have SX6 := hide (KN.out _ BA6.out)
              have HUP : Hid (∀ (gC cC : Nat) (wC : World), wC.ownsRow 0 80 2 (.slice (some ⟨gC, 0, none⟩) (k + 1) cC) (k + 1) ((layK ns ds k).sure.flatMap dnV ++ dnV ⟨s, k⟩) → w6.grownBy wC (Value.slice bs k ch).ownBlock → ((Value.slice bs k ch).ownBlock = some gC ∨ gC = w6.heap.size) →
                  Hid (MkR w (wC.setCell ⟨gx, 1, none⟩ (.slice (some ⟨gC, 0, none⟩) (k + 1) cC)) gx { layK ns ds k with sure := (layK ns ds k).sure ++ [⟨s, k⟩] }) ∧ wC.cell? ⟨gx, 1, none⟩ = some (.slice bs k ch) ∧ wC.frozen? ⟨gx, 1, none⟩ = false ∧ Hid (Below w.heap.size w wC)) := fun gC cC wC oC grC atC => by
                obtain ⟨p1, p2, p3, p4, -⟩ := sure_up HRX.out HTT.out BVV.out B6.out (SL.out k hk) oC grC atC
                exact ⟨p1, p2, p3, p4⟩
              obtain ⟨SU, hSU⟩ : ∃ SU, Hid ((layK ns ds k).sure = SU) := ⟨_, rfl⟩
              rw [hSU.out] at OS6 HUP
              clear R HT BV OS NC5 HRX HTT
              refine wp_region_held_drew (S := fun u => u.cell? ⟨nb, noff + k, none⟩ = some (.string s)) (by kernel_rfl) z0 (fun hHeld => ?_)
              refine held_take (i := 0) (d := (some 40)) (v := ?_) rfl rfl (by kernel_rfl) (by kernel_rfl) (by kernel_rfl) (fun _ _ _ h => h) (Or.inl ⟨by rfl, ?_⟩) (by first | assumption | rfl | trivial) ?_
              rotate_left 1
              · (intro w hSw; (try dsimp only at hSw); (try subst hSw); go_simp; try with_reducible rfl)
              simp only [Act.put, List.setIfInBounds_toArray, List.set_cons_zero, List.set_cons_succ]
              refine held_take (i := 1) (d := (some 41)) (v := ?_) rfl rfl (by kernel_rfl) (by kernel_rfl) (by kernel_rfl) (fun _ _ _ h => h) (Or.inl ⟨by rfl, ?_⟩) (by first | assumption | rfl | trivial) ?_
              rotate_left 1
              · (intro w hSw; (try dsimp only at hSw); (try subst hSw); go_simp; try with_reducible rfl)
              simp only [Act.put, List.setIfInBounds_toArray, List.set_cons_zero, List.set_cons_succ]
              refine held_take (i := 2) (d := (some 42)) (v := ?_) rfl rfl (by kernel_rfl) (by kernel_rfl) (by kernel_rfl) (fun _ _ _ h => h) (Or.inl ⟨by rfl, ?_⟩) (by first | assumption | rfl | trivial) ?_
              rotate_left 1
              · (intro w hSw; (try dsimp only at hSw); (try subst hSw); go_simp; try with_reducible rfl)
              simp only [Act.put, List.setIfInBounds_toArray, List.set_cons_zero, List.set_cons_succ]
              refine held_take (i := 3) (d := (some 43)) (v := ?_) rfl rfl (by kernel_rfl) (by kernel_rfl) (by kernel_rfl) (fun _ _ _ h => h) (Or.inl ⟨by rfl, ?_⟩) (by first | assumption | rfl | trivial) ?_
              rotate_left 1
              · (intro w hSw; (try dsimp only at hSw); (try subst hSw); go_simp; try with_reducible rfl)
              simp only [Act.put, List.setIfInBounds_toArray, List.set_cons_zero, List.set_cons_succ]
              refine held_take (i := 5) (d := (some 45)) (v := ?_) rfl rfl (by kernel_rfl) (by kernel_rfl) (by kernel_rfl) (fun _ _ _ h => h) (Or.inl ⟨by rfl, ?_⟩) (by first | assumption | rfl | trivial) ?_
              rotate_left 1
              · (intro w hSw; (try dsimp only at hSw); (try subst hSw); go_simp; try with_reducible rfl)
              simp only [Act.put, List.setIfInBounds_toArray, List.set_cons_zero, List.set_cons_succ]
              refine held_take (i := 6) (d := (some 46)) (v := ?_) rfl rfl (by kernel_rfl) (by kernel_rfl) (by kernel_rfl) (fun _ _ _ h => h) (Or.inl ⟨by rfl, ?_⟩) (by first | assumption | rfl | trivial) ?_
              rotate_left 1
              · (intro w hSw; (try dsimp only at hSw); (try subst hSw); go_simp; try with_reducible rfl)
              simp only [Act.put, List.setIfInBounds_toArray, List.set_cons_zero, List.set_cons_succ]
              refine held_take (i := 7) (d := (some 47)) (v := ?_) rfl rfl (by kernel_rfl) (by kernel_rfl) (by kernel_rfl) (fun _ _ _ h => h) (Or.inl ⟨by rfl, ?_⟩) (by first | assumption | rfl | trivial) ?_
              rotate_left 1
              · (intro w hSw; (try dsimp only at hSw); (try subst hSw); go_simp; try with_reducible rfl)
              simp only [Act.put, List.setIfInBounds_toArray, List.set_cons_zero, List.set_cons_succ]
              refine held_take (i := 8) (d := (some 48)) (v := ?_) rfl rfl (by kernel_rfl) (by kernel_rfl) (by kernel_rfl) (fun _ _ _ h => h) (Or.inl ⟨by rfl, ?_⟩) (by first | assumption | rfl | trivial) ?_
              rotate_left 1
              · (intro w hSw; (try dsimp only at hSw); (try subst hSw); go_simp; try with_reducible rfl)
              simp only [Act.put, List.setIfInBounds_toArray, List.set_cons_zero, List.set_cons_succ]
              refine held_take (i := 9) (d := (some 49)) (v := ?_) rfl rfl (by kernel_rfl) (by kernel_rfl) (by kernel_rfl) (fun _ _ _ h => h) (Or.inl ⟨by rfl, ?_⟩) (by first | assumption | rfl | trivial) ?_
              rotate_left 1
              · (intro w hSw; (try dsimp only at hSw); (try subst hSw); go_simp; try with_reducible rfl)
              simp only [Act.put, List.setIfInBounds_toArray, List.set_cons_zero, List.set_cons_succ]
              refine held_take (i := 10) (d := (some 50)) (v := ?_) rfl rfl (by kernel_rfl) (by kernel_rfl) (by kernel_rfl) (fun _ _ _ h => h) (Or.inl ⟨by rfl, ?_⟩) (by first | assumption | rfl | trivial) ?_
              rotate_left 1
              · (intro w hSw; (try dsimp only at hSw); (try subst hSw); go_simp; try with_reducible rfl)
              simp only [Act.put, List.setIfInBounds_toArray, List.set_cons_zero, List.set_cons_succ]
              refine held_pair (i := 4) (j := 11) (by kernel_rfl) rfl (by rfl) rfl (by rfl) (fun K1 hK1 => ?_) (fun K1 hK1 => ?_)
              · go_simp
                refine hK1.out _ _ z0 ?_
                clear hK1
                refine held_next (i := 11) (by kernel_rfl) rfl (by rfl) (fun K1 hK1 => ?_)
                go_simp
                rw [hw6.out, hg6.out]
                refine hK1.out _ _ SX6.out ?_
                clear hK1
                refine held_next (i := 12) (by kernel_rfl) rfl (by rfl) (fun K1 hK1 => ?_)
                refine wp_append_lies _ (.tmp 44) (.tmp 51) 28 rfl 0 80 i2 (.agg #[.string .empty, .int .i64 0]) 2 24 Tryz.underlying28 hi2 hz20 hz21 hz22 rfl (by decide) (.slice bs k ch) k (SU.flatMap dnV) rfl OS6.out ⟨g6, 0, none⟩ 1 1 (dnV ⟨s, k⟩) rfl rfl NC6.out (dnV_one1 _) (by omega) (by unfold maxLen; omega) (by omega) (Nat.zero_le _) _ rfl ?_
                intro gC cC wC oC grC atC ltC
                obtain ⟨MC, u2, u3, BC⟩ := HUP.out gC cC wC oC grC atC
                have S8 := hide (KN.out _ BC.out)
                have S9 := hide (KN.out _ MC.out.1)
                clear oC grC atC ltC HUP
                go_simp
                refine hK1.out _ _ S8.out ?_
                clear hK1
                refine held_take (i := 13) (d := (some 53)) (v := ?_) rfl rfl (by kernel_rfl) (by kernel_rfl) (by kernel_rfl) (fun _ _ _ h => h) (Or.inl ⟨by rfl, ?_⟩) (by first | assumption | rfl | trivial) ?_
                rotate_left 1
                · (intro w hSw; (try dsimp only at hSw); (try subst hSw); go_simp; try with_reducible rfl)
                simp only [Act.put, List.setIfInBounds_toArray, List.set_cons_zero, List.set_cons_succ]
                refine held_take (i := 14) (d := (some 54)) (v := ?_) rfl rfl (by kernel_rfl) (by kernel_rfl) (by kernel_rfl) (fun _ _ _ h => h) (Or.inl ⟨by rfl, ?_⟩) (by first | assumption | rfl | trivial) ?_
                rotate_left 1
                · (intro w hSw; (try dsimp only at hSw); (try subst hSw); go_simp; try with_reducible rfl)
                simp only [Act.put, List.setIfInBounds_toArray, List.set_cons_zero, List.set_cons_succ]
                refine held_next (i := 15) (by kernel_rfl) rfl (by rfl) (fun K1 hK1 => ?_)
                go_simp
                refine hK1.out _ _ S9.out ?_
                clear hK1 hHeld
                refine wpAnyH_done (by kernel_rfl) ?_ _
                go_wp2
                go_meet
                case rel =>
                  rw [← hSU.out] at MC
                  exact MC
              · go_simp
                rw [hw6.out, hg6.out]
                refine hK1.out _ _ SX6.out ?_
                clear hK1
                refine held_next (i := 4) (by kernel_rfl) rfl (by rfl) (fun K1 hK1 => ?_)
                go_simp
                refine hK1.out _ _ SX6.out ?_
                clear hK1
                refine held_next (i := 12) (by kernel_rfl) rfl (by rfl) (fun K1 hK1 => ?_)
                refine wp_append_lies _ (.tmp 44) (.tmp 51) 28 rfl 0 80 i2 (.agg #[.string .empty, .int .i64 0]) 2 24 Tryz.underlying28 hi2 hz20 hz21 hz22 rfl (by decide) (.slice bs k ch) k (SU.flatMap dnV) rfl OS6.out ⟨g6, 0, none⟩ 1 1 (dnV ⟨s, k⟩) rfl rfl NC6.out (dnV_one1 _) (by omega) (by unfold maxLen; omega) (by omega) (Nat.zero_le _) _ rfl ?_
                intro gC cC wC oC grC atC ltC
                obtain ⟨MC, u2, u3, BC⟩ := HUP.out gC cC wC oC grC atC
                have S8 := hide (KN.out _ BC.out)
                have S9 := hide (KN.out _ MC.out.1)
                clear oC grC atC ltC HUP
                go_simp
                refine hK1.out _ _ S8.out ?_
                clear hK1
                refine held_take (i := 13) (d := (some 53)) (v := ?_) rfl rfl (by kernel_rfl) (by kernel_rfl) (by kernel_rfl) (fun _ _ _ h => h) (Or.inl ⟨by rfl, ?_⟩) (by first | assumption | rfl | trivial) ?_
                rotate_left 1
                · (intro w hSw; (try dsimp only at hSw); (try subst hSw); go_simp; try with_reducible rfl)
                simp only [Act.put, List.setIfInBounds_toArray, List.set_cons_zero, List.set_cons_succ]
                refine held_take (i := 14) (d := (some 54)) (v := ?_) rfl rfl (by kernel_rfl) (by kernel_rfl) (by kernel_rfl) (fun _ _ _ h => h) (Or.inl ⟨by rfl, ?_⟩) (by first | assumption | rfl | trivial) ?_
                rotate_left 1
                · (intro w hSw; (try dsimp only at hSw); (try subst hSw); go_simp; try with_reducible rfl)
                simp only [Act.put, List.setIfInBounds_toArray, List.set_cons_zero, List.set_cons_succ]
                refine held_next (i := 15) (by kernel_rfl) rfl (by rfl) (fun K1 hK1 => ?_)
                go_simp
                refine hK1.out _ _ S9.out ?_
                clear hK1 hHeld
                refine wpAnyH_done (by kernel_rfl) ?_ _
                go_wp2
                go_meet
                case rel =>
                  rw [← hSU.out] at MC
                  exact MC
            case rest =>
              have HMX := hcut
              clear hcut M1'
              obtain ⟨v2, rfl⟩ : ∃ v2, v2 = wc := ⟨wc, rfl⟩
              obtain ⟨BV, T, bf, cg, bs, ch, bt, ck, hx, HT, R⟩ := HMX.out
              have HRX := hide R
              have HTT := hide HT
              have BVV := hide BV
              have HFL : Hid ((layK ns ds k).files.length = k) := FL.out k hk
              obtain ⟨y0, -⟩ := R.cells
              dsimp only at y0
              rw [HFL.out] at y0
              have OF : Hid (OwnF v2 0 bf k cg hx) := by
                have := R.files
                dsimp only at this
                rw [HFL.out] at this
                exact this
              have z0 := KD.out v2 BV
              have HFUP : Hid (∀ (w6 : World) (xa : Option Addr) (xn xc gC cC : Nat) (wC : World), Below v2.heap.size v2 w6 → OwnB w6 v2.heap.size xa xn xc d → wC.ownsRow 0 83 2 (.slice (some ⟨gC, 0, none⟩) (k + 1) cC) (k + 1) (hx.flatMap fiV ++ fiV ((xa, xn, xc), (none, 0, 0))) → (w6.alloc (.cells #[.slice xa xn xc, .slice none 0 0] 83)).grownBy wC (Value.slice bf k cg).ownBlock → ((Value.slice bf k cg).ownBlock = some gC ∨ gC = (w6.alloc (.cells #[.slice xa xn xc, .slice none 0 0] 83)).heap.size) →
                  Hid (MkR w (wC.setCell ⟨gx, 0, none⟩ (.slice (some ⟨gC, 0, none⟩) (k + 1) cC)) gx (layK ns ds (k + 1))) ∧ wC.cell? ⟨gx, 0, none⟩ = some (.slice bf k cg) ∧ wC.frozen? ⟨gx, 0, none⟩ = false ∧ Hid (Below w.heap.size w wC)) := fun w6 xa xn xc gC cC wC b6 ob oC grC atC => by
                obtain ⟨p1, p2, p3, p4⟩ := file_up HRX.out HTT.out BVV.out b6 (show ({ layK ns ds k with sure := (layK ns ds k).sure ++ [⟨s, k⟩] } : Fs).files.length = k from HFL.out) (x := (xa, xn, xc)) ob oC grC atC
                refine ⟨?_, p2, p3, p4⟩
                rw [HUPK.out]
                exact p1
              have RD2 : Hid (Row .u8 v2.drew ya yn d) := RD.out _ BV.drew
              clear R HT BV HRX HTT HMX
              go_upto_region 10 with fail
              refine wp_region_held_drew (S := fun u => u.cell? ⟨db, doff + k, none⟩ = some (.slice ya yn yc)) (by kernel_rfl) z0 (fun hHeld => ?_)
              refine held_take (i := 0) (d := (some 55)) (v := ?_) rfl rfl (by kernel_rfl) (by kernel_rfl) (by kernel_rfl) (fun _ _ _ h => h) (Or.inl ⟨by rfl, ?_⟩) (by first | assumption | rfl | trivial) ?_
              rotate_left 1
              · (intro w hSw; (try dsimp only at hSw); (try subst hSw); go_simp; try with_reducible rfl)
              simp only [Act.put, List.setIfInBounds_toArray, List.set_cons_zero, List.set_cons_succ]
              refine held_take (i := 1) (d := (some 56)) (v := ?_) rfl rfl (by kernel_rfl) (by kernel_rfl) (by kernel_rfl) (fun _ _ _ h => h) (Or.inl ⟨by rfl, ?_⟩) (by first | assumption | rfl | trivial) ?_
              rotate_left 1
              · (intro w hSw; (try dsimp only at hSw); (try subst hSw); go_simp; try with_reducible rfl)
              simp only [Act.put, List.setIfInBounds_toArray, List.set_cons_zero, List.set_cons_succ]
              refine held_take (i := 2) (d := (some 57)) (v := ?_) rfl rfl (by kernel_rfl) (by kernel_rfl) (by kernel_rfl) (fun _ _ _ h => h) (Or.inl ⟨by rfl, ?_⟩) (by first | assumption | rfl | trivial) ?_
              rotate_left 1
              · (intro w hSw; (try dsimp only at hSw); (try subst hSw); go_simp; try with_reducible rfl)
              simp only [Act.put, List.setIfInBounds_toArray, List.set_cons_zero, List.set_cons_succ]
              refine held_take (i := 3) (d := (some 58)) (v := ?_) rfl rfl (by kernel_rfl) (by kernel_rfl) (by kernel_rfl) (fun _ _ _ h => h) (Or.inl ⟨by rfl, ?_⟩) (by first | assumption | rfl | trivial) ?_
              rotate_left 1
              · (intro w hSw; (try dsimp only at hSw); (try subst hSw); go_simp; try with_reducible rfl)
              simp only [Act.put, List.setIfInBounds_toArray, List.set_cons_zero, List.set_cons_succ]
              refine held_take (i := 5) (d := (some 60)) (v := ?_) rfl rfl (by kernel_rfl) (by kernel_rfl) (by kernel_rfl) (fun _ _ _ h => h) (Or.inl ⟨by rfl, ?_⟩) (by first | assumption | rfl | trivial) ?_
              rotate_left 1
              · (intro w hSw; (try dsimp only at hSw); (try subst hSw); go_simp; try with_reducible rfl)
              simp only [Act.put, List.setIfInBounds_toArray, List.set_cons_zero, List.set_cons_succ]
              refine held_take (i := 6) (d := (some 61)) (v := ?_) rfl rfl (by kernel_rfl) (by kernel_rfl) (by kernel_rfl) (fun _ _ _ h => h) (Or.inl ⟨by rfl, ?_⟩) (by first | assumption | rfl | trivial) ?_
              rotate_left 1
              · (intro w hSw; (try dsimp only at hSw); (try subst hSw); go_simp; try with_reducible rfl)
              simp only [Act.put, List.setIfInBounds_toArray, List.set_cons_zero, List.set_cons_succ]
              refine held_take (i := 7) (d := (some 62)) (v := ?_) rfl rfl (by kernel_rfl) (by kernel_rfl) (by kernel_rfl) (fun _ _ _ h => h) (Or.inl ⟨by rfl, ?_⟩) (by first | assumption | rfl | trivial) ?_
              rotate_left 1
              · (intro w hSw; (try dsimp only at hSw); (try subst hSw); go_simp; try with_reducible rfl)
              simp only [Act.put, List.setIfInBounds_toArray, List.set_cons_zero, List.set_cons_succ]
              refine held_take (i := 8) (d := (some 63)) (v := ?_) rfl rfl (by kernel_rfl) (by kernel_rfl) (by kernel_rfl) (fun _ _ _ h => h) (Or.inl ⟨by rfl, ?_⟩) (by first | assumption | rfl | trivial) ?_
              rotate_left 1
              · (intro w hSw; (try dsimp only at hSw); (try subst hSw); go_simp; try with_reducible rfl)
              simp only [Act.put, List.setIfInBounds_toArray, List.set_cons_zero, List.set_cons_succ]
              refine held_pair (i := 4) (j := 9) (by kernel_rfl) rfl (by rfl) rfl (by rfl) (fun K1 hK1 => ?_) (fun K1 hK1 => ?_)
              · go_simp
                refine hK1.out _ _ z0 ?_
                clear hK1
                refine held_next (i := 9) (by kernel_rfl) rfl (by rfl) (fun K1 hK1 => ?_)
                refine wp_app_b0 (w := v2.drew) _ _ rfl rfl ya yn yc d rfl RD2.out HYC.out HYN ?_
                intro xa xc w6 ox b6
                have B6 : Hid (Below v2.heap.size v2 w6) := (Below.refl _ _).drew.trans b6
                have OX : Hid (OwnB w6 v2.heap.size xa yn xc d) := ox
                have BA6 : Hid (Below w.heap.size w w6) := BVV.out.trans (B6.out.mono BVV.out.size)
                have S6 := hide (KD.out _ BA6.out)
                have L6 : w6.cell? ⟨gx, 0, none⟩ = some (.slice bf k cg) := (B6.out.cell (p := ⟨gx, 0, none⟩) (World.block_lt_of_cell? v2 _ y0)).trans y0
                obtain ⟨g6, hg6⟩ : ∃ g6, Hid (w6.heap.size = g6) := ⟨_, rfl⟩
                obtain ⟨w7, hw7⟩ : ∃ w7, Hid (w6.alloc (.cells #[.slice xa yn xc, .slice none 0 0] 83) = w7) := ⟨_, rfl⟩
                have BA7 : Hid (Below w.heap.size w w7) := by rw [← hw7.out]; exact BA6.out.alloc BA6.out.size _
                have S7 := hide (KD.out _ BA7.out)
                have L7 : w7.cell? ⟨gx, 0, none⟩ = some (.slice bf k cg) := by
                  have h1 : Below w6.heap.size w6 w7 := by rw [← hw7.out]; exact (Below.refl _ _).alloc (Nat.le_refl _) _
                  exact (h1.cell (p := ⟨gx, 0, none⟩) (World.block_lt_of_cell? w6 _ L6)).trans L6
                have OF7 : Hid (OwnF w7 0 bf k cg hx) := by rw [← hw7.out]; exact (OwnG.below OF.out B6.out (Nat.le_refl _)).alloc _
                have NC7 : Hid (∀ j u, (fiV ((xa, yn, xc), (none, 0, 0)))[j]? = some u → w7.cell? ((⟨g6, 0, none⟩ : Addr).add j) = some u) := by rw [← hw7.out, ← hg6.out]; exact fi_cells w6 ((xa, yn, xc), (none, 0, 0)) _
                clear ox b6
                go_simp
                refine hK1.out _ _ S6.out ?_
                clear hK1
                refine held_take (i := 10) (d := (some 65)) (v := ?_) rfl rfl (by kernel_rfl) (by kernel_rfl) (by kernel_rfl) (fun _ _ _ h => h) (Or.inl ⟨by rfl, ?_⟩) (by first | assumption | rfl | trivial) ?_
                rotate_left 1
                · (intro w hSw; (try dsimp only at hSw); (try subst hSw); go_simp; try with_reducible rfl)
                simp only [Act.put, List.setIfInBounds_toArray, List.set_cons_zero, List.set_cons_succ]
                refine held_next (i := 11) (by kernel_rfl) rfl (by rfl) (fun K1 hK1 => ?_)
                go_simp
                rw [hw7.out, hg6.out]
                refine hK1.out _ _ S7.out ?_
                clear hK1
                refine held_next (i := 12) (by kernel_rfl) rfl (by rfl) (fun K1 hK1 => ?_)
                refine wp_append_lies _ (.tmp 59) (.tmp 66) 27 rfl 0 83 i1 (.agg #[.slice none 0 0, .slice none 0 0]) 2 48 Tryz.underlying27 hi1 hz10 hz11 hz12 rfl (by decide) (.slice bf k cg) k (hx.flatMap fiV) rfl OF7.out ⟨g6, 0, none⟩ 1 1 (fiV ((xa, yn, xc), (none, 0, 0))) rfl rfl NC7.out (fiV_one1 _) (by omega) (by unfold maxLen; omega) (by omega) (Nat.zero_le _) _ rfl ?_
                intro gC cC wC oC grC atC ltC
                rw [← hw7.out] at grC atC
                obtain ⟨MC, u2, u3, BC⟩ := HFUP.out w6 xa yn xc gC cC wC B6.out OX.out oC grC atC
                have S8 := hide (KD.out _ BC.out)
                have S9 := hide (KD.out _ MC.out.1)
                clear oC grC atC ltC HFUP
                go_simp
                refine hK1.out _ _ S8.out ?_
                clear hK1
                refine held_take (i := 13) (d := (some 68)) (v := ?_) rfl rfl (by kernel_rfl) (by kernel_rfl) (by kernel_rfl) (fun _ _ _ h => h) (Or.inl ⟨by rfl, ?_⟩) (by first | assumption | rfl | trivial) ?_
                rotate_left 1
                · (intro w hSw; (try dsimp only at hSw); (try subst hSw); go_simp; try with_reducible rfl)
                simp only [Act.put, List.setIfInBounds_toArray, List.set_cons_zero, List.set_cons_succ]
                refine held_take (i := 14) (d := (some 69)) (v := ?_) rfl rfl (by kernel_rfl) (by kernel_rfl) (by kernel_rfl) (fun _ _ _ h => h) (Or.inl ⟨by rfl, ?_⟩) (by first | assumption | rfl | trivial) ?_
                rotate_left 1
                · (intro w hSw; (try dsimp only at hSw); (try subst hSw); go_simp; try with_reducible rfl)
                simp only [Act.put, List.setIfInBounds_toArray, List.set_cons_zero, List.set_cons_succ]
                refine held_next (i := 15) (by kernel_rfl) rfl (by rfl) (fun K1 hK1 => ?_)
                go_simp
                refine hK1.out _ _ S9.out ?_
                clear hK1 hHeld
                refine wpAnyH_done (by kernel_rfl) ?_ _
                go_wp2
                go_roundw
                case rel => exact ⟨k + 1, by omega, by go_num, HA2, MC⟩
                case measure => simp [intOf]; omega
              · skip
                refine wp_app_b0 (w := v2.drew) _ _ rfl rfl ya yn yc d rfl RD2.out HYC.out HYN ?_
                intro xa xc w6 ox b6
                have B6 : Hid (Below v2.heap.size v2 w6) := (Below.refl _ _).drew.trans b6
                have OX : Hid (OwnB w6 v2.heap.size xa yn xc d) := ox
                have BA6 : Hid (Below w.heap.size w w6) := BVV.out.trans (B6.out.mono BVV.out.size)
                have S6 := hide (KD.out _ BA6.out)
                have L6 : w6.cell? ⟨gx, 0, none⟩ = some (.slice bf k cg) := (B6.out.cell (p := ⟨gx, 0, none⟩) (World.block_lt_of_cell? v2 _ y0)).trans y0
                obtain ⟨g6, hg6⟩ : ∃ g6, Hid (w6.heap.size = g6) := ⟨_, rfl⟩
                obtain ⟨w7, hw7⟩ : ∃ w7, Hid (w6.alloc (.cells #[.slice xa yn xc, .slice none 0 0] 83) = w7) := ⟨_, rfl⟩
                have BA7 : Hid (Below w.heap.size w w7) := by rw [← hw7.out]; exact BA6.out.alloc BA6.out.size _
                have S7 := hide (KD.out _ BA7.out)
                have L7 : w7.cell? ⟨gx, 0, none⟩ = some (.slice bf k cg) := by
                  have h1 : Below w6.heap.size w6 w7 := by rw [← hw7.out]; exact (Below.refl _ _).alloc (Nat.le_refl _) _
                  exact (h1.cell (p := ⟨gx, 0, none⟩) (World.block_lt_of_cell? w6 _ L6)).trans L6
                have OF7 : Hid (OwnF w7 0 bf k cg hx) := by rw [← hw7.out]; exact (OwnG.below OF.out B6.out (Nat.le_refl _)).alloc _
                have NC7 : Hid (∀ j u, (fiV ((xa, yn, xc), (none, 0, 0)))[j]? = some u → w7.cell? ((⟨g6, 0, none⟩ : Addr).add j) = some u) := by rw [← hw7.out, ← hg6.out]; exact fi_cells w6 ((xa, yn, xc), (none, 0, 0)) _
                clear ox b6
                go_simp
                refine hK1.out _ _ S6.out ?_
                clear hK1
                refine held_take (i := 10) (d := (some 65)) (v := ?_) rfl rfl (by kernel_rfl) (by kernel_rfl) (by kernel_rfl) (fun _ _ _ h => h) (Or.inl ⟨by rfl, ?_⟩) (by first | assumption | rfl | trivial) ?_
                rotate_left 1
                · (intro w hSw; (try dsimp only at hSw); (try subst hSw); go_simp; try with_reducible rfl)
                simp only [Act.put, List.setIfInBounds_toArray, List.set_cons_zero, List.set_cons_succ]
                refine held_pair (i := 4) (j := 11) (by kernel_rfl) rfl (by rfl) rfl (by rfl) (fun K1 hK1 => ?_) (fun K1 hK1 => ?_)
                · go_simp
                  refine hK1.out _ _ S6.out ?_
                  clear hK1
                  refine held_next (i := 11) (by kernel_rfl) rfl (by rfl) (fun K1 hK1 => ?_)
                  go_simp
                  rw [hw7.out, hg6.out]
                  refine hK1.out _ _ S7.out ?_
                  clear hK1
                  refine held_next (i := 12) (by kernel_rfl) rfl (by rfl) (fun K1 hK1 => ?_)
                  refine wp_append_lies _ (.tmp 59) (.tmp 66) 27 rfl 0 83 i1 (.agg #[.slice none 0 0, .slice none 0 0]) 2 48 Tryz.underlying27 hi1 hz10 hz11 hz12 rfl (by decide) (.slice bf k cg) k (hx.flatMap fiV) rfl OF7.out ⟨g6, 0, none⟩ 1 1 (fiV ((xa, yn, xc), (none, 0, 0))) rfl rfl NC7.out (fiV_one1 _) (by omega) (by unfold maxLen; omega) (by omega) (Nat.zero_le _) _ rfl ?_
                  intro gC cC wC oC grC atC ltC
                  rw [← hw7.out] at grC atC
                  obtain ⟨MC, u2, u3, BC⟩ := HFUP.out w6 xa yn xc gC cC wC B6.out OX.out oC grC atC
                  have S8 := hide (KD.out _ BC.out)
                  have S9 := hide (KD.out _ MC.out.1)
                  clear oC grC atC ltC HFUP
                  go_simp
                  refine hK1.out _ _ S8.out ?_
                  clear hK1
                  refine held_take (i := 13) (d := (some 68)) (v := ?_) rfl rfl (by kernel_rfl) (by kernel_rfl) (by kernel_rfl) (fun _ _ _ h => h) (Or.inl ⟨by rfl, ?_⟩) (by first | assumption | rfl | trivial) ?_
                  rotate_left 1
                  · (intro w hSw; (try dsimp only at hSw); (try subst hSw); go_simp; try with_reducible rfl)
                  simp only [Act.put, List.setIfInBounds_toArray, List.set_cons_zero, List.set_cons_succ]
                  refine held_take (i := 14) (d := (some 69)) (v := ?_) rfl rfl (by kernel_rfl) (by kernel_rfl) (by kernel_rfl) (fun _ _ _ h => h) (Or.inl ⟨by rfl, ?_⟩) (by first | assumption | rfl | trivial) ?_
                  rotate_left 1
                  · (intro w hSw; (try dsimp only at hSw); (try subst hSw); go_simp; try with_reducible rfl)
                  simp only [Act.put, List.setIfInBounds_toArray, List.set_cons_zero, List.set_cons_succ]
                  refine held_next (i := 15) (by kernel_rfl) rfl (by rfl) (fun K1 hK1 => ?_)
                  go_simp
                  refine hK1.out _ _ S9.out ?_
                  clear hK1 hHeld
                  refine wpAnyH_done (by kernel_rfl) ?_ _
                  go_wp2
                  go_roundw
                  case rel => exact ⟨k + 1, by omega, by go_num, HA2, MC⟩
                  case measure => simp [intOf]; omega
                · go_simp
                  rw [hw7.out, hg6.out]
                  refine hK1.out _ _ S7.out ?_
                  clear hK1
                  refine held_next (i := 4) (by kernel_rfl) rfl (by rfl) (fun K1 hK1 => ?_)
                  go_simp
                  refine hK1.out _ _ S7.out ?_
                  clear hK1
                  refine held_next (i := 12) (by kernel_rfl) rfl (by rfl) (fun K1 hK1 => ?_)
                  refine wp_append_lies _ (.tmp 59) (.tmp 66) 27 rfl 0 83 i1 (.agg #[.slice none 0 0, .slice none 0 0]) 2 48 Tryz.underlying27 hi1 hz10 hz11 hz12 rfl (by decide) (.slice bf k cg) k (hx.flatMap fiV) rfl OF7.out ⟨g6, 0, none⟩ 1 1 (fiV ((xa, yn, xc), (none, 0, 0))) rfl rfl NC7.out (fiV_one1 _) (by omega) (by unfold maxLen; omega) (by omega) (Nat.zero_le _) _ rfl ?_
                  intro gC cC wC oC grC atC ltC
                  rw [← hw7.out] at grC atC
                  obtain ⟨MC, u2, u3, BC⟩ := HFUP.out w6 xa yn xc gC cC wC B6.out OX.out oC grC atC
                  have S8 := hide (KD.out _ BC.out)
                  have S9 := hide (KD.out _ MC.out.1)
                  clear oC grC atC ltC HFUP
                  go_simp
                  refine hK1.out _ _ S8.out ?_
                  clear hK1
                  refine held_take (i := 13) (d := (some 68)) (v := ?_) rfl rfl (by kernel_rfl) (by kernel_rfl) (by kernel_rfl) (fun _ _ _ h => h) (Or.inl ⟨by rfl, ?_⟩) (by first | assumption | rfl | trivial) ?_
                  rotate_left 1
                  · (intro w hSw; (try dsimp only at hSw); (try subst hSw); go_simp; try with_reducible rfl)
                  simp only [Act.put, List.setIfInBounds_toArray, List.set_cons_zero, List.set_cons_succ]
                  refine held_take (i := 14) (d := (some 69)) (v := ?_) rfl rfl (by kernel_rfl) (by kernel_rfl) (by kernel_rfl) (fun _ _ _ h => h) (Or.inl ⟨by rfl, ?_⟩) (by first | assumption | rfl | trivial) ?_
                  rotate_left 1
                  · (intro w hSw; (try dsimp only at hSw); (try subst hSw); go_simp; try with_reducible rfl)
                  simp only [Act.put, List.setIfInBounds_toArray, List.set_cons_zero, List.set_cons_succ]
                  refine held_next (i := 15) (by kernel_rfl) rfl (by rfl) (fun K1 hK1 => ?_)
                  go_simp
                  refine hK1.out _ _ S9.out ?_
                  clear hK1 hHeld
                  refine wpAnyH_done (by kernel_rfl) ?_ _
                  go_wp2
                  go_roundw
                  case rel => exact ⟨k + 1, by omega, by go_num, HA2, MC⟩
                  case measure => simp [intOf]; omega
      · obtain rfl : k = n := by omega
        have HAN : Hid (areN ns) := by
          have := HA.out
          rwa [List.take_of_length_le (by rw [HLN.out]; exact Nat.le_refl _)] at this
        have i2' : ¬ (k : Int) < (k : Int) := by omega
        by_cases hb1 : 1024 < k
        · have d1 : (1024 : Int) < (k : Int) := by omega
          have HE := hide (BIG.out HAN.out (Or.inl hb1))
          have BE := hide HM.out.1
          clear HM HA
          go_wp2
          refine bodyPost_ret (v := .tuple #[.pointer none, .int .i64 2]) (by simp [results, Tryz.results12, go_sem]) rfl ?_
          exact laidV_none HE.out BE.out
        · have d1 : ¬ (1024 : Int) < (k : Int) := by omega
          have HB1 := hide hb1
          clear hb1 HA
          go_wp2
          go_loopw [8] (fun x wr => ∃ j : Nat, j ≤ k ∧ x = .int .i64 (j : Int) ∧ Hid (∀ b ∈ ds.take j, b.length ≤ 1073741824) ∧ Hid (wr = v)) (fun x _ => k - (intOf x).toNat)
          case atStart => exact ⟨0, by omega, rfl, fun b hb => by simp at hb, rfl⟩
          case round =>
            obtain ⟨j, hj, rfl, HS, HW⟩ := hrel
            rw [HW.out]
            clear HW
            by_cases hltj : j < k
            · obtain ⟨db, doff, y, d, hda, hdc, hd, hdr, hdc1, hdc2⟩ := HR2.out.at' hltj
              subst hda
              obtain ⟨ya, yn, yc⟩ := y
              dsimp only at hdc hdr
              have e0 : v.cell? ⟨db, doff + j, none⟩ = some (.slice ya yn yc) := (HM.out.1.cell (p := ⟨db, doff + j, none⟩) (World.block_lt_of_cell? w _ hdc)).trans hdc
              have hyl := hdr.1
              have HDM := hide (List.mem_of_getElem? hd)
              have HTJ : Hid (ds.take (j + 1) = ds.take j ++ [d]) := by
                obtain ⟨h1, e1⟩ := List.getElem?_eq_some_iff.1 hd
                show _ = _
                rw [List.take_succ_eq_append_getElem h1, e1]
              have HYB : yn ≤ 281474976710656 := hdr.2.1
              have j1 : (0 : Int) ≤ (j : Int) := by omega
              have j2 : (j : Int) < (k : Int) := by omega
              have wj : IntKind.i64.wrap ((j : Int) + 1) = ((j + 1 : Nat) : Int) := by rw [IntKind.wrap_i64]; omega
              clear hdc hd hdr hdc1 hdc2
              by_cases hbg : 1073741824 < yn
              · have d2 : (1073741824 : Int) < (yn : Int) := by omega
                have HE := hide (BIG.out HAN.out (Or.inr ⟨d, HDM.out, by omega⟩))
                have BE := hide HM.out.1
                clear HM HDM hyl HS
                go_wp2
                refine bodyPost_ret (v := .tuple #[.pointer none, .int .i64 2]) (by simp [results, Tryz.results12, go_sem]) rfl ?_
                exact laidV_none HE.out BE.out
              · have d2 : ¬ (1073741824 : Int) < (yn : Int) := by omega
                have HS2 : Hid (∀ b ∈ ds.take (j + 1), b.length ≤ 1073741824) := by
                  rw [HTJ.out]
                  intro b hb
                  rcases List.mem_append.1 hb with h | h
                  · exact HS.out b h
                  · rw [List.mem_singleton.1 h]; omega
                clear HDM hyl HS HTJ
                go_wp2
                go_roundw
                case rel => exact ⟨j + 1, by omega, by go_num, HS2, by trivial⟩
                case measure => simp [intOf]; omega
            · obtain rfl : j = k := by omega
              have HE := hide (ALL.out HAN.out (fun h => by
                rcases h with h | ⟨b, hb, hlb⟩
                · exact HB1.out h
                · have := HS.out b (by rw [List.take_of_length_le (by rw [HLD.out]; exact Nat.le_refl _)]; exact hb)
                  omega))
              have HMD := hide (HM.out.made (GL.out j))
              have j2 : ¬ (j : Int) < (j : Int) := by omega
              clear HM HS
              go_wp2
              refine bodyPost_ret (v := .tuple #[.pointer (some ⟨gx, 0, none⟩), .int .i64 0]) (by simp [results, Tryz.results12, go_sem]) rfl ?_
              exact laidV_some HE.out HMD.out
  · have HE : Hid (laidF ns ds = (none, 1)) := by show _ = _; unfold laidF; rw [if_pos (by rw [hl, hl2]; exact hne)]
    have t0 : ((n : Int) != (n2 : Int)) = true := by simp; omega
    clear hr hr2 hne hl hl2
    go_enter Tryz.func12, Tryz.ntmps12
    go_wp2
    refine bodyPost_ret (v := .tuple #[.pointer none, .int .i64 1]) (by simp [results, Tryz.results12, go_sem]) rfl ?_
    exact laidV_none HE.out (Below.refl _ _)
end Go.Proofs.YthlkmjaflomflaaGreat
