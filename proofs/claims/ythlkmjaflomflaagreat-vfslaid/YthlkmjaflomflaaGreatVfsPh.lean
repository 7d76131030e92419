/-
  Statement VfsLaid: a contract, for every world; slices of bytes of the call's own that are written over.
  Conditions: the arguments are told.
-/
import Derived.Test.YthlkmjaflomflaaGreatVfsPf
import Derived.Test.YthlkmjaflomflaaGreatVfsDn
namespace Go.Proofs.YthlkmjaflomflaaGreat
open Go.RowKit Go.Maps
set_option maxRecDepth 20000
set_option linter.unusedVariables false

def hhV (h : H3) : List Value := [h3V h]
theorem hhV_len (h : H3) : (hhV h).length = 1 := rfl
theorem hhV_one1 (h : H3) : ∀ u ∈ hhV h, u.oneCell' = true := by
  intro u hu
  obtain rfl := List.mem_singleton.1 hu
  rfl
theorem Tryz.infoBB : (Tryz.prog.info? 33).map (fun i => (i.zero, i.size, i.bytes)) = some (some (.slice none 0 0), 1, 24) := by kernel_rfl
abbrev OwnH (w : World) (base : Nat) (a : Option Addr) (n cap : Nat) (l : List H3) : Prop := OwnG 33 1 hhV w base a n cap l
theorem hh_cells (w : World) (h : H3) (e : TypeId) : ∀ ad, (some (⟨w.heap.size, 0, none⟩ : Addr)) = some ad → ∀ j u, ([h].flatMap hhV)[j]? = some u → (w.alloc (.cells #[.slice h.1 h.2.1 h.2.2] e)).cell? (ad.add j) = some u := by
  intro ad ha j u hj
  obtain rfl := Option.some.inj ha
  match j, hj with
  | 0, hj => simp [hhV, h3V] at hj; subst hj; rw [Addr.add_lit, World.cell?_alloc_mark]; rfl
theorem flat_stM (l : List ByteArray) : l.flatMap stV = l.map Value.string := by
  induction l with
  | nil => rfl
  | cons x t ih => rw [List.flatMap_cons, ih]; rfl
theorem ownS_rowX {w : World} {base n c : Nat} {a : Option Addr} {ss : List ByteArray} (h : OwnS w base a n c ss) (hn : n ≤ 140737488355328) : RowX w a n ss := by
  refine ⟨OwnG.len stV_len (by decide) h, hn, ?_⟩
  by_cases h0 : n = 0
  · exact Or.inl h0
  · obtain ⟨g, rfl, -, -⟩ := OwnS.at' h (i := 0) (by omega)
    refine Or.inr ⟨g, 0, rfl, fun i hi => ?_⟩
    obtain ⟨g2, e, -, hc⟩ := OwnS.at' h hi
    obtain rfl : g = g2 := by simpa using e
    rw [Nat.zero_add]
    exact hc
theorem ownH_at {w : World} {base n c : Nat} {a : Option Addr} {hs : List H3} (h : OwnH w base a n c hs) {i : Nat} {x : H3} (hi : hs[i]? = some x) : ∃ g, a = some ⟨g, 0, none⟩ ∧ i < n ∧ n ≤ c ∧ w.cell? ⟨g, i, none⟩ = some (.slice x.1 x.2.1 x.2.2) := by
  obtain ⟨g, h1, h2, h3, h4⟩ := OwnG.at hhV_len (by decide) h hi
  have := h4 0 _ rfl
  rw [Nat.mul_one, Nat.add_zero] at this
  exact ⟨g, h1, h2, h3, this⟩
theorem ownH_rowBB {w : World} {base n c : Nat} {a : Option Addr} {hs : List H3} {ds : List (List Int)} (h : OwnH w base a n c hs) (hl : ds.length = n) (he : ∀ (i : Nat) (x : H3) (d : List Int), hs[i]? = some x → ds[i]? = some d → OwnB w base x.1 x.2.1 x.2.2 d ∧ x.2.1 ≤ 281474976710656 ∧ ∀ z ∈ d, 0 ≤ z ∧ z ≤ 255) : RowBB w a n hs ds := by
  have hl2 := OwnG.len hhV_len (by decide) h
  refine ⟨hl, hl2, ?_, fun i x d hi hd => ?_⟩
  · by_cases h0 : n = 0
    · exact Or.inl h0
    · obtain ⟨g, rfl, -, -, -⟩ := ownH_at h (i := 0) (List.getElem?_eq_getElem (show 0 < hs.length by omega))
      refine Or.inr ⟨g, 0, rfl, fun i x hi => ?_⟩
      obtain ⟨g2, e, -, -, hc⟩ := ownH_at h hi
      obtain rfl : g = g2 := by simpa using e
      rw [Nat.zero_add]
      exact hc
  · obtain ⟨q1, q2, q3⟩ := he i x d hi hd
    exact ⟨ownB_row q1 q2 q3, (OwnG.capped q1).1, fun e => ((OwnG.capped q1).2 e).2⟩
/-- A block of at least so many bytes. -/
def BlV (W : World) (x m : Nat) : Prop := ∃ cur, W.heap[x]? = some (.cells cur 5 (0, 0)) ∧ m ≤ cur.size
theorem BlV.cell {W : World} {x m : Nat} (b : BlV W x m) {i : Nat} (hi : i < m) : ∃ v, W.cell? ⟨x, i, none⟩ = some v := by
  obtain ⟨cur, h, hm⟩ := b
  rw [cell_of_row W x i _ _ _ h]
  exact ⟨_, Array.getElem?_eq_getElem (by omega)⟩
theorem BlV.fz {W : World} {x m : Nat} (b : BlV W x m) (i : Nat) : W.frozen? ⟨x, i, none⟩ = false := by
  obtain ⟨cur, h, _⟩ := b
  exact frozen_of_row W x i _ _ h
theorem BlV.set {W : World} {x m : Nat} (b : BlV W x m) (y i : Nat) (v : Value) : BlV (W.setCell ⟨y, i, none⟩ v) x m := by
  obtain ⟨cur, h, hm⟩ := b
  by_cases e : x = y
  · subst e
    exact ⟨_, heap_setCell_same W x i _ _ v h, by rw [Array.size_setIfInBounds]; exact hm⟩
  · exact ⟨cur, by rw [Below.heap_setCell W _ v x e]; exact h, hm⟩
theorem BlV.below {W W' : World} {x m : Nat} (b : BlV W x m) (h : Below W.heap.size W W') : BlV W' x m := by
  obtain ⟨cur, h1, hm⟩ := b
  exact ⟨cur, (h.block x (Array.getElem?_eq_some_iff.1 h1).1).trans h1, hm⟩
theorem BlV.of {W : World} {base n cap : Nat} {a : Option Addr} {d : List Int} (h : OwnB W base a n cap d) : n = 0 ∨ ∃ x, a = some ⟨x, 0, none⟩ ∧ base ≤ x ∧ BlV W x n := by
  unfold OwnB OwnG at h
  rcases h.2 with ⟨_, h1⟩ | ⟨g, c, cur, h1, h2, h3, h4, _, h6, _⟩
  · exact Or.inl h1
  · simp only [Value.slice.injEq, true_and] at h1
    obtain ⟨rfl, rfl⟩ := h1
    exact Or.inr ⟨g, rfl, h2, cur, h3, by rw [h6]; omega⟩
/-- Both file systems, and the slices that are written over: older than these. -/
def LdR (w u3 u : World) (a : Option Addr) (n c : Nat) (hs : List H3) (g h : Nat) (F : Fs) : Prop := OwnH u w.heap.size a n c hs ∧ (∀ (i : Nat) (x : H3), hs[i]? = some x → x.2.1 = 0 ∨ ∃ b, x.1 = some ⟨b, 0, none⟩ ∧ w.heap.size ≤ b ∧ b < u3.heap.size ∧ BlV u b x.2.1) ∧ ∃ S T, TwoA w.heap.size w u g h S T F F ∧ (∀ k, S k → u3.heap.size ≤ k) ∧ ∀ k, T k → u3.heap.size ≤ k
theorem LdR.two {w u3 u : World} {a : Option Addr} {n c : Nat} {hs : List H3} {g h : Nat} {F : Fs} (q : LdR w u3 u a n c hs g h F) : TwoV w.heap.size w u g h F F := by
  obtain ⟨q1, q2, S, T, q3, q4, q5⟩ := q
  exact ⟨S, T, q3⟩
theorem LdR.set {w u3 u : World} {a : Option Addr} {n c : Nat} {hs : List H3} {g h : Nat} {F : Fs} (q : LdR w u3 u a n c hs g h F) {b : Nat} (h1 : w.heap.size ≤ b) (h2 : b < u3.heap.size) {m : Nat} (h3 : BlV u b m) (i : Nat) (v : Value) : LdR w u3 (u.setCell ⟨b, i, none⟩ v) a n c hs g h F := by
  obtain ⟨q1, q2, S, T, q3, q4, q5⟩ := q
  have ct : CellsT u b 5 := by
    obtain ⟨cur, e, -⟩ := h3
    exact ⟨_, _, e⟩
  refine ⟨OwnG.ch q1 (ch_set u b i v) (fun g' hg' => (OwnG.cellsT q1 g' hg').1.ne ct (by decide)), fun j x hj => ?_, S, T, q3.keep (ch_set u b i v) (fun j hj e => by have := q4 j hj; omega) (fun j hj e => by have := q5 j hj; omega) (fun j e => by omega), q4, q5⟩
  rcases q2 j x hj with e | ⟨b', e1, e2, e3, e4⟩
  · exact Or.inl e
  · exact Or.inr ⟨b', e1, e2, e3, e4.set b i v⟩
theorem ldR_start {w u3 u4 u5 : World} {a : Option Addr} {n c : Nat} {hs : List H3} {ds : List (List Int)} {g h : Nat} {F : Fs} (o : OwnH u3 w.heap.size a n c hs) (hl : ds.length = n) (he : ∀ (i : Nat) (x : H3) (d : List Int), hs[i]? = some x → ds[i]? = some d → OwnB u3 w.heap.size x.1 x.2.1 x.2.2 d) (b : Below w.heap.size w u3) (m1 : MadeV LAt u3 u4 g F) (m2 : MadeV RAt u4 u5 h F) : LdR w u3 u5 a n c hs g h F := by
  obtain ⟨S, p1, p2, p3⟩ := m1
  obtain ⟨T, q1, q2, q3⟩ := m2
  have s1 := p3.size
  have s2 := q3.size
  have b35 : Below u3.heap.size u3 u5 := p3.trans (q3.mono s1)
  have hl2 := OwnG.len hhV_len (by decide) o
  refine ⟨OwnG.below o b35 (Nat.le_refl _), fun i x hi => ?_, S, T, ⟨p1.below q3, q1, fun k hk => Nat.le_trans b.size (p2 k hk), fun k hk => by have := q2 k hk; have := b.size; omega, fun k hk ht => ?_, b.trans (b35.mono b.size), by have := b.size; omega⟩, p2, fun k hk => by have := q2 k hk; omega⟩
  · have hil := (List.getElem?_eq_some_iff.1 hi).1
    have ob := he i x _ hi (List.getElem?_eq_getElem (show i < ds.length by omega))
    rcases BlV.of ob with e | ⟨bb, e1, e2, e3⟩
    · exact Or.inl e
    · refine Or.inr ⟨bb, e1, e2, ?_, e3.below b35⟩
      obtain ⟨cur, e4, -⟩ := e3
      exact (Array.getElem?_eq_some_iff.1 e4).1
  · have h1 := p1.lt k hk
    have h2 := q2 k ht
    omega
theorem laidF_lim {ns : List ByteArray} {ds : List (List Int)} {F : Fs} {z : Int} (h : laidF ns ds = (some F, z)) (hn : ns.length ≤ 1100) (hd : ds.length ≤ 1100) (hb : ∀ b ∈ ds, b.length ≤ 2000) : LimB 2000 F := by
  unfold laidF at h
  split at h
  · simp at h
  · split at h
    · simp at h
    · split at h
      · simp at h
      · simp at h
        obtain ⟨rfl, -⟩ := h
        refine ⟨by simp; omega, by simp [fs0]; omega, fun x hx => ?_, by simp [fs0]⟩
        obtain ⟨b, hb2, rfl⟩ := List.mem_map.1 hx
        have := hb b hb2
        simpa using this

set_option maxHeartbeats 16000000 in
theorem laid_walk (a : Option Addr) (n c : Nat) (ss : List ByteArray) (a2 : Option Addr) (n2 c2 : Nat) (z : List H3 × List (List Int)) (a3 : Option Addr) (n3 c3 : Nat) (xs : List OpV) (w : World) (h1 : IsTextsZ w a n c ss) (h2 : IsBB w a2 n2 c2 z) (h3 : IsOpsV w a3 n3 c3 xs) :
    Calls Tryz.prog 4 #[.slice a n c, .slice a2 n2 c2, .slice a3 n3 c3] w fun e w' => e = .returned (.bool true) ∧ Below w.heap.size w w' := by
  obtain ⟨i1, hi1, hz10, hz11, hz12⟩ := info_parts Tryz.infoBB
  obtain ⟨i2, hi2, hz20, hz21, hz22⟩ := info_parts Tryz.infoS16
  have RX := hide (textsF_of h1.1)
  have SZ : Hid (∀ s ∈ ss.take n, s.size ≤ maxLen) := fun s hs => h1.2 s (List.mem_of_mem_take hs)
  have hac : a = none → n = 0 ∧ c = 0 := fun e => by
    rcases h1.1.2 with ⟨-, q1, q2, -⟩ | ⟨x, q, -⟩
    · exact ⟨q1, q2⟩
    · rw [e] at q; cases q
  have HAC := hide hac
  obtain ⟨ns, hns⟩ : ∃ ns, ss.take n = ns := ⟨_, rfl⟩
  rw [hns] at RX SZ
  obtain ⟨hs0, ds⟩ := z
  obtain ⟨-, -, -, hbb⟩ := h2
  dsimp only at hbb
  have BB := hide hbb
  obtain ⟨-, -, -, hro⟩ := h3
  have RO := hide hro
  have HNL := hide RX.out.1
  have HDL := hide hbb.len
  clear h1 hbb hro hns hac
  by_cases hbig : 1100 < n ∨ 1100 < n2
  · have HB := hide hbig
    by_cases hb1 : 1100 < n
    · have d1 : (1100 : Int) < (n : Int) := by omega
      have d2 : decide ((1100 : Int) < (n : Int)) = true := decide_eq_true d1
      have d3 : decide (1100 < n) = true := decide_eq_true hb1
      clear hbig
      go_enter Tryz.func4, Tryz.ntmps4
      go_wp2_with fail
      with_reducible refine (awakeV_any _).mono ?_
      rintro e u0 ⟨rfl, b0⟩
      have B0 := hide b0
      clear b0
      go_wp2_with fail
      with_reducible refine (awakeV_any _).mono ?_
      rintro e u1 ⟨rfl, b1⟩
      have B1 := hide (bel_to B0.out (Nat.le_refl _) b1)
      clear b1 B0
      go_wp2
      go_ret
      exact ⟨rfl, B1.out⟩
    · have d1 : ¬ (1100 : Int) < (n : Int) := by omega
      have d2 : decide ((1100 : Int) < (n : Int)) = false := decide_eq_false d1
      have d3 : decide (1100 < n) = false := decide_eq_false hb1
      have e1 : (1100 : Int) < (n2 : Int) := by omega
      have e2 : decide ((1100 : Int) < (n2 : Int)) = true := decide_eq_true e1
      have e3 : decide (1100 < n2) = true := decide_eq_true (by omega)
      clear hbig
      go_enter Tryz.func4, Tryz.ntmps4
      go_wp2_with fail
      with_reducible refine (awakeV_any _).mono ?_
      rintro e u0 ⟨rfl, b0⟩
      have B0 := hide b0
      clear b0
      go_wp2_with fail
      with_reducible refine (awakeV_any _).mono ?_
      rintro e u1 ⟨rfl, b1⟩
      have B1 := hide (bel_to B0.out (Nat.le_refl _) b1)
      clear b1 B0
      go_wp2
      go_ret
      exact ⟨rfl, B1.out⟩
  · have hb1 : n ≤ 1100 := by omega
    have hb2 : n2 ≤ 1100 := by omega
    have d1 : ¬ (1100 : Int) < (n : Int) := by omega
    have d2 : decide ((1100 : Int) < (n : Int)) = false := decide_eq_false d1
    have d3 : decide (1100 < n) = false := decide_eq_false (by omega)
    have e1 : ¬ (1100 : Int) < (n2 : Int) := by omega
    have e2 : decide ((1100 : Int) < (n2 : Int)) = false := decide_eq_false e1
    have e3 : decide (1100 < n2) = false := decide_eq_false (by omega)
    clear hbig
    go_enter Tryz.func4, Tryz.ntmps4
    go_wp2_with fail
    with_reducible refine (awakeV_any _).mono ?_
    rintro e u0 ⟨rfl, b0⟩
    have B0 := hide b0
    clear b0
    go_wp2
    go_loopw [7] (fun x wr => ∃ k : Nat, k ≤ n2 ∧ x = .int .i64 (k : Int) ∧ Hid (∀ b ∈ ds.take k, b.length ≤ 2000) ∧ Hid (Below w.heap.size w wr)) (fun x _ => n2 - (intOf x).toNat)
    case atStart => exact ⟨0, by omega, rfl, fun b hb => by simp at hb, B0.out⟩
    case round =>
      clear B0
      obtain ⟨k, hk, rfl, HS, HW⟩ := hrel
      obtain ⟨v, rfl⟩ : ∃ v, v = wr := ⟨wr, rfl⟩
      by_cases hlt : k < n2
      · obtain ⟨db, doff, y, d, hda, hdc, hd, hdr, -, -⟩ := (BB.out.below HW.out (Nat.le_refl _)).at' hlt
        subst hda
        obtain ⟨ya, yn, yc⟩ := y
        dsimp only at hdc hdr
        have hyl := hdr.1
        have HTJ : Hid (ds.take (k + 1) = ds.take k ++ [d]) := by
          obtain ⟨h1, e1⟩ := List.getElem?_eq_some_iff.1 hd
          show _ = _
          rw [List.take_succ_eq_append_getElem h1, e1]
        have j1 : (0 : Int) ≤ (k : Int) := by omega
        have j2 : (k : Int) < (n2 : Int) := by omega
        have wj : IntKind.i64.wrap ((k : Int) + 1) = ((k + 1 : Nat) : Int) := by rw [IntKind.wrap_i64]; omega
        clear hd hdr
        by_cases hbg : 2000 < yn
        · have f1 : (2000 : Int) < (yn : Int) := by omega
          clear hyl HS
          go_wp2
          go_ret
          exact ⟨rfl, HW.out⟩
        · have f1 : ¬ (2000 : Int) < (yn : Int) := by omega
          have HS2 : Hid (∀ b ∈ ds.take (k + 1), b.length ≤ 2000) := by
            rw [HTJ.out]
            intro b hb
            rcases List.mem_append.1 hb with h | h
            · exact HS.out b h
            · rw [List.mem_singleton.1 h]; omega
          clear hyl HS HTJ
          go_wp2
          go_roundw
          case rel => exact ⟨k + 1, by omega, by go_num, HS2, HW⟩
          case measure => simp [intOf]; omega
      · obtain rfl : k = n2 := by omega
        have HSM : Hid (∀ b ∈ ds, b.length ≤ 2000) := by
          have := HS.out
          rwa [List.take_of_length_le (by rw [HDL.out]; exact Nat.le_refl _)] at this
        have j2 : ¬ (k : Int) < (k : Int) := by omega
        clear HS
        go_wp2
        go_loopw [8, 9] (fun x y wr => ∃ (j : Nat) (ad : Option Addr) (cd : Nat) (hs : List H3), j ≤ k ∧ y = .int .i64 (j : Int) ∧ x = .slice ad j cd ∧ Hid (OwnH wr w.heap.size ad j cd hs) ∧ Hid (∀ (i : Nat) (x : H3) (d : List Int), hs[i]? = some x → ds[i]? = some d → OwnB wr w.heap.size x.1 x.2.1 x.2.2 d ∧ x.2.1 ≤ 2000) ∧ Hid (Below w.heap.size w wr)) (fun _ y _ => k - (intOf y).toNat)
        case atStart => exact ⟨0, none, 0, [], by omega, rfl, rfl, ownG_nil _ _, fun i x d hi => by simp at hi, HW.out⟩
        case round =>
          clear HW
          obtain ⟨j, ad, cd, hs, hj, rfl, rfl, HO, HE, HW⟩ := hrel
          obtain ⟨v, rfl⟩ : ∃ v, v = wr := ⟨wr, rfl⟩
          by_cases hlt : j < k
          · obtain ⟨db, doff, y, d, hda, hdc, hd, hdr, hdc1, hdc2⟩ := (BB.out.below HW.out (Nat.le_refl _)).at' hlt
            subst hda
            obtain ⟨ya, yn, yc⟩ := y
            dsimp only at hdc hdr hdc1 hdc2
            have HDD := hide hd
            have hyl := hdr.1
            have hyn : yn ≤ 2000 := by have := HSM.out d (List.mem_of_getElem? hd); omega
            have BY := hide (bytes8_any ya yn yc d v hdr hdc2 (by omega))
            have HHL := hide (OwnG.len hhV_len (by decide) HO.out)
            have j1 : (0 : Int) ≤ (j : Int) := by omega
            have j3 : (j : Int) < (k : Int) := by omega
            have wj : IntKind.i64.wrap ((j : Int) + 1) = ((j + 1 : Nat) : Int) := by rw [IntKind.wrap_i64]; omega
            clear hd hdr hdc1 hdc2 hyl
            go_wp2_with fail
            with_reducible refine BY.out.mono ?_
            rintro e u1 ⟨xa, xc, rfl, ox, b1⟩
            have B1 := hide (bel_to HW.out (Nat.le_refl _) b1)
            have OX : Hid (OwnB u1 w.heap.size xa yn xc d) := OwnG.mono ox HW.out.size
            have O1 : Hid (OwnH u1 w.heap.size ad j cd hs) := OwnG.below HO.out b1 (Nat.le_refl _)
            have E1 : Hid (∀ (i : Nat) (x : H3) (d : List Int), hs[i]? = some x → ds[i]? = some d → OwnB u1 w.heap.size x.1 x.2.1 x.2.2 d ∧ x.2.1 ≤ 2000) := fun i x d hi hd => ⟨OwnG.below (HE.out i x d hi hd).1 b1 (Nat.le_refl _), (HE.out i x d hi hd).2⟩
            have NC := hide (hh_cells u1 (xa, yn, xc) 33)
            dsimp only at NC
            clear ox b1 BY HO HE HW hdc
            go_wp2_with (at_builtin; refine wpList_app_g hhV_len (by decide) hhV_one1 _ rfl _ _ 42 rfl w.heap.size i1 (.slice none 0 0) 24 Tryz.underlying42 hi1 hz10 hz11 hz12 rfl ad j cd hs rfl (OwnG.alloc O1.out _) (some ⟨u1.heap.size, 0, none⟩) 1 1 [(xa, yn, xc)] rfl rfl NC.out (fun h => by cases h) (by omega) (by omega) (by have := B1.out.size; simp; omega) ?_)
            intro a4 c4 w4 o4 g4
            have O4 := hide o4
            have KT : Hid (Ch (fun g => (Value.slice ad j cd).ownBlock = some g) u1 w4) := ((Ch.refl (fun g => (Value.slice ad j cd).ownBlock = some g) u1).alloc _).trans (Ch.grown g4)
            have B4 : Hid (Below w.heap.size w w4) := B1.out.trans (KT.out.below B1.out.size (fun g hg h => by have := (OwnG.cellsT O1.out g h).2; omega))
            have E4 : Hid (∀ (i : Nat) (x : H3) (d : List Int), (hs ++ [(xa, yn, xc)])[i]? = some x → ds[i]? = some d → OwnB w4 w.heap.size x.1 x.2.1 x.2.2 d ∧ x.2.1 ≤ 2000) := fun i x d' hi hd' => by
              have keep : ∀ (x : H3) (d : List Int), OwnB u1 w.heap.size x.1 x.2.1 x.2.2 d → OwnB w4 w.heap.size x.1 x.2.1 x.2.2 d := fun x d q => OwnG.ch q KT.out (fun b hb e => (OwnG.cellsT q b hb).1.ne (OwnG.cellsT O1.out b e).1 (by decide) rfl)
              by_cases hlt2 : i < hs.length
              · rw [List.getElem?_append_left hlt2] at hi
                exact ⟨keep _ _ (E1.out i x d' hi hd').1, (E1.out i x d' hi hd').2⟩
              · have hi2 := (List.getElem?_eq_some_iff.1 hi).1
                have e9 : i = hs.length := by simp at hi2; omega
                subst e9
                rw [List.getElem?_append_right (Nat.le_refl _), Nat.sub_self] at hi
                simp at hi
                subst hi
                rw [HHL.out, HDD.out] at hd'
                obtain rfl := Option.some.inj hd'
                exact ⟨keep (xa, yn, xc) _ OX.out, hyn⟩
            clear o4 g4 KT E1 O1 OX NC B1 HHL HDD
            go_wp2
            go_roundw
            case rel => exact ⟨j + 1, a4, c4, hs ++ [(xa, yn, xc)], by omega, by go_num, by rfl, O4.out, E4, B4⟩
            case measure => simp [intOf]; omega
          · obtain rfl : j = k := by omega
            have j4 : ¬ (j : Int) < (j : Int) := by omega
            have RV := hide (RX.out.below HW.out (Nat.le_refl _))
            have CX : Hid (∀ ad', a = some ad' → ∀ i u, (ns.flatMap stV)[i]? = some u → v.cell? (ad'.add i) = some u) := fun ad' e i u hi => by
              have q := RV.out
              rw [e] at q
              exact q.cells i u (by rw [← flat_stM]; exact hi)
            go_wp2_with (at_builtin; refine wpList_app_g stV_len (by decide) stV_one1 _ rfl _ _ 41 rfl v.heap.size i2 (.string .empty) 16 Tryz.underlying41 hi2 hz20 hz21 hz22 rfl none 0 0 [] rfl (ownG_nil _ _) a n c ns rfl HNL.out CX.out HAC.out (by omega) (by omega) (Nat.le_refl _) ?_)
            intro a5 c5 u3 o5 g5
            have O5 : Hid (OwnS u3 v.heap.size a5 n c5 ns) := by
              first
                | exact o5
                | (have := o5; simp only [Nat.zero_add, List.nil_append] at this; exact this)
            have B5 : Hid (Below v.heap.size v u3) := (Ch.grown g5).below (Nat.le_refl _) (fun g hg hh => by simp [Value.ownBlock] at hh)
            have B3 : Hid (Below w.heap.size w u3) := bel_to HW.out (Nat.le_refl _) B5.out
            have O3 : Hid (OwnH u3 w.heap.size ad j cd hs) := OwnG.below HO.out B5.out (Nat.le_refl _)
            have E3 : Hid (∀ (i : Nat) (x : H3) (d : List Int), hs[i]? = some x → ds[i]? = some d → OwnB u3 w.heap.size x.1 x.2.1 x.2.2 d ∧ x.2.1 ≤ 2000) := fun i x d hi hd => ⟨OwnG.below (HE.out i x d hi hd).1 B5.out (Nat.le_refl _), (HE.out i x d hi hd).2⟩
            have DBY : Hid (∀ d ∈ ds, ∀ z ∈ d, 0 ≤ z ∧ z ≤ 255) := fun d hd z hz => by
              obtain ⟨i, hi⟩ := List.mem_iff_getElem?.1 hd
              have hil := (List.getElem?_eq_some_iff.1 hi).1
              obtain ⟨-, -, x, d', -, -, q3, q4, -⟩ := BB.out.at' (k := i) (by have := HDL.out; omega)
              rw [hi] at q3
              obtain rfl := Option.some.inj q3
              exact q4.bytes z hz
            have R3 := hide (ownH_rowBB O3.out HDL.out (fun i x d hi hd => ⟨(E3.out i x d hi hd).1, by have := (E3.out i x d hi hd).2; omega, DBY.out d (List.mem_of_getElem? hd)⟩))
            have LL := hide (llaid_any a5 n c5 ns ad j cd hs ds u3 (ownS_rowX O5.out (by omega)) SZ.out R3.out (by omega) (by omega))
            have LR := hide (fun u (hu : Below w.heap.size w u) => rlaid_any a n c ns a2 j c2 hs0 ds u (RX.out.below hu (Nat.le_refl _)) SZ.out (BB.out.below hu (Nat.le_refl _)) (by omega) (by omega) (fun d hd => by have := HSM.out d hd; omega))
            have LIM := hide (fun F z (h : laidF ns ds = (some F, z)) => laidF_lim h (by rw [HNL.out]; exact hb1) (by rw [HDL.out]; exact hb2) HSM.out)
            clear o5 g5 HO HE O5 B5 HW R3 RV CX
            rcases hlf : laidF ns ds with ⟨_ | F, z0⟩
            · rw [hlf] at LL LR
              clear LIM O3 E3
              have t0 : (z0 != z0) = false := by simp
              go_wp2_with fail
              with_reducible refine LL.out.mono ?_
              rintro e u4 ⟨b4, rfl⟩
              have B4 := hide (bel_to B3.out (Nat.le_refl _) b4)
              clear b4 LL
              go_wp2_with fail
              with_reducible refine (LR.out _ B4.out).mono ?_
              rintro e u5 ⟨b5, rfl⟩
              have B5 := hide (bel_to B4.out (Nat.le_refl _) b5)
              clear b5 LR hlf
              go_wp2
              go_ret
              exact ⟨rfl, B5.out⟩
            · rw [hlf] at LL LR
              have HL0 := hide (LIM.out F z0 hlf)
              have t0 : (z0 != z0) = false := by simp
              go_wp2_with fail
              with_reducible refine LL.out.mono ?_
              rintro e u4 ⟨b4, gf, rfl, m4⟩
              have B4 := hide (bel_to B3.out (Nat.le_refl _) b4)
              have M4 := hide m4
              clear b4 m4 LL
              go_wp2_with fail
              with_reducible refine (LR.out _ B4.out).mono ?_
              rintro e u5 ⟨b5, hf, rfl, m5⟩
              have HD := hide (ldR_start O3.out HDL.out (fun i x d hi hd => (E3.out i x d hi hd).1) B3.out M4.out m5)
              have HHL := hide (OwnG.len hhV_len (by decide) O3.out)
              have HXN : Hid (∀ (i : Nat) (x : H3), hs[i]? = some x → x.2.1 ≤ 2000) := fun i x hi => by
                have h1 := (List.getElem?_eq_some_iff.1 hi).1
                have h2 := HHL.out
                exact (E3.out i x _ hi (List.getElem?_eq_getElem (show i < ds.length by have := HDL.out; omega))).2
              obtain ⟨N3, hN3⟩ : ∃ N3, u3.heap.size = N3 := ⟨_, rfl⟩
              have HN3 := hide hN3
              clear b5 m5 LR hlf M4 B4 B3 O3 E3 LIM DBY hN3
              go_wp2
              go_loopw [14] (fun y wr => ∃ i : Nat, i ≤ j ∧ y = .int .i64 (i : Int) ∧ Hid (LdR w u3 wr ad j cd hs gf hf F)) (fun y _ => j - (intOf y).toNat)
              case atStart => exact ⟨0, by omega, rfl, HD.out⟩
              case round =>
                clear HD
                obtain ⟨i, hi, rfl, HD⟩ := hrel
                obtain ⟨v, rfl⟩ : ∃ v, v = wr := ⟨wr, rfl⟩
                by_cases hlti : i < j
                · obtain ⟨⟨xa, xn, xc⟩, hx⟩ : ∃ x, hs[i]? = some x := ⟨_, List.getElem?_eq_getElem (by rw [HHL.out]; exact hlti)⟩
                  have HX := hide hx
                  have hxn : xn ≤ 2000 := HXN.out i _ hx
                  have s1 : (0 : Int) ≤ (i : Int) := by omega
                  have s2 : (i : Int) < (j : Int) := by omega
                  have wi : IntKind.i64.wrap ((i : Int) + 1) = ((i + 1 : Nat) : Int) := by rw [IntKind.wrap_i64]; omega
                  clear hx
                  go_wp2
                  go_loopw [15] (fun y wr => ∃ q : Nat, q ≤ xn ∧ y = .int .i64 (q : Int) ∧ Hid (LdR w u3 wr ad j cd hs gf hf F)) (fun y _ => xn - (intOf y).toNat)
                  case atStart => exact ⟨0, by omega, rfl, HD.out⟩
                  case round =>
                    clear HD
                    obtain ⟨q, hq, rfl, HD⟩ := hrel
                    obtain ⟨v, rfl⟩ : ∃ v, v = wr := ⟨wr, rfl⟩
                    obtain ⟨gd, hgd, -, hcd, c0⟩ := ownH_at HD.out.1 HX.out
                    subst hgd
                    dsimp only at c0
                    by_cases hltq : q < xn
                    · obtain ⟨bb, e1', e2', e3', e4'⟩ := (HD.out.2.1 i _ HX.out).resolve_left (by show ¬ xn = 0; omega)
                      dsimp only at e1' e4'
                      subst e1'
                      obtain ⟨vv, cv⟩ := e4'.cell hltq
                      have fz := e4'.fz q
                      have HST := hide (HD.out.set e2' e3' e4' q (.int .u8 9))
                      have r1 : (0 : Int) ≤ (q : Int) := by omega
                      have r2 : (q : Int) < (xn : Int) := by omega
                      have wq : IntKind.i64.wrap ((q : Int) + 1) = ((q + 1 : Nat) : Int) := by rw [IntKind.wrap_i64]; omega
                      clear HD e2' e3' e4'
                      go_wp2
                      go_roundw
                      case rel => exact ⟨q + 1, by omega, by go_num, HST⟩
                      case measure => simp [intOf]; omega
                    · obtain rfl : q = xn := by omega
                      have r2 : ¬ (q : Int) < (q : Int) := by omega
                      go_wp2
                      go_roundw
                      case rel => exact ⟨i + 1, by omega, by go_num, HD⟩
                      case measure => simp [intOf]; omega
                · obtain rfl : i = j := by omega
                  have s2 : ¬ (i : Int) < (i : Int) := by omega
                  have T2 := hide HD.out.two
                  have HL1 : Hid (LimB (2000 + 0 * 502) F) := HL0.out
                  clear HD HL0
                  go_wp2
                  go_loopw [10, 12, 16] (fun p q y wr => ∃ (k g h : Nat) (F : Fs), k ≤ n3 ∧ k ≤ 20 ∧ p = .pointer (some ⟨g, 0, none⟩) ∧ q = .pointer (some ⟨h, 0, none⟩) ∧ y = .int .i64 (k : Int) ∧ Hid (LimB (2000 + k * 502) F) ∧ Hid (TwoV w.heap.size w wr g h F F)) (fun _ _ y _ => 20 - (intOf y).toNat)
                  case atStart => exact ⟨0, gf, hf, F, by omega, by omega, rfl, rfl, rfl, HL1.out, T2.out⟩
                  case round =>
                    clear T2 HL1
                    obtain ⟨k, g, h, F, hk, hk7, rfl, rfl, rfl, HL, HT⟩ := hrel
                    obtain ⟨v, rfl⟩ : ∃ v, v = wr := ⟨wr, rfl⟩
                    by_cases hlt3 : k < n3
                    · by_cases hlt7 : k < 20
                      · obtain ⟨b, off, x, rfl, hx, hw, c0, c1, c2', c3', c4', c5'⟩ := (RO.out.below HT.out.bel (Nat.le_refl _)).at' hlt3
                        have HW : Hid (OpW w x) := RO.out.each x (List.mem_of_getElem? hx)
                        have r1 : (0 : Int) ≤ (k : Int) := by omega
                        have r2 : (k : Int) < (n3 : Int) := by omega
                        have r3 : (k : Int) < 20 := by omega
                        have p1 : decide ((k : Int) < (n3 : Int)) = true := decide_eq_true r2
                        have p2 : decide ((k : Int) < 20) = true := decide_eq_true r3
                        have p3 : decide (k < n3) = true := decide_eq_true hlt3
                        have hdl := HW.out.data.row.1
                        have wk : IntKind.i64.wrap ((k : Int) + 1) = ((k + 1 : Nat) : Int) := by rw [IntKind.wrap_i64]; omega
                        clear hx hw
                        by_cases hbg : 500 < x.d.2.1
                        · have f1 : (500 : Int) < (x.d.2.1 : Int) := by omega
                          have BE := hide HT.out.bel
                          clear HL HT hdl
                          go_wp2
                          go_ret
                          exact ⟨rfl, BE.out⟩
                        · have f1 : ¬ (500 : Int) < (x.d.2.1 : Int) := by omega
                          have DO := hide (do_any w v g h F F (2000 + k * 502) x HT.out HL.out HL.out (by omega) HW.out (by omega))
                          have HL2 := hide (opF_lim HL.out (callV x) (by show x.data.length ≤ 500; omega))
                          clear HL HT hdl
                          go_wp2_with fail
                          with_reducible refine DO.out.mono ?_
                          rintro e v1 ⟨g1, h1, rfl, t1, -⟩
                          rw [beq_self_eq_true] at *
                          have T1 := hide t1
                          have SM := hide (same_any w.heap.size w v1 g1 h1 (opF F (callV x)).1 (2000 + k * 502 + 502) t1 HL2.out (by omega))
                          obtain ⟨X, hX⟩ : ∃ X, (opF F (callV x)).1 = X := ⟨_, rfl⟩
                          rw [hX] at T1 HL2
                          clear t1 DO hX c0 c1 c2' c3' c4' c5'
                          go_wp2_with fail
                          with_reducible refine SM.out.mono ?_
                          rintro e v2 ⟨rfl, b2⟩
                          have T2 := hide (T1.out.below b2)
                          have HL3 : Hid (LimB (2000 + (k + 1) * 502) X) := by
                            have := HL2.out
                            rwa [show 2000 + k * 502 + 502 = 2000 + (k + 1) * 502 by omega] at this
                          clear b2 SM T1 HL2
                          go_wp2
                          go_roundw
                          case rel => exact ⟨k + 1, g1, h1, X, by omega, by omega, by rfl, by rfl, by go_num, HL3, T2⟩
                          case measure => simp [intOf]; omega
                      · obtain rfl : k = 20 := by omega
                        have r3 : ((20 : Nat) : Int) < (n3 : Int) := by omega
                        have r4 : (20 : Int) < (n3 : Int) := by omega
                        have p4 : decide ((20 : Int) < (n3 : Int)) = true := decide_eq_true r4
                        have p3 : decide (20 < n3) = true := decide_eq_true hlt3
                        have SM := hide (same_any w.heap.size w v g h F _ HT.out HL.out (by omega))
                        have BE := hide HT.out.bel
                        clear HL HT
                        go_wp2_with fail
                        with_reducible refine SM.out.mono ?_
                        rintro e v2 ⟨rfl, b2⟩
                        have BE2 := hide (bel_to BE.out (Nat.le_refl _) b2)
                        clear b2 SM BE
                        go_wp2
                        go_ret
                        exact ⟨rfl, BE2.out⟩
                    · obtain rfl : k = n3 := by omega
                      have r2 : ¬ (k : Int) < (k : Int) := by omega
                      have p1 : decide ((k : Int) < (k : Int)) = false := decide_eq_false r2
                      have p3 : decide (k < k) = false := decide_eq_false (by omega)
                      have SM := hide (same_any w.heap.size w v g h F _ HT.out HL.out (by omega))
                      have BE := hide HT.out.bel
                      clear HL HT
                      go_wp2_with fail
                      with_reducible refine SM.out.mono ?_
                      rintro e v2 ⟨rfl, b2⟩
                      have BE2 := hide (bel_to BE.out (Nat.le_refl _) b2)
                      clear b2 SM BE
                      go_wp2
                      go_ret
                      exact ⟨rfl, BE2.out⟩
end Go.Proofs.YthlkmjaflomflaaGreat
