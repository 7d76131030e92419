/-
  The document's Values: each value that sets have of a name, by bytes, and how many have it: a contract, for every world.
  Conditions: at most 5000 sets.
-/
import Derived.Test.YtpffhpnmbpjifaaIdxW
namespace Go.Proofs.Ytpffhpnmbpjifaa
open Go.RowKit
set_option maxRecDepth 20000

theorem slice_toV (a : Option Addr) (n cap k : Nat) (hk : k ≤ cap) (w : World) :
    (Instr.slice 44 (.slice a n cap) none (some (.int .i64 (k : Int))) none).run Try.prog w = .ok (.slice a k cap) w := by
  rw [run_slice_h (P := Try.prog) w 44 a n cap Try.underlying44 .i64 (k : Int) (by omega) (by omega)]
  have hs : (sizeOf (Try.prog.elem 44)).run Try.prog w = .ok 2 w := by kernel_rfl
  rw [hs]
  simp only [Result.andThen, sliced, Int.toNat_natCast, Nat.zero_mul, Nat.sub_zero]
  cases a with
  | none => simp
  | some x => simp [Addr.add]
theorem slice_fromV (a : Option Addr) (n cap k : Nat) (hk : k ≤ n) (w : World) :
    (Instr.slice 44 (.slice a n cap) (some (.int .i64 (k : Int))) none none).run Try.prog w = .ok (.slice (if cap = k then a else a.map (·.add (k * 2))) (n - k) (cap - k)) w := by
  rw [run_slice_l (P := Try.prog) w 44 a n cap Try.underlying44 .i64 (k : Int) (by omega) (by omega)]
  have hs : (sizeOf (Try.prog.elem 44)).run Try.prog w = .ok 2 w := by kernel_rfl
  rw [hs]
  simp only [Result.andThen, sliced, Int.toNat_natCast]
/-- The append of a part of such a row, of none too, behind one of the call's own. -/
theorem wpList_append_vals {P : Program} (w : World) {ops : Array Oper} {rest : List Oper} {o : Oper} {a : Act} {Q : Exit → Act → World → Prop} (hgd : o.guard = none) (s x : Operand) (t : TypeId)
    (ho : o.op = .call { callee := .builtin .append, args := #[s, x], argTypes := #[t, t] })
    (base : Nat) (i : TypeInfo) (ht : P.underlying t = some (.slice 52)) (hi : P.info? 52 = some i) (hz : i.zero = some (.agg #[.string .empty, .int .i64 0])) (hsize : i.size = 2) (hby : i.bytes = 24)
    (ao : Option Addr) (n cap : Nat) (l : List Vn) (hs : a.eval s = .slice ao n cap) (hown : OwnV w base ao n cap l)
    (bo : Option Addr) (m c : Nat) (news : List Vn) (hx : a.eval x = .slice bo m c) (hm : news.length = m) (hrow : ∀ ad, bo = some ad → ∀ j u, (flatV news)[j]? = some u → w.cell? (ad.add j) = some u) (hbo : bo = none → m = 0 ∧ c = 0)
    (hbytes : (n + m) * 24 ≤ 140737488355328) (hbase : base ≤ w.heap.size)
    (h : ∀ a' cap' w', OwnV w' base a' (n + m) cap' (l ++ news) → Below base w w' → Ch (fun k => (Value.slice ao n cap).ownBlock = some k) w w' → wpList P ops Q rest (a.put o.dst (.slice a' (n + m) cap')) w') : wpList P ops Q (o :: rest) a w := by
  cases bo with
  | none =>
    obtain ⟨rfl, rfl⟩ := hbo rfl
    have hz : news = [] := List.length_eq_zero_iff.1 hm
    subst hz
    refine wpList_append_own_none hgd s x t ho base 52 i 2 ht hi _ n (flatV l) hs hown hx ?_
    have := h ao cap w (by rw [List.append_nil]; exact hown) (Below.refl _ _) (Ch.refl _ _)
    exact this
  | some ad =>
    refine wpList_append_own w hgd s x t ho base 52 i (.agg #[.string .empty, .int .i64 0]) 2 24 ht hi hz hsize hby rfl (by decide) _ n (flatV l) hs hown ad m c (flatV news) hx (by rw [flatV_len, hm]) (hrow ad rfl) (flatV_one news) (by unfold maxLen; omega) hbytes hbase ?_
    intro v' w' h1 h2 _
    rw [← flatV_append] at h1
    obtain ⟨a', cap', rfl⟩ : ∃ a' cap', v' = .slice a' (n + m) cap' := by
      rcases h1.2 with ⟨rfl, e⟩ | ⟨g, cc, cur, rfl, _⟩
      · rw [e]; exact ⟨none, 0, rfl⟩
      · exact ⟨_, _, rfl⟩
    exact h a' cap' w' h1 ((Below.refl _ _).grown h2 hbase (fun k hk => (row_cells hown hk).2)) (Ch.grown h2)
theorem OwnV.cells {w : World} {base n cap : Nat} {ad : Addr} {l : List Vn} (h : OwnV w base (some ad) n cap l) (j : Nat) (u : Value) (hj : (flatV l)[j]? = some u) : w.cell? (ad.add j) = some u := by
  unfold OwnV at h
  rcases id h.2 with ⟨h1, _⟩ | ⟨g, c, cur, h1, _⟩
  · cases h1
  · simp only [Value.slice.injEq, Option.some.injEq, true_and] at h1
    obtain ⟨rfl, rfl⟩ := h1
    have hlt : j < (flatV l).length := (List.getElem?_eq_some_iff.1 hj).1
    have hl := h.1
    rw [Addr.add_lit, Nat.zero_add, h.cellAt j (by omega)]
    exact hj
theorem val_cells (w : World) (x : Vn) (e : TypeId) (j : Nat) (u : Value) (h : (flatV [x])[j]? = some u) : (w.alloc (.cells #[.string x.1, .int .i64 (x.2 : Int)] e)).cell? ((⟨w.heap.size, 0, none⟩ : Addr).add j) = some u := by
  rw [Addr.add_lit, World.cell?_alloc_mark]
  match j, h with
  | 0, h => simpa [flatV] using h
  | 1, h => simpa [flatV] using h

theorem insV_few {v : ByteArray} {l : List Vn} {c : Nat} (h : ∀ y ∈ l, y.2 ≤ c) : ∀ y ∈ insV v l, y.2 ≤ c + 1 := by
  induction l with
  | nil =>
    intro y hy
    simp [insV] at hy
    rw [hy]
    show 1 ≤ c + 1
    omega
  | cons x t ih =>
    have hx := h x (by simp)
    have ht := fun y (hy : y ∈ t) => h y (by simp [hy])
    intro y hy
    unfold insV at hy
    split at hy
    · rcases List.mem_cons.1 hy with e | e
      · rw [e]; omega
      · exact ih ht y e
    · split at hy
      · rcases List.mem_cons.1 hy with e | e
        · rw [e]; show x.2 + 1 ≤ c + 1; omega
        · have := ht y e; omega
      · rcases List.mem_cons.1 hy with e | e
        · rw [e]; show 1 ≤ c + 1; omega
        · have := h y e; omega
theorem valsX_few (L : Lx) (nm : ByteArray) : ∀ y ∈ valsX L nm, y.2 ≤ L.length := by
  have key : ∀ k, k ≤ L.length → ∀ y ∈ valsX (L.take k) nm, y.2 ≤ k := by
    intro k
    induction k with
    | zero => intro _ y hy; simp [valsX] at hy
    | succ k ih =>
      intro hk y hy
      have hx : L[k]? = some L[k] := List.getElem?_eq_getElem (by omega)
      rw [valsX_step hx] at hy
      unfold addV at hy
      split at hy
      · have := ih (by omega) y hy; omega
      · exact insV_few (ih (by omega)) y hy
  have := key L.length (Nat.le_refl _)
  rwa [List.take_length] at this
theorem OwnV.nil' {w : World} {base n cap : Nat} {l : List Vn} (h : OwnV w base none n cap l) : n = 0 ∧ cap = 0 := by
  unfold OwnV at h
  rcases h.2 with ⟨h1, h2⟩ | ⟨g, c, cur, h1, _⟩
  · simp only [Value.slice.injEq, true_and] at h1
    exact ⟨h2, h1.2⟩
  · simp at h1
theorem OwnV.capped {w : World} {base n cap : Nat} {a : Option Addr} {l : List Vn} (h : OwnV w base a n cap l) : n ≤ cap := by
  unfold OwnV at h
  rcases h.2 with ⟨h1, h2⟩ | ⟨g, c, cur, h1, _, _, h4, _⟩
  · omega
  · simp only [Value.slice.injEq, true_and] at h1
    obtain ⟨rfl, rfl⟩ := h1
    exact h4
theorem ba_none : (ByteArray.empty).toList = [] := by decide +kernel
set_option maxHeartbeats 8000000 in
theorem rvals_any (g : Nat) (S : Nat → Prop) (L : Lx) (nm : ByteArray) (w : World) (hX : XAt w g S L) (hL : L.length ≤ 5000) :
    Calls Try.prog 18 #[.pointer (some ⟨g, 0, none⟩), .string nm] w fun e w' => ∃ a n c, e = .returned (.slice a n c) ∧ OwnV w' w.heap.size a n c (valsX L nm) ∧ Below w.heap.size w w' := by
  obtain ⟨i0, hi, hz0, hz1, hz2⟩ := info_parts Try.infoV
  obtain ⟨ax, cx, hc, -, hat⟩ := hX.open'
  have HC := hide hc
  have HAT := hide hat
  obtain ⟨m, hm⟩ : ∃ m, Hid (L.length = m) := ⟨_, rfl⟩
  rw [hm.out] at HC HAT hL
  have HLN : Hid (∀ k, (valsX (L.take k) nm).length ≤ 5000) := fun k => by
    have h1 := len_valsX (L.take k) nm
    have h2 := hm.out
    rw [List.length_take] at h1
    omega
  clear hX hc hat
  go_enter Try.func18, Try.ntmps18
  go_wp2
  go_loopw [5, 6] (fun o i wr => ∃ (k : Nat) (ao : Option Addr) (M co : Nat), k ≤ m ∧ i = .int .i64 k ∧ o = .slice ao M co ∧ M ≤ 5000 ∧ Hid (OwnV wr w.heap.size ao M co (valsX (L.take k) nm)) ∧ Hid (Below w.heap.size w wr)) (fun _ i _ => m - (intOf i).toNat)
  case atStart => exact ⟨0, none, 0, 0, by omega, rfl, rfl, by omega, ownV_nil _ _, Below.refl _ _⟩
  case round =>
    obtain ⟨k, ao, M, co, hk, rfl, rfl, hM, OW, BW⟩ := hrel
    obtain ⟨u, rfl⟩ : ∃ u, u = wr := ⟨wr, rfl⟩
    have hcu : u.cell? ⟨g, 0, none⟩ = some (.slice ax m cx) := by
      rw [BW.out.cell (p := ⟨g, 0, none⟩) (World.block_lt_of_cell? w _ HC.out)]
      exact HC.out
    by_cases hlt : k < m
    · obtain ⟨b, a1, n1, c1, x, e, hx, q1, q2⟩ := HAT.out k hlt
      have g1 : u.cell? ⟨b, k, none⟩ = some (.slice a1 n1 c1) := by
        rw [BW.out.cell (p := ⟨b, k, none⟩) (World.block_lt_of_cell? w _ q1)]
        exact q1
      rw [e] at hcu
      have CM := hide (refval_any a1 n1 c1 x nm u (q2.1.below BW.out (Nat.le_refl _)))
      have ST := hide (valsX_step (nm := nm) hx)
      have i1 : (0 : Int) ≤ (k : Int) := by omega
      have i2 : (k : Int) < (m : Int) := by omega
      clear q1 q2 hx e
      generalize valL x nm = v at *
      go_wp2_with fail
      with_reducible refine CM.out.mono ?_
      rintro e v1 ⟨rfl, q⟩
      have B1 := hide (bel_to BW.out (Nat.le_refl _) (drewB q))
      have O1 := hide (OW.out.below (drewB q) (Nat.le_refl _))
      clear q CM g1 OW BW hcu
      by_cases hv : v = .empty
      · have t1 : (v.toList == (⟨#[]⟩ : ByteArray).toList) = true := by rw [ba_eq]; exact decide_eq_true hv
        have t2 : v.toList = [] := by rw [hv]; exact ba_none
        have t3 : v.toList.isEmpty = true := by rw [t2]; rfl
        have ST2 : Hid (valsX (L.take (k + 1)) nm = valsX (L.take k) nm) := by show _ = _; rw [ST.out]; unfold addV; rw [if_pos hv]
        rw [← ST2.out] at O1
        clear hv ST ST2
        go_wp2
        go_roundw
        case rel => exact ⟨k + 1, ao, M, co, by omega, by go_num, rfl, hM, O1, B1⟩
        case measure => simp [intOf]; omega
      · have t1 : (v.toList == (⟨#[]⟩ : ByteArray).toList) = false := by rw [ba_eq]; exact decide_eq_false hv
        have t2 : ¬ v.toList = [] := fun q => hv (ba_ext (q.trans ba_none.symm))
        have t3 : v.toList.isEmpty = false := by cases hq : v.toList with
          | nil => exact absurd hq t2
          | cons _ _ => rfl
        have ST2 : Hid (valsX (L.take (k + 1)) nm = insV v (valsX (L.take k) nm)) := by show _ = _; rw [ST.out]; unfold addV; rw [if_neg hv]
        have HLK := hide (HLN.out (k + 1))
        rw [ST2.out] at HLK
        clear hv ST
        have FEW : Hid (∀ y ∈ valsX (L.take k) nm, y.2 ≤ 5000) := fun y hy => by have h1 := valsX_few (L.take k) nm y hy; rw [List.length_take] at h1; have h2 := hm.out; omega
        generalize valsX (L.take k) nm = l at *
        have HLL : Hid (l.length = M) := O1.out.len
        go_upto_block 2 with fail
        go_cut [8] (fun z wx => ∃ j : Nat, j ≤ M ∧ z = .int .i64 j ∧ Hid (∀ y ∈ l.take j, Op.bytesLess y.1.toList v.toList = true) ∧ Hid (∀ y, l[j]? = some y → Op.bytesLess y.1.toList v.toList = false) ∧ wx = v1)
        case first =>
          go_wp2
          go_loopw [8] (fun z wr => ∃ j : Nat, j ≤ M ∧ z = .int .i64 j ∧ Hid (∀ y ∈ l.take j, Op.bytesLess y.1.toList v.toList = true) ∧ wr = v1) (fun z _ => M - (intOf z).toNat)
          case atStart => exact ⟨0, by omega, rfl, fun y hy => by simp at hy, rfl⟩
          case round =>
            obtain ⟨j, hj, rfl, HB, rfl⟩ := hrel
            by_cases hjt : j < M
            · obtain ⟨gg, y, rfl, -, hy, -, c0, c1, -⟩ := O1.out.at' hjt
              have j1 : (0 : Int) ≤ (j : Int) := by omega
              have j2 : (j : Int) < (M : Int) := by omega
              have HY := hide hy
              clear hy
              cases hb : Op.bytesLess y.1.toList v.toList with
              | true =>
                have HB2 : Hid (∀ y ∈ l.take (j + 1), Op.bytesLess y.1.toList v.toList = true) := by
                  show ∀ y ∈ _, _
                  obtain ⟨hj', e2⟩ := List.getElem?_eq_some_iff.1 HY.out
                  rw [List.take_succ_eq_append_getElem hj', e2]
                  intro z hz
                  rcases List.mem_append.1 hz with h | h
                  · exact HB.out z h
                  · rw [List.mem_singleton] at h
                    rw [h]
                    exact hb
                go_wp2
                go_roundw
                case rel => exact ⟨j + 1, by omega, by go_num, HB2, trivial⟩
                case measure => simp [intOf]; omega
              | false =>
                have HE : Hid (∀ z, l[j]? = some z → Op.bytesLess z.1.toList v.toList = false) := fun z hz => by
                  rw [HY.out] at hz
                  cases hz
                  exact hb
                go_wp2
                go_meet
                case rel => exact ⟨j, hj, rfl, HB, HE, rfl⟩
            · have j2 : ¬ (j : Int) < (M : Int) := by omega
              have HE : Hid (∀ z, l[j]? = some z → Op.bytesLess z.1.toList v.toList = false) := fun z hz => by
                have := (List.getElem?_eq_some_iff.1 hz).1
                rw [HLL.out] at this
                omega
              go_wp2
              go_meet
              case rel => exact ⟨j, hj, rfl, HB, HE, rfl⟩
        case rest =>
          obtain ⟨j, hj, rfl, HB, HE, rfl⟩ := hcut
          obtain ⟨IA, IB⟩ := insV_at HB.out
          have HIA := hide IA
          have HIB := hide IB
          clear IA IB
          by_cases hfd : ∃ y, l[j]? = some y ∧ y.1 = v
          · obtain ⟨y0, hy0, hyv⟩ := hfd
            have hjt : j < M := by have := (List.getElem?_eq_some_iff.1 hy0).1; rw [HLL.out] at this; exact this
            obtain ⟨gg, y, e, -, hy, hgb, c0, c1, fz⟩ := O1.out.at' hjt
            have e9 : y = y0 := by rw [hy] at hy0; cases hy0; rfl
            rw [← e9] at hyv
            have j1 : (0 : Int) ≤ (j : Int) := by omega
            have j2 : (j : Int) < (M : Int) := by omega
            clear hy0 e9
            subst e
            have t4 : (y.1.toList == v.toList) = true := by rw [ba_eq]; exact decide_eq_true hyv
            have hy5 : y.2 ≤ 5000 := by have := FEW.out y (List.mem_of_getElem? hy); omega
            have fz1 := fz (j * 2 + 1)
            have O2 : Hid (OwnV (wc.setCell ⟨gg, j * 2 + 1, none⟩ (.int .i64 ((y.2 : Int) + 1))) w.heap.size (some ⟨gg, 0, none⟩) M co (valsX (L.take (k + 1)) nm)) := by
              rw [ST2.out, HIA.out y hy hyv]
              exact O1.out.inc hy
            have B2 : Hid (Below w.heap.size w (wc.setCell ⟨gg, j * 2 + 1, none⟩ (.int .i64 ((y.2 : Int) + 1)))) := B1.out.setCell (p := ⟨gg, j * 2 + 1, none⟩) hgb _
            clear hy fz HIA HIB HB HE
            go_wp2
            go_roundw
            case rel => exact ⟨k + 1, _, M, co, by omega, by go_num, rfl, hM, O2, B2⟩
            case measure => simp [intOf]; omega
          · have HNO : Hid (∀ z, l[j]? = some z → Op.bytesLess z.1.toList v.toList = false ∧ z.1 ≠ v) := fun z hz => ⟨HE.out z hz, fun q => hfd ⟨z, hz, q⟩⟩
            clear hfd HIA
            go_upto_region 10 with fail
            obtain ⟨wd, hwd⟩ : ∃ wd, wd = wc := ⟨wc, rfl⟩
            rw [← hwd] at O1 B1 ⊢
            clear hwd
            go_cut [57] (fun t wx => t = .bool false ∧ wx = wd)
            case first =>
              by_cases hjt : j < M
              · obtain ⟨gg, y, e, -, hy, -, c0, c1, -⟩ := O1.out.at' hjt
                have t4 : (y.1.toList == v.toList) = false := by rw [ba_eq]; exact decide_eq_false (HNO.out y hy).2
                have j1 : (0 : Int) ≤ (j : Int) := by omega
                have j2 : (j : Int) < (M : Int) := by omega
                clear hy
                subst e
                go_wp2
                go_meet
                case rel => exact ⟨rfl, rfl⟩
              · have j2 : ¬ (j : Int) < (M : Int) := by omega
                go_wp2
                go_meet
                case rel => exact ⟨rfl, rfl⟩
            case rest =>
              obtain ⟨rfl, hwx⟩ := hcut
              rw [hwx]
              clear hwx
              have st := slice_toV ao M co j (by have := O1.out.capped; omega)
              have sf := slice_fromV ao M co j hj
              have HCP := hide O1.out.capped
              have NL : Hid (ao = none → M = 0 ∧ co = 0) := fun e => by have := O1.out; rw [e] at this; exact this.nil'
              have RT : Hid (∀ W, Below wd.heap.size wd W → ∀ ad, ao = some ad → ∀ q z, (flatV (l.take j))[q]? = some z → W.cell? (ad.add q) = some z) := fun W hW ad e q z hq => by
                have h1 := O1.out.below hW (Nat.le_refl _)
                rw [e] at h1
                refine h1.cells q z ?_
                rw [flatV_take, List.getElem?_take] at hq
                split at hq
                · exact hq
                · cases hq
              have RD : Hid (∀ W, Below wd.heap.size wd W → ∀ ad, (if co = j then ao else ao.map (·.add (j * 2))) = some ad → ∀ q z, (flatV (l.drop j))[q]? = some z → W.cell? (ad.add q) = some z) := fun W hW ad e q z hq => by
                have hql : q < (flatV (l.drop j)).length := (List.getElem?_eq_some_iff.1 hq).1
                rw [flatV_len, List.length_drop, HLL.out] at hql
                have hcj : ¬ co = j := fun e2 => by have := HCP.out; omega
                rw [if_neg hcj] at e
                cases ao with
                | none => simp at e
                | some ad0 =>
                  simp at e
                  have h1 := O1.out.below hW (Nat.le_refl _)
                  rw [flatV_drop, List.getElem?_drop] at hq
                  have := h1.cells (j * 2 + q) z hq
                  rw [← e, Go.Deep.add_add]
                  exact this
              have DL : Hid ((if co = j then ao else ao.map (·.add (j * 2))) = none → M - j = 0 ∧ co - j = 0) := fun e => by
                split at e
                · have := HCP.out; omega
                · have : ao = none := by cases ao with | none => rfl | some x => cases e
                  have := NL.out this
                  omega
              have LT : Hid ((l.take j).length = j) := by show _ = _; rw [List.length_take, HLL.out]; omega
              have LDr : Hid ((l.drop j).length = M - j) := by show _ = _; rw [List.length_drop, HLL.out]
              have TZ : Hid (ao = none → j = 0 ∧ co = 0) := fun e => by have := NL.out e; omega
              generalize (if co = j then ao else ao.map (·.add (j * 2))) = af at *
              clear NL HB HE
              go_wp2_with (at_builtin; refine wpList_append_vals _ rfl _ _ 44 rfl wd.heap.size i0 Try.underlying44 hi hz0 hz1 hz2 none 0 0 [] rfl (ownV_nil _ _) ao j co (l.take j) rfl LT.out (RT.out wd (Below.refl _ _)) TZ.out (by omega) (Nat.le_refl _) ?_)
              intro a3 c3 w3 o3 b3 _
              have o3 : OwnV w3 wd.heap.size a3 j c3 (l.take j) := by simpa using o3
              try rw [Nat.zero_add]
              have O3 := hide (row_ch o3 (Ch.of_below ((Below.refl w3.heap.size w3).alloc (Nat.le_refl _) (.cells #[.string v, .int .i64 1] 52))) (fun _ _ => id))
              have B3 := hide b3
              have NC := hide (val_cells w3 (v, 1) 52)
              clear o3 b3 RT
              go_wp2_with (at_builtin; refine wpList_append_vals _ rfl _ _ 44 rfl wd.heap.size i0 Try.underlying44 hi hz0 hz1 hz2 a3 j c3 (l.take j) rfl O3.out (some ⟨w3.heap.size, 0, none⟩) 1 1 [(v, 1)] rfl rfl (fun ad e => by cases e; exact NC.out) (fun h => by cases h) (by omega) (Nat.le_trans B3.out.size (by simp)) ?_)
              intro a4 c4 w4 o4 b4 _
              have B4 : Hid (Below wd.heap.size wd w4) := (bel_al B3.out (Nat.le_refl _) _).trans b4
              have O4 := hide o4
              clear o4 b4 O3 B3 NC
              go_wp2_with (at_builtin; refine wpList_append_vals _ rfl _ _ 44 rfl wd.heap.size i0 Try.underlying44 hi hz0 hz1 hz2 a4 (j + 1) c4 (l.take j ++ [(v, 1)]) rfl O4.out af (M - j) (co - j) (l.drop j) rfl LDr.out (RD.out w4 B4.out) DL.out (by omega) B4.out.size ?_)
              intro a5 c5 w5 o5 b5 _
              have B5 : Hid (Below wd.heap.size wd w5) := B4.out.trans b5
              have EQ : Hid (l.take j ++ [(v, 1)] ++ l.drop j = valsX (L.take (k + 1)) nm) := by
                show _ = _
                rw [ST2.out]
                exact (HIB.out HNO.out (by rw [HLL.out]; exact hj)).symm
              have o5 : OwnV w5 wd.heap.size a5 (j + 1 + (M - j)) c5 (valsX (L.take (k + 1)) nm) := by rw [← EQ.out]; simpa using o5
              have hM5 : j + 1 + (M - j) ≤ 5000 := by rw [← OwnV.len o5]; exact HLN.out (k + 1)
              have O5 := hide (OwnV.mono o5 (base' := w.heap.size) B1.out.size)
              have BW5 := hide (bel_to B1.out (Nat.le_refl _) B5.out)
              clear o5 b5 O4 B4 RD
              go_wp2
              go_roundw
              case rel => exact ⟨k + 1, a5, j + 1 + (M - j), c5, by omega, by go_num, rfl, hM5, O5, BW5⟩
              case measure => simp [intOf]; omega
    · have i2 : ¬ (k : Int) < (m : Int) := by omega
      rw [List.take_of_length_le (by rw [hm.out]; omega)] at OW
      go_wp2
      go_ret
      exact ⟨ao, M, co, rfl, OW.out, BW.out⟩
end Go.Proofs.Ytpffhpnmbpjifaa
