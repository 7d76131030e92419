/-
  The document's own answer of layer 7 (the laws' reference): two lists of buckets as one: a contract, for every world.
  Conditions: the slices show their buckets; there is room for both.
-/
import Derived.Test.YtadcaonkmncgoaaHistS
import Derived.Test.YtadcaonkmncgoaaVintR
import Derived.Deep.DeepCutAuto
namespace Go.Proofs.Ytadcaonkmncgoaa
open Go.RowKit
set_option maxRecDepth 20000

/-- Buckets behind a list of the call's own: the operation alone. -/
theorem wp_append_bks {P : Program} (w : World) {o : Oper} {a : Act} {K : Act → World → Prop} {Q : Exit → Act → World → Prop} (s x : Operand) (t : TypeId)
    (ho : o.op = .call { callee := .builtin .append, args := #[s, x], argTypes := #[t, t] })
    (base : Nat) (i : TypeInfo) (ht : P.underlying t = some (.slice 48)) (hi : P.info? 48 = some i) (hz : i.zero = some (.agg #[.int .i64 0, .int .u64 0])) (hsize : i.size = 2) (hby : i.bytes = 16)
    (ao : Option Addr) (n cap : Nat) (l : Bks) (hs : a.eval s = .slice ao n cap) (hown : OwnB w base ao n cap l)
    (ad : Addr) (m c : Nat) (news : Bks) (hx : a.eval x = .slice (some ad) m c) (hm : news.length = m) (hc : ∀ j u, (flatB news)[j]? = some u → w.cell? (ad.add j) = some u)
    (hbytes : (n + m) * 16 ≤ 140737488355328) (hbase : base ≤ w.heap.size)
    (h : ∀ a' cap' w', OwnB w' base a' (n + m) cap' (l ++ news) → Below base w w' → K (a.put o.dst (.slice a' (n + m) cap')) w') : o.wp P a w K Q := by
  refine wp_append_own w s x t ho base 48 i (.agg #[.int .i64 0, .int .u64 0]) 2 16 ht hi hz hsize hby rfl (by decide) _ n (flatB l) hs hown ad m c (flatB news) hx (by rw [flatB_len, hm]) hc (flatB_one news) (by unfold maxLen; omega) hbytes hbase ?_
  intro v' w' h1 h2 _
  rw [← flatB_append] at h1
  obtain ⟨a', cap', rfl, h3⟩ := ownB_form h1
  exact h a' cap' w' h3 ((Below.refl _ _).grown h2 hbase hown.block)

theorem mrg_left {l r : Bks} {p q : Nat} (hp : p < l.length) (h : q < r.length → (l.getD p (0, 0)).1 < (r.getD q (0, 0)).1) : mrg (l.drop p) (r.drop q) = l.getD p (0, 0) :: mrg (l.drop (p + 1)) (r.drop q) := by
  rw [drop_bks hp]
  by_cases hq : q < r.length
  · have h4 := h hq
    rw [drop_bks hq]
    generalize l.getD p (0, 0) = xa at *
    generalize r.getD q (0, 0) = xb at *
    obtain ⟨x, c⟩ := xa
    obtain ⟨y, d⟩ := xb
    rw [mrg_cons, if_pos h4]
  · rw [List.drop_of_length_le (l := r) (by omega), mrg_nil, mrg_nil]
theorem mrg_right {l r : Bks} {p q : Nat} (hq : q < r.length) (h : p < l.length → (r.getD q (0, 0)).1 < (l.getD p (0, 0)).1) : mrg (l.drop p) (r.drop q) = r.getD q (0, 0) :: mrg (l.drop p) (r.drop (q + 1)) := by
  rw [drop_bks hq]
  by_cases hp : p < l.length
  · have h4 := h hp
    rw [drop_bks hp]
    generalize l.getD p (0, 0) = xa at *
    generalize r.getD q (0, 0) = xb at *
    obtain ⟨x, c⟩ := xa
    obtain ⟨y, d⟩ := xb
    simp only at h4
    rw [mrg_cons, if_neg (by omega), if_pos h4]
  · rw [List.drop_of_length_le (l := l) (by omega), nil_mrg, nil_mrg]
theorem mrg_both {l r : Bks} {p q : Nat} (hp : p < l.length) (hq : q < r.length) (h : (l.getD p (0, 0)).1 = (r.getD q (0, 0)).1) : mrg (l.drop p) (r.drop q) = ((l.getD p (0, 0)).1, satS (l.getD p (0, 0)).2 (r.getD q (0, 0)).2) :: mrg (l.drop (p + 1)) (r.drop (q + 1)) := by
  rw [drop_bks hp, drop_bks hq]
  generalize l.getD p (0, 0) = xa at *
  generalize r.getD q (0, 0) = xb at *
  obtain ⟨x, c⟩ := xa
  obtain ⟨y, d⟩ := xb
  simp only at h
  rw [mrg_cons, if_neg (by omega), if_neg (by omega)]

set_option maxHeartbeats 16000000 in
set_option maxRecDepth 100000 in
theorem rhmerge_any (a : Option Addr) (n cap : Nat) (l : Bks) (b : Option Addr) (m capb : Nat) (r : Bks) (w : World) (hl : RowB w a n l) (hr : RowB w b m r) (hn : (n + m + 1) * 16 ≤ 140737488355328) :
    Calls Try.prog 39 #[.slice a n cap, .slice b m capb] w fun e w' => ∃ a' c', e = .returned (.slice a' (mrg l r).length c') ∧ OwnB w' w.heap.size a' (mrg l r).length c' (mrg l r) ∧ Below w.heap.size w w' := by
  obtain ⟨i0, hi0⟩ := info_parts Try.infoB
  have HI := hide hi0
  clear hi0
  have HL := hide hl
  have HR := hide hr
  have HLL := hide hl.1
  have HRL := hide hr.1
  obtain ⟨M, hM⟩ : ∃ M, mrg l r = M := ⟨_, rfl⟩
  have HM := hide hM
  rw [hM]
  clear hl hr hM
  go_enter Try.func39, Try.ntmps39
  go_wp2
  go_loopw [5, 6, 7] (fun x i k wr => ∃ (am : Option Addr) (nm cm p q : Nat) (pre : Bks), x = .slice am nm cm ∧ i = .int .i64 p ∧ k = .int .i64 q ∧ p ≤ n ∧ q ≤ m ∧ nm ≤ p + q ∧ Hid (pre.length = nm ∧ pre ++ mrg (l.drop p) (r.drop q) = M) ∧ Hid (OwnB wr w.heap.size am nm cm pre) ∧ Hid (Below w.heap.size w wr)) (fun _ i k _ => (n - (intOf i).toNat) + (m - (intOf k).toNat))
  case atStart => exact ⟨none, 0, 0, 0, 0, [], rfl, rfl, rfl, by omega, by omega, by omega, ⟨rfl, HM.out⟩, ownB_nil _ _, Below.refl _ _⟩
  case round =>
    obtain ⟨am, nm, cm, p, q, pre, rfl, rfl, rfl, hp, hq, hnm, HP, HO, HB⟩ := hrel
    have HBW : Hid (w.heap.size ≤ wr.heap.size) := HB.out.size
    by_cases hA : p < n ∧ (q < m → (l.getD p (0, 0)).1 < (r.getD q (0, 0)).1)
    · obtain ⟨hpn, hord⟩ := hA
      have HORD := hide hord
      have HN : Hid ((pre ++ [l.getD p (0, 0)]).length = nm + 1 ∧ (pre ++ [l.getD p (0, 0)]) ++ mrg (l.drop (p + 1)) (r.drop q) = M) := by
        refine ⟨by rw [List.length_append, HP.out.1]; rfl, ?_⟩
        rw [← HP.out.2, mrg_left (l := l) (r := r) (p := p) (q := q) (by rw [HLL.out]; exact hpn) (by rw [HRL.out]; exact hord)]
        simp
      clear hord
      obtain ⟨ba, oa, rfl, hga⟩ := HL.out.at' hpn
      have HGA := hide hga
      have ia0 : (0 : Int) ≤ (p : Int) := by omega
      have ia1 : (p : Int) < (n : Int) := by omega
      have da : decide ((p : Int) < (n : Int)) = true := decide_eq_true ia1
      have da' : decide ((n : Int) ≤ (p : Int)) = false := decide_eq_false (by omega)
      clear hga
      generalize l.getD p (0, 0) = xa at *
      obtain ⟨x, c⟩ := xa
      simp only at HGA HORD
      obtain ⟨ga0, ga1⟩ := HGA.out wr HB.out
      go_upto_region 7 with fail
      go_cut [42] (fun b wx => b = .bool true ∧ Hid (∃ j, wx = wr.drewN j))
      case first =>
        by_cases hqm : q < m
        · have hxy := HORD.out hqm
          obtain ⟨bb, ob, rfl, hgb⟩ := HR.out.at' hqm
          have HGB := hide hgb
          have ib0 : (0 : Int) ≤ (q : Int) := by omega
          have ib1 : (q : Int) < (m : Int) := by omega
          have db : decide ((m : Int) ≤ (q : Int)) = false := decide_eq_false (by omega)
          have db' : decide ((q : Int) < (m : Int)) = true := decide_eq_true ib1
          clear hgb
          generalize r.getD q (0, 0) = xb at *
          obtain ⟨y, d⟩ := xb
          simp only at HGB hxy
          obtain ⟨gb0, gb1⟩ := HGB.out wr HB.out
          have dxy : decide (x < y) = true := decide_eq_true hxy
          clear hxy HORD
          go_quiet (fail)
          go_wp2
          go_meet
          case rel => exact ⟨rfl, _, rfl⟩
        · have : q = m := by omega
          subst this
          have db : decide ((q : Int) ≤ (q : Int)) = true := decide_eq_true (Int.le_refl _)
          clear HORD
          go_quiet (fail)
          go_wp2
          go_meet
          case rel => exact ⟨rfl, _, rfl⟩
      case rest =>
        obtain ⟨rfl, hqW⟩ := hcut
        obtain ⟨jq, hjq⟩ := hqW.out
        have HB1 : Hid (Below w.heap.size w wc) := by rw [hjq]; exact bel_drewN HB.out jq
        have HO1 : Hid (OwnB wc w.heap.size am nm cm pre) := by rw [hjq]; exact HO.out
        have HBW1 : Hid (w.heap.size ≤ wc.heap.size) := HB1.out.size
        obtain ⟨ea0, ea1⟩ := HGA.out _ HB1.out
        clear hjq hqW HO HB HBW ga0 ga1 HORD HGA
        go_wp2_with (at_builtin; refine wpList_append_bks _ rfl _ _ 24 rfl w.heap.size i0 Try.underlying24 HI.out.1 HI.out.2.1 HI.out.2.2.1 HI.out.2.2.2 am nm cm pre rfl (OwnB.alloc (w := wc) HO1.out _) ⟨wc.heap.size, 0, none⟩ 1 1 [(x, c)] rfl rfl (two_cells wc (x, c) _) (by omega) (by have := HBW1.out; simp; omega) ?_)
        intro a2 c2 w2 o2 b2
        have O2 := hide o2
        have K2 : Hid (Below w.heap.size w w2) := (bel_al HB1.out (Nat.le_refl _) _).trans b2
        clear o2 b2 HO1 HB1
        go_wp2
        go_roundw
        case rel => exact ⟨a2, nm + 1, c2, p + 1, q, _, rfl, by go_num, by go_num, by omega, by omega, by omega, HN, O2, K2⟩
        case measure => simp [intOf]; omega
    by_cases hBt : q < m ∧ (p < n → (r.getD q (0, 0)).1 < (l.getD p (0, 0)).1)
    · obtain ⟨hqm, hord⟩ := hBt
      have HORD := hide hord
      have HN : Hid ((pre ++ [r.getD q (0, 0)]).length = nm + 1 ∧ (pre ++ [r.getD q (0, 0)]) ++ mrg (l.drop p) (r.drop (q + 1)) = M) := by
        refine ⟨by rw [List.length_append, HP.out.1]; rfl, ?_⟩
        rw [← HP.out.2, mrg_right (l := l) (r := r) (p := p) (q := q) (by rw [HRL.out]; exact hqm) (by rw [HLL.out]; exact hord)]
        simp
      clear hord hA
      obtain ⟨bb, ob, rfl, hgb⟩ := HR.out.at' hqm
      have HGB := hide hgb
      have ib0 : (0 : Int) ≤ (q : Int) := by omega
      have ib1 : (q : Int) < (m : Int) := by omega
      have db : decide ((m : Int) ≤ (q : Int)) = false := decide_eq_false (by omega)
      have db' : decide ((q : Int) < (m : Int)) = true := decide_eq_true ib1
      clear hgb
      generalize r.getD q (0, 0) = xb at *
      obtain ⟨y, d⟩ := xb
      simp only at HGB HORD
      obtain ⟨gb0, gb1⟩ := HGB.out wr HB.out
      have hpn0 : p < n ∨ p = n := by omega
      have HPN := hide hpn0
      clear hpn0
      rcases HPN.out with hpn | hpn
      · have hxy := HORD.out hpn
        obtain ⟨ba, oa, rfl, hga⟩ := HL.out.at' hpn
        have HGA := hide hga
        have ia0 : (0 : Int) ≤ (p : Int) := by omega
        have ia1 : (p : Int) < (n : Int) := by omega
        have da : decide ((p : Int) < (n : Int)) = true := decide_eq_true ia1
        have da' : decide ((n : Int) ≤ (p : Int)) = false := decide_eq_false (by omega)
        clear hga
        generalize l.getD p (0, 0) = xa at *
        obtain ⟨x, c⟩ := xa
        simp only at HGA hxy
        obtain ⟨ga0, ga1⟩ := HGA.out wr HB.out
        have dxy : decide (x < y) = false := decide_eq_false (by omega)
        have dyx : decide (y < x) = true := decide_eq_true hxy
        clear hxy HORD
        go_wp2
        go_quiet (fail)
        have HB1 : Hid (Below w.heap.size w (wr.drewN nq)) := bel_drewN HB.out nq
        have HO1 : Hid (OwnB (wr.drewN nq) w.heap.size am nm cm pre) := HO.out
        obtain ⟨ea0, ea1⟩ := HGA.out _ HB1.out
        obtain ⟨eb0, eb1⟩ := HGB.out _ HB1.out
        clear HO HB HBW ga0 ga1 gb0 gb1
        generalize wr.drewN nq = W1 at *
        go_wp2
        go_quiet (fail)
        have HB2 : Hid (Below w.heap.size w (W1.drewN nq)) := bel_drewN HB1.out nq
        have HO2 : Hid (OwnB (W1.drewN nq) w.heap.size am nm cm pre) := HO1.out
        obtain ⟨ec0, ec1⟩ := HGB.out _ HB2.out
        clear HO1 HB1 ea0 ea1 eb0 eb1
        generalize W1.drewN nq = W2 at *
        have HB1 := HB2
        have HO1 := HO2
        have HBW1 : Hid (w.heap.size ≤ W2.heap.size) := HB1.out.size
        go_wp2_with (at_builtin; refine wpList_append_bks _ rfl _ _ 24 rfl w.heap.size i0 Try.underlying24 HI.out.1 HI.out.2.1 HI.out.2.2.1 HI.out.2.2.2 am nm cm pre rfl (OwnB.alloc (w := W2) HO1.out _) ⟨W2.heap.size, 0, none⟩ 1 1 [(y, d)] rfl rfl (two_cells W2 (y, d) _) (by omega) (by have := HBW1.out; simp; omega) ?_)
        intro a2 c2 w2 o2 b2
        have O2 := hide o2
        have K2 : Hid (Below w.heap.size w w2) := (bel_al HB1.out (Nat.le_refl _) _).trans b2
        clear o2 b2 HO1 HB1 HO2 HB2
        go_wp2
        go_roundw
        case rel => exact ⟨a2, nm + 1, c2, p, q + 1, _, rfl, by go_num, by go_num, by omega, by omega, by omega, HN, O2, K2⟩
        case measure => simp [intOf]; omega
      · have da : decide ((p : Int) < (n : Int)) = false := decide_eq_false (by omega)
        have da' : decide ((n : Int) ≤ (p : Int)) = true := decide_eq_true (by omega)
        have na : ¬ ((p : Int) < (n : Int)) := by omega
        have db2 : decide (m ≤ q) = false := decide_eq_false (by omega)
        have da2 : decide (p < n) = false := decide_eq_false (by omega)
        have da3 : decide (n ≤ p) = true := decide_eq_true (by omega)
        have HPN2 := hide hpn
        clear HORD hpn HPN
        go_wp2
        go_quiet (fail)
        have HB1 : Hid (Below w.heap.size w (wr.drewN nq)) := bel_drewN HB.out nq
        have HO1 : Hid (OwnB (wr.drewN nq) w.heap.size am nm cm pre) := HO.out
        obtain ⟨eb0, eb1⟩ := HGB.out _ HB1.out
        clear HO HB HBW gb0 gb1
        generalize wr.drewN nq = W1 at *
        go_wp2
        go_quiet (fail)
        have HB2 : Hid (Below w.heap.size w (W1.drewN nq)) := bel_drewN HB1.out nq
        have HO2 : Hid (OwnB (W1.drewN nq) w.heap.size am nm cm pre) := HO1.out
        obtain ⟨ec0, ec1⟩ := HGB.out _ HB2.out
        clear HO1 HB1 eb0 eb1
        generalize W1.drewN nq = W2 at *
        have HB1 := HB2
        have HO1 := HO2
        have HBW1 : Hid (w.heap.size ≤ W2.heap.size) := HB1.out.size
        go_wp2_with (at_builtin; refine wpList_append_bks _ rfl _ _ 24 rfl w.heap.size i0 Try.underlying24 HI.out.1 HI.out.2.1 HI.out.2.2.1 HI.out.2.2.2 am nm cm pre rfl (OwnB.alloc (w := W2) HO1.out _) ⟨W2.heap.size, 0, none⟩ 1 1 [(y, d)] rfl rfl (two_cells W2 (y, d) _) (by omega) (by have := HBW1.out; simp; omega) ?_)
        intro a2 c2 w2 o2 b2
        have O2 := hide o2
        have K2 : Hid (Below w.heap.size w w2) := (bel_al HB1.out (Nat.le_refl _) _).trans b2
        clear o2 b2 HO1 HB1 HO2 HB2
        go_wp2
        go_roundw
        have hpE := HPN2.out
        case rel => exact ⟨a2, nm + 1, c2, p, q + 1, _, rfl, by go_num, by go_num, by omega, by omega, by omega, HN, O2, K2⟩
        case measure => simp [intOf]; omega
    by_cases hpn : p < n
    · have hqm : q < m := by
        by_cases h : q < m
        · exact h
        · exact absurd ⟨hpn, fun h' => absurd h' h⟩ hA
      have hxe : (l.getD p (0, 0)).1 = (r.getD q (0, 0)).1 := by
        by_cases h1 : (l.getD p (0, 0)).1 < (r.getD q (0, 0)).1
        · exact absurd ⟨hpn, fun _ => h1⟩ hA
        · by_cases h2 : (r.getD q (0, 0)).1 < (l.getD p (0, 0)).1
          · exact absurd ⟨hqm, fun _ => h2⟩ hBt
          · omega
      have HN : Hid ((pre ++ [((l.getD p (0, 0)).1, satS (l.getD p (0, 0)).2 (r.getD q (0, 0)).2)]).length = nm + 1 ∧ (pre ++ [((l.getD p (0, 0)).1, satS (l.getD p (0, 0)).2 (r.getD q (0, 0)).2)]) ++ mrg (l.drop (p + 1)) (r.drop (q + 1)) = M) := by
        refine ⟨by rw [List.length_append, HP.out.1]; rfl, ?_⟩
        rw [← HP.out.2, mrg_both (l := l) (r := r) (p := p) (q := q) (by rw [HLL.out]; exact hpn) (by rw [HRL.out]; exact hqm) hxe]
        simp
      clear hA hBt
      obtain ⟨ba, oa, rfl, hga⟩ := HL.out.at' hpn
      have HGA := hide hga
      have HYA := hide (u64_of_wf (getD_fit HL.out.2.2.1 p).2)
      have ia0 : (0 : Int) ≤ (p : Int) := by omega
      have ia1 : (p : Int) < (n : Int) := by omega
      have da : decide ((p : Int) < (n : Int)) = true := decide_eq_true ia1
      have da' : decide ((n : Int) ≤ (p : Int)) = false := decide_eq_false (by omega)
      clear hga
      generalize l.getD p (0, 0) = xa at *
      obtain ⟨x, c⟩ := xa
      simp only at HGA HYA hxe HN
      obtain ⟨ga0, ga1⟩ := HGA.out wr HB.out
      obtain ⟨bb, ob, rfl, hgb⟩ := HR.out.at' hqm
      have HGB := hide hgb
      have HYB := hide (u64_of_wf (getD_fit HR.out.2.2.1 q).2)
      have ib0 : (0 : Int) ≤ (q : Int) := by omega
      have ib1 : (q : Int) < (m : Int) := by omega
      have db : decide ((m : Int) ≤ (q : Int)) = false := decide_eq_false (by omega)
      have db' : decide ((q : Int) < (m : Int)) = true := decide_eq_true ib1
      clear hgb
      generalize r.getD q (0, 0) = xb at *
      obtain ⟨y, d⟩ := xb
      simp only at HGB HYB hxe HN
      obtain ⟨gb0, gb1⟩ := HGB.out wr HB.out
      have dxy : decide (x < y) = false := decide_eq_false (by omega)
      have dyx : decide (y < x) = false := decide_eq_false (by omega)
      have AD := hide (fun w => refadd_any c d HYA.out HYB.out w)
      rw [satS_addS] at AD
      generalize satS c d = S at *
      clear HYA HYB hxe
      go_wp2
      go_quiet (fail)
      have HB1 : Hid (Below w.heap.size w (wr.drewN nq)) := bel_drewN HB.out nq
      have HO1 : Hid (OwnB (wr.drewN nq) w.heap.size am nm cm pre) := HO.out
      obtain ⟨ea0, ea1⟩ := HGA.out _ HB1.out
      obtain ⟨eb0, eb1⟩ := HGB.out _ HB1.out
      clear HO HB HBW ga0 ga1 gb0 gb1
      generalize wr.drewN nq = W1 at *
      go_wp2
      go_quiet (fail)
      have HB2 : Hid (Below w.heap.size w (W1.drewN nq)) := bel_drewN HB1.out nq
      have HO2 : Hid (OwnB (W1.drewN nq) w.heap.size am nm cm pre) := HO1.out
      clear HO1 HB1 ea0 ea1 eb0 eb1
      generalize W1.drewN nq = W2 at *
      go_upto_region 4 with fail
      have HB3 : Hid (Below w.heap.size w W2.drew) := HB2.out.drew
      have HO3 : Hid (OwnB W2.drew w.heap.size am nm cm pre) := HO2.out
      have HBW3 : Hid (w.heap.size ≤ W2.drew.heap.size) := HB3.out.size
      have HS : Hid (∀ W, Below w.heap.size w W → W.cell? ⟨ba, oa + p * 2, none⟩ = some (.int .i64 x) ∧ W.cell? ⟨ba, oa + p * 2 + 1, none⟩ = some (.int .u64 c) ∧ W.cell? ⟨bb, ob + q * 2 + 1, none⟩ = some (.int .u64 d)) :=
        fun W hW => ⟨(HGA.out W hW).1, (HGA.out W hW).2, (HGB.out W hW).2⟩
      clear HB2 HO2 HGA HGB
      refine wp_region_held_drew (S := fun W => W.cell? ⟨ba, oa + p * 2, none⟩ = some (.int .i64 x) ∧ W.cell? ⟨ba, oa + p * 2 + 1, none⟩ = some (.int .u64 c) ∧ W.cell? ⟨bb, ob + q * 2 + 1, none⟩ = some (.int .u64 d)) (by kernel_rfl) (HS.out _ HB3.out) (fun hHeld => ?_)
      refine held_take (i := 0) (d := (some 18)) (v := ?_) rfl rfl (by kernel_rfl) (by kernel_rfl) (by kernel_rfl) (fun _ _ _ h => h) (Or.inl ⟨by rfl, ?_⟩) (by first | assumption | rfl | trivial) ?_
      rotate_left 1
      · (intro w hSw; (try dsimp only at hSw); (try subst hSw); go_simp; try with_reducible rfl)
      simp only [Act.put, List.setIfInBounds_toArray, List.set_cons_zero, List.set_cons_succ]
      refine held_take (i := 1) (d := (some 19)) (v := ?_) rfl rfl (by kernel_rfl) (by kernel_rfl) (by kernel_rfl) (fun _ _ _ h => h) (Or.inl ⟨by rfl, ?_⟩) (by first | assumption | rfl | trivial) ?_
      rotate_left 1
      · (intro w hSw; (try dsimp only at hSw); (try subst hSw); go_simp; try with_reducible rfl)
      simp only [Act.put, List.setIfInBounds_toArray, List.set_cons_zero, List.set_cons_succ]
      refine held_take (i := 2) (d := (some 20)) (v := ?_) rfl rfl (by kernel_rfl) (by kernel_rfl) (by kernel_rfl) (fun _ _ _ h => h) (Or.inl ⟨by rfl, ?_⟩) (by first | assumption | rfl | trivial) ?_
      rotate_left 1
      · (intro w hSw; (try dsimp only at hSw); (try subst hSw); go_simp; try with_reducible rfl)
      simp only [Act.put, List.setIfInBounds_toArray, List.set_cons_zero, List.set_cons_succ]
      refine held_take (i := 3) (d := (some 21)) (v := ?_) rfl rfl (by kernel_rfl) (by kernel_rfl) (by kernel_rfl) (fun _ _ _ h => h) (Or.inl ⟨by rfl, ?_⟩) (by first | assumption | rfl | trivial) ?_
      rotate_left 1
      · (intro w hSw; (try dsimp only at hSw); (try subst hSw); go_simp; try with_reducible rfl)
      simp only [Act.put, List.setIfInBounds_toArray, List.set_cons_zero, List.set_cons_succ]
      refine held_take (i := 4) (d := (some 22)) (v := ?_) rfl rfl (by kernel_rfl) (by kernel_rfl) (by kernel_rfl) (fun _ _ _ h => h) (Or.inl ⟨by rfl, ?_⟩) (by first | assumption | rfl | trivial) ?_
      rotate_left 1
      · (intro w hSw; (try dsimp only at hSw); (try subst hSw); go_simp; try with_reducible rfl)
      simp only [Act.put, List.setIfInBounds_toArray, List.set_cons_zero, List.set_cons_succ]
      refine held_take (i := 5) (d := (some 23)) (v := ?_) rfl rfl (by kernel_rfl) (by kernel_rfl) (by kernel_rfl) (fun _ _ _ h => h) (Or.inl ⟨by rfl, ?_⟩) (by first | assumption | rfl | trivial) ?_
      rotate_left 1
      · (intro w hSw; (try dsimp only at hSw); (try subst hSw); go_simp; try with_reducible rfl)
      simp only [Act.put, List.setIfInBounds_toArray, List.set_cons_zero, List.set_cons_succ]
      refine held_take (i := 6) (d := (some 24)) (v := ?_) rfl rfl (by kernel_rfl) (by kernel_rfl) (by kernel_rfl) (fun _ _ _ h => h) (Or.inl ⟨by rfl, ?_⟩) (by first | assumption | rfl | trivial) ?_
      rotate_left 1
      · (intro w hSw; (try dsimp only at hSw); (try subst hSw); go_simp; try with_reducible rfl)
      simp only [Act.put, List.setIfInBounds_toArray, List.set_cons_zero, List.set_cons_succ]
      refine held_take (i := 7) (d := (some 25)) (v := ?_) rfl rfl (by kernel_rfl) (by kernel_rfl) (by kernel_rfl) (fun _ _ _ h => h) (Or.inl ⟨by rfl, ?_⟩) (by first | assumption | rfl | trivial) ?_
      rotate_left 1
      · (intro w hSw; (try dsimp only at hSw); (try subst hSw); go_simp; try with_reducible rfl)
      simp only [Act.put, List.setIfInBounds_toArray, List.set_cons_zero, List.set_cons_succ]
      refine held_take (i := 8) (d := (some 26)) (v := ?_) rfl rfl (by kernel_rfl) (by kernel_rfl) (by kernel_rfl) (fun _ _ _ h => h) (Or.inl ⟨by rfl, ?_⟩) (by first | assumption | rfl | trivial) ?_
      rotate_left 1
      · (intro w hSw; (try dsimp only at hSw); (try subst hSw); go_simp; try with_reducible rfl)
      simp only [Act.put, List.setIfInBounds_toArray, List.set_cons_zero, List.set_cons_succ]
      refine held_take (i := 9) (d := (some 27)) (v := ?_) rfl rfl (by kernel_rfl) (by kernel_rfl) (by kernel_rfl) (fun _ _ _ h => h) (Or.inl ⟨by rfl, ?_⟩) (by first | assumption | rfl | trivial) ?_
      rotate_left 1
      · (intro w hSw; (try dsimp only at hSw); (try subst hSw); go_simp; try with_reducible rfl)
      simp only [Act.put, List.setIfInBounds_toArray, List.set_cons_zero, List.set_cons_succ]
      refine held_take (i := 10) (d := (some 28)) (v := ?_) rfl rfl (by kernel_rfl) (by kernel_rfl) (by kernel_rfl) (fun _ _ _ h => h) (Or.inl ⟨by rfl, ?_⟩) (by first | assumption | rfl | trivial) ?_
      rotate_left 1
      · (intro w hSw; (try dsimp only at hSw); (try subst hSw); go_simp; try with_reducible rfl)
      simp only [Act.put, List.setIfInBounds_toArray, List.set_cons_zero, List.set_cons_succ]
      refine held_take (i := 11) (d := (some 29)) (v := ?_) rfl rfl (by kernel_rfl) (by kernel_rfl) (by kernel_rfl) (fun _ _ _ h => h) (Or.inl ⟨by rfl, ?_⟩) (by first | assumption | rfl | trivial) ?_
      rotate_left 1
      · (intro w hSw; (try dsimp only at hSw); (try subst hSw); go_simp; try with_reducible rfl)
      simp only [Act.put, List.setIfInBounds_toArray, List.set_cons_zero, List.set_cons_succ]
      refine held_take (i := 12) (d := (some 30)) (v := ?_) rfl rfl (by kernel_rfl) (by kernel_rfl) (by kernel_rfl) (fun _ _ _ h => h) (Or.inl ⟨by rfl, ?_⟩) (by first | assumption | rfl | trivial) ?_
      rotate_left 1
      · (intro w hSw; (try dsimp only at hSw); (try subst hSw); go_simp; try with_reducible rfl)
      simp only [Act.put, List.setIfInBounds_toArray, List.set_cons_zero, List.set_cons_succ]
      refine held_take (i := 13) (d := (some 31)) (v := ?_) rfl rfl (by kernel_rfl) (by kernel_rfl) (by kernel_rfl) (fun _ _ _ h => h) (Or.inl ⟨by rfl, ?_⟩) (by first | assumption | rfl | trivial) ?_
      rotate_left 1
      · (intro w hSw; (try dsimp only at hSw); (try subst hSw); go_simp; try with_reducible rfl)
      simp only [Act.put, List.setIfInBounds_toArray, List.set_cons_zero, List.set_cons_succ]
      refine held_take (i := 14) (d := (some 32)) (v := ?_) rfl rfl (by kernel_rfl) (by kernel_rfl) (by kernel_rfl) (fun _ _ _ h => h) (Or.inl ⟨by rfl, ?_⟩) (by first | assumption | rfl | trivial) ?_
      rotate_left 1
      · (intro w hSw; (try dsimp only at hSw); (try subst hSw); go_simp; try with_reducible rfl)
      simp only [Act.put, List.setIfInBounds_toArray, List.set_cons_zero, List.set_cons_succ]
      refine held_take (i := 15) (d := (some 33)) (v := ?_) rfl rfl (by kernel_rfl) (by kernel_rfl) (by kernel_rfl) (fun _ _ _ h => h) (Or.inl ⟨by rfl, ?_⟩) (by first | assumption | rfl | trivial) ?_
      rotate_left 1
      · (intro w hSw; (try dsimp only at hSw); (try subst hSw); go_simp; try with_reducible rfl)
      simp only [Act.put, List.setIfInBounds_toArray, List.set_cons_zero, List.set_cons_succ]
      refine held_next (i := 16) (by kernel_rfl) rfl (by rfl) (fun K hK => ?_)
      go_simp
      refine (AD.out _).mono ?_
      rintro e W4 ⟨rfl, rfl⟩
      go_wp2_with fail
      refine hK.out _ _ (HS.out _ HB3.out) ?_
      clear hK
      refine held_take (i := 17) (d := (some 35)) (v := ?_) rfl rfl (by kernel_rfl) (by kernel_rfl) (by kernel_rfl) (fun _ _ _ h => h) (Or.inl ⟨by rfl, ?_⟩) (by first | assumption | rfl | trivial) ?_
      rotate_left 1
      · (intro w hSw; (try dsimp only at hSw); (try subst hSw); go_simp; try with_reducible rfl)
      simp only [Act.put, List.setIfInBounds_toArray, List.set_cons_zero, List.set_cons_succ]
      have HB5 : Hid (Below w.heap.size w (W2.alloc (.cells #[.int .i64 x, .int .u64 S] 48)).drew) := bel_al HB3.out (Nat.le_refl _) _
      have HO5 : Hid (OwnB (W2.alloc (.cells #[.int .i64 x, .int .u64 S] 48)).drew w.heap.size am nm cm pre) := HO3.out.alloc (.cells #[.int .i64 x, .int .u64 S] 48)
      have HBW5 : Hid (w.heap.size ≤ (W2.alloc (.cells #[.int .i64 x, .int .u64 S] 48)).drew.heap.size) := HB5.out.size
      have HT5 : Hid (∀ j u, (flatB [(x, S)])[j]? = some u → (W2.alloc (.cells #[.int .i64 x, .int .u64 S] 48)).drew.cell? ((⟨W2.heap.size, 0, none⟩ : Addr).add j) = some u) := two_cells W2 (x, S) 48
      refine held_next (i := 18) (by kernel_rfl) rfl (by rfl) (fun K hK => ?_)
      go_simp
      refine hK.out _ _ (HS.out _ HB5.out) ?_
      clear hK
      refine held_next (i := 19) (by kernel_rfl) rfl (by rfl) (fun K hK => ?_)
      refine wp_append_bks _ _ _ 24 rfl w.heap.size i0 Try.underlying24 HI.out.1 HI.out.2.1 HI.out.2.2.1 HI.out.2.2.2 am nm cm pre rfl HO5.out ⟨W2.heap.size, 0, none⟩ 1 1 [(x, S)] rfl rfl HT5.out (by omega) HBW5.out ?_
      intro a6 c6 w6 o6 b6
      have O6 := hide o6
      have K6 : Hid (Below w.heap.size w w6) := HB5.out.trans b6
      have hS6 := HS.out _ K6.out
      go_simp
      refine hK.out _ _ hS6 ?_
      clear hK o6 b6 HO5 HB5 HT5 HBW5 HO3 HB3 HBW3
      refine held_take (i := 20) (d := (some 5)) (v := ?_) rfl rfl (by kernel_rfl) (by kernel_rfl) (by kernel_rfl) (fun _ _ _ h => h) (Or.inl ⟨by rfl, ?_⟩) (by first | assumption | rfl | trivial) ?_
      rotate_left 1
      · (intro w hSw; (try dsimp only at hSw); (try subst hSw); go_simp; try with_reducible rfl)
      simp only [Act.put, List.setIfInBounds_toArray, List.set_cons_zero, List.set_cons_succ]
      refine wpAnyH_done (by kernel_rfl) ?_ _
      clear HS hHeld AD hS6
      go_wp2
      go_roundw
      case rel => exact ⟨a6, nm + 1, c6, p + 1, q + 1, _, rfl, by go_num, by go_num, by omega, by omega, by omega, HN, O6, K6⟩
      case measure => simp [intOf]; omega
    · have : p = n := by omega
      subst this
      have : q = m := by
        by_cases h : q < m
        · exact absurd ⟨h, fun h' => absurd h' hpn⟩ hBt
        · omega
      subst this
      have HE : Hid (pre = M ∧ M.length = nm) := by
        have := HP.out.2
        rw [List.drop_of_length_le (l := l) (by rw [HLL.out]; omega), List.drop_of_length_le (l := r) (by rw [HRL.out]; omega), nil_mrg, List.append_nil] at this
        exact ⟨this, by rw [← this]; exact HP.out.1⟩
      rw [HE.out.1] at HO
      clear hA hBt
      go_wp2
      go_ret
      rw [HE.out.2]
      exact ⟨am, cm, rfl, HO, HB⟩
end Go.Proofs.Ytadcaonkmncgoaa
