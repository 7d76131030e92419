/-
  The document's Make of labels: its contract, for every world.
  Conditions: the labels lie in memory.
-/
import Derived.Test.YtoepdgdagjckbaaLabR
namespace Go.Proofs.Ytoepdgdagjckbaa
open Go.RowKit
set_option maxRecDepth 20000

theorem slice_toL (a : Option Addr) (n cap k : Nat) (hk : k ≤ cap) (w : World) :
    (Instr.slice 22 (.slice a n cap) none (some (.int .i64 (k : Int))) none).run Try.prog w = .ok (.slice a k cap) w := by
  rw [run_slice_h (P := Try.prog) w 22 a n cap Try.underlying22 .i64 (k : Int) (by omega) (by omega)]
  have hs : (sizeOf (Try.prog.elem 22)).run Try.prog w = .ok 2 w := by kernel_rfl
  rw [hs]
  simp only [Result.andThen, sliced, Int.toNat_natCast, Nat.zero_mul, Nat.sub_zero]
  cases a with
  | none => simp
  | some x => simp [Addr.add]
theorem slice_fromL (a : Option Addr) (n cap k : Nat) (hk : k ≤ n) (w : World) :
    (Instr.slice 22 (.slice a n cap) (some (.int .i64 (k : Int))) none none).run Try.prog w = .ok (.slice (if cap = k then a else a.map (·.add (k * 2))) (n - k) (cap - k)) w := by
  rw [run_slice_l (P := Try.prog) w 22 a n cap Try.underlying22 .i64 (k : Int) (by omega) (by omega)]
  have hs : (sizeOf (Try.prog.elem 22)).run Try.prog w = .ok 2 w := by kernel_rfl
  rw [hs]
  simp only [Result.andThen, sliced, Int.toNat_natCast]

theorem insL_at {x : Lb} : ∀ {m : List Lb} {k : Nat}, k ≤ m.length → (∀ j y, j < k → m[j]? = some y → Op.bytesLess x.1.toList y.1.toList = false) → (∀ y, m[k]? = some y → Op.bytesLess x.1.toList y.1.toList = true) → insL x m = m.take k ++ x :: m.drop k
  | [], k, hk, _, _ => by
    have : k = 0 := by simpa using hk
    subst this
    rfl
  | y :: t, 0, _, _, h2 => by
    show (if Op.bytesLess x.1.toList y.1.toList then x :: y :: t else y :: insL x t) = _
    rw [if_pos (h2 y rfl)]
    rfl
  | y :: t, k + 1, hk, h1, h2 => by
    show (if Op.bytesLess x.1.toList y.1.toList then x :: y :: t else y :: insL x t) = _
    rw [if_neg (by rw [h1 0 y (by omega) rfl]; decide), insL_at (m := t) (k := k) (by simpa using hk) (fun j z hj hz => h1 (j + 1) z (by omega) (by simpa using hz)) (fun z hz => h2 z (by simpa using hz))]
    rfl
theorem insL_sortedAt {x y : Lb} {m : List Lb} {k : Nat} (hs : m.Pairwise notLess) (hy : m[k]? = some y) (h1 : Op.bytesLess x.1.toList y.1.toList = false) : ∀ j z, j < k + 1 → m[j]? = some z → Op.bytesLess x.1.toList z.1.toList = false := by
  intro j z hj hz
  by_cases e : j = k
  · subst e
    rw [hy] at hz
    simp only [Option.some.injEq] at hz
    subst hz
    exact h1
  · have hlt : j < m.length := (List.getElem?_eq_some_iff.1 hz).1
    have hlk : k < m.length := (List.getElem?_eq_some_iff.1 hy).1
    have hp := List.pairwise_iff_getElem.1 hs j k hlt hlk (by omega)
    rw [List.getElem?_eq_getElem hlt] at hz
    rw [List.getElem?_eq_getElem hlk] at hy
    simp only [Option.some.injEq] at hy hz
    rw [hy, hz] at hp
    exact notLess_trans hp h1
theorem fulL_step {l : List Lb} {k : Nat} {x : Lb} (hx : l[k]? = some x) : fulL (l.take (k + 1)) = if x.2 = .empty then fulL (l.take k) else fulL (l.take k) ++ [x] := by
  have e : l.take (k + 1) = l.take k ++ [x] := by
    rw [List.take_add_one, hx]
    rfl
  rw [e]
  unfold fulL
  rw [List.filter_append]
  by_cases h : x.2 = .empty
  · simp [h]
  · simp [h]
theorem ba_nil {a : ByteArray} (h : a.toList = []) : a = .empty := ba_ext (by rw [h, ByteArray.toList_eq]; rfl)
theorem sortL_snoc (l : List Lb) (x : Lb) : sortL (l ++ [x]) = insL x (sortL l) := by
  unfold sortL
  rw [List.foldl_append]
  rfl
theorem makeL_many {l : List Lb} {k : Nat} (h : 8 < (sortL (fulL (l.take k))).length) : makeL l = none := by
  unfold makeL
  rw [if_neg]
  intro hc
  have h1 := (sortL_perm (fulL l)).length_eq
  have h2 := (sortL_perm (fulL (l.take k))).length_eq
  have h3 : (fulL (l.take k)).length ≤ (fulL l).length := (List.Sublist.filter _ (List.take_sublist k l)).length_le
  unfold chkL at hc
  simp only [Bool.and_eq_true, decide_eq_true_eq] at hc
  omega
theorem sortL_mem {l : List Lb} {P : Lb → Prop} (h : ∀ x ∈ l, P x) (k : Nat) : ∀ x ∈ sortL (fulL (l.take k)), P x := fun x hx =>
  h x (List.mem_of_mem_take (List.mem_filter.1 ((sortL_perm _).mem_iff.1 hx)).1)

theorem quietB0 {P : Program} {f : Nat} {args : Array Value} {v : Value} {w : World} (h : Calls P f args w (fun e w' => e = .returned v ∧ ∃ q, w' = w.drewN q)) : Calls P f args w fun e w' => e = .returned v ∧ Below w.heap.size w w' :=
  h.mono fun e w' ⟨he, q, hq⟩ => ⟨he, by rw [hq]; exact bel_drewN (Below.refl _ _) q⟩
theorem RowL.hrow {w : World} {a : Option Addr} {n : Nat} {l : List Lb} (h : RowL w a n l) : ∀ ad, a = some ad → ∀ j u, (flatL l)[j]? = some u → w.cell? (ad.add j) = some u := by
  rintro ad rfl
  exact h.cells
theorem one_hrow (w : World) (x : Lb) (e : TypeId) : ∀ ad, some (⟨w.heap.size, 0, none⟩ : Addr) = some ad → ∀ j u, (flatL [x])[j]? = some u → (w.alloc (.cells #[.string x.1, .string x.2] e)).cell? (ad.add j) = some u := by
  rintro ad h j u hu
  simp only [Option.some.injEq] at h
  subst h
  exact lab_cells w x e j u hu
/-- What the document's Make, Parse tell. -/
def DocL (r : Option (List Lb)) (w w' : World) (e : Ending) : Prop :=
  Below w.heap.size w w' ∧ match r with
  | none => e = .returned (.tuple #[.slice none 0 0, .bool false])
  | some m => ∃ a c, e = .returned (.tuple #[.slice a m.length c, .bool true]) ∧ RowL w' a m.length m

set_option maxHeartbeats 8000000 in
theorem refmake_any (a : Option Addr) (n cap : Nat) (l : List Lb) (w : World) (hr : RowL w a n l) :
    Calls Try.prog 19 #[.slice a n cap] w fun e w' => DocL (makeL l) w w' e := by
  obtain ⟨i0, hi, hz0, hz1, hz2⟩ := info_parts Try.infoL
  have hn := hr.2.1
  have HR := hide hr
  have HL := hide hr.1
  have HW := hide hr.2.2.1
  have HM : Hid (∀ k, 8 < (sortL (fulL (l.take k))).length → makeL l = none) := fun k => makeL_many
  have HZ : Hid (sortL (fulL (l.take n)) = sortL (fulL l)) := by show _ = _; rw [← hr.1, List.take_length]
  have HY : Hid (makeL l = if chkL (sortL (fulL l)) then some (sortL (fulL l)) else none) := rfl
  have CK := hide (fun W b m c (q : RowL W b m (sortL (fulL l))) => quietB0 (refchkl_any b m c _ W q))
  generalize makeL l = ans at *
  clear hr
  go_enter Try.func19, Try.ntmps19
  go_wp2
  go_loopw [4, 5] (fun s i wr => ∃ (am : Option Addr) (nm cm k : Nat), s = .slice am nm cm ∧ i = .int .i64 k ∧ k ≤ n ∧ nm ≤ 8 ∧ Hid (OwnL wr w.heap.size am nm cm (sortL (fulL (l.take k)))) ∧ Hid (Below w.heap.size w wr)) (fun _ i _ => n - (intOf i).toNat)
  case atStart => exact ⟨none, 0, 0, 0, rfl, rfl, Nat.zero_le _, by omega, ownL_nil _ _, Below.refl _ _⟩
  case round =>
    obtain ⟨am, nm, cm, k, rfl, rfl, hk, h8, OW, BW⟩ := hrel
    obtain ⟨u, rfl⟩ : ∃ u, u = wr := ⟨wr, rfl⟩
    by_cases hlt : k < n
    · obtain ⟨b1, o1, x, rfl, hx, hxw, hc1⟩ := HR.out.at' hlt
      obtain ⟨f0, f1⟩ := hc1 u BW.out
      have FS := hide (fulL_step hx)
      have i1 : (0 : Int) ≤ (k : Int) := by omega
      have i2 : (k : Int) < (n : Int) := by omega
      have HC1 := hide hc1
      clear hc1 hx hxw
      obtain ⟨xn, xv⟩ := x
      by_cases he : xv = .empty
      · subst he
        have OW2 : Hid (OwnL u w.heap.size am nm cm (sortL (fulL (l.take (k + 1))))) := by show OwnL _ _ _ _ _ _; rw [FS.out, if_pos rfl]; exact OW.out
        clear FS OW
        go_wp2
        go_roundw
        case rel => exact ⟨am, nm, cm, k + 1, rfl, by go_num, by omega, h8, OW2, BW⟩
        case measure => simp [intOf]; omega
      · have e0 : (xv.toList == []) = false := by
          rw [beq_eq_false_iff_ne]
          exact fun h => he (ba_nil h)
        have e1 : ¬ xv.toList = [] := fun h => he (ba_nil h)
        have FS2 : Hid (sortL (fulL (l.take (k + 1))) = insL (xn, xv) (sortL (fulL (l.take k)))) := by show _ = _; rw [FS.out, if_neg he, sortL_snoc]
        have SO := hide (sortL_sorted (fulL (l.take k)))
        have MW := hide (sortL_mem HW.out k)
        generalize sortL (fulL (l.take k)) = M at *
        have ML := hide OW.out.len
        have RM := hide (OW.out.row (by omega) MW.out)
        have CP := hide OW.out.capped
        clear FS he
        go_wp2
        go_loopw [6] (fun z wz => ∃ (j q : Nat), z = .int .i64 j ∧ j ≤ nm ∧ wz = u.drewN q ∧ Hid (∀ y, M[j]? = some y → Op.bytesLess xn.toList y.1.toList = true)) (fun z _ => (intOf z).toNat)
        case atStart => exact ⟨nm, 0, by go_num, Nat.le_refl _, rfl, fun y hy => by
          have := (List.getElem?_eq_some_iff.1 hy).1
          have := ML.out
          omega⟩
        case round =>
          obtain ⟨j, q, rfl, hj, rfl, HI⟩ := hrel
          by_cases hj0 : 0 < j
          · obtain ⟨t, HK⟩ : ∃ t, Hid (j = t + 1) := ⟨j - 1, by show _ = _; omega⟩
            obtain ⟨b2, o2, y, rfl, hy, hyw, hc2⟩ := RM.out.at' (j := t) (by have := HK.out; omega)
            obtain ⟨g0, _⟩ := hc2 u (Below.refl _ _)
            have j1 : (0 : Int) < (j : Int) := by omega
            have j2 : (0 : Int) ≤ (t : Int) := by omega
            have j3 : (t : Int) < (nm : Int) := by have := HK.out; omega
            have j4 : (j : Int) - 1 = (t : Int) := by have := HK.out; omega
            have j5 : IntKind.i64.wrap (t : Int) = (t : Int) := by rw [IntKind.wrap_i64]; omega
            have HY2 := hide hy
            clear hc2 hy hyw
            cases hb : Op.bytesLess xn.toList y.1.toList with
            | true =>
              have HI2 : Hid (∀ z, M[t]? = some z → Op.bytesLess xn.toList z.1.toList = true) := fun z hz => by
                rw [HY2.out] at hz
                simp only [Option.some.injEq] at hz
                subst hz
                exact hb
              clear HI HY2
              go_wp2
              go_quiet (fail)
              go_wp2
              go_roundw
              case rel => exact ⟨t, _, by go_num, by have := HK.out; omega, rfl, HI2⟩
              case measure => have := HK.out; simp [intOf]; omega
            | false =>
              have IA := hide (insL_at (x := (xn, xv)) (m := M) (k := j) (by rw [ML.out]; exact hj) (by rw [HK.out]; exact insL_sortedAt SO.out HY2.out hb) HI.out)
              have HJ := hide hj
              clear HI HY2
              go_wp2
              go_quiet (fail)
              have f1 := slice_toL (some (⟨b2, o2, none⟩ : Addr)) nm cm j (by have := CP.out.1; omega)
              have f2 := slice_fromL (some (⟨b2, o2, none⟩ : Addr)) nm cm j hj
              have HTN : Hid ((some (⟨b2, o2, none⟩ : Addr)) = none → j = 0 ∧ cm = 0) := fun e => by have := CP.out.2 e; omega
              have RT := hide (fun W (b : Below u.heap.size u W) => ((RM.out.below b (Nat.le_refl _)).to j hj).hrow)
              have RF := hide (fun W (b : Below u.heap.size u W) => ((RM.out.below b (Nat.le_refl _)).from j hj CP.out.1).hrow)
              have HDN : Hid ((if cm = j then (some (⟨b2, o2, none⟩ : Addr)) else Option.map (·.add (j * 2)) (some (⟨b2, o2, none⟩ : Addr))) = none → nm - j = 0 ∧ cm - j = 0) := fun e => by
                by_cases hc : cm = j
                · have := CP.out.1
                  omega
                · rw [if_neg hc, Option.map_eq_none_iff] at e
                  have := CP.out.2 e
                  omega
              have LT : Hid ((M.take j).length = j) := by show _ = _; rw [List.length_take, ML.out]; omega
              have LD : Hid ((M.drop j).length = nm - j) := by show _ = _; rw [List.length_drop, ML.out]
              generalize (if cm = j then (some (⟨b2, o2, none⟩ : Addr)) else Option.map (·.add (j * 2)) (some (⟨b2, o2, none⟩ : Addr))) = D at f2 RF HDN
              have SZ : Hid (w.heap.size ≤ u.heap.size) := BW.out.size
              clear RM CP OW ML SO
              go_wp2_with (at_builtin; refine wpList_append_labs _ rfl _ _ 22 rfl u.heap.size i0 Try.underlying22 hi hz0 hz1 hz2 none 0 0 [] rfl (ownL_nil _ _) (some (⟨b2, o2, none⟩ : Addr)) j cm (M.take j) rfl LT.out (RT.out _ (bel_drewN (Below.refl _ _) _)) HTN.out (by omega) (Nat.le_refl _) ?_)
              intro a2 c2 w2 o2 b2
              try rw [Nat.zero_add] at o2
              try rw [List.nil_append] at o2
              try rw [Nat.zero_add]
              have O2 := hide o2
              have B2 : Hid (Below u.heap.size u w2) := (bel_drewN (Below.refl _ _) _).trans b2
              have BB2 : Hid (Below w.heap.size w w2) := BW.out.trans (B2.out.mono SZ.out)
              obtain ⟨p0, p1⟩ := HC1.out w2 BB2.out
              clear o2 b2 RT HTN f1
              go_wp2_with (at_builtin; refine wpList_append_labs _ rfl _ _ 22 rfl u.heap.size i0 Try.underlying22 hi hz0 hz1 hz2 a2 j c2 (M.take j) rfl (O2.out.alloc _) (some ⟨w2.heap.size, 0, none⟩) 1 1 [(xn, xv)] rfl rfl (one_hrow w2 (xn, xv) _) (fun e => by cases e) (by omega) (by have := B2.out.size; simp; omega) ?_)
              intro a3 c3 w3 o3 b3
              have O3 := hide o3
              have B3 : Hid (Below u.heap.size u w3) := (bel_al B2.out (Nat.le_refl _) _).trans b3
              clear o3 b3 O2 B2 BB2 p0 p1
              go_wp2_with (at_builtin; refine wpList_append_labs _ rfl _ _ 22 rfl u.heap.size i0 Try.underlying22 hi hz0 hz1 hz2 a3 (j + 1) c3 (M.take j ++ [(xn, xv)]) rfl O3.out D (nm - j) (cm - j) (M.drop j) rfl LD.out (RF.out _ B3.out) HDN.out (by omega) B3.out.size ?_)
              intro a4 c4 w4 o4 b4
              have hlen : j + 1 + (nm - j) = nm + 1 := by have := HJ.out; omega
              rw [hlen] at o4 ⊢
              rw [← IA.out, ← FS2.out] at o4
              have O4 : Hid (OwnL w4 w.heap.size a4 (nm + 1) c4 (sortL (fulL (l.take (k + 1))))) := o4.mono SZ.out
              have B4 : Hid (Below w.heap.size w w4) := BW.out.trans ((B3.out.trans b4).mono SZ.out)
              clear o4 b4 O3 B3 hlen IA FS2 RF HDN LT LD BW
              by_cases h9 : nm + 1 ≤ 8
              · have e9 : ¬ (8 : Int) < ((nm + 1 : Nat) : Int) := by omega
                have e9' : ¬ (8 : Int) < (nm : Int) + 1 := by omega
                go_wp2
                go_roundw
                case rel => exact ⟨a4, nm + 1, c4, k + 1, by go_num, by go_num, by omega, h9, O4, B4⟩
                case measure => simp [intOf]; omega
              · have e9 : (8 : Int) < ((nm + 1 : Nat) : Int) := by omega
                have e9' : (8 : Int) < (nm : Int) + 1 := by omega
                have F := hide (HM.out (k + 1) (by rw [O4.out.len]; omega))
                go_wp2
                go_ret2
                rw [F.out]
                exact ⟨B4.out, rfl⟩
          · have IA := hide (insL_at (x := (xn, xv)) (m := M) (k := j) (by rw [ML.out]; exact hj) (fun i z hi _ => by omega) HI.out)
            have j1 : ¬ (0 : Int) < (j : Int) := by omega
            have j1' : decide ((0 : Int) < (j : Int)) = false := decide_eq_false j1
            have j1n : decide (0 < j) = false := decide_eq_false hj0
            have HJ := hide hj
            clear HI
            go_wp2
            go_quiet (fail)
            have f1 := slice_toL am nm cm j (by have := CP.out.1; omega)
            have f2 := slice_fromL am nm cm j hj
            have HTN : Hid (am = none → j = 0 ∧ cm = 0) := fun e => by have := CP.out.2 e; omega
            have RT := hide (fun W (b : Below u.heap.size u W) => ((RM.out.below b (Nat.le_refl _)).to j hj).hrow)
            have RF := hide (fun W (b : Below u.heap.size u W) => ((RM.out.below b (Nat.le_refl _)).from j hj CP.out.1).hrow)
            have HDN : Hid ((if cm = j then am else Option.map (·.add (j * 2)) am) = none → nm - j = 0 ∧ cm - j = 0) := fun e => by
              by_cases hc : cm = j
              · have := CP.out.1
                omega
              · rw [if_neg hc, Option.map_eq_none_iff] at e
                have := CP.out.2 e
                omega
            have LT : Hid ((M.take j).length = j) := by show _ = _; rw [List.length_take, ML.out]; omega
            have LD : Hid ((M.drop j).length = nm - j) := by show _ = _; rw [List.length_drop, ML.out]
            generalize (if cm = j then am else Option.map (·.add (j * 2)) am) = D at f2 RF HDN
            have SZ : Hid (w.heap.size ≤ u.heap.size) := BW.out.size
            clear RM CP OW ML SO
            go_wp2_with (at_builtin; refine wpList_append_labs _ rfl _ _ 22 rfl u.heap.size i0 Try.underlying22 hi hz0 hz1 hz2 none 0 0 [] rfl (ownL_nil _ _) am j cm (M.take j) rfl LT.out (RT.out _ (bel_drewN (Below.refl _ _) _)) HTN.out (by omega) (Nat.le_refl _) ?_)
            intro a2 c2 w2 o2 b2
            try rw [Nat.zero_add] at o2
            try rw [List.nil_append] at o2
            try rw [Nat.zero_add]
            have O2 := hide o2
            have B2 : Hid (Below u.heap.size u w2) := (bel_drewN (Below.refl _ _) _).trans b2
            have BB2 : Hid (Below w.heap.size w w2) := BW.out.trans (B2.out.mono SZ.out)
            obtain ⟨p0, p1⟩ := HC1.out w2 BB2.out
            clear o2 b2 RT HTN f1
            go_wp2_with (at_builtin; refine wpList_append_labs _ rfl _ _ 22 rfl u.heap.size i0 Try.underlying22 hi hz0 hz1 hz2 a2 j c2 (M.take j) rfl (O2.out.alloc _) (some ⟨w2.heap.size, 0, none⟩) 1 1 [(xn, xv)] rfl rfl (one_hrow w2 (xn, xv) _) (fun e => by cases e) (by omega) (by have := B2.out.size; simp; omega) ?_)
            intro a3 c3 w3 o3 b3
            have O3 := hide o3
            have B3 : Hid (Below u.heap.size u w3) := (bel_al B2.out (Nat.le_refl _) _).trans b3
            clear o3 b3 O2 B2 BB2 p0 p1
            go_wp2_with (at_builtin; refine wpList_append_labs _ rfl _ _ 22 rfl u.heap.size i0 Try.underlying22 hi hz0 hz1 hz2 a3 (j + 1) c3 (M.take j ++ [(xn, xv)]) rfl O3.out D (nm - j) (cm - j) (M.drop j) rfl LD.out (RF.out _ B3.out) HDN.out (by omega) B3.out.size ?_)
            intro a4 c4 w4 o4 b4
            have hlen : j + 1 + (nm - j) = nm + 1 := by have := HJ.out; omega
            rw [hlen] at o4 ⊢
            rw [← IA.out, ← FS2.out] at o4
            have O4 : Hid (OwnL w4 w.heap.size a4 (nm + 1) c4 (sortL (fulL (l.take (k + 1))))) := o4.mono SZ.out
            have B4 : Hid (Below w.heap.size w w4) := BW.out.trans ((B3.out.trans b4).mono SZ.out)
            clear o4 b4 O3 B3 hlen IA FS2 RF HDN LT LD BW
            by_cases h9 : nm + 1 ≤ 8
            · have e9 : ¬ (8 : Int) < ((nm + 1 : Nat) : Int) := by omega
              have e9' : ¬ (8 : Int) < (nm : Int) + 1 := by omega
              go_wp2
              go_roundw
              case rel => exact ⟨a4, nm + 1, c4, k + 1, by go_num, by go_num, by omega, h9, O4, B4⟩
              case measure => simp [intOf]; omega
            · have e9 : (8 : Int) < ((nm + 1 : Nat) : Int) := by omega
              have e9' : (8 : Int) < (nm : Int) + 1 := by omega
              have F := hide (HM.out (k + 1) (by rw [O4.out.len]; omega))
              go_wp2
              go_ret2
              rw [F.out]
              exact ⟨B4.out, rfl⟩
    · have hkn : k = n := by omega
      subst hkn
      have i2 : ¬ (k : Int) < (k : Int) := by omega
      have OW2 : Hid (OwnL u w.heap.size am nm cm (sortL (fulL l))) := by have h := OW.out; rw [HZ.out] at h; exact h
      have MW := hide (sortL_mem HW.out k)
      rw [HZ.out] at MW
      have RM := hide (OW2.out.row (by omega) MW.out)
      have ML := hide OW2.out.len
      clear OW OW2 HM HZ MW
      generalize sortL (fulL l) = M at *
      cases hc : chkL M with
      | false =>
        rw [hc] at CK HY
        go_wp2_with fail
        with_reducible refine (CK.out _ _ _ _ RM.out).mono ?_
        rintro e v ⟨rfl, b2⟩
        have L2 := hide (bel_to BW.out (Nat.le_refl _) b2)
        clear b2
        go_wp2
        go_ret2
        rw [HY.out]
        exact ⟨L2.out, rfl⟩
      | true =>
        rw [hc] at CK HY
        go_wp2_with fail
        with_reducible refine (CK.out _ _ _ _ RM.out).mono ?_
        rintro e v ⟨rfl, b2⟩
        have L2 := hide (bel_to BW.out (Nat.le_refl _) b2)
        have R2 := hide (RM.out.below b2 (Nat.le_refl _))
        clear b2
        go_wp2
        go_ret2
        rw [HY.out]
        refine ⟨L2.out, am, cm, ?_, ?_⟩
        · rw [ML.out]; rfl
        · rw [ML.out]; exact R2.out
end Go.Proofs.Ytoepdgdagjckbaa
