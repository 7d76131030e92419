/-
  The program's own Text of labels: its contract, for every world; what was there before stays (written by gen/labdw.gen.py).
  Conditions: the labels lie in memory and may be a set.
-/
import Derived.Test.YtpffhpnmbpjifaaLabDt
namespace Go.Proofs.Ytpffhpnmbpjifaa
open Go.RowKit
set_option maxRecDepth 20000

theorem labB_len {x : Lb} (h1 : x.1.size ≤ 32) (h2 : x.2.size ≤ 64) : (labB x).length ≤ 291 := by
  unfold labB quoB
  have h3 := flat_len x.2.toList
  rw [ba_len] at h3
  rw [List.length_append, List.length_cons, List.length_cons, List.length_append, ba_len]
  simp only [List.length_cons, List.length_nil]
  omega
theorem restB_len : ∀ {l : List Lb}, (∀ x ∈ l, x.1.size ≤ 32 ∧ x.2.size ≤ 64) → (restB l).length ≤ 292 * l.length
  | [], _ => by simp [restB]
  | x :: t, h => by
    rw [restB, List.length_cons, List.length_append, List.length_cons]
    have h1 := labB_len (h x (List.mem_cons_self ..)).1 (h x (List.mem_cons_self ..)).2
    have h2 := restB_len (l := t) (fun y hy => h y (List.mem_cons_of_mem _ hy))
    omega
theorem textB_len {l : List Lb} (h : ∀ x ∈ l, x.1.size ≤ 32 ∧ x.2.size ≤ 64) : (textB l).length ≤ 292 * l.length := by
  cases l with
  | nil => simp [textB]
  | cons x t =>
    rw [textB, List.length_append, List.length_cons]
    have h1 := labB_len (h x (List.mem_cons_self ..)).1 (h x (List.mem_cons_self ..)).2
    have h2 := restB_len (l := t) (fun y hy => h y (List.mem_cons_of_mem _ hy))
    omega
theorem name_size {s : ByteArray} (h : nameB s = true) : s.size ≤ 32 := by
  unfold nameB at h
  simp only [Bool.and_eq_true, decide_eq_true_eq] at h
  exact h.2.2
theorem set_sizes {l : List Lb} (h : chkL l = true) : ∀ x ∈ l, x.1.size ≤ 32 ∧ x.2.size ≤ 64 := fun x hx =>
  have h1 := (chkL_parts h).2.2 x hx
  ⟨name_size h1.1, h1.2.2⟩
theorem textB_take {l : List Lb} {k : Nat} {x : Lb} (hx : l[k]? = some x) : textB (l.take (k + 1)) = textB (l.take k) ++ (if k = 0 then [] else [44]) ++ x.1.toList ++ [61] ++ quoB x.2.toList := by
  have hk : k < l.length := (List.getElem?_eq_some_iff.1 hx).1
  have e : l.take (k + 1) = l.take k ++ [x] := by rw [List.take_add_one, hx]; rfl
  by_cases h0 : k = 0
  · subst h0
    rw [e]
    simp [textB, restB, labB]
  · rw [e, textB_snoc (fun h => by
      have := congrArg List.length h
      rw [List.length_take] at this
      simp at this
      rcases this with h | h
      · omega
      · subst h; simp at hk), if_neg h0]
    simp [labB]

set_option maxHeartbeats 4000000 in
theorem text_some (a : Option Addr) (n cap : Nat) (l : List Lb) (w : World) (hr : RowL w a n l) (hsz : ∀ x ∈ l, x.1.size ≤ 32 ∧ x.2.size ≤ 64) (n8 : n ≤ 8) :
    Calls Try.prog 27 #[.slice a n cap] w fun e w' => e = .returned (.string (textL l)) ∧ Below w.heap.size w w' := by
  have hn := hr.2.1
  have HR := hide hr
  have HL := hide hr.1
  have SZ := hide hsz
  obtain ⟨g, HG⟩ : ∃ g, Hid (w.heap.size = g) := ⟨_, rfl⟩
  have LF : Hid (∀ k, (textB (l.take k)).length ≤ 2336) := fun k => by
    have h1 := textB_len (l := l.take k) (fun x hx => SZ.out x (List.mem_of_mem_take hx))
    have h2 : (l.take k).length ≤ 8 := by rw [List.length_take]; have := HL.out; omega
    omega
  have W0 : Hid (Bu g g (textB (l.take 0)) (w.alloc (.cells #[.pointer none, .slice none 0 0] 90))) := by
    have := bu_new w
    rw [HG.out] at this
    exact this
  have WB := hide (fun p (x : UInt8) W (q : Bu g g p W) (hl : p.length ≤ 4000) (hB : g ≤ W.heap.size) => wrbyte_any g g p x W q (by omega) hB)
  have WS := hide (fun p s W (q : Bu g g p W) (hl : p.length + s.size ≤ 4000) (hB : g ≤ W.heap.size) => wrstr_any g g p s W q (by omega) hB)
  have W44 : Hid (∀ p W, Bu g g p W → p.length ≤ 4000 → g ≤ W.heap.size → Calls Try.prog 44 #[.pointer (some ⟨g, 0, none⟩), .int .u8 44] W fun e w' => e = .returned .nilIface ∧ Bu g g (p ++ [44]) w' ∧ Bk g g W w') := fun p W => WB.out p 44 W
  have W61 : Hid (∀ p W, Bu g g p W → p.length ≤ 4000 → g ≤ W.heap.size → Calls Try.prog 44 #[.pointer (some ⟨g, 0, none⟩), .int .u8 61] W fun e w' => e = .returned .nilIface ∧ Bu g g (p ++ [61]) w' ∧ Bk g g W w') := fun p W => WB.out p 61 W
  have ST := hide (fun p W (q : Bu g g p W) (hB : g ≤ W.heap.size) => bstring_any g g p W q hB)
  have B0 : Hid (Below g w (w.alloc (.cells #[.pointer none, .slice none 0 0] 90))) := by
    have := bel_al (Below.refl w.heap.size w) (Nat.le_refl _) (.cells #[.pointer none, .slice none 0 0] 90)
    rw [HG.out] at this
    exact this
  have HA : Hid (∀ j, j < n → ∃ b off x, a = some ⟨b, off, none⟩ ∧ l[j]? = some x ∧ LbW x ∧ ∀ W, Below g w W → W.cell? ⟨b, off + j * 2, none⟩ = some (.string x.1) ∧ W.cell? ⟨b, off + j * 2 + 1, none⟩ = some (.string x.2)) := fun j hj => by
    have := HR.out.at' hj
    rw [HG.out] at this
    exact this
  have HT : Hid (textL l = ⟨(textB l).toArray⟩) := rfl
  have HTK : Hid (l.take n = l) := List.take_of_length_le (Nat.le_of_eq HL.out)
  rw [HT.out]
  clear hr hsz HT
  rw [HG.out]
  go_enter Try.func27, Try.ntmps27
  go_wp2
  rw [HG.out]
  go_loopg [8] n (fun gk i wr => ∃ k : Nat, k ≤ n ∧ n - k ≤ gk ∧ i = .int .i64 k ∧ Hid (Bu g g (textB (l.take k)) wr) ∧ Hid (Below g w wr))
  case atStart => exact ⟨0, Nat.zero_le _, by omega, rfl, W0, B0⟩
  case round =>
    obtain ⟨k, hk, hg, rfl, PB, BW⟩ := hrel
    obtain ⟨u, rfl⟩ : ∃ u, u = wr := ⟨wr, rfl⟩
    have GW : Hid (g ≤ u.heap.size) := Nat.le_trans (Nat.le_of_eq HG.out.symm) BW.out.size
    clear W0 B0
    by_cases hlt : k < n
    · obtain ⟨b1, o1, x, rfl, hx, hxw, hc1⟩ := HA.out k hlt
      obtain ⟨f0, f1⟩ := hc1 u BW.out
      have SX := hide (SZ.out x (List.mem_of_getElem? hx))
      have TK := hide (textB_take hx)
      have QU := hide (fun W => quoted_any x.2 W SX.out.2)
      have LL := hide (LF.out k)
      have i1 : (0 : Int) ≤ (k : Int) := by omega
      have i2 : (k : Int) < (n : Int) := by omega
      obtain ⟨o, HO⟩ : ∃ o, Hid (o = Obj.cells #[.string x.1, .string x.2] 41) := ⟨_, rfl⟩
      have PA : Hid (Bu g g (textB (l.take k)) (u.alloc (.cells #[.string x.1, .string x.2] 41))) := PB.out.below (bel_al (Below.refl _ _) (Nat.le_refl _) _)
      have KA : Hid (Below g w (u.alloc (.cells #[.string x.1, .string x.2] 41))) := BW.out.alloc GW.out _
      have GA : Hid (g ≤ (u.alloc (.cells #[.string x.1, .string x.2] 41)).heap.size) := Nat.le_trans (Nat.le_of_eq HG.out.symm) KA.out.size
      have XA : Hid ((u.alloc (.cells #[.string x.1, .string x.2] 41)).heap[u.heap.size]? = some (.cells #[.string x.1, .string x.2] 41)) := heap_alloc_new u _
      have NE : Hid (u.heap.size ≠ g) := by have := PB.out.lt.2; exact fun e => by omega
      clear hc1 hx hxw HO o PB
      by_cases hk0 : k = 0
      · rw [if_pos hk0, List.append_nil] at TK
        have e3 : ¬ (0 : Int) < (k : Int) := by omega
        generalize textB (l.take k) = pre at PA TK LL
        clear hk0
        go_wp2_with fail
        with_reducible refine (WS.out _ x.1 _ PA.out (by have := LL.out; have := SX.out.1; omega) GA.out).mono ?_
        rintro e ub ⟨rfl, p1, k1⟩
        have PB := hide p1
        have KB := hide (KA.out.trans k1.1)
        have GB : Hid (g ≤ ub.heap.size) := Nat.le_trans GA.out k1.1.size
        have XB := hide (k1.box XA.out NE.out)
        have LB : Hid ((pre ++ x.1.toList).length ≤ 2400) := by
          show _ ≤ _
          have h1 := LL.out
          have h2 := SX.out.1
          rw [List.length_append, ba_len]
          omega
        clear p1 k1 PA KA GA XA LL
        go_wp2_with fail
        with_reducible refine (W61.out _ _ PB.out (by have := LB.out; omega) GB.out).mono ?_
        rintro e uc ⟨rfl, p1, k1⟩
        have PC := hide p1
        have KC := hide (KB.out.trans k1.1)
        have GC : Hid (g ≤ uc.heap.size) := Nat.le_trans GB.out k1.1.size
        have XC := hide (k1.box XB.out NE.out)
        have LC : Hid ((pre ++ x.1.toList ++ [61]).length ≤ 2401) := by
          show _ ≤ _
          have h1 := LB.out
          rw [List.length_append]
          simp only [List.length_cons, List.length_nil]
          omega
        obtain ⟨z0, z1⟩ := box_cells XC.out
        clear p1 k1 PB KB GB XB LB
        go_wp2_with fail
        with_reducible refine (QU.out _).mono ?_
        rintro e ud ⟨rfl, k1⟩
        have PD := hide (PC.out.below k1)
        have KD := hide (KC.out.trans (k1.mono GC.out))
        have GD : Hid (g ≤ ud.heap.size) := Nat.le_trans GC.out k1.size
        have QS : Hid ((quoS x.2).size ≤ 300 ∧ (quoS x.2).toList = quoB x.2.toList) := by
          have e : (quoS x.2).toList = quoB x.2.toList := ByteArray.toList_mk _
          refine ⟨?_, e⟩
          rw [← ba_len, e]
          unfold quoB
          have h3 := flat_len x.2.toList
          rw [ba_len] at h3
          have h4 := SX.out.2
          rw [List.length_cons, List.length_append]
          simp only [List.length_cons, List.length_nil]
          omega
        clear k1 PC KC GC XC z0 z1
        go_wp2_with fail
        with_reducible refine (WS.out _ (quoS x.2) _ PD.out (by have := LC.out; have := QS.out.1; omega) GD.out).mono ?_
        rintro e ue ⟨rfl, p1, k1⟩
        rw [QS.out.2] at p1
        have PE : Hid (Bu g g (textB (l.take (k + 1))) ue) := by
          show Bu _ _ _ _
          rw [TK.out]
          exact p1
        have KE := hide (KD.out.trans k1.1)
        clear p1 k1 PD KD GD QS LC TK
        go_wp2
        go_roundg (n - (k + 1))
        case measure => omega
        case rel => exact ⟨k + 1, by omega, by omega, by go_num, PE, KE⟩
      · rw [if_neg hk0] at TK
        have e3 : (0 : Int) < (k : Int) := by omega
        generalize textB (l.take k) = pre at PA TK LL
        clear hk0
        go_wp2_with fail
        with_reducible refine (W44.out _ _ PA.out (by have := LL.out; omega) GA.out).mono ?_
        rintro e ua ⟨rfl, p1, k1⟩
        have PA' := hide p1
        have KA' := hide (KA.out.trans k1.1)
        have GA' : Hid (g ≤ ua.heap.size) := Nat.le_trans GA.out k1.1.size
        have XA' := hide (k1.box XA.out NE.out)
        have LL' : Hid ((pre ++ [44]).length ≤ 2337) := by have := LL.out; show _ ≤ _; simp; omega
        obtain ⟨y0, y1⟩ := box_cells XA'.out
        clear p1 k1 PA KA GA XA LL
        generalize pre ++ [44] = pre1 at PA' TK LL'
        go_wp2_with fail
        with_reducible refine (WS.out _ x.1 _ PA'.out (by have := LL'.out; have := SX.out.1; omega) GA'.out).mono ?_
        rintro e ub ⟨rfl, p1, k1⟩
        have PB := hide p1
        have KB := hide (KA'.out.trans k1.1)
        have GB : Hid (g ≤ ub.heap.size) := Nat.le_trans GA'.out k1.1.size
        have XB := hide (k1.box XA'.out NE.out)
        have LB : Hid ((pre1 ++ x.1.toList).length ≤ 2400) := by
          show _ ≤ _
          have h1 := LL'.out
          have h2 := SX.out.1
          rw [List.length_append, ba_len]
          omega
        clear p1 k1 PA' KA' GA' XA' LL'
        go_wp2_with fail
        with_reducible refine (W61.out _ _ PB.out (by have := LB.out; omega) GB.out).mono ?_
        rintro e uc ⟨rfl, p1, k1⟩
        have PC := hide p1
        have KC := hide (KB.out.trans k1.1)
        have GC : Hid (g ≤ uc.heap.size) := Nat.le_trans GB.out k1.1.size
        have XC := hide (k1.box XB.out NE.out)
        have LC : Hid ((pre1 ++ x.1.toList ++ [61]).length ≤ 2401) := by
          show _ ≤ _
          have h1 := LB.out
          rw [List.length_append]
          simp only [List.length_cons, List.length_nil]
          omega
        obtain ⟨z0, z1⟩ := box_cells XC.out
        clear p1 k1 PB KB GB XB LB
        go_wp2_with fail
        with_reducible refine (QU.out _).mono ?_
        rintro e ud ⟨rfl, k1⟩
        have PD := hide (PC.out.below k1)
        have KD := hide (KC.out.trans (k1.mono GC.out))
        have GD : Hid (g ≤ ud.heap.size) := Nat.le_trans GC.out k1.size
        have QS : Hid ((quoS x.2).size ≤ 300 ∧ (quoS x.2).toList = quoB x.2.toList) := by
          have e : (quoS x.2).toList = quoB x.2.toList := ByteArray.toList_mk _
          refine ⟨?_, e⟩
          rw [← ba_len, e]
          unfold quoB
          have h3 := flat_len x.2.toList
          rw [ba_len] at h3
          have h4 := SX.out.2
          rw [List.length_cons, List.length_append]
          simp only [List.length_cons, List.length_nil]
          omega
        clear k1 PC KC GC XC z0 z1
        go_wp2_with fail
        with_reducible refine (WS.out _ (quoS x.2) _ PD.out (by have := LC.out; have := QS.out.1; omega) GD.out).mono ?_
        rintro e ue ⟨rfl, p1, k1⟩
        rw [QS.out.2] at p1
        have PE : Hid (Bu g g (textB (l.take (k + 1))) ue) := by
          show Bu _ _ _ _
          rw [TK.out]
          exact p1
        have KE := hide (KD.out.trans k1.1)
        clear p1 k1 PD KD GD QS LC TK
        go_wp2
        go_roundg (n - (k + 1))
        case measure => omega
        case rel => exact ⟨k + 1, by omega, by omega, by go_num, PE, KE⟩
    · have : k = n := by omega
      subst this
      have i2 : ¬ (k : Int) < (k : Int) := by omega
      rw [HTK.out] at PB
      go_wp2_with fail
      with_reducible refine (ST.out _ _ PB.out GW.out).mono ?_
      rintro e u2 ⟨rfl, k2⟩
      have K2 : Hid (Below g w u2) := BW.out.trans k2
      clear k2
      go_wp2
      go_ret
      exact ⟨rfl, K2.out⟩
theorem text_any (a : Option Addr) (n cap : Nat) (l : List Lb) (w : World) (hr : RowL w a n l) (hc : chkL l = true) :
    Calls Try.prog 27 #[.slice a n cap] w fun e w' => e = .returned (.string (textL l)) ∧ Below w.heap.size w w' :=
  text_some a n cap l w hr (set_sizes hc) (by have := (chkL_parts hc).2.1; rw [hr.1] at this; exact this)
theorem laT : LaT := ⟨fun a n cap l w hr hc => text_any a n cap l w hr hc⟩
end Go.Proofs.Ytpffhpnmbpjifaa
