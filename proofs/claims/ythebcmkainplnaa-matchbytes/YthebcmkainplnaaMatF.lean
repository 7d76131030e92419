/-
  The program's own Text of a matcher (text, listed; strings.Join by its contract): contracts, for every world; what was there before stays (written by gen/matf.gen.py).
  Conditions: the matcher lies in memory; all its parts fit.
-/
import Derived.Test.YthebcmkainplnaaMatE
import Derived.Test.YthebcmkainplnaaLabDw
import Derived.Test.YthebcmkainplnaaLabY
namespace Go.Proofs.Ythebcmkainplnaa
open Go.RowKit
set_option maxRecDepth 20000

theorem quoB_le (v : List UInt8) : (quoB v).length ≤ 4 * v.length + 2 := by
  unfold quoB
  have := flat_len v
  simp only [List.length_cons, List.length_append, List.length_nil]
  omega
theorem join_le : ∀ (l : List (List UInt8)), (joinC l).length ≤ (l.map fun x => x.length + 1).sum
  | [] => by simp [joinC]
  | [x] => by rw [joinC_one]; simp
  | x :: y :: t => by
    have := join_le (y :: t)
    rw [joinC_cons _ _ (by simp)]
    simp only [List.length_append, List.length_cons, List.map_cons, List.sum_cons] at *
    omega
theorem quos_len (vs : List ByteArray) : (joinC (vs.map fun v => quoB v.toList)).length ≤ 4 * sumB' vs + 3 * vs.length := by
  have h := join_le (vs.map fun v => quoB v.toList)
  have : ((vs.map fun v => quoB v.toList).map fun x => x.length + 1).sum ≤ 4 * sumB' vs + 3 * vs.length := by
    clear h
    induction vs with
    | nil => simp [sumB']
    | cons v t ih =>
      have h1 := quoB_le v.toList
      rw [ba_len] at h1
      unfold sumB' at *
      simp only [List.map_cons, List.sum_cons, List.length_cons] at *
      omega
  omega
/-- A text's length, by what the parts have. -/
theorem text_len (m : Mt) : ∀ (d n b : Nat) (r : Nat × Nat), lookF m d n b = some r → (textM m).length + 1 + 4 * b + 52 * n ≤ 4 * r.2 + 52 * r.1 := by
  refine Mt.ind (P := fun m => ∀ (d n b : Nat) (r : Nat × Nat), lookF m d n b = some r → (textM m).length + 1 + 4 * b + 52 * n ≤ 4 * r.2 + 52 * r.1) ?_ m
  intro m ih d n b r h
  obtain ⟨h1, h2, hf, h3, h4⟩ := lookF_some h
  have key : ∀ (ks : List Mt) (n b : Nat), (∀ k ∈ ks, k ∈ m.ks) → lookKs ks (d + 1) n b = some r → ((textKs ks).map fun x => x.length + 1).sum + 4 * b + 52 * n ≤ 4 * r.2 + 52 * r.1 := by
    intro ks
    induction ks with
    | nil =>
      intro n b _ h
      rw [lookKs] at h
      simp only [Option.some.injEq] at h
      subst h
      simp [textKs]
    | cons x t iht =>
      intro n b hm h
      obtain ⟨r', hx, ht⟩ := lookKs_cons h
      have p1 := ih x (hm x (by simp)) _ _ _ _ hx
      have p2 := iht r'.1 r'.2 (fun k hk => hm k (by simp [hk])) ht
      rw [textKs]
      simp only [List.map_cons, List.sum_cons]
      omega
  have hk := key m.ks _ _ (fun k hk => hk) h4
  have hj := join_le (textKs m.ks)
  have hq := quoB_le m.vl.toList
  have hqs := quos_len m.vs
  obtain ⟨o1, o2, o3, o4⟩ := fit_own hf
  rw [ba_len] at hq
  unfold ownT at hk
  rw [textM_eq]
  split
  · simp only [List.length_cons, List.length_nil]; omega
  · split
    · simp only [List.length_cons, List.length_append, ba_len]; omega
    · split
      · simp only [List.length_cons, List.length_append, ba_len]; omega
      · split
        · simp only [List.length_cons, List.length_append, ba_len]; omega
        · split
          · simp only [List.length_cons, List.length_append, List.length_nil, ba_len]; omega
          · simp only [List.length_cons, List.length_append, List.length_nil]; omega
theorem okM.len {m : Mt} (h : okM m) : (textM m).length ≤ 19720 := by
  obtain ⟨d, n, b, r, h⟩ := h
  have h1 := text_len m d n b r h
  obtain ⟨_, h2, _, h3⟩ := look_up m d n b r h
  omega
theorem join_lib (l : List (List UInt8)) : Lib.join l [44] = joinC l := by
  unfold Lib.join
  induction l with
  | nil => rfl
  | cons x t ih =>
    cases t with
    | nil => simp [joinC_one]
    | cons y u =>
      rw [List.intercalate_cons_cons, ih, joinC_cons x (y :: u) (by simp)]
      simp
theorem strs_info : (Try.prog.info? 9).map (fun i => (i.zero, i.size, i.bytes)) = some (some (.string .empty), 1, 16) := by kernel_rfl
/-- Texts, laid one by one into a new row. -/
def RowN (w : World) (g n k : Nat) (ts : List (List UInt8)) : Prop :=
  ∃ xs : List Value, w.ownsRow g 9 1 (.slice (some ⟨g, 0, none⟩) n n) n xs ∧ xs.length = n ∧ ∀ j t, j < k → ts[j]? = some t → xs[j]? = some (.string (bar t))
theorem RowN.lt {w : World} {g n k : Nat} {ts : List (List UInt8)} (h : RowN w g n k ts) : g < w.heap.size := by
  obtain ⟨xs, ho, -, -⟩ := h
  exact (row_cells ho (g := g) rfl).1.lt
theorem RowN.block {w w' : World} {g n k : Nat} {ts : List (List UInt8)} (h : RowN w g n k ts) (c : Ch (fun _ => False) w w') : RowN w' g n k ts := by
  obtain ⟨xs, ho, h1, h2⟩ := h
  exact ⟨xs, row_ch ho c (fun _ _ => id), h1, h2⟩
theorem RowN.at' {w : World} {g n k : Nat} {ts : List (List UInt8)} (h : RowN w g n k ts) {j : Nat} (hj : j < n) : (∃ old, w.cell? ⟨g, j, none⟩ = some old) ∧ w.frozen? ⟨g, j, none⟩ = false := by
  obtain ⟨xs, ho, h1, h2⟩ := h
  refine ⟨⟨xs[j], ?_⟩, ho.frozenAt j⟩
  rw [ho.cellAt j (by omega), List.getElem?_eq_getElem (by omega)]
theorem RowN.put {w : World} {g n k : Nat} {ts : List (List UInt8)} (h : RowN w g n k ts) {t : List UInt8} (ht : ts[k]? = some t) (hk : k < n) : RowN (w.setCell ⟨g, k, none⟩ (.string (bar t))) g n (k + 1) ts := by
  obtain ⟨xs, ho, h1, h2⟩ := h
  refine ⟨xs.set k (.string (bar t)), (ho.stored k _).1, by simp [h1], fun j t' hj ht' => ?_⟩
  by_cases e : j = k
  · subst e
    rw [ht] at ht'
    simp only [Option.some.injEq] at ht'
    subst ht'
    rw [List.getElem?_set_self (by omega)]
  · rw [List.getElem?_set_ne (by omega)]
    exact h2 j t' (by omega) ht'
/-- All of them, joined. -/
theorem joinN_any (g n : Nat) (ts : List (List UInt8)) (w : World) (h : RowN w g n n ts) (hn : ts.length = n) (hs : n ≤ 100000) (hl : (joinC ts).length ≤ 20000) :
    Calls Try.prog 89 #[.slice (some ⟨g, 0, none⟩) n n, .string ⟨#[44]⟩] w fun e w' => e = .returned (.string (bar (joinC ts))) ∧ Below w.heap.size w w' := by
  obtain ⟨xs, ho, h1, h2⟩ := h
  have hml : (ts.map bar).length = n := by rw [List.length_map, hn]
  have E : ((ts.map bar).map (fun x : ByteArray => x.data.toList)) = ts := by
    rw [List.map_map]
    conv => rhs; rw [← List.map_id ts]
    congr 1
  have := Try.strings_Join g 0 n (ts.map bar) ⟨#[44]⟩ w (fun j x hx => by
      rw [List.getElem?_map] at hx
      obtain ⟨t, ht, rfl⟩ := Option.map_eq_some_iff.1 hx
      have hj : j < ts.length := (List.getElem?_eq_some_iff.1 ht).1
      rw [Nat.zero_add, ho.cellAt j (by omega)]
      exact h2 j t (by omega) ht) ((row_cells ho (g := g) rfl).1.lt) (by rw [hml]; omega) (by rw [hml]; exact Nat.le_refl _) (by
      rw [E, show (⟨#[44]⟩ : ByteArray).data.toList = [44] from rfl, join_lib]; omega)
  rw [hml, E, show (⟨#[44]⟩ : ByteArray).data.toList = [44] from rfl, join_lib] at this
  exact this

theorem one_byte (c : UInt8) : (⟨#[c]⟩ : ByteArray).toList = [c] := ByteArray.toList_mk [c]

set_option maxHeartbeats 4000000 in
theorem listedS_any (S : Nat → Prop) (a : Option Addr) (n cap : Nat) (vs : List ByteArray) (w : World) (hr : TxR S w a n vs) (hv : ∀ v ∈ vs, v.size ≤ 64) (hn16 : n ≤ 16) :
    Calls Try.prog 58 #[.slice a n cap, .func (.func 57) #[] #[]] w fun e w' => e = .returned (.string (bar (40 :: (joinC (vs.map fun v => quoB v.toList) ++ [41])))) ∧ Below w.heap.size w w' := by
  have hn := hr.2.1
  have HR := hide hr
  have HTL : Hid ((vs.map fun v => quoB v.toList).length = n) := by show _ = _; rw [List.length_map]; exact hr.1
  have hjl : (joinC (vs.map fun v => quoB v.toList)).length ≤ 19720 := by
    have h1 := quos_len vs
    have h2 : sumB' vs ≤ 64 * vs.length := by
      clear h1 HTL HR hn hr
      induction vs with
      | nil => simp [sumB']
      | cons x t ih =>
        have := ih (fun s hs => hv s (by simp [hs]))
        have h1 := hv x (by simp)
        unfold sumB' at *
        simp only [List.map_cons, List.sum_cons, List.length_cons]
        omega
    have := hr.1
    omega
  have HTK : Hid (∀ (k : Nat) (s : ByteArray), vs[k]? = some s → (vs.map fun v => quoB v.toList)[k]? = some (quoB s.toList)) := fun k s hs => by rw [List.getElem?_map, hs]; rfl
  have HVZ := hide hv
  clear hr hv
  generalize hts : (vs.map fun v => quoB v.toList) = ts at *
  clear hts
  obtain ⟨i0, hi, hz0, hz1, hz2⟩ := info_parts strs_info
  obtain ⟨g, HG⟩ : ∃ g, Hid (w.heap.size = g) := ⟨_, rfl⟩
  go_enter Try.func58, Try.ntmps58
  go_wp2_with (at_make; refine wpList_make_full _ rfl _ _ 22 rfl w.heap.size 9 i0 (.string .empty) 1 Try.underlying22 hi hz0 hz1 .i64 .i64 (n : Int) (n : Int) n rfl rfl rfl rfl (by rw [hz2]; omega) (by unfold maxLen; omega) (Nat.le_refl _) ?_)
  intro W ho hg
  have HB : Hid (Below g w W) := by
    rw [← HG.out]
    exact (Below.refl _ _).grown hg (Nat.le_refl _) (fun k hk => by simp at hk)
  have HO : Hid (RowN W g n 0 ts) := by
    rw [← HG.out]
    refine ⟨_, ho, ?_, fun j t hj => absurd hj (Nat.not_lt_zero _)⟩
    rw [Array.length_toList]
    simp [madeCells]
  rw [HG.out]
  clear hg hi hz0 hz1 hz2 ho
  go_wp2
  go_loopw [13] (fun i wr => ∃ k : Nat, k ≤ n ∧ i = .int .i64 k ∧ Hid (RowN wr g n k ts) ∧ Hid (Below g w wr)) (fun i _ => n - (intOf i).toNat)
  case atStart => exact ⟨0, by omega, rfl, HO, HB⟩
  case round =>
    obtain ⟨k, hk, rfl, HO1, HB1⟩ := hrel
    obtain ⟨u, rfl⟩ : ∃ u, u = wr := ⟨wr, rfl⟩
    clear HO HB
    by_cases hlt : k < n
    · have i1 : (0 : Int) ≤ (k : Int) := by omega
      have i2 : (k : Int) < (n : Int) := by omega
      obtain ⟨x1, y1, s, rfl, hs, hsz, -, hc⟩ := (HR.out.ch (Ch.of_below (by rw [HG.out]; exact HB1.out)) (fun _ _ => id)).at' hlt
      have HX := hide (HTK.out k s hs)
      have T := hide (quoted_any s u (HVZ.out s (List.mem_of_getElem? hs)))
      have U : Hid (quoS s = bar (quoB s.toList)) := rfl
      rw [U.out] at T
      obtain ⟨tx, HTX⟩ : ∃ tx, Hid (quoB s.toList = tx) := ⟨_, rfl⟩
      rw [HTX.out] at T HX
      have BA : Hid (Below g w u) := HB1
      have OA : Hid (RowN u g n k ts) := HO1
      clear hs U
      go_wp2_with fail
      with_reducible refine T.out.mono ?_
      rintro e u2 ⟨rfl, bu⟩
      have O2 := hide (OA.out.block (Ch.of_below bu))
      have B2 : Hid (Below g w u2) := bel_to BA.out (by rw [HG.out]; exact Nat.le_refl _) bu
      obtain ⟨⟨old, hold⟩, hfz⟩ := O2.out.at' hlt
      have O3 := hide (O2.out.put HX.out hlt)
      have B3 : Hid (Below g w (u2.setCell ⟨g, k, none⟩ (.string (bar tx)))) := B2.out.setCell (Nat.le_refl _) _
      clear bu T BA OA HO1 HB1
      go_wp2
      go_roundw
      case rel => exact ⟨k + 1, by omega, by go_num, O3, B3⟩
      case measure => simp [intOf]; omega
    · obtain ⟨j0, hj0⟩ : ∃ j0, j0 = k := ⟨k, rfl⟩
      have : n = j0 := by omega
      subst this
      subst hj0
      have T := hide (joinN_any g n ts u HO1.out HTL.out (by omega) (by omega))
      have hbs := bar_size (joinC ts)
      have E : Hid ((⟨#[40]⟩ : ByteArray) ++ bar (joinC ts) ++ ⟨#[41]⟩ = bar (40 :: (joinC ts ++ [41]))) := ba_ext (by
        rw [ba_app, ba_app, bar_list, bar_list, one_byte, one_byte]
        rfl)
      generalize bar (joinC ts) = bj at *
      have hbj : bj.size ≤ 20000 := by omega
      have hb2 : ((⟨#[40]⟩ : ByteArray) ++ bj).size ≤ 20001 := by rw [ByteArray.size_append]; show 1 + bj.size ≤ _; omega
      clear hbs
      go_wp2_with fail
      with_reducible refine T.out.mono ?_
      rintro e u2 ⟨rfl, bu⟩
      have B2 : Hid (Below g w u2) := bel_to HB1.out (by rw [HG.out]; exact Nat.le_refl _) bu
      rw [← HG.out] at B2
      clear bu T
      go_wp2
      go_ret
      exact ⟨by rw [← E.out]; rfl, B2.out⟩

/-- What text tells of a matcher. -/
def TxP (m : Mt) : Prop := ∀ (S : Nat → Prop) (h : Hm) (w : World), SeeM S w m h → okM m →
    Calls Try.prog 33 #[.agg #[.int .i64 h.op, .string h.nm, .string h.vl, .slice h.va h.vn h.vc, .slice h.ka h.kn h.kc]] w fun e w' => e = .returned (.string (bar (textM m))) ∧ Below w.heap.size w w'

set_option maxHeartbeats 4000000 in
theorem listedM_of (m : Mt) (ih : ∀ k ∈ m.ks, TxP k) (S : Nat → Prop) (h : Hm) (w : World) (q : SeeM S w m h) (ok : okM m) (h5 : 5 ≤ m.op) :
    Calls Try.prog 59 #[.slice h.ka h.kn h.kc, .func (.func 33) #[] #[]] w fun e w' => e = .returned (.string (bar (40 :: (joinC (textKs m.ks) ++ [41])))) ∧ Below w.heap.size w w' := by
  obtain ⟨op, nm, vl, va, vn, vc, ka, kn, kc⟩ := h
  obtain ⟨-, -, -, hw, -, hk, -⟩ := seeM_iff.1 q
  dsimp only at hk ⊢
  have w4 : kn * 88 ≤ 140737488355328 := hw.kn
  have hjl : (joinC (textKs m.ks)).length ≤ 19720 := by
    have h1 := ok.len
    rw [textM_eq, if_neg (by omega), if_neg (by omega), if_neg (by omega), if_neg (by omega), if_neg (by omega)] at h1
    simp only [List.length_cons, List.length_append, List.length_nil] at h1
    omega
  have HTL : Hid ((textKs m.ks).length = kn) := by show _ = _; rw [textKs_map, List.length_map]; exact hk
  have HTK : Hid (∀ (k : Nat) (x : Mt), m.ks[k]? = some x → (textKs m.ks)[k]? = some (textM x)) := fun k x hx => by rw [textKs_map, List.getElem?_map, hx]; rfl
  have kn64 : kn ≤ 20000 := by
    have h1 : m.ks.length ≤ 64 := by
      obtain ⟨d, n, b, r, hlk⟩ := ok
      have h3 := (lookF_some hlk).2.2.2.2
      have h4 := (look_up m d n b r hlk).2.1
      have key : ∀ (ks : List Mt) (n b : Nat), lookKs ks (d + 1) n b = some r → ks.length + n ≤ r.1 := by
        intro ks
        induction ks with
        | nil =>
          intro n b h
          rw [lookKs] at h
          simp only [Option.some.injEq] at h
          subst h
          simp
        | cons x t ih =>
          intro n b h
          obtain ⟨r', hx, ht⟩ := lookKs_cons h
          have h1 := (look_up x _ _ _ _ hx).1
          have h2 := ih _ _ ht
          simp only [List.length_cons]
          omega
      have := key _ _ _ h3
      omega
    omega
  have IH := hide ih
  have OK := hide ok
  have HQ := hide q
  clear ih ok q hk hw h5
  generalize hts : (textKs m.ks) = ts at *
  clear hts
  obtain ⟨i0, hi, hz0, hz1, hz2⟩ := info_parts strs_info
  obtain ⟨g, HG⟩ : ∃ g, Hid (w.heap.size = g) := ⟨_, rfl⟩
  go_enter Try.func59, Try.ntmps59
  go_wp2_with (at_make; refine wpList_make_full _ rfl _ _ 22 rfl w.heap.size 9 i0 (.string .empty) 1 Try.underlying22 hi hz0 hz1 .i64 .i64 (kn : Int) (kn : Int) kn rfl rfl rfl rfl (by rw [hz2]; omega) (by unfold maxLen; omega) (Nat.le_refl _) ?_)
  intro W ho hg
  have HB : Hid (Below g w W) := by
    rw [← HG.out]
    exact (Below.refl _ _).grown hg (Nat.le_refl _) (fun k hk => by simp at hk)
  have HO : Hid (RowN W g kn 0 ts) := by
    rw [← HG.out]
    refine ⟨_, ho, ?_, fun j t hj => absurd hj (Nat.not_lt_zero _)⟩
    rw [Array.length_toList]
    simp [madeCells]
  rw [HG.out]
  clear hg hi hz0 hz1 hz2 ho
  go_wp2
  go_loopw [13] (fun i wr => ∃ k : Nat, k ≤ kn ∧ i = .int .i64 k ∧ Hid (RowN wr g kn k ts) ∧ Hid (Below g w wr)) (fun i _ => kn - (intOf i).toNat)
  case atStart => exact ⟨0, by omega, rfl, HO, HB⟩
  case round =>
    obtain ⟨k, hk, rfl, HO1, HB1⟩ := hrel
    obtain ⟨u, rfl⟩ : ∃ u, u = wr := ⟨wr, rfl⟩
    clear HO HB
    by_cases hlt : k < kn
    · have i1 : (0 : Int) ≤ (k : Int) := by omega
      have i2 : (k : Int) < (kn : Int) := by omega
      obtain ⟨x1, y1, kd, h', e, hkd, -, q5, qk⟩ := (HQ.out.below (by rw [HG.out]; exact HB1.out)).kid hlt
      obtain ⟨p0, p1, p2, p3, p4, p5, p6, p7, p8⟩ := h'
      dsimp only at e
      subst e
      obtain ⟨g0, g1, g2, g3, g4⟩ := q5.all
      dsimp only at g0 g1 g2 g3 g4
      have HX := hide (HTK.out k kd hkd)
      have hkm := List.mem_of_getElem? hkd
      have T := hide (IH.out kd hkm S _ _ (qk.alloc (.cells #[.int .i64 p0, .string p1, .string p2, .slice p3 p4 p5, .slice p6 p7 p8] 25)) (OK.out.kid hkm))
      dsimp only at T
      obtain ⟨tx, HTX⟩ : ∃ tx, Hid (textM kd = tx) := ⟨_, rfl⟩
      rw [HTX.out] at T HX
      have A1 : Hid (Below u.heap.size u (u.alloc (.cells #[.int .i64 p0, .string p1, .string p2, .slice p3 p4 p5, .slice p6 p7 p8] 25))) := (Below.refl _ _).alloc (Nat.le_refl _) _
      have BA : Hid (Below g w (u.alloc (.cells #[.int .i64 p0, .string p1, .string p2, .slice p3 p4 p5, .slice p6 p7 p8] 25))) := bel_to HB1.out (by rw [HG.out]; exact Nat.le_refl _) A1.out
      have OA : Hid (RowN (u.alloc (.cells #[.int .i64 p0, .string p1, .string p2, .slice p3 p4 p5, .slice p6 p7 p8] 25)) g kn k ts) := HO1.out.block (Ch.of_below A1.out)
      clear hkd q5 qk hkm
      go_wp2_with fail
      with_reducible refine T.out.mono ?_
      rintro e u2 ⟨rfl, bu⟩
      have O2 := hide (OA.out.block (Ch.of_below bu))
      have B2 : Hid (Below g w u2) := bel_to BA.out (by rw [HG.out]; exact Nat.le_refl _) bu
      obtain ⟨⟨old, hold⟩, hfz⟩ := O2.out.at' hlt
      have O3 := hide (O2.out.put HX.out hlt)
      have B3 : Hid (Below g w (u2.setCell ⟨g, k, none⟩ (.string (bar tx)))) := B2.out.setCell (Nat.le_refl _) _
      clear bu T BA OA HO1 HB1
      clear g0 g1 g2 g3 g4 A1
      go_wp2
      go_roundw
      case rel => exact ⟨k + 1, by omega, by go_num, O3, B3⟩
      case measure => simp [intOf]; omega
    · obtain ⟨j0, hj0⟩ : ∃ j0, j0 = k := ⟨k, rfl⟩
      have : kn = j0 := by omega
      subst this
      subst hj0
      have T := hide (joinN_any g kn ts u HO1.out HTL.out (by omega) (by omega))
      have hbs := bar_size (joinC ts)
      have E : Hid ((⟨#[40]⟩ : ByteArray) ++ bar (joinC ts) ++ ⟨#[41]⟩ = bar (40 :: (joinC ts ++ [41]))) := ba_ext (by
        rw [ba_app, ba_app, bar_list, bar_list, one_byte, one_byte]
        rfl)
      generalize bar (joinC ts) = bj at *
      have hbj : bj.size ≤ 20000 := by omega
      have hb2 : ((⟨#[40]⟩ : ByteArray) ++ bj).size ≤ 20001 := by rw [ByteArray.size_append]; show 1 + bj.size ≤ _; omega
      clear hbs
      go_wp2_with fail
      with_reducible refine T.out.mono ?_
      rintro e u2 ⟨rfl, bu⟩
      have B2 : Hid (Below g w u2) := bel_to HB1.out (by rw [HG.out]; exact Nat.le_refl _) bu
      rw [← HG.out] at B2
      clear bu T
      go_wp2
      go_ret
      exact ⟨by rw [← E.out]; rfl, B2.out⟩

set_option maxHeartbeats 4000000 in
theorem text_0 (nm vl : ByteArray) (va : Option Addr) (vn vc : Nat) (ka : Option Addr) (kn kc : Nat) (w : World) :
    Calls Try.prog 33 #[.agg #[.int .i64 0, .string nm, .string vl, .slice va vn vc, .slice ka kn kc]] w fun e w' => e = .returned (.string (bar ([42]))) ∧ Below w.heap.size w w' := by
  obtain ⟨W, hW⟩ : ∃ W, Hid (w.alloc (.cells #[.int .i64 0, .string nm, .string vl, .slice va vn vc, .slice ka kn kc] 25) = W) := ⟨_, rfl⟩
  have LW : Hid (Below w.heap.size w W) := by rw [← hW.out]; exact (Below.refl _ _).alloc (Nat.le_refl _) _
  have B : Hid (BoxM W w.heap.size ⟨0, nm, vl, va, vn, vc, ka, kn, kc⟩) := by rw [← hW.out]; exact boxM_new w ⟨0, nm, vl, va, vn, vc, ka, kn, kc⟩
  obtain ⟨b0, b1, b2, b3, b4, _⟩ := B.out.all
  dsimp only at b0 b1 b2 b3 b4
  go_enter Try.func33, Try.ntmps33
  go_upto_region 1 with fail
  rw [hW.out]
  clear hW B
  go_wp2
  go_ret
  exact ⟨rfl, LW.out⟩

theorem lab_row1 (w : World) (nm vl : ByteArray) (h1 : nm.size ≤ 9223372036854775807) (h2 : vl.size ≤ 9223372036854775807) : RowL (w.alloc (.cells #[.string nm, .string vl] 53)) (some ⟨w.heap.size, 0, none⟩) 1 [(nm, vl)] := by
  refine ⟨rfl, by decide, ?_, Or.inr ⟨_, _, rfl, ?_⟩⟩
  · intro x hx
    obtain rfl := List.mem_singleton.1 hx
    exact ⟨h1, h2⟩
  · intro i x hx
    match i, hx with
    | 0, hx => obtain rfl : _ = x := by simpa using hx
               exact ⟨by simp [go_sem], by simp [go_sem]⟩
    | i + 1, hx => simp at hx

set_option maxHeartbeats 4000000 in
theorem text_1 (nm vl : ByteArray) (va : Option Addr) (vn vc : Nat) (ka : Option Addr) (kn kc : Nat) (w : World) (h1 : nm.size ≤ 32) (h2 : vl.size ≤ 64) :
    Calls Try.prog 33 #[.agg #[.int .i64 1, .string nm, .string vl, .slice va vn vc, .slice ka kn kc]] w fun e w' => e = .returned (.string (bar (nm.toList ++ 61 :: quoB vl.toList))) ∧ Below w.heap.size w w' := by
  obtain ⟨W, hW⟩ : ∃ W, Hid (w.alloc (.cells #[.int .i64 1, .string nm, .string vl, .slice va vn vc, .slice ka kn kc] 25) = W) := ⟨_, rfl⟩
  have LW : Hid (Below w.heap.size w W) := by rw [← hW.out]; exact (Below.refl _ _).alloc (Nat.le_refl _) _
  have B : Hid (BoxM W w.heap.size ⟨1, nm, vl, va, vn, vc, ka, kn, kc⟩) := by rw [← hW.out]; exact boxM_new w ⟨1, nm, vl, va, vn, vc, ka, kn, kc⟩
  obtain ⟨b0, b1, b2, b3, b4, _⟩ := B.out.all
  dsimp only at b0 b1 b2 b3 b4
  have T := hide (text_some (some ⟨W.heap.size, 0, none⟩) 1 1 [(nm, vl)] (W.alloc (.cells #[.string nm, .string vl] 53)) (lab_row1 W nm vl (by omega) (by omega)) (fun x hx => by
    obtain rfl := List.mem_singleton.1 hx
    exact ⟨h1, h2⟩) (by decide))
  have E : Hid (textL [(nm, vl)] = bar (nm.toList ++ 61 :: quoB vl.toList)) := by
    show _ = _
    unfold textL bar
    simp [textB, labB, restB]
  rw [E.out] at T
  generalize bar (nm.toList ++ 61 :: quoB vl.toList) = ans at *
  clear h1 h2 E
  go_enter Try.func33, Try.ntmps33
  go_upto_region 1 with fail
  rw [hW.out]
  clear hW B
  go_wp2_with fail
  with_reducible refine T.out.mono ?_
  rintro e v2 ⟨rfl, bv⟩
  have F := hide (bel_to (bel_al LW.out (Nat.le_refl _) (.cells #[.string nm, .string vl] 53)) (Nat.le_refl _) bv)
  clear T bv b0 b1 b2 b3 b4
  go_wp2
  go_ret
  exact ⟨rfl, F.out⟩

set_option maxHeartbeats 4000000 in
theorem text_2 (nm vl : ByteArray) (va : Option Addr) (vn vc : Nat) (ka : Option Addr) (kn kc : Nat) (w : World) (h1 : nm.size ≤ 32) (h2 : vl.size ≤ 64) :
    Calls Try.prog 33 #[.agg #[.int .i64 2, .string nm, .string vl, .slice va vn vc, .slice ka kn kc]] w fun e w' => e = .returned (.string (bar (nm.toList ++ 33 :: 61 :: quoB vl.toList))) ∧ Below w.heap.size w w' := by
  obtain ⟨W, hW⟩ : ∃ W, Hid (w.alloc (.cells #[.int .i64 2, .string nm, .string vl, .slice va vn vc, .slice ka kn kc] 25) = W) := ⟨_, rfl⟩
  have LW : Hid (Below w.heap.size w W) := by rw [← hW.out]; exact (Below.refl _ _).alloc (Nat.le_refl _) _
  have B : Hid (BoxM W w.heap.size ⟨2, nm, vl, va, vn, vc, ka, kn, kc⟩) := by rw [← hW.out]; exact boxM_new w ⟨2, nm, vl, va, vn, vc, ka, kn, kc⟩
  obtain ⟨b0, b1, b2, b3, b4, _⟩ := B.out.all
  dsimp only at b0 b1 b2 b3 b4
  have T := hide (quoted_any vl W.drew h2)
  have hqs : (quoS vl).size ≤ 258 := by
    have := quoB_le vl.toList
    rw [ba_len] at this
    have e : (quoS vl).size = (quoB vl.toList).length := bar_size _
    omega
  have E : Hid (nm ++ (⟨#[33, 61]⟩ : ByteArray) ++ quoS vl = bar (nm.toList ++ 33 :: 61 :: quoB vl.toList)) := ba_ext (by
    rw [ba_app, ba_app, bar_list, show (quoS vl).toList = quoB vl.toList from bar_list _, show (⟨#[33, 61]⟩ : ByteArray).toList = [33, 61] from ByteArray.toList_mk _]
    simp)
  generalize quoS vl = qv at *
  have k1 : ¬ 9223372036854775807 < nm.size + 2 := by omega
  have k2 : ¬ 9223372036854775807 < nm.size + 2 + qv.size := by omega
  have S0 : Hid (W.drew.cell? ⟨w.heap.size, 1, none⟩ = some (.string nm) ∧ W.drew.cell? ⟨w.heap.size, 2, none⟩ = some (.string vl) ∧ Hid (w.heap.size ≤ W.drew.heap.size ∧ Below w.heap.size w W.drew)) := ⟨b1, b2, LW.out.size, LW.out.drew⟩
  go_enter Try.func33, Try.ntmps33
  go_upto_region 1 with fail
  rw [hW.out]
  clear hW B
  go_upto_region 7 with fail
  clear b0 b1 b2 b3 b4
  go_region_held3 (fun w' => w'.cell? ⟨w.heap.size, 1, none⟩ = some (.string nm) ∧ w'.cell? ⟨w.heap.size, 2, none⟩ = some (.string vl) ∧ Hid (w.heap.size ≤ w'.heap.size ∧ Below w.heap.size w w')) (first | with_reducible exact S0.out | with_reducible exact keep2c (by assumption) (by assumption)) (first
    | (go_at_call 57; with_reducible refine T.out.mono ?_; rintro e v2 ⟨rfl, bv2⟩))
  rename_i hh
  have F := hide hh.2.2.out.2
  clear hh
  go_wp2
  go_ret
  exact ⟨by rw [← E.out]; rfl, F.out⟩

set_option maxHeartbeats 4000000 in
theorem text_3 (nm vl : ByteArray) (va : Option Addr) (vn vc : Nat) (ka : Option Addr) (kn kc : Nat) (w : World) (h1 : nm.size ≤ 32) (h2 : vl.size ≤ 64) :
    Calls Try.prog 33 #[.agg #[.int .i64 3, .string nm, .string vl, .slice va vn vc, .slice ka kn kc]] w fun e w' => e = .returned (.string (bar (nm.toList ++ 94 :: 61 :: quoB vl.toList))) ∧ Below w.heap.size w w' := by
  obtain ⟨W, hW⟩ : ∃ W, Hid (w.alloc (.cells #[.int .i64 3, .string nm, .string vl, .slice va vn vc, .slice ka kn kc] 25) = W) := ⟨_, rfl⟩
  have LW : Hid (Below w.heap.size w W) := by rw [← hW.out]; exact (Below.refl _ _).alloc (Nat.le_refl _) _
  have B : Hid (BoxM W w.heap.size ⟨3, nm, vl, va, vn, vc, ka, kn, kc⟩) := by rw [← hW.out]; exact boxM_new w ⟨3, nm, vl, va, vn, vc, ka, kn, kc⟩
  obtain ⟨b0, b1, b2, b3, b4, _⟩ := B.out.all
  dsimp only at b0 b1 b2 b3 b4
  have T := hide (quoted_any vl W.drew h2)
  have hqs : (quoS vl).size ≤ 258 := by
    have := quoB_le vl.toList
    rw [ba_len] at this
    have e : (quoS vl).size = (quoB vl.toList).length := bar_size _
    omega
  have E : Hid (nm ++ (⟨#[94, 61]⟩ : ByteArray) ++ quoS vl = bar (nm.toList ++ 94 :: 61 :: quoB vl.toList)) := ba_ext (by
    rw [ba_app, ba_app, bar_list, show (quoS vl).toList = quoB vl.toList from bar_list _, show (⟨#[94, 61]⟩ : ByteArray).toList = [94, 61] from ByteArray.toList_mk _]
    simp)
  generalize quoS vl = qv at *
  have k1 : ¬ 9223372036854775807 < nm.size + 2 := by omega
  have k2 : ¬ 9223372036854775807 < nm.size + 2 + qv.size := by omega
  have S0 : Hid (W.drew.cell? ⟨w.heap.size, 1, none⟩ = some (.string nm) ∧ W.drew.cell? ⟨w.heap.size, 2, none⟩ = some (.string vl) ∧ Hid (w.heap.size ≤ W.drew.heap.size ∧ Below w.heap.size w W.drew)) := ⟨b1, b2, LW.out.size, LW.out.drew⟩
  go_enter Try.func33, Try.ntmps33
  go_upto_region 1 with fail
  rw [hW.out]
  clear hW B
  go_upto_region 9 with fail
  clear b0 b1 b2 b3 b4
  go_region_held3 (fun w' => w'.cell? ⟨w.heap.size, 1, none⟩ = some (.string nm) ∧ w'.cell? ⟨w.heap.size, 2, none⟩ = some (.string vl) ∧ Hid (w.heap.size ≤ w'.heap.size ∧ Below w.heap.size w w')) (first | with_reducible exact S0.out | with_reducible exact keep2c (by assumption) (by assumption)) (first
    | (go_at_call 57; with_reducible refine T.out.mono ?_; rintro e v2 ⟨rfl, bv2⟩))
  rename_i hh
  have F := hide hh.2.2.out.2
  clear hh
  go_wp2
  go_ret
  exact ⟨by rw [← E.out]; rfl, F.out⟩

set_option maxHeartbeats 4000000 in
theorem text_4 (S : Nat → Prop) (vs : List ByteArray) (nm vl : ByteArray) (va : Option Addr) (vn vc : Nat) (ka : Option Addr) (kn kc : Nat) (w : World) (h1 : nm.size ≤ 32) (hv : TxR S w va vn vs) (hvs : valsB vs = true) :
    Calls Try.prog 33 #[.agg #[.int .i64 4, .string nm, .string vl, .slice va vn vc, .slice ka kn kc]] w fun e w' => e = .returned (.string (bar (nm.toList ++ 64 :: 40 :: (joinC (vs.map fun v => quoB v.toList) ++ [41])))) ∧ Below w.heap.size w w' := by
  obtain ⟨W, hW⟩ : ∃ W, Hid (w.alloc (.cells #[.int .i64 4, .string nm, .string vl, .slice va vn vc, .slice ka kn kc] 25) = W) := ⟨_, rfl⟩
  have LW : Hid (Below w.heap.size w W) := by rw [← hW.out]; exact (Below.refl _ _).alloc (Nat.le_refl _) _
  have B : Hid (BoxM W w.heap.size ⟨4, nm, vl, va, vn, vc, ka, kn, kc⟩) := by rw [← hW.out]; exact boxM_new w ⟨4, nm, vl, va, vn, vc, ka, kn, kc⟩
  obtain ⟨b0, b1, b2, b3, b4, _⟩ := B.out.all
  dsimp only at b0 b1 b2 b3 b4
  have hsz : ∀ v ∈ vs, v.size ≤ 64 := by
    unfold valsB at hvs
    simp only [Bool.and_eq_true, decide_eq_true_eq] at hvs
    intro v hv'
    obtain ⟨i, hi⟩ := List.getElem?_of_mem hv'
    exact (risB_iff.1 hvs.2 i v hi).1
  have h16 : vs.length ≤ 16 := by
    unfold valsB at hvs
    simp only [Bool.and_eq_true, decide_eq_true_eq] at hvs
    exact hvs.1.2
  have T := hide (listedS_any S va vn vc vs W.drew (hv.ch (Ch.of_below LW.out.drew) (fun _ _ => id)) hsz (by rw [← hv.1]; exact h16))
  have hjs : (40 :: (joinC (vs.map fun v => quoB v.toList) ++ [41])).length ≤ 10000 := by
    have h3 := quos_len vs
    have h4 := ris_len hvs
    simp only [List.length_cons, List.length_append, List.length_nil]
    omega
  generalize 40 :: (joinC (vs.map fun v => quoB v.toList) ++ [41]) = jl at *
  have hqs : (bar jl).size ≤ 10000 := by rw [bar_size]; exact hjs
  have E : Hid (nm ++ (⟨#[64]⟩ : ByteArray) ++ bar jl = bar (nm.toList ++ 64 :: jl)) := ba_ext (by
    rw [ba_app, ba_app, bar_list, bar_list, show (⟨#[64]⟩ : ByteArray).toList = [64] from ByteArray.toList_mk _]
    simp)
  generalize bar (nm.toList ++ 64 :: jl) = ans at *
  generalize bar jl = qv at *
  have k1 : ¬ 9223372036854775807 < nm.size + 1 := by omega
  have k2 : ¬ 9223372036854775807 < nm.size + 1 + qv.size := by omega
  have S0 : Hid (W.drew.cell? ⟨w.heap.size, 1, none⟩ = some (.string nm) ∧ W.drew.cell? ⟨w.heap.size, 3, none⟩ = some (.slice va vn vc) ∧ Hid (w.heap.size ≤ W.drew.heap.size ∧ Below w.heap.size w W.drew)) := ⟨b1, b3, LW.out.size, LW.out.drew⟩
  clear hv hvs hsz h16 hjs
  go_enter Try.func33, Try.ntmps33
  go_upto_region 1 with fail
  rw [hW.out]
  clear hW B
  go_upto_region 11 with fail
  clear b0 b1 b2 b3 b4
  go_region_held3 (fun w' => w'.cell? ⟨w.heap.size, 1, none⟩ = some (.string nm) ∧ w'.cell? ⟨w.heap.size, 3, none⟩ = some (.slice va vn vc) ∧ Hid (w.heap.size ≤ w'.heap.size ∧ Below w.heap.size w w')) (first | with_reducible exact S0.out | with_reducible exact keep2c (by assumption) (by assumption)) (first
    | (go_at_call 58; with_reducible refine T.out.mono ?_; rintro e v2 ⟨rfl, bv2⟩))
  rename_i hh
  have F := hide hh.2.2.out.2
  clear hh
  go_wp2
  go_ret
  exact ⟨by rw [← E.out]; rfl, F.out⟩

set_option maxHeartbeats 4000000 in
theorem text_5 (m : Mt) (ih : ∀ k ∈ m.ks, TxP k) (S : Nat → Prop) (nm vl : ByteArray) (va : Option Addr) (vn vc : Nat) (ka : Option Addr) (kn kc : Nat) (w : World) (q : SeeM S w m ⟨5, nm, vl, va, vn, vc, ka, kn, kc⟩) (ok : okM m) :
    Calls Try.prog 33 #[.agg #[.int .i64 5, .string nm, .string vl, .slice va vn vc, .slice ka kn kc]] w fun e w' => e = .returned (.string (bar (38 :: 40 :: (joinC (textKs m.ks) ++ [41])))) ∧ Below w.heap.size w w' := by
  have hop : m.op = 5 := (seeM_iff.1 q).1.symm
  obtain ⟨W, hW⟩ : ∃ W, Hid (w.alloc (.cells #[.int .i64 5, .string nm, .string vl, .slice va vn vc, .slice ka kn kc] 25) = W) := ⟨_, rfl⟩
  have LW : Hid (Below w.heap.size w W) := by rw [← hW.out]; exact (Below.refl _ _).alloc (Nat.le_refl _) _
  have B : Hid (BoxM W w.heap.size ⟨5, nm, vl, va, vn, vc, ka, kn, kc⟩) := by rw [← hW.out]; exact boxM_new w ⟨5, nm, vl, va, vn, vc, ka, kn, kc⟩
  obtain ⟨b0, b1, b2, b3, b4, _⟩ := B.out.all
  dsimp only at b0 b1 b2 b3 b4
  have T := hide (listedM_of m ih S _ W (q.below LW.out) ok (by omega))
  dsimp only at T
  have hjs : (40 :: (joinC (textKs m.ks) ++ [41])).length ≤ 20000 := by
    have h1 := ok.len
    rw [textM_eq, if_neg (by omega), if_neg (by omega), if_neg (by omega), if_neg (by omega), if_neg (by omega)] at h1
    simp only [List.length_cons, List.length_append, List.length_nil] at h1 ⊢
    omega
  generalize 40 :: (joinC (textKs m.ks) ++ [41]) = jl at *
  have hqs : (bar jl).size ≤ 20000 := by rw [bar_size]; exact hjs
  have E : Hid ((⟨#[38]⟩ : ByteArray) ++ bar jl = bar (38 :: jl)) := ba_ext (by
    rw [ba_app, bar_list, bar_list, one_byte]
    simp)
  generalize bar (38 :: jl) = ans at *
  generalize bar jl = qv at *
  clear q ih ok hjs hop
  go_enter Try.func33, Try.ntmps33
  go_upto_region 1 with fail
  rw [hW.out]
  clear hW B
  go_wp2_with fail
  with_reducible refine T.out.mono ?_
  rintro e v2 ⟨rfl, bv2⟩
  have F := hide (bel_to LW.out (Nat.le_refl _) bv2)
  clear T bv2 b0 b1 b2 b3 b4
  go_wp2
  go_ret
  exact ⟨by rw [← E.out]; rfl, F.out⟩

set_option maxHeartbeats 4000000 in
theorem text_6 (m : Mt) (ih : ∀ k ∈ m.ks, TxP k) (S : Nat → Prop) (nm vl : ByteArray) (va : Option Addr) (vn vc : Nat) (ka : Option Addr) (kn kc : Nat) (w : World) (q : SeeM S w m ⟨6, nm, vl, va, vn, vc, ka, kn, kc⟩) (ok : okM m) :
    Calls Try.prog 33 #[.agg #[.int .i64 6, .string nm, .string vl, .slice va vn vc, .slice ka kn kc]] w fun e w' => e = .returned (.string (bar (124 :: 40 :: (joinC (textKs m.ks) ++ [41])))) ∧ Below w.heap.size w w' := by
  have hop : m.op = 6 := (seeM_iff.1 q).1.symm
  obtain ⟨W, hW⟩ : ∃ W, Hid (w.alloc (.cells #[.int .i64 6, .string nm, .string vl, .slice va vn vc, .slice ka kn kc] 25) = W) := ⟨_, rfl⟩
  have LW : Hid (Below w.heap.size w W) := by rw [← hW.out]; exact (Below.refl _ _).alloc (Nat.le_refl _) _
  have B : Hid (BoxM W w.heap.size ⟨6, nm, vl, va, vn, vc, ka, kn, kc⟩) := by rw [← hW.out]; exact boxM_new w ⟨6, nm, vl, va, vn, vc, ka, kn, kc⟩
  obtain ⟨b0, b1, b2, b3, b4, _⟩ := B.out.all
  dsimp only at b0 b1 b2 b3 b4
  have T := hide (listedM_of m ih S _ W (q.below LW.out) ok (by omega))
  dsimp only at T
  have hjs : (40 :: (joinC (textKs m.ks) ++ [41])).length ≤ 20000 := by
    have h1 := ok.len
    rw [textM_eq, if_neg (by omega), if_neg (by omega), if_neg (by omega), if_neg (by omega), if_neg (by omega)] at h1
    simp only [List.length_cons, List.length_append, List.length_nil] at h1 ⊢
    omega
  generalize 40 :: (joinC (textKs m.ks) ++ [41]) = jl at *
  have hqs : (bar jl).size ≤ 20000 := by rw [bar_size]; exact hjs
  have E : Hid ((⟨#[124]⟩ : ByteArray) ++ bar jl = bar (124 :: jl)) := ba_ext (by
    rw [ba_app, bar_list, bar_list, one_byte]
    simp)
  generalize bar (124 :: jl) = ans at *
  generalize bar jl = qv at *
  clear q ih ok hjs hop
  go_enter Try.func33, Try.ntmps33
  go_upto_region 1 with fail
  rw [hW.out]
  clear hW B
  go_wp2_with fail
  with_reducible refine T.out.mono ?_
  rintro e v2 ⟨rfl, bv2⟩
  have F := hide (bel_to LW.out (Nat.le_refl _) bv2)
  clear T bv2 b0 b1 b2 b3 b4
  go_wp2
  go_ret
  exact ⟨by rw [← E.out]; rfl, F.out⟩

set_option maxHeartbeats 4000000 in
theorem text_7 (m : Mt) (ih : ∀ k ∈ m.ks, TxP k) (S : Nat → Prop) (nm vl : ByteArray) (va : Option Addr) (vn vc : Nat) (ka : Option Addr) (kn kc : Nat) (w : World) (q : SeeM S w m ⟨7, nm, vl, va, vn, vc, ka, kn, kc⟩) (ok : okM m) :
    Calls Try.prog 33 #[.agg #[.int .i64 7, .string nm, .string vl, .slice va vn vc, .slice ka kn kc]] w fun e w' => e = .returned (.string (bar (33 :: 40 :: (joinC (textKs m.ks) ++ [41])))) ∧ Below w.heap.size w w' := by
  have hop : m.op = 7 := (seeM_iff.1 q).1.symm
  obtain ⟨W, hW⟩ : ∃ W, Hid (w.alloc (.cells #[.int .i64 7, .string nm, .string vl, .slice va vn vc, .slice ka kn kc] 25) = W) := ⟨_, rfl⟩
  have LW : Hid (Below w.heap.size w W) := by rw [← hW.out]; exact (Below.refl _ _).alloc (Nat.le_refl _) _
  have B : Hid (BoxM W w.heap.size ⟨7, nm, vl, va, vn, vc, ka, kn, kc⟩) := by rw [← hW.out]; exact boxM_new w ⟨7, nm, vl, va, vn, vc, ka, kn, kc⟩
  obtain ⟨b0, b1, b2, b3, b4, _⟩ := B.out.all
  dsimp only at b0 b1 b2 b3 b4
  have T := hide (listedM_of m ih S _ W (q.below LW.out) ok (by omega))
  dsimp only at T
  have hjs : (40 :: (joinC (textKs m.ks) ++ [41])).length ≤ 20000 := by
    have h1 := ok.len
    rw [textM_eq, if_neg (by omega), if_neg (by omega), if_neg (by omega), if_neg (by omega), if_neg (by omega)] at h1
    simp only [List.length_cons, List.length_append, List.length_nil] at h1 ⊢
    omega
  generalize 40 :: (joinC (textKs m.ks) ++ [41]) = jl at *
  have hqs : (bar jl).size ≤ 20000 := by rw [bar_size]; exact hjs
  have E : Hid ((⟨#[33]⟩ : ByteArray) ++ bar jl = bar (33 :: jl)) := ba_ext (by
    rw [ba_app, bar_list, bar_list, one_byte]
    simp)
  generalize bar (33 :: jl) = ans at *
  generalize bar jl = qv at *
  clear q ih ok hjs hop
  go_enter Try.func33, Try.ntmps33
  go_upto_region 1 with fail
  rw [hW.out]
  clear hW B
  go_wp2_with fail
  with_reducible refine T.out.mono ?_
  rintro e v2 ⟨rfl, bv2⟩
  have F := hide (bel_to LW.out (Nat.le_refl _) bv2)
  clear T bv2 b0 b1 b2 b3 b4
  go_wp2
  go_ret
  exact ⟨by rw [← E.out]; rfl, F.out⟩

theorem textP_any (m : Mt) : TxP m := by
  refine Mt.ind (P := TxP) ?_ m
  intro m ih S h w q ok
  obtain ⟨op, nm, vl, va, vn, vc, ka, kn, kc⟩ := h
  obtain ⟨e1, e2, e3, hw, hv, hk, -⟩ := seeM_iff.1 q
  dsimp only at e1 e2 e3 hv hk ⊢
  have ho := ok.op
  rw [← e1] at ho
  obtain ⟨o1, o2, -, -⟩ := fit_own ok.fit
  have hvs : m.op = 4 → valsB m.vs = true := fun h4 => by
    rcases fit_names ok.fit with ⟨h, -⟩ | ⟨h, -⟩ | ⟨-, -, -, h, -⟩ | ⟨h, -⟩
    · omega
    · omega
    · exact h
    · omega
  rw [← e1] at hvs
  rw [← e2] at o1
  rw [← e3] at o2
  rw [textM_eq, ← e1, ← e2, ← e3]
  rcases ho with rfl | rfl | rfl | rfl | rfl | rfl | rfl | rfl
  · rw [if_pos rfl]
    exact text_0 nm vl va vn vc ka kn kc w
  · rw [if_neg (by decide), if_pos rfl]
    exact text_1 nm vl va vn vc ka kn kc w o1 o2
  · rw [if_neg (by decide), if_neg (by decide), if_pos rfl]
    exact text_2 nm vl va vn vc ka kn kc w o1 o2
  · rw [if_neg (by decide), if_neg (by decide), if_neg (by decide), if_pos rfl]
    exact text_3 nm vl va vn vc ka kn kc w o1 o2
  · rw [if_neg (by decide), if_neg (by decide), if_neg (by decide), if_neg (by decide), if_pos rfl]
    exact text_4 S m.vs nm vl va vn vc ka kn kc w o1 hv (hvs rfl)
  · rw [if_neg (by decide), if_neg (by decide), if_neg (by decide), if_neg (by decide), if_neg (by decide), if_neg (by decide), if_neg (by decide)]
    exact text_5 m ih S nm vl va vn vc ka kn kc w q ok
  · rw [if_neg (by decide), if_neg (by decide), if_neg (by decide), if_neg (by decide), if_neg (by decide), if_pos rfl]
    exact text_6 m ih S nm vl va vn vc ka kn kc w q ok
  · rw [if_neg (by decide), if_neg (by decide), if_neg (by decide), if_neg (by decide), if_neg (by decide), if_neg (by decide), if_pos rfl]
    exact text_7 m ih S nm vl va vn vc ka kn kc w q ok

set_option maxHeartbeats 2000000 in
theorem textT_any (S : Nat → Prop) (m : Mt) (h : Hm) (w : World) (q : SeeM S w m h) (hc : chkM m = true) :
    Calls Try.prog 17 #[.agg #[.int .i64 h.op, .string h.nm, .string h.vl, .slice h.va h.vn h.vc, .slice h.ka h.kn h.kc]] w fun e w' => e = .returned (.string (bar (textM m))) ∧ Below w.heap.size w w' := by
  obtain ⟨op, nm, vl, va, vn, vc, ka, kn, kc⟩ := h
  dsimp only
  obtain ⟨W, hW⟩ : ∃ W, Hid (w.alloc (.cells #[.int .i64 op, .string nm, .string vl, .slice va vn vc, .slice ka kn kc] 25) = W) := ⟨_, rfl⟩
  have LW : Hid (Below w.heap.size w W) := by rw [← hW.out]; exact (Below.refl _ _).alloc (Nat.le_refl _) _
  have B : Hid (BoxM W w.heap.size ⟨op, nm, vl, va, vn, vc, ka, kn, kc⟩) := by rw [← hW.out]; exact boxM_new w ⟨op, nm, vl, va, vn, vc, ka, kn, kc⟩
  have T := hide (chkM_any S m _ W (q.below LW.out))
  rw [hc] at T
  dsimp only at T
  have T2 := hide (fun (u : World) (hu : Below w.heap.size w u) => textP_any m S _ u (q.below hu) (okM_of hc))
  dsimp only at T2
  obtain ⟨b0, b1, b2, b3, b4, _⟩ := B.out.all
  dsimp only at b0 b1 b2 b3 b4
  clear q hc
  go_enter Try.func17, Try.ntmps17
  go_upto_region 1 with fail
  rw [hW.out]
  clear hW
  go_wp2_with fail
  with_reducible refine T.out.mono ?_
  rintro e v2 ⟨rfl, bv⟩
  have B2 := hide (B.out.block (bv.block _ B.out.lt))
  have L2 := hide (bel_to LW.out (Nat.le_refl _) bv)
  clear T bv b0 b1 b2 b3 b4 B LW
  obtain ⟨b0, b1, b2, b3, b4, _⟩ := B2.out.all
  dsimp only at b0 b1 b2 b3 b4
  go_wp2_with fail
  with_reducible refine (T2.out _ L2.out).mono ?_
  rintro e v3 ⟨rfl, bv⟩
  have L3 := hide (bel_to L2.out (Nat.le_refl _) bv)
  clear T2 bv b0 b1 b2 b3 b4
  go_wp2
  go_ret
  exact ⟨rfl, L3.out⟩
end Go.Proofs.Ythebcmkainplnaa
