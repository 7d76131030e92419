/-
  The law LabelStarts, over what the laws ask of the program's own functions on labels (written by gen/labst.gen.py).
  Conditions: as LaN, LaC, LaV, LaP, LaM, LaT say.
-/
import Derived.Test.YtoepdgdagjckbabLabU
import Derived.Test.YtoepdgdagjckbabVintR
namespace Go.Proofs.Ytoepdgdagjckbab
open Go.RowKit Go.Deep
set_option maxRecDepth 20000

theorem lexP_self (x : Lb) : lexP cmpT cmpT x x = 0 := (cmpT_is.pair cmpT_is).self x
theorem cmpL_take : ∀ {l : List Lb} {k : Nat}, k ≤ l.length → cmpL (l.take k) l = if k = l.length then 0 else -1
  | [], k, h => by
    have : k = 0 := by simpa using h
    subst this
    rfl
  | x :: t, 0, _ => by
    rw [if_neg (by simp)]
    rfl
  | x :: t, k + 1, h => by
    have ih := cmpL_take (l := t) (k := k) (by simpa using h)
    show (if lexP cmpT cmpT x x = 0 then cmpL (t.take k) t else lexP cmpT cmpT x x) = _
    rw [if_pos (lexP_self x), ih]
    simp
theorem less_behind (v : List UInt8) (c : UInt8) : Op.bytesLess v (v ++ [c]) = true := by
  induction v with
  | nil => rfl
  | cons x t ih =>
    rw [List.cons_append, Op.bytesLess, ih]
    simp
theorem cmpL_last (p : List Lb) (n v v' : ByteArray) (h : Op.bytesLess v.toList v'.toList = true) : cmpL (p ++ [(n, v)]) (p ++ [(n, v')]) = -1 := by
  induction p with
  | nil =>
    show (if lexP cmpT cmpT (n, v) (n, v') = 0 then cmpL [] [] else lexP cmpT cmpT (n, v) (n, v')) = _
    have e : lexP cmpT cmpT (n, v) (n, v') = -1 := by
      unfold lexP
      rw [if_pos (cmpT_is.self n)]
      show cmpT v v' = -1
      unfold cmpT
      rw [if_pos h]
    rw [e]
    rfl
  | cons x t ih =>
    show (if lexP cmpT cmpT x x = 0 then cmpL (t ++ [(n, v)]) (t ++ [(n, v')]) else lexP cmpT cmpT x x) = _
    rw [if_pos (lexP_self x), ih]
theorem cmpL_one (n more v : ByteArray) (t : List Lb) : cmpL [(n, more)] ((n, v) :: t) = if cmpT more v = 0 then (if t = [] then 0 else -1) else cmpT more v := by
  show (if lexP cmpT cmpT (n, more) (n, v) = 0 then cmpL [] t else lexP cmpT cmpT (n, more) (n, v)) = _
  have e : lexP cmpT cmpT (n, more) (n, v) = cmpT more v := by
    unfold lexP
    rw [if_pos (cmpT_is.self n)]
  rw [e]
  cases t with
  | nil => rfl
  | cons y u => rfl
/-- A row of labels of the call's own whose last value is written over. -/
theorem OwnL.last {w : World} {base g n cap : Nat} {p : List Lb} {x : Lb} (h : OwnL w base (some ⟨g, 0, none⟩) n cap (p ++ [x])) (s : ByteArray) :
    OwnL (w.setCell ⟨g, p.length * 2 + 1, none⟩ (.string s)) base (some ⟨g, 0, none⟩) n cap (p ++ [(x.1, s)]) ∧ w.frozen? ⟨g, p.length * 2 + 1, none⟩ = false ∧ base ≤ g := by
  have hl := h.len
  unfold OwnL at h ⊢
  rcases h.2 with ⟨h1, _⟩ | ⟨g', c, cur, h1, hb, hg, h4, h5, h6, h7⟩
  · simp at h1
  · simp only [Value.slice.injEq, Option.some.injEq, Addr.mk.injEq, and_true, true_and] at h1
    obtain ⟨rfl, rfl⟩ := h1
    refine ⟨⟨?_, Or.inr ⟨g, cap, cur.setIfInBounds (p.length * 2 + 1) (.string s), rfl, hb, ?_, h4, h5, ?_, ?_⟩⟩, ?_, hb⟩
    · rw [flatL_len]
      simp at hl ⊢
      omega
    · simp [World.setCell, Array.getElem?_modify, hg]
    · rw [Array.size_setIfInBounds]; exact h6
    · rw [Array.toList_setIfInBounds, List.take_set, h7, flatL_append, flatL_append]
      rw [List.set_append_right _ _ (by rw [flatL_len]; omega), flatL_len, show p.length * 2 + 1 - p.length * 2 = 1 by omega]
      rfl
    · simp [World.frozen?, hg]
theorem one_rowL (v : World) (ty : TypeId) (x : Lb) (hx : LbW x) : RowL (v.alloc (.cells #[.string x.1, .string x.2] ty)) (some ⟨v.heap.size, 0, none⟩) 1 [x] := by
  refine ⟨rfl, by decide, fun z hz => by simp at hz; rw [hz]; exact hx, Or.inr ⟨_, _, rfl, ?_⟩⟩
  intro i z hz
  match i, hz with
  | 0, hz =>
    simp only [List.getElem?_cons_zero, Option.some.injEq] at hz
    subst hz
    exact ⟨by simp [go_sem], by simp [go_sem]⟩
theorem keepT {w0 v v' : World} {B gb b1 o1 : Nat} {v0 n0 mo : ByteArray} {R : Prop} (hb : Below v.heap.size v v') (h : v.cell? ⟨b1, o1, none⟩ = some (.string v0) ∧ (v.cell? ⟨gb, 0, none⟩ = some (.string n0) ∧ v.cell? ⟨gb, 1, none⟩ = some (.string mo)) ∧ Hid (B ≤ v.heap.size ∧ Below B w0 v) ∧ R) :
    v'.cell? ⟨b1, o1, none⟩ = some (.string v0) ∧ (v'.cell? ⟨gb, 0, none⟩ = some (.string n0) ∧ v'.cell? ⟨gb, 1, none⟩ = some (.string mo)) ∧ Hid (B ≤ v'.heap.size ∧ Below B w0 v') ∧ R := by
  obtain ⟨c0, ⟨a0, a1⟩, ⟨l4, hB⟩, hR⟩ := h
  have l1 : b1 < v.heap.size := World.block_lt_of_cell? v _ c0
  have l2 : gb < v.heap.size := World.block_lt_of_cell? v _ a0
  refine ⟨?_, ⟨?_, ?_⟩, ⟨Nat.le_trans l4 hb.size, hB.trans (hb.mono l4)⟩, hR⟩
  · rw [hb.cell (p := ⟨b1, o1, none⟩) l1]; exact c0
  · rw [hb.cell (p := ⟨gb, 0, none⟩) l2]; exact a0
  · rw [hb.cell (p := ⟨gb, 1, none⟩) l2]; exact a1

set_option maxHeartbeats 8000000 in
theorem startsL_of (N : LaN) (C : LaC) (V : LaV) (P : LaP) (M : LaM) (T : LaT) (a : Option Addr) (n cap : Nat) (l : List Lb) (at_ : Int) (more : ByteArray) (w : World) (q : RowL w a n l) (hcap : n ≤ cap) (h3 : a = none → n = 0 ∧ cap = 0) (hs : more.size ≤ 9223372036854775807) :
    Calls Try.prog 6 #[.slice a n cap, .int .i64 at_, .string more] w fun e w' => e = .returned (.bool true) ∧ Below w.heap.size w w' := by
  have AW := hide (awakeL_any N C V M T)
  have hn := q.2.1
  have HN := hide hn
  have HF := hide q.2.2.1
  have HR := hide q
  have HL := hide q.1
  have RC := hide (fun W (q : RowL W a n l) => quietB (refchkl_any a n cap l W q))
  clear N C V M T q
  cases hc : chkL l with
  | false =>
    rw [hc] at RC
    clear hc P
    go_enter Try.func6, Try.ntmps6
    go_wp2_with fail
    with_reducible refine (RC.out _ HR.out).mono ?_
    rintro e v1 ⟨rfl, b2⟩
    have L1 := hide b2
    clear b2
    go_wp2_with fail
    with_reducible refine (AW.out _).mono ?_
    rintro e v2 ⟨rfl, b2⟩
    have L2 := hide (bel_too L1.out b2)
    clear b2
    go_wp2
    go_ret
    exact ⟨rfl, L2.out⟩
  | true =>
    rw [hc] at RC
    obtain ⟨c1, c8, cp⟩ := chkL_parts hc
    rw [HL.out] at c1 c8
    -- the set is p and x behind it, and y with t behind it
    obtain ⟨t, rfl⟩ : ∃ t, n = t + 1 := ⟨n - 1, by omega⟩
    obtain ⟨p, x, hpx, hpl⟩ : ∃ p x, l = p ++ [x] ∧ p.length = t := by
      have hne : l ≠ [] := fun e => by have := HL.out; rw [e] at this; simp at this
      refine ⟨l.dropLast, l.getLast hne, (List.dropLast_concat_getLast hne).symm, ?_⟩
      rw [List.length_dropLast, HL.out]
      rfl
    obtain ⟨y, ys, hy⟩ : ∃ y ys, l = y :: ys := by
      cases l with
      | nil => have := HL.out; simp at this
      | cons y ys => exact ⟨y, ys, rfl⟩
    have hxz : x.2.size ≤ 64 := (cp x (by rw [hpx]; simp)).2.2
    obtain ⟨k, hk, ek⟩ := placeL (v := at_) (n := t + 1)
    have PK := hide (fun W => place_any at_ ((t : Int) + 1 + 1) (by omega) (by omega) W)
    rw [show (((t + 1 : Nat) : Int) + 1) = (t : Int) + 1 + 1 by omega] at ek
    rw [ek] at PK
    have f1 := slice_toL a (t + 1) cap k (by omega)
    have LB := hide (fun W (q : RowL W a (t + 1) l) => labels_any a k cap (l.take k) W (q.to k hk) (fun e => (h3 e).2))
    have LA := hide (fun W (q : RowL W a (t + 1) l) => labels_any a (t + 1) cap l W q (fun e => (h3 e).2))
    have CT := hide (fun W d c (q' : RowL W d k (l.take k)) (q : RowL W a (t + 1) l) => P.cmp d k c (l.take k) a (t + 1) cap l W q' q)
    have CV : Hid (cmpL (l.take k) l = if k = t + 1 then 0 else -1) := by
      show _ = _
      rw [cmpL_take (by rw [HL.out]; exact hk), HL.out]
    rw [CV.out] at CT
    have TW : Hid (∀ x ∈ l.take k, LbW x) := fun z hz => HF.out z (List.mem_of_mem_take hz)
    clear ek CV c1
    by_cases hkn : k = t + 1
    · rw [if_pos hkn] at CT
      subst hkn
      go_enter Try.func6, Try.ntmps6
      go_wp2_with fail
      with_reducible refine (RC.out _ HR.out).mono ?_
      rintro e v1 ⟨rfl, b2⟩
      have L1 := hide b2
      have Q1 := hide (HR.out.below b2 (Nat.le_refl _))
      clear b2
      go_wp2_with fail
      with_reducible refine (PK.out _).mono ?_
      rintro e w' ⟨rfl, hw⟩
      rw [hw]
      clear hw w'
      go_wp2_with fail
      with_reducible refine (LB.out _ Q1.out).mono ?_
      rintro e v2 ⟨d, c, rfl, o, b2⟩
      have L2 := hide (bel_too L1.out b2)
      have Q2 := hide (Q1.out.below b2 (Nat.le_refl _))
      have X2 := hide (o.row (by omega) TW.out)
      clear b2 o
      go_wp2_with fail
      with_reducible refine (CT.out _ _ _ X2.out Q2.out).mono ?_
      rintro e v3 ⟨rfl, b2⟩
      have L3 := hide (bel_too L2.out b2)
      have Q3 := hide (Q2.out.below b2 (Nat.le_refl _))
      clear b2 X2 L2 Q2 L1 Q1
      go_wp2_with fail
      with_reducible refine (LA.out _ Q3.out).mono ?_
      rintro e v4 ⟨d4, c4, rfl, o, b2⟩
      have L4 := hide (bel_too L3.out b2)
      have Q4 := hide (Q3.out.below b2 (Nat.le_refl _))
      have O4 := hide (o.mono L3.out.size)
      clear b2 o L3 Q3 RC PK LB LA CT f1
      obtain ⟨g, rfl⟩ : ∃ g, d4 = some ⟨g, 0, none⟩ := by
        have h := O4.out
        unfold OwnL at h
        rcases h.2 with ⟨_, h2⟩ | ⟨g, c, cur, h1, _⟩
        · omega
        · simp only [Value.slice.injEq, true_and] at h1
          exact ⟨g, h1.1⟩
      obtain ⟨o5, fr, hbg⟩ : OwnL (v4.setCell ⟨g, t * 2 + 1, none⟩ (.string (x.2 ++ ⟨#[97]⟩))) w.heap.size (some ⟨g, 0, none⟩) (t + 1) c4 (p ++ [(x.1, x.2 ++ ⟨#[97]⟩)]) ∧ v4.frozen? ⟨g, t * 2 + 1, none⟩ = false ∧ w.heap.size ≤ g := by
        have h := O4.out
        rw [hpx] at h
        have := h.last (x.2 ++ ⟨#[97]⟩)
        rw [hpl] at this
        exact this
      have cx : v4.cell? ⟨g, t * 2 + 1, none⟩ = some (.string x.2) := by
        obtain ⟨b2, o2, z, hbo, hz, _, hc2⟩ := (O4.out.row HN.out HF.out).at' (j := t) (by omega)
        simp only [Option.some.injEq, Addr.mk.injEq, and_true] at hbo
        obtain ⟨rfl, rfl⟩ := hbo
        have e : z = x := by
          rw [hpx, List.getElem?_append_right (by omega), hpl] at hz
          simpa using hz.symm
        rw [← e]
        have := (hc2 v4 (Below.refl _ _)).2
        rw [Nat.zero_add] at this
        exact this
      have MW : Hid (∀ z ∈ p ++ [(x.1, x.2 ++ (⟨#[97]⟩ : ByteArray))], LbW z) := fun z hz => by
        rcases List.mem_append.1 hz with h | h
        · exact HF.out z (by rw [hpx]; exact List.mem_append_left _ h)
        · simp only [List.mem_cons, List.not_mem_nil, or_false] at h
          rw [h]
          refine ⟨(HF.out x (by rw [hpx]; simp)).1, ?_⟩
          show (x.2 ++ (⟨#[97]⟩ : ByteArray)).size ≤ _
          rw [ByteArray.size_append]
          have : (⟨#[97]⟩ : ByteArray).size = 1 := rfl
          omega
      have O5 := hide o5
      have B5 : Hid (Below w.heap.size w (v4.setCell ⟨g, t * 2 + 1, none⟩ (.string (x.2 ++ ⟨#[97]⟩)))) := L4.out.setCell (p := ⟨g, t * 2 + 1, none⟩) hbg _
      have i0 : (0 : Int) ≤ (t : Int) := by omega
      have i1 : (t : Int) < (t : Int) + 1 := by omega
      have LS : Hid (Op.bytesLess x.2.toList (x.2 ++ (⟨#[97]⟩ : ByteArray)).toList = true) := by
        show _ = _
        have : (x.2 ++ (⟨#[97]⟩ : ByteArray)).toList = x.2.toList ++ [97] := by
          rw [ByteArray.toList_eq, ByteArray.toList_eq, ByteArray.data_append]
          simp
        rw [this]
        exact less_behind _ _
      clear o5 O4 L4 Q4
      go_upto_region 9 with fail
      obtain ⟨u2, hu2⟩ : ∃ u2, Hid (v4.setCell ⟨g, t * 2 + 1, none⟩ (.string (x.2 ++ ⟨#[97]⟩)) = u2) := ⟨_, rfl⟩
      rw [hu2.out] at O5 B5
      rw [hu2.out]
      have RL := hide (HR.out.below B5.out (Nat.le_refl _))
      have RM := hide (O5.out.row HN.out MW.out)
      clear hu2 fr cx O5 HR hbg
      obtain ⟨b1, o1, y', rfl, hy', hyw, hcy⟩ := RL.out.at' (j := 0) (by omega)
      obtain rfl : y = y' := by rw [hy] at hy'; simpa using hy'
      rw [Nat.zero_mul, Nat.add_zero] at hcy
      obtain ⟨f0, f1⟩ := hcy u2 (Below.refl _ _)
      obtain ⟨w1, hw1⟩ : ∃ w1, Hid (u2.alloc (.cells #[.string y.1, .string more] 40) = w1) := ⟨_, rfl⟩
      obtain ⟨gb, hgb⟩ : ∃ gb, Hid (u2.heap.size = gb) := ⟨_, rfl⟩
      have BW1 : Hid (Below u2.heap.size u2 w1) := by rw [← hw1.out]; exact (Below.refl _ _).alloc (Nat.le_refl _) _
      have RL1 := hide (RL.out.below BW1.out (Nat.le_refl _))
      have RM1 := hide (RM.out.below BW1.out (Nat.le_refl _))
      have LW1 : Hid (Below w.heap.size w w1) := bel_too B5.out BW1.out
      obtain ⟨B, hB⟩ : ∃ B, Hid (w1.heap.size = B) := ⟨_, rfl⟩
      have hB2 := hide hB.out
      have S0 : Hid (w1.drew.cell? ⟨b1, o1 + 1, none⟩ = some (.string y.2) ∧ (w1.drew.cell? ⟨gb, 0, none⟩ = some (.string y.1) ∧ w1.drew.cell? ⟨gb, 1, none⟩ = some (.string more)) ∧ Hid (B ≤ w1.drew.heap.size ∧ Below B w1 w1.drew)) := by
        refine ⟨(hcy w1 BW1.out).2, ⟨?_, ?_⟩, Nat.le_of_eq hB.out.symm, (Below.refl _ _).drew⟩
        · rw [← hw1.out, ← hgb.out]; simp [go_sem]
        · rw [← hw1.out, ← hgb.out]; simp [go_sem]
      have CP1 : Hid (∀ (W : World) (R : Prop), (W.cell? ⟨b1, o1 + 1, none⟩ = some (.string y.2) ∧ (W.cell? ⟨gb, 0, none⟩ = some (.string y.1) ∧ W.cell? ⟨gb, 1, none⟩ = some (.string more)) ∧ Hid (B ≤ W.heap.size ∧ Below B w1 W) ∧ R) → Calls Try.prog 21 #[.slice (some ⟨b1, o1, none⟩) (t + 1) cap, .slice (some ⟨g, 0, none⟩) (t + 1) c4] W fun e w' => e = .returned (.int .i64 (-1)) ∧ Below W.heap.size W w') := fun W R h => by
        have hb := h.2.2.1.out.2
        rw [← hB.out] at hb
        have := P.cmp _ _ cap _ _ _ c4 _ W (RL1.out.below hb (Nat.le_refl _)) (RM1.out.below hb (Nat.le_refl _))
        rw [show cmpL l (p ++ [(x.1, x.2 ++ (⟨#[97]⟩ : ByteArray))]) = -1 by rw [hpx]; exact cmpL_last p x.1 x.2 _ LS.out] at this
        exact this
      have CP2 : Hid (∀ (v : World) (ty : TypeId) (R : Prop), ((v.alloc (.cells #[.string y.1, .string more] ty)).cell? ⟨b1, o1 + 1, none⟩ = some (.string y.2) ∧ ((v.alloc (.cells #[.string y.1, .string more] ty)).cell? ⟨gb, 0, none⟩ = some (.string y.1) ∧ (v.alloc (.cells #[.string y.1, .string more] ty)).cell? ⟨gb, 1, none⟩ = some (.string more)) ∧ Hid (B ≤ (v.alloc (.cells #[.string y.1, .string more] ty)).heap.size ∧ Below B w1 (v.alloc (.cells #[.string y.1, .string more] ty))) ∧ R) → Calls Try.prog 21 #[.slice (some ⟨v.heap.size, 0, none⟩) 1 1, .slice (some ⟨b1, o1, none⟩) (t + 1) cap] (v.alloc (.cells #[.string y.1, .string more] ty)) fun e w' => e = .returned (.int .i64 (if cmpT more y.2 = 0 then (if ys = [] then 0 else -1) else cmpT more y.2)) ∧ Below (v.alloc (.cells #[.string y.1, .string more] ty)).heap.size (v.alloc (.cells #[.string y.1, .string more] ty)) w') := fun v ty R h => by
        have hb := h.2.2.1.out.2
        rw [← hB.out] at hb
        have := P.cmp _ _ 1 _ _ _ cap _ (v.alloc (.cells #[.string y.1, .string more] ty)) (one_rowL v ty (y.1, more) ⟨hyw.1, hs⟩) (RL1.out.below hb (Nat.le_refl _))
        rw [show cmpL [(y.1, more)] l = if cmpT more y.2 = 0 then (if ys = [] then 0 else -1) else cmpT more y.2 by rw [hy]; exact cmpL_one y.1 more y.2 ys] at this
        exact this
      have YL : Hid (ys.length = t) := by
        have := HL.out
        rw [hy] at this
        show _ = _
        simpa using this
      clear RL RM hcy hy' BW1 MW B5 hyw RL1 RM1 LS hpx hpl hy hxz cp P HF HL
      have e0 : (0 : Int) < (t : Int) + 1 := by omega
      go_upto_region 10 with fail
      rw [hw1.out, hgb.out]
      clear hw1 f0 f1
      rcases less_tri more.toList y.2.toList with hA | hA | hA
      · have t1 : cmpT more y.2 = -1 := by unfold cmpT; rw [if_pos hA]
        rw [t1, if_neg (by decide)] at CP2
        clear t1 hgb hB YL
        refine wp_region_held_drew (S := fun w' => w'.cell? ⟨b1, o1 + 1, none⟩ = some (.string y.2) ∧ (w'.cell? ⟨gb, 0, none⟩ = some (.string y.1) ∧ w'.cell? ⟨gb, 1, none⟩ = some (.string more)) ∧ Hid (B ≤ w'.heap.size ∧ Below B w1 w') ∧ True) (by kernel_rfl) ⟨S0.out.1, S0.out.2.1, S0.out.2.2, trivial⟩ (fun hHeld => ?_)
        refine held_take (i := 0) (d := (some 59)) (v := ?_) rfl rfl (by kernel_rfl) (by kernel_rfl) (by kernel_rfl) (fun _ _ _ h => h) (Or.inl ⟨by rfl, ?_⟩) (by first | assumption | rfl | trivial) ?_
        rotate_left 1
        · (intro w hSw; (try dsimp only at hSw); (try subst hSw); go_simp; try with_reducible rfl)
        simp only [Act.put, List.setIfInBounds_toArray, List.set_cons_zero, List.set_cons_succ]
        refine held_take (i := 1) (d := (some 60)) (v := ?_) rfl rfl (by kernel_rfl) (by kernel_rfl) (by kernel_rfl) (fun _ _ _ h => h) (Or.inl ⟨by rfl, ?_⟩) (by first | assumption | rfl | trivial) ?_
        rotate_left 1
        · (intro w hSw; (try dsimp only at hSw); (try subst hSw); go_simp; try with_reducible rfl)
        simp only [Act.put, List.setIfInBounds_toArray, List.set_cons_zero, List.set_cons_succ]
        refine held_next (i := 2) (by kernel_rfl) rfl (by rfl) (fun K hK => ?_)
        go_simp
        with_reducible refine (CP1.out _ _ hHeld).mono ?_
        rintro e x1 ⟨rfl, b4⟩
        have H1 := keepT b4 hHeld
        clear hHeld b4 CP1 S0
        go_wp2_with fail
        refine hK.out _ _ H1 ?_
        clear hK
        refine held_take (i := 3) (d := (some 62)) (v := ?_) rfl rfl (by kernel_rfl) (by kernel_rfl) (by kernel_rfl) (fun _ _ _ h => h) (Or.inl ⟨by rfl, ?_⟩) (by first | assumption | rfl | trivial) ?_
        rotate_left 1
        · (intro w hSw; (try dsimp only at hSw); (try subst hSw); go_simp; try with_reducible rfl)
        simp only [Act.put, List.setIfInBounds_toArray, List.set_cons_zero, List.set_cons_succ]
        refine held_take (i := 4) (d := (some 63)) (v := ?_) rfl rfl (by kernel_rfl) (by kernel_rfl) (by kernel_rfl) (fun _ _ _ h => h) (Or.inl ⟨by rfl, ?_⟩) (by first | assumption | rfl | trivial) ?_
        rotate_left 1
        · (intro w hSw; (try dsimp only at hSw); (try subst hSw); go_simp; try with_reducible rfl)
        simp only [Act.put, List.setIfInBounds_toArray, List.set_cons_zero, List.set_cons_succ]
        refine held_take (i := 5) (d := (some 64)) (v := ?_) rfl rfl (by kernel_rfl) (by kernel_rfl) (by kernel_rfl) (fun _ _ _ h => h) (Or.inl ⟨by rfl, ?_⟩) (by first | assumption | rfl | trivial) ?_
        rotate_left 1
        · (intro w hSw; (try dsimp only at hSw); (try subst hSw); go_simp; try with_reducible rfl)
        simp only [Act.put, List.setIfInBounds_toArray, List.set_cons_zero, List.set_cons_succ]
        refine held_take (i := 7) (d := (some 66)) (v := ?_) rfl rfl (by kernel_rfl) (by kernel_rfl) (by kernel_rfl) (fun _ _ _ h => h) (Or.inl ⟨by rfl, ?_⟩) (by first | assumption | rfl | trivial) ?_
        rotate_left 1
        · (intro w hSw; (try dsimp only at hSw); (try subst hSw); go_simp; try with_reducible rfl)
        simp only [Act.put, List.setIfInBounds_toArray, List.set_cons_zero, List.set_cons_succ]
        refine held_take (i := 10) (d := (some 69)) (v := ?_) rfl rfl (by kernel_rfl) (by kernel_rfl) (by kernel_rfl) (fun _ _ _ h => h) (Or.inl ⟨by rfl, ?_⟩) (by first | assumption | rfl | trivial) ?_
        rotate_left 1
        · (intro w hSw; (try dsimp only at hSw); (try subst hSw); go_simp; try with_reducible rfl)
        simp only [Act.put, List.setIfInBounds_toArray, List.set_cons_zero, List.set_cons_succ]
        refine held_take (i := 11) (d := (some 70)) (v := ?_) rfl rfl (by kernel_rfl) (by kernel_rfl) (by kernel_rfl) (fun _ _ _ h => h) (Or.inl ⟨by rfl, ?_⟩) (by first | assumption | rfl | trivial) ?_
        rotate_left 1
        · (intro w hSw; (try dsimp only at hSw); (try subst hSw); go_simp; try with_reducible rfl)
        simp only [Act.put, List.setIfInBounds_toArray, List.set_cons_zero, List.set_cons_succ]
        refine held_take (i := 12) (d := (some 71)) (v := ?_) rfl rfl (by kernel_rfl) (by kernel_rfl) (by kernel_rfl) (fun _ _ _ h => h) (Or.inl ⟨by rfl, ?_⟩) (by first | assumption | rfl | trivial) ?_
        rotate_left 1
        · (intro w hSw; (try dsimp only at hSw); (try subst hSw); go_simp; try with_reducible rfl)
        simp only [Act.put, List.setIfInBounds_toArray, List.set_cons_zero, List.set_cons_succ]
        refine held_take (i := 13) (d := (some 72)) (v := ?_) rfl rfl (by kernel_rfl) (by kernel_rfl) (by kernel_rfl) (fun _ _ _ h => h) (Or.inl ⟨by rfl, ?_⟩) (by first | assumption | rfl | trivial) ?_
        rotate_left 1
        · (intro w hSw; (try dsimp only at hSw); (try subst hSw); go_simp; try with_reducible rfl)
        simp only [Act.put, List.setIfInBounds_toArray, List.set_cons_zero, List.set_cons_succ]
        refine held_take (i := 14) (d := (some 73)) (v := ?_) rfl rfl (by kernel_rfl) (by kernel_rfl) (by kernel_rfl) (fun _ _ _ h => h) (Or.inl ⟨by rfl, ?_⟩) (by first | assumption | rfl | trivial) ?_
        rotate_left 1
        · (intro w hSw; (try dsimp only at hSw); (try subst hSw); go_simp; try with_reducible rfl)
        simp only [Act.put, List.setIfInBounds_toArray, List.set_cons_zero, List.set_cons_succ]
        refine held_take (i := 15) (d := (some 74)) (v := ?_) rfl rfl (by kernel_rfl) (by kernel_rfl) (by kernel_rfl) (fun _ _ _ h => h) (Or.inl ⟨by rfl, ?_⟩) (by first | assumption | rfl | trivial) ?_
        rotate_left 1
        · (intro w hSw; (try dsimp only at hSw); (try subst hSw); go_simp; try with_reducible rfl)
        simp only [Act.put, List.setIfInBounds_toArray, List.set_cons_zero, List.set_cons_succ]
        refine held_next (i := 6) (by kernel_rfl) rfl (by rfl) (fun K hK => ?_)
        go_simp
        have H2 := keepT ((Below.refl x1.heap.size x1).alloc (Nat.le_refl _) (.cells #[.string y.1, .string more] 40)) H1
        refine hK.out _ _ H2 ?_
        clear hK
        refine held_next (i := 8) (by kernel_rfl) rfl (by rfl) (fun K hK => ?_)
        go_simp
        with_reducible refine (CP2.out _ _ _ H2).mono ?_
        rintro e x2 ⟨rfl, b4⟩
        have H3 := keepT b4 H2
        clear H1 H2 b4 CP2
        go_wp2_with fail
        refine hK.out _ _ H3 ?_
        clear hK
        refine held_take (i := 9) (d := (some 68)) (v := ?_) rfl rfl (by kernel_rfl) (by kernel_rfl) (by kernel_rfl) (fun _ _ _ h => h) (Or.inl ⟨by rfl, ?_⟩) (by first | assumption | rfl | trivial) ?_
        rotate_left 1
        · (intro w hSw; (try dsimp only at hSw); (try subst hSw); go_simp; try with_reducible rfl)
        simp only [Act.put, List.setIfInBounds_toArray, List.set_cons_zero, List.set_cons_succ]
        refine held_take (i := 16) (d := (some 75)) (v := ?_) rfl rfl (by kernel_rfl) (by kernel_rfl) (by kernel_rfl) (fun _ _ _ h => h) (Or.inl ⟨by rfl, ?_⟩) (by first | assumption | rfl | trivial) ?_
        rotate_left 1
        · (intro w hSw; (try dsimp only at hSw); (try subst hSw); go_simp; try with_reducible rfl)
        simp only [Act.put, List.setIfInBounds_toArray, List.set_cons_zero, List.set_cons_succ]
        refine held_take (i := 17) (d := (some 76)) (v := undef) rfl rfl (by kernel_rfl) (by kernel_rfl) (by kernel_rfl) (fun _ _ _ h => h) (Or.inr ⟨by rfl, rfl⟩) (by first | assumption | rfl | trivial) ?_
        simp only [Act.put, List.setIfInBounds_toArray, List.set_cons_zero, List.set_cons_succ]
        refine held_take (i := 18) (d := (some 77)) (v := undef) rfl rfl (by kernel_rfl) (by kernel_rfl) (by kernel_rfl) (fun _ _ _ h => h) (Or.inr ⟨by rfl, rfl⟩) (by first | assumption | rfl | trivial) ?_
        simp only [Act.put, List.setIfInBounds_toArray, List.set_cons_zero, List.set_cons_succ]
        refine held_take (i := 19) (d := (some 78)) (v := undef) rfl rfl (by kernel_rfl) (by kernel_rfl) (by kernel_rfl) (fun _ _ _ h => h) (Or.inr ⟨by rfl, rfl⟩) (by first | assumption | rfl | trivial) ?_
        simp only [Act.put, List.setIfInBounds_toArray, List.set_cons_zero, List.set_cons_succ]
        refine held_take (i := 20) (d := (some 79)) (v := undef) rfl rfl (by kernel_rfl) (by kernel_rfl) (by kernel_rfl) (fun _ _ _ h => h) (Or.inr ⟨by rfl, rfl⟩) (by first | assumption | rfl | trivial) ?_
        simp only [Act.put, List.setIfInBounds_toArray, List.set_cons_zero, List.set_cons_succ]
        refine held_take (i := 21) (d := (some 80)) (v := undef) rfl rfl (by kernel_rfl) (by kernel_rfl) (by kernel_rfl) (fun _ _ _ h => h) (Or.inr ⟨by rfl, rfl⟩) (by first | assumption | rfl | trivial) ?_
        simp only [Act.put, List.setIfInBounds_toArray, List.set_cons_zero, List.set_cons_succ]
        refine held_take (i := 22) (d := (some 81)) (v := undef) rfl rfl (by kernel_rfl) (by kernel_rfl) (by kernel_rfl) (fun _ _ _ h => h) (Or.inr ⟨by rfl, rfl⟩) (by first | assumption | rfl | trivial) ?_
        simp only [Act.put, List.setIfInBounds_toArray, List.set_cons_zero, List.set_cons_succ]
        refine held_take (i := 23) (d := (some 82)) (v := undef) rfl rfl (by kernel_rfl) (by kernel_rfl) (by kernel_rfl) (fun _ _ _ h => h) (Or.inr ⟨by rfl, rfl⟩) (by first | assumption | rfl | trivial) ?_
        simp only [Act.put, List.setIfInBounds_toArray, List.set_cons_zero, List.set_cons_succ]
        refine held_take (i := 24) (d := (some 83)) (v := undef) rfl rfl (by kernel_rfl) (by kernel_rfl) (by kernel_rfl) (fun _ _ _ h => h) (Or.inr ⟨by rfl, rfl⟩) (by first | assumption | rfl | trivial) ?_
        simp only [Act.put, List.setIfInBounds_toArray, List.set_cons_zero, List.set_cons_succ]
        refine held_take (i := 25) (d := (some 84)) (v := undef) rfl rfl (by kernel_rfl) (by kernel_rfl) (by kernel_rfl) (fun _ _ _ h => h) (Or.inr ⟨by rfl, rfl⟩) (by first | assumption | rfl | trivial) ?_
        simp only [Act.put, List.setIfInBounds_toArray, List.set_cons_zero, List.set_cons_succ]
        refine held_take (i := 26) (d := (some 85)) (v := undef) rfl rfl (by kernel_rfl) (by kernel_rfl) (by kernel_rfl) (fun _ _ _ h => h) (Or.inr ⟨by rfl, rfl⟩) (by first | assumption | rfl | trivial) ?_
        simp only [Act.put, List.setIfInBounds_toArray, List.set_cons_zero, List.set_cons_succ]
        refine held_take (i := 27) (d := (some 86)) (v := undef) rfl rfl (by kernel_rfl) (by kernel_rfl) (by kernel_rfl) (fun _ _ _ h => h) (Or.inr ⟨by rfl, rfl⟩) (by first | assumption | rfl | trivial) ?_
        simp only [Act.put, List.setIfInBounds_toArray, List.set_cons_zero, List.set_cons_succ]
        refine held_take (i := 28) (d := (some 87)) (v := ?_) rfl rfl (by kernel_rfl) (by kernel_rfl) (by kernel_rfl) (fun _ _ _ h => h) (Or.inl ⟨by rfl, ?_⟩) (by first | assumption | rfl | trivial) ?_
        rotate_left 1
        · (intro w hSw; (try dsimp only at hSw); (try subst hSw); go_simp; try with_reducible rfl)
        simp only [Act.put, List.setIfInBounds_toArray, List.set_cons_zero, List.set_cons_succ]
        refine held_take (i := 29) (d := (some 88)) (v := ?_) rfl rfl (by kernel_rfl) (by kernel_rfl) (by kernel_rfl) (fun _ _ _ h => h) (Or.inl ⟨by rfl, ?_⟩) (by first | assumption | rfl | trivial) ?_
        rotate_left 1
        · (intro w hSw; (try dsimp only at hSw); (try subst hSw); go_simp; try with_reducible rfl)
        simp only [Act.put, List.setIfInBounds_toArray, List.set_cons_zero, List.set_cons_succ]
        refine held_take (i := 30) (d := (some 89)) (v := ?_) rfl rfl (by kernel_rfl) (by kernel_rfl) (by kernel_rfl) (fun _ _ _ h => h) (Or.inl ⟨by rfl, ?_⟩) (by first | assumption | rfl | trivial) ?_
        rotate_left 1
        · (intro w hSw; (try dsimp only at hSw); (try subst hSw); go_simp; try with_reducible rfl)
        simp only [Act.put, List.setIfInBounds_toArray, List.set_cons_zero, List.set_cons_succ]
        refine held_take (i := 31) (d := (some 90)) (v := ?_) rfl rfl (by kernel_rfl) (by kernel_rfl) (by kernel_rfl) (fun _ _ _ h => h) (Or.inl ⟨by rfl, ?_⟩) (by first | assumption | rfl | trivial) ?_
        rotate_left 1
        · (intro w hSw; (try dsimp only at hSw); (try subst hSw); go_simp; try with_reducible rfl)
        simp only [Act.put, List.setIfInBounds_toArray, List.set_cons_zero, List.set_cons_succ]
        refine held_next (i := 32) (by kernel_rfl) rfl (by rfl) (fun K hK => ?_)
        go_simp
        with_reducible refine (AW.out _).mono ?_
        rintro e x3 ⟨rfl, b4⟩
        have H4 := keepT b4 H3
        clear H3 b4 AW
        go_wp2_with fail
        refine hK.out _ _ H4 ?_
        clear hK
        refine held_take (i := 33) (d := (some 92)) (v := ?_) rfl rfl (by kernel_rfl) (by kernel_rfl) (by kernel_rfl) (fun _ _ _ h => h) (Or.inl ⟨by rfl, ?_⟩) (by first | assumption | rfl | trivial) ?_
        rotate_left 1
        · (intro w hSw; (try dsimp only at hSw); (try subst hSw); go_simp; try with_reducible rfl)
        simp only [Act.put, List.setIfInBounds_toArray, List.set_cons_zero, List.set_cons_succ]
        refine held_take (i := 34) (d := (some 6)) (v := ?_) rfl rfl (by kernel_rfl) (by kernel_rfl) (by kernel_rfl) (fun _ _ _ h => h) (Or.inl ⟨by rfl, ?_⟩) (by first | assumption | rfl | trivial) ?_
        rotate_left 1
        · (intro w hSw; (try dsimp only at hSw); (try subst hSw); go_simp; try with_reducible rfl)
        simp only [Act.put, List.setIfInBounds_toArray, List.set_cons_zero, List.set_cons_succ]
        refine wpAnyH_done (by kernel_rfl) ?_ _
        have F := hide H4.2.2.1.out
        clear H4
        go_wp2
        go_ret
        exact ⟨rfl, LW1.out.trans (F.out.2.mono (Nat.le_trans LW1.out.size (Nat.le_of_eq hB2.out)))⟩
      · have m1 : (more.toList == y.2.toList) = true := by rw [hA]; simp
        have m2 : Op.bytesLess more.toList y.2.toList = false := by rw [hA]; exact less_irrefl _
        have t1 : cmpT more y.2 = 0 := by rw [ba_ext hA]; exact cmpT_is.self _
        rw [t1, if_pos rfl] at CP2
        clear hA t1
        by_cases hy0 : ys = []
        · rw [if_pos hy0] at CP2
          have t0 : ¬ (1 : Int) < (t : Int) + 1 := by have := YL.out; rw [hy0] at this; simp at this; omega
          have t0' : decide ((1 : Int) < (t : Int) + 1) = false := decide_eq_false t0
          clear hy0 hgb hB YL
          refine wp_region_held_drew (S := fun w' => w'.cell? ⟨b1, o1 + 1, none⟩ = some (.string y.2) ∧ (w'.cell? ⟨gb, 0, none⟩ = some (.string y.1) ∧ w'.cell? ⟨gb, 1, none⟩ = some (.string more)) ∧ Hid (B ≤ w'.heap.size ∧ Below B w1 w') ∧ True) (by kernel_rfl) ⟨S0.out.1, S0.out.2.1, S0.out.2.2, trivial⟩ (fun hHeld => ?_)
          refine held_take (i := 0) (d := (some 59)) (v := ?_) rfl rfl (by kernel_rfl) (by kernel_rfl) (by kernel_rfl) (fun _ _ _ h => h) (Or.inl ⟨by rfl, ?_⟩) (by first | assumption | rfl | trivial) ?_
          rotate_left 1
          · (intro w hSw; (try dsimp only at hSw); (try subst hSw); go_simp; try with_reducible rfl)
          simp only [Act.put, List.setIfInBounds_toArray, List.set_cons_zero, List.set_cons_succ]
          refine held_take (i := 1) (d := (some 60)) (v := ?_) rfl rfl (by kernel_rfl) (by kernel_rfl) (by kernel_rfl) (fun _ _ _ h => h) (Or.inl ⟨by rfl, ?_⟩) (by first | assumption | rfl | trivial) ?_
          rotate_left 1
          · (intro w hSw; (try dsimp only at hSw); (try subst hSw); go_simp; try with_reducible rfl)
          simp only [Act.put, List.setIfInBounds_toArray, List.set_cons_zero, List.set_cons_succ]
          refine held_next (i := 2) (by kernel_rfl) rfl (by rfl) (fun K hK => ?_)
          go_simp
          with_reducible refine (CP1.out _ _ hHeld).mono ?_
          rintro e x1 ⟨rfl, b4⟩
          have H1 := keepT b4 hHeld
          clear hHeld b4 CP1 S0
          go_wp2_with fail
          refine hK.out _ _ H1 ?_
          clear hK
          refine held_take (i := 3) (d := (some 62)) (v := ?_) rfl rfl (by kernel_rfl) (by kernel_rfl) (by kernel_rfl) (fun _ _ _ h => h) (Or.inl ⟨by rfl, ?_⟩) (by first | assumption | rfl | trivial) ?_
          rotate_left 1
          · (intro w hSw; (try dsimp only at hSw); (try subst hSw); go_simp; try with_reducible rfl)
          simp only [Act.put, List.setIfInBounds_toArray, List.set_cons_zero, List.set_cons_succ]
          refine held_take (i := 4) (d := (some 63)) (v := ?_) rfl rfl (by kernel_rfl) (by kernel_rfl) (by kernel_rfl) (fun _ _ _ h => h) (Or.inl ⟨by rfl, ?_⟩) (by first | assumption | rfl | trivial) ?_
          rotate_left 1
          · (intro w hSw; (try dsimp only at hSw); (try subst hSw); go_simp; try with_reducible rfl)
          simp only [Act.put, List.setIfInBounds_toArray, List.set_cons_zero, List.set_cons_succ]
          refine held_take (i := 5) (d := (some 64)) (v := ?_) rfl rfl (by kernel_rfl) (by kernel_rfl) (by kernel_rfl) (fun _ _ _ h => h) (Or.inl ⟨by rfl, ?_⟩) (by first | assumption | rfl | trivial) ?_
          rotate_left 1
          · (intro w hSw; (try dsimp only at hSw); (try subst hSw); go_simp; try with_reducible rfl)
          simp only [Act.put, List.setIfInBounds_toArray, List.set_cons_zero, List.set_cons_succ]
          refine held_take (i := 7) (d := (some 66)) (v := ?_) rfl rfl (by kernel_rfl) (by kernel_rfl) (by kernel_rfl) (fun _ _ _ h => h) (Or.inl ⟨by rfl, ?_⟩) (by first | assumption | rfl | trivial) ?_
          rotate_left 1
          · (intro w hSw; (try dsimp only at hSw); (try subst hSw); go_simp; try with_reducible rfl)
          simp only [Act.put, List.setIfInBounds_toArray, List.set_cons_zero, List.set_cons_succ]
          refine held_take (i := 10) (d := (some 69)) (v := ?_) rfl rfl (by kernel_rfl) (by kernel_rfl) (by kernel_rfl) (fun _ _ _ h => h) (Or.inl ⟨by rfl, ?_⟩) (by first | assumption | rfl | trivial) ?_
          rotate_left 1
          · (intro w hSw; (try dsimp only at hSw); (try subst hSw); go_simp; try with_reducible rfl)
          simp only [Act.put, List.setIfInBounds_toArray, List.set_cons_zero, List.set_cons_succ]
          refine held_take (i := 11) (d := (some 70)) (v := ?_) rfl rfl (by kernel_rfl) (by kernel_rfl) (by kernel_rfl) (fun _ _ _ h => h) (Or.inl ⟨by rfl, ?_⟩) (by first | assumption | rfl | trivial) ?_
          rotate_left 1
          · (intro w hSw; (try dsimp only at hSw); (try subst hSw); go_simp; try with_reducible rfl)
          simp only [Act.put, List.setIfInBounds_toArray, List.set_cons_zero, List.set_cons_succ]
          refine held_take (i := 12) (d := (some 71)) (v := ?_) rfl rfl (by kernel_rfl) (by kernel_rfl) (by kernel_rfl) (fun _ _ _ h => h) (Or.inl ⟨by rfl, ?_⟩) (by first | assumption | rfl | trivial) ?_
          rotate_left 1
          · (intro w hSw; (try dsimp only at hSw); (try subst hSw); go_simp; try with_reducible rfl)
          simp only [Act.put, List.setIfInBounds_toArray, List.set_cons_zero, List.set_cons_succ]
          refine held_take (i := 13) (d := (some 72)) (v := ?_) rfl rfl (by kernel_rfl) (by kernel_rfl) (by kernel_rfl) (fun _ _ _ h => h) (Or.inl ⟨by rfl, ?_⟩) (by first | assumption | rfl | trivial) ?_
          rotate_left 1
          · (intro w hSw; (try dsimp only at hSw); (try subst hSw); go_simp; try with_reducible rfl)
          simp only [Act.put, List.setIfInBounds_toArray, List.set_cons_zero, List.set_cons_succ]
          refine held_take (i := 14) (d := (some 73)) (v := ?_) rfl rfl (by kernel_rfl) (by kernel_rfl) (by kernel_rfl) (fun _ _ _ h => h) (Or.inl ⟨by rfl, ?_⟩) (by first | assumption | rfl | trivial) ?_
          rotate_left 1
          · (intro w hSw; (try dsimp only at hSw); (try subst hSw); go_simp; try with_reducible rfl)
          simp only [Act.put, List.setIfInBounds_toArray, List.set_cons_zero, List.set_cons_succ]
          refine held_take (i := 15) (d := (some 74)) (v := ?_) rfl rfl (by kernel_rfl) (by kernel_rfl) (by kernel_rfl) (fun _ _ _ h => h) (Or.inl ⟨by rfl, ?_⟩) (by first | assumption | rfl | trivial) ?_
          rotate_left 1
          · (intro w hSw; (try dsimp only at hSw); (try subst hSw); go_simp; try with_reducible rfl)
          simp only [Act.put, List.setIfInBounds_toArray, List.set_cons_zero, List.set_cons_succ]
          refine held_next (i := 6) (by kernel_rfl) rfl (by rfl) (fun K hK => ?_)
          go_simp
          have H2 := keepT ((Below.refl x1.heap.size x1).alloc (Nat.le_refl _) (.cells #[.string y.1, .string more] 40)) H1
          refine hK.out _ _ H2 ?_
          clear hK
          refine held_next (i := 8) (by kernel_rfl) rfl (by rfl) (fun K hK => ?_)
          go_simp
          with_reducible refine (CP2.out _ _ _ H2).mono ?_
          rintro e x2 ⟨rfl, b4⟩
          have H3 := keepT b4 H2
          clear H1 H2 b4 CP2
          go_wp2_with fail
          refine hK.out _ _ H3 ?_
          clear hK
          refine held_take (i := 9) (d := (some 68)) (v := ?_) rfl rfl (by kernel_rfl) (by kernel_rfl) (by kernel_rfl) (fun _ _ _ h => h) (Or.inl ⟨by rfl, ?_⟩) (by first | assumption | rfl | trivial) ?_
          rotate_left 1
          · (intro w hSw; (try dsimp only at hSw); (try subst hSw); go_simp; try with_reducible rfl)
          simp only [Act.put, List.setIfInBounds_toArray, List.set_cons_zero, List.set_cons_succ]
          refine held_take (i := 16) (d := (some 75)) (v := ?_) rfl rfl (by kernel_rfl) (by kernel_rfl) (by kernel_rfl) (fun _ _ _ h => h) (Or.inl ⟨by rfl, ?_⟩) (by first | assumption | rfl | trivial) ?_
          rotate_left 1
          · (intro w hSw; (try dsimp only at hSw); (try subst hSw); go_simp; try with_reducible rfl)
          simp only [Act.put, List.setIfInBounds_toArray, List.set_cons_zero, List.set_cons_succ]
          refine held_take (i := 17) (d := (some 76)) (v := ?_) rfl rfl (by kernel_rfl) (by kernel_rfl) (by kernel_rfl) (fun _ _ _ h => h) (Or.inl ⟨by rfl, ?_⟩) (by first | assumption | rfl | trivial) ?_
          rotate_left 1
          · (intro w hSw; (try dsimp only at hSw); (try subst hSw); go_simp; try with_reducible rfl)
          simp only [Act.put, List.setIfInBounds_toArray, List.set_cons_zero, List.set_cons_succ]
          refine held_take (i := 18) (d := (some 77)) (v := ?_) rfl rfl (by kernel_rfl) (by kernel_rfl) (by kernel_rfl) (fun _ _ _ h => h) (Or.inl ⟨by rfl, ?_⟩) (by first | assumption | rfl | trivial) ?_
          rotate_left 1
          · (intro w hSw; (try dsimp only at hSw); (try subst hSw); go_simp; try with_reducible rfl)
          simp only [Act.put, List.setIfInBounds_toArray, List.set_cons_zero, List.set_cons_succ]
          refine held_take (i := 19) (d := (some 78)) (v := ?_) rfl rfl (by kernel_rfl) (by kernel_rfl) (by kernel_rfl) (fun _ _ _ h => h) (Or.inl ⟨by rfl, ?_⟩) (by first | assumption | rfl | trivial) ?_
          rotate_left 1
          · (intro w hSw; (try dsimp only at hSw); (try subst hSw); go_simp; try with_reducible rfl)
          simp only [Act.put, List.setIfInBounds_toArray, List.set_cons_zero, List.set_cons_succ]
          refine held_take (i := 20) (d := (some 79)) (v := ?_) rfl rfl (by kernel_rfl) (by kernel_rfl) (by kernel_rfl) (fun _ _ _ h => h) (Or.inl ⟨by rfl, ?_⟩) (by first | assumption | rfl | trivial) ?_
          rotate_left 1
          · (intro w hSw; (try dsimp only at hSw); (try subst hSw); go_simp; try with_reducible rfl)
          simp only [Act.put, List.setIfInBounds_toArray, List.set_cons_zero, List.set_cons_succ]
          refine held_take (i := 21) (d := (some 80)) (v := ?_) rfl rfl (by kernel_rfl) (by kernel_rfl) (by kernel_rfl) (fun _ _ _ h => h) (Or.inl ⟨by rfl, ?_⟩) (by first | assumption | rfl | trivial) ?_
          rotate_left 1
          · (intro w hSw; (try dsimp only at hSw); (try subst hSw); go_simp; try with_reducible rfl)
          simp only [Act.put, List.setIfInBounds_toArray, List.set_cons_zero, List.set_cons_succ]
          refine held_take (i := 22) (d := (some 81)) (v := ?_) rfl rfl (by kernel_rfl) (by kernel_rfl) (by kernel_rfl) (fun _ _ _ h => h) (Or.inl ⟨by rfl, ?_⟩) (by first | assumption | rfl | trivial) ?_
          rotate_left 1
          · (intro w hSw; (try dsimp only at hSw); (try subst hSw); go_simp; try with_reducible rfl)
          simp only [Act.put, List.setIfInBounds_toArray, List.set_cons_zero, List.set_cons_succ]
          refine held_take (i := 23) (d := (some 82)) (v := ?_) rfl rfl (by kernel_rfl) (by kernel_rfl) (by kernel_rfl) (fun _ _ _ h => h) (Or.inl ⟨by rfl, ?_⟩) (by first | assumption | rfl | trivial) ?_
          rotate_left 1
          · (intro w hSw; (try dsimp only at hSw); (try subst hSw); go_simp; try with_reducible rfl)
          simp only [Act.put, List.setIfInBounds_toArray, List.set_cons_zero, List.set_cons_succ]
          refine held_take (i := 24) (d := (some 83)) (v := ?_) rfl rfl (by kernel_rfl) (by kernel_rfl) (by kernel_rfl) (fun _ _ _ h => h) (Or.inl ⟨by rfl, ?_⟩) (by first | assumption | rfl | trivial) ?_
          rotate_left 1
          · (intro w hSw; (try dsimp only at hSw); (try subst hSw); go_simp; try with_reducible rfl)
          simp only [Act.put, List.setIfInBounds_toArray, List.set_cons_zero, List.set_cons_succ]
          refine held_take (i := 25) (d := (some 84)) (v := ?_) rfl rfl (by kernel_rfl) (by kernel_rfl) (by kernel_rfl) (fun _ _ _ h => h) (Or.inl ⟨by rfl, ?_⟩) (by first | assumption | rfl | trivial) ?_
          rotate_left 1
          · (intro w hSw; (try dsimp only at hSw); (try subst hSw); go_simp; try with_reducible rfl)
          simp only [Act.put, List.setIfInBounds_toArray, List.set_cons_zero, List.set_cons_succ]
          refine held_take (i := 26) (d := (some 85)) (v := ?_) rfl rfl (by kernel_rfl) (by kernel_rfl) (by kernel_rfl) (fun _ _ _ h => h) (Or.inl ⟨by rfl, ?_⟩) (by first | assumption | rfl | trivial) ?_
          rotate_left 1
          · (intro w hSw; (try dsimp only at hSw); (try subst hSw); go_simp; try with_reducible rfl)
          simp only [Act.put, List.setIfInBounds_toArray, List.set_cons_zero, List.set_cons_succ]
          refine held_take (i := 27) (d := (some 86)) (v := ?_) rfl rfl (by kernel_rfl) (by kernel_rfl) (by kernel_rfl) (fun _ _ _ h => h) (Or.inl ⟨by rfl, ?_⟩) (by first | assumption | rfl | trivial) ?_
          rotate_left 1
          · (intro w hSw; (try dsimp only at hSw); (try subst hSw); go_simp; try with_reducible rfl)
          simp only [Act.put, List.setIfInBounds_toArray, List.set_cons_zero, List.set_cons_succ]
          refine held_take (i := 28) (d := (some 87)) (v := ?_) rfl rfl (by kernel_rfl) (by kernel_rfl) (by kernel_rfl) (fun _ _ _ h => h) (Or.inl ⟨by rfl, ?_⟩) (by first | assumption | rfl | trivial) ?_
          rotate_left 1
          · (intro w hSw; (try dsimp only at hSw); (try subst hSw); go_simp; try with_reducible rfl)
          simp only [Act.put, List.setIfInBounds_toArray, List.set_cons_zero, List.set_cons_succ]
          refine held_take (i := 29) (d := (some 88)) (v := ?_) rfl rfl (by kernel_rfl) (by kernel_rfl) (by kernel_rfl) (fun _ _ _ h => h) (Or.inl ⟨by rfl, ?_⟩) (by first | assumption | rfl | trivial) ?_
          rotate_left 1
          · (intro w hSw; (try dsimp only at hSw); (try subst hSw); go_simp; try with_reducible rfl)
          simp only [Act.put, List.setIfInBounds_toArray, List.set_cons_zero, List.set_cons_succ]
          refine held_take (i := 30) (d := (some 89)) (v := ?_) rfl rfl (by kernel_rfl) (by kernel_rfl) (by kernel_rfl) (fun _ _ _ h => h) (Or.inl ⟨by rfl, ?_⟩) (by first | assumption | rfl | trivial) ?_
          rotate_left 1
          · (intro w hSw; (try dsimp only at hSw); (try subst hSw); go_simp; try with_reducible rfl)
          simp only [Act.put, List.setIfInBounds_toArray, List.set_cons_zero, List.set_cons_succ]
          refine held_take (i := 31) (d := (some 90)) (v := ?_) rfl rfl (by kernel_rfl) (by kernel_rfl) (by kernel_rfl) (fun _ _ _ h => h) (Or.inl ⟨by rfl, ?_⟩) (by first | assumption | rfl | trivial) ?_
          rotate_left 1
          · (intro w hSw; (try dsimp only at hSw); (try subst hSw); go_simp; try with_reducible rfl)
          simp only [Act.put, List.setIfInBounds_toArray, List.set_cons_zero, List.set_cons_succ]
          refine held_next (i := 32) (by kernel_rfl) rfl (by rfl) (fun K hK => ?_)
          go_simp
          with_reducible refine (AW.out _).mono ?_
          rintro e x3 ⟨rfl, b4⟩
          have H4 := keepT b4 H3
          clear H3 b4 AW
          go_wp2_with fail
          refine hK.out _ _ H4 ?_
          clear hK
          refine held_take (i := 33) (d := (some 92)) (v := ?_) rfl rfl (by kernel_rfl) (by kernel_rfl) (by kernel_rfl) (fun _ _ _ h => h) (Or.inl ⟨by rfl, ?_⟩) (by first | assumption | rfl | trivial) ?_
          rotate_left 1
          · (intro w hSw; (try dsimp only at hSw); (try subst hSw); go_simp; try with_reducible rfl)
          simp only [Act.put, List.setIfInBounds_toArray, List.set_cons_zero, List.set_cons_succ]
          refine held_take (i := 34) (d := (some 6)) (v := ?_) rfl rfl (by kernel_rfl) (by kernel_rfl) (by kernel_rfl) (fun _ _ _ h => h) (Or.inl ⟨by rfl, ?_⟩) (by first | assumption | rfl | trivial) ?_
          rotate_left 1
          · (intro w hSw; (try dsimp only at hSw); (try subst hSw); go_simp; try with_reducible rfl)
          simp only [Act.put, List.setIfInBounds_toArray, List.set_cons_zero, List.set_cons_succ]
          refine wpAnyH_done (by kernel_rfl) ?_ _
          have F := hide H4.2.2.1.out
          clear H4
          go_wp2
          go_ret
          exact ⟨rfl, LW1.out.trans (F.out.2.mono (Nat.le_trans LW1.out.size (Nat.le_of_eq hB2.out)))⟩
        · rw [if_neg hy0] at CP2
          have t0 : (1 : Int) < (t : Int) + 1 := by
            have := YL.out
            have := List.length_pos_iff.2 hy0
            omega
          have t0' : decide ((1 : Int) < (t : Int) + 1) = true := decide_eq_true t0
          clear hy0 hgb hB YL
          refine wp_region_held_drew (S := fun w' => w'.cell? ⟨b1, o1 + 1, none⟩ = some (.string y.2) ∧ (w'.cell? ⟨gb, 0, none⟩ = some (.string y.1) ∧ w'.cell? ⟨gb, 1, none⟩ = some (.string more)) ∧ Hid (B ≤ w'.heap.size ∧ Below B w1 w') ∧ True) (by kernel_rfl) ⟨S0.out.1, S0.out.2.1, S0.out.2.2, trivial⟩ (fun hHeld => ?_)
          refine held_take (i := 0) (d := (some 59)) (v := ?_) rfl rfl (by kernel_rfl) (by kernel_rfl) (by kernel_rfl) (fun _ _ _ h => h) (Or.inl ⟨by rfl, ?_⟩) (by first | assumption | rfl | trivial) ?_
          rotate_left 1
          · (intro w hSw; (try dsimp only at hSw); (try subst hSw); go_simp; try with_reducible rfl)
          simp only [Act.put, List.setIfInBounds_toArray, List.set_cons_zero, List.set_cons_succ]
          refine held_take (i := 1) (d := (some 60)) (v := ?_) rfl rfl (by kernel_rfl) (by kernel_rfl) (by kernel_rfl) (fun _ _ _ h => h) (Or.inl ⟨by rfl, ?_⟩) (by first | assumption | rfl | trivial) ?_
          rotate_left 1
          · (intro w hSw; (try dsimp only at hSw); (try subst hSw); go_simp; try with_reducible rfl)
          simp only [Act.put, List.setIfInBounds_toArray, List.set_cons_zero, List.set_cons_succ]
          refine held_next (i := 2) (by kernel_rfl) rfl (by rfl) (fun K hK => ?_)
          go_simp
          with_reducible refine (CP1.out _ _ hHeld).mono ?_
          rintro e x1 ⟨rfl, b4⟩
          have H1 := keepT b4 hHeld
          clear hHeld b4 CP1 S0
          go_wp2_with fail
          refine hK.out _ _ H1 ?_
          clear hK
          refine held_take (i := 3) (d := (some 62)) (v := ?_) rfl rfl (by kernel_rfl) (by kernel_rfl) (by kernel_rfl) (fun _ _ _ h => h) (Or.inl ⟨by rfl, ?_⟩) (by first | assumption | rfl | trivial) ?_
          rotate_left 1
          · (intro w hSw; (try dsimp only at hSw); (try subst hSw); go_simp; try with_reducible rfl)
          simp only [Act.put, List.setIfInBounds_toArray, List.set_cons_zero, List.set_cons_succ]
          refine held_take (i := 4) (d := (some 63)) (v := ?_) rfl rfl (by kernel_rfl) (by kernel_rfl) (by kernel_rfl) (fun _ _ _ h => h) (Or.inl ⟨by rfl, ?_⟩) (by first | assumption | rfl | trivial) ?_
          rotate_left 1
          · (intro w hSw; (try dsimp only at hSw); (try subst hSw); go_simp; try with_reducible rfl)
          simp only [Act.put, List.setIfInBounds_toArray, List.set_cons_zero, List.set_cons_succ]
          refine held_take (i := 5) (d := (some 64)) (v := ?_) rfl rfl (by kernel_rfl) (by kernel_rfl) (by kernel_rfl) (fun _ _ _ h => h) (Or.inl ⟨by rfl, ?_⟩) (by first | assumption | rfl | trivial) ?_
          rotate_left 1
          · (intro w hSw; (try dsimp only at hSw); (try subst hSw); go_simp; try with_reducible rfl)
          simp only [Act.put, List.setIfInBounds_toArray, List.set_cons_zero, List.set_cons_succ]
          refine held_take (i := 7) (d := (some 66)) (v := ?_) rfl rfl (by kernel_rfl) (by kernel_rfl) (by kernel_rfl) (fun _ _ _ h => h) (Or.inl ⟨by rfl, ?_⟩) (by first | assumption | rfl | trivial) ?_
          rotate_left 1
          · (intro w hSw; (try dsimp only at hSw); (try subst hSw); go_simp; try with_reducible rfl)
          simp only [Act.put, List.setIfInBounds_toArray, List.set_cons_zero, List.set_cons_succ]
          refine held_take (i := 10) (d := (some 69)) (v := ?_) rfl rfl (by kernel_rfl) (by kernel_rfl) (by kernel_rfl) (fun _ _ _ h => h) (Or.inl ⟨by rfl, ?_⟩) (by first | assumption | rfl | trivial) ?_
          rotate_left 1
          · (intro w hSw; (try dsimp only at hSw); (try subst hSw); go_simp; try with_reducible rfl)
          simp only [Act.put, List.setIfInBounds_toArray, List.set_cons_zero, List.set_cons_succ]
          refine held_take (i := 11) (d := (some 70)) (v := ?_) rfl rfl (by kernel_rfl) (by kernel_rfl) (by kernel_rfl) (fun _ _ _ h => h) (Or.inl ⟨by rfl, ?_⟩) (by first | assumption | rfl | trivial) ?_
          rotate_left 1
          · (intro w hSw; (try dsimp only at hSw); (try subst hSw); go_simp; try with_reducible rfl)
          simp only [Act.put, List.setIfInBounds_toArray, List.set_cons_zero, List.set_cons_succ]
          refine held_take (i := 12) (d := (some 71)) (v := ?_) rfl rfl (by kernel_rfl) (by kernel_rfl) (by kernel_rfl) (fun _ _ _ h => h) (Or.inl ⟨by rfl, ?_⟩) (by first | assumption | rfl | trivial) ?_
          rotate_left 1
          · (intro w hSw; (try dsimp only at hSw); (try subst hSw); go_simp; try with_reducible rfl)
          simp only [Act.put, List.setIfInBounds_toArray, List.set_cons_zero, List.set_cons_succ]
          refine held_take (i := 13) (d := (some 72)) (v := ?_) rfl rfl (by kernel_rfl) (by kernel_rfl) (by kernel_rfl) (fun _ _ _ h => h) (Or.inl ⟨by rfl, ?_⟩) (by first | assumption | rfl | trivial) ?_
          rotate_left 1
          · (intro w hSw; (try dsimp only at hSw); (try subst hSw); go_simp; try with_reducible rfl)
          simp only [Act.put, List.setIfInBounds_toArray, List.set_cons_zero, List.set_cons_succ]
          refine held_take (i := 14) (d := (some 73)) (v := ?_) rfl rfl (by kernel_rfl) (by kernel_rfl) (by kernel_rfl) (fun _ _ _ h => h) (Or.inl ⟨by rfl, ?_⟩) (by first | assumption | rfl | trivial) ?_
          rotate_left 1
          · (intro w hSw; (try dsimp only at hSw); (try subst hSw); go_simp; try with_reducible rfl)
          simp only [Act.put, List.setIfInBounds_toArray, List.set_cons_zero, List.set_cons_succ]
          refine held_take (i := 15) (d := (some 74)) (v := ?_) rfl rfl (by kernel_rfl) (by kernel_rfl) (by kernel_rfl) (fun _ _ _ h => h) (Or.inl ⟨by rfl, ?_⟩) (by first | assumption | rfl | trivial) ?_
          rotate_left 1
          · (intro w hSw; (try dsimp only at hSw); (try subst hSw); go_simp; try with_reducible rfl)
          simp only [Act.put, List.setIfInBounds_toArray, List.set_cons_zero, List.set_cons_succ]
          refine held_next (i := 6) (by kernel_rfl) rfl (by rfl) (fun K hK => ?_)
          go_simp
          have H2 := keepT ((Below.refl x1.heap.size x1).alloc (Nat.le_refl _) (.cells #[.string y.1, .string more] 40)) H1
          refine hK.out _ _ H2 ?_
          clear hK
          refine held_next (i := 8) (by kernel_rfl) rfl (by rfl) (fun K hK => ?_)
          go_simp
          with_reducible refine (CP2.out _ _ _ H2).mono ?_
          rintro e x2 ⟨rfl, b4⟩
          have H3 := keepT b4 H2
          clear H1 H2 b4 CP2
          go_wp2_with fail
          refine hK.out _ _ H3 ?_
          clear hK
          refine held_take (i := 9) (d := (some 68)) (v := ?_) rfl rfl (by kernel_rfl) (by kernel_rfl) (by kernel_rfl) (fun _ _ _ h => h) (Or.inl ⟨by rfl, ?_⟩) (by first | assumption | rfl | trivial) ?_
          rotate_left 1
          · (intro w hSw; (try dsimp only at hSw); (try subst hSw); go_simp; try with_reducible rfl)
          simp only [Act.put, List.setIfInBounds_toArray, List.set_cons_zero, List.set_cons_succ]
          refine held_take (i := 16) (d := (some 75)) (v := ?_) rfl rfl (by kernel_rfl) (by kernel_rfl) (by kernel_rfl) (fun _ _ _ h => h) (Or.inl ⟨by rfl, ?_⟩) (by first | assumption | rfl | trivial) ?_
          rotate_left 1
          · (intro w hSw; (try dsimp only at hSw); (try subst hSw); go_simp; try with_reducible rfl)
          simp only [Act.put, List.setIfInBounds_toArray, List.set_cons_zero, List.set_cons_succ]
          refine held_take (i := 17) (d := (some 76)) (v := ?_) rfl rfl (by kernel_rfl) (by kernel_rfl) (by kernel_rfl) (fun _ _ _ h => h) (Or.inl ⟨by rfl, ?_⟩) (by first | assumption | rfl | trivial) ?_
          rotate_left 1
          · (intro w hSw; (try dsimp only at hSw); (try subst hSw); go_simp; try with_reducible rfl)
          simp only [Act.put, List.setIfInBounds_toArray, List.set_cons_zero, List.set_cons_succ]
          refine held_take (i := 18) (d := (some 77)) (v := ?_) rfl rfl (by kernel_rfl) (by kernel_rfl) (by kernel_rfl) (fun _ _ _ h => h) (Or.inl ⟨by rfl, ?_⟩) (by first | assumption | rfl | trivial) ?_
          rotate_left 1
          · (intro w hSw; (try dsimp only at hSw); (try subst hSw); go_simp; try with_reducible rfl)
          simp only [Act.put, List.setIfInBounds_toArray, List.set_cons_zero, List.set_cons_succ]
          refine held_take (i := 19) (d := (some 78)) (v := ?_) rfl rfl (by kernel_rfl) (by kernel_rfl) (by kernel_rfl) (fun _ _ _ h => h) (Or.inl ⟨by rfl, ?_⟩) (by first | assumption | rfl | trivial) ?_
          rotate_left 1
          · (intro w hSw; (try dsimp only at hSw); (try subst hSw); go_simp; try with_reducible rfl)
          simp only [Act.put, List.setIfInBounds_toArray, List.set_cons_zero, List.set_cons_succ]
          refine held_take (i := 20) (d := (some 79)) (v := ?_) rfl rfl (by kernel_rfl) (by kernel_rfl) (by kernel_rfl) (fun _ _ _ h => h) (Or.inl ⟨by rfl, ?_⟩) (by first | assumption | rfl | trivial) ?_
          rotate_left 1
          · (intro w hSw; (try dsimp only at hSw); (try subst hSw); go_simp; try with_reducible rfl)
          simp only [Act.put, List.setIfInBounds_toArray, List.set_cons_zero, List.set_cons_succ]
          refine held_take (i := 21) (d := (some 80)) (v := ?_) rfl rfl (by kernel_rfl) (by kernel_rfl) (by kernel_rfl) (fun _ _ _ h => h) (Or.inl ⟨by rfl, ?_⟩) (by first | assumption | rfl | trivial) ?_
          rotate_left 1
          · (intro w hSw; (try dsimp only at hSw); (try subst hSw); go_simp; try with_reducible rfl)
          simp only [Act.put, List.setIfInBounds_toArray, List.set_cons_zero, List.set_cons_succ]
          refine held_take (i := 22) (d := (some 81)) (v := ?_) rfl rfl (by kernel_rfl) (by kernel_rfl) (by kernel_rfl) (fun _ _ _ h => h) (Or.inl ⟨by rfl, ?_⟩) (by first | assumption | rfl | trivial) ?_
          rotate_left 1
          · (intro w hSw; (try dsimp only at hSw); (try subst hSw); go_simp; try with_reducible rfl)
          simp only [Act.put, List.setIfInBounds_toArray, List.set_cons_zero, List.set_cons_succ]
          refine held_take (i := 23) (d := (some 82)) (v := ?_) rfl rfl (by kernel_rfl) (by kernel_rfl) (by kernel_rfl) (fun _ _ _ h => h) (Or.inl ⟨by rfl, ?_⟩) (by first | assumption | rfl | trivial) ?_
          rotate_left 1
          · (intro w hSw; (try dsimp only at hSw); (try subst hSw); go_simp; try with_reducible rfl)
          simp only [Act.put, List.setIfInBounds_toArray, List.set_cons_zero, List.set_cons_succ]
          refine held_take (i := 24) (d := (some 83)) (v := ?_) rfl rfl (by kernel_rfl) (by kernel_rfl) (by kernel_rfl) (fun _ _ _ h => h) (Or.inl ⟨by rfl, ?_⟩) (by first | assumption | rfl | trivial) ?_
          rotate_left 1
          · (intro w hSw; (try dsimp only at hSw); (try subst hSw); go_simp; try with_reducible rfl)
          simp only [Act.put, List.setIfInBounds_toArray, List.set_cons_zero, List.set_cons_succ]
          refine held_take (i := 25) (d := (some 84)) (v := ?_) rfl rfl (by kernel_rfl) (by kernel_rfl) (by kernel_rfl) (fun _ _ _ h => h) (Or.inl ⟨by rfl, ?_⟩) (by first | assumption | rfl | trivial) ?_
          rotate_left 1
          · (intro w hSw; (try dsimp only at hSw); (try subst hSw); go_simp; try with_reducible rfl)
          simp only [Act.put, List.setIfInBounds_toArray, List.set_cons_zero, List.set_cons_succ]
          refine held_take (i := 26) (d := (some 85)) (v := ?_) rfl rfl (by kernel_rfl) (by kernel_rfl) (by kernel_rfl) (fun _ _ _ h => h) (Or.inl ⟨by rfl, ?_⟩) (by first | assumption | rfl | trivial) ?_
          rotate_left 1
          · (intro w hSw; (try dsimp only at hSw); (try subst hSw); go_simp; try with_reducible rfl)
          simp only [Act.put, List.setIfInBounds_toArray, List.set_cons_zero, List.set_cons_succ]
          refine held_take (i := 27) (d := (some 86)) (v := ?_) rfl rfl (by kernel_rfl) (by kernel_rfl) (by kernel_rfl) (fun _ _ _ h => h) (Or.inl ⟨by rfl, ?_⟩) (by first | assumption | rfl | trivial) ?_
          rotate_left 1
          · (intro w hSw; (try dsimp only at hSw); (try subst hSw); go_simp; try with_reducible rfl)
          simp only [Act.put, List.setIfInBounds_toArray, List.set_cons_zero, List.set_cons_succ]
          refine held_take (i := 28) (d := (some 87)) (v := ?_) rfl rfl (by kernel_rfl) (by kernel_rfl) (by kernel_rfl) (fun _ _ _ h => h) (Or.inl ⟨by rfl, ?_⟩) (by first | assumption | rfl | trivial) ?_
          rotate_left 1
          · (intro w hSw; (try dsimp only at hSw); (try subst hSw); go_simp; try with_reducible rfl)
          simp only [Act.put, List.setIfInBounds_toArray, List.set_cons_zero, List.set_cons_succ]
          refine held_take (i := 29) (d := (some 88)) (v := ?_) rfl rfl (by kernel_rfl) (by kernel_rfl) (by kernel_rfl) (fun _ _ _ h => h) (Or.inl ⟨by rfl, ?_⟩) (by first | assumption | rfl | trivial) ?_
          rotate_left 1
          · (intro w hSw; (try dsimp only at hSw); (try subst hSw); go_simp; try with_reducible rfl)
          simp only [Act.put, List.setIfInBounds_toArray, List.set_cons_zero, List.set_cons_succ]
          refine held_take (i := 30) (d := (some 89)) (v := ?_) rfl rfl (by kernel_rfl) (by kernel_rfl) (by kernel_rfl) (fun _ _ _ h => h) (Or.inl ⟨by rfl, ?_⟩) (by first | assumption | rfl | trivial) ?_
          rotate_left 1
          · (intro w hSw; (try dsimp only at hSw); (try subst hSw); go_simp; try with_reducible rfl)
          simp only [Act.put, List.setIfInBounds_toArray, List.set_cons_zero, List.set_cons_succ]
          refine held_take (i := 31) (d := (some 90)) (v := ?_) rfl rfl (by kernel_rfl) (by kernel_rfl) (by kernel_rfl) (fun _ _ _ h => h) (Or.inl ⟨by rfl, ?_⟩) (by first | assumption | rfl | trivial) ?_
          rotate_left 1
          · (intro w hSw; (try dsimp only at hSw); (try subst hSw); go_simp; try with_reducible rfl)
          simp only [Act.put, List.setIfInBounds_toArray, List.set_cons_zero, List.set_cons_succ]
          refine held_next (i := 32) (by kernel_rfl) rfl (by rfl) (fun K hK => ?_)
          go_simp
          with_reducible refine (AW.out _).mono ?_
          rintro e x3 ⟨rfl, b4⟩
          have H4 := keepT b4 H3
          clear H3 b4 AW
          go_wp2_with fail
          refine hK.out _ _ H4 ?_
          clear hK
          refine held_take (i := 33) (d := (some 92)) (v := ?_) rfl rfl (by kernel_rfl) (by kernel_rfl) (by kernel_rfl) (fun _ _ _ h => h) (Or.inl ⟨by rfl, ?_⟩) (by first | assumption | rfl | trivial) ?_
          rotate_left 1
          · (intro w hSw; (try dsimp only at hSw); (try subst hSw); go_simp; try with_reducible rfl)
          simp only [Act.put, List.setIfInBounds_toArray, List.set_cons_zero, List.set_cons_succ]
          refine held_take (i := 34) (d := (some 6)) (v := ?_) rfl rfl (by kernel_rfl) (by kernel_rfl) (by kernel_rfl) (fun _ _ _ h => h) (Or.inl ⟨by rfl, ?_⟩) (by first | assumption | rfl | trivial) ?_
          rotate_left 1
          · (intro w hSw; (try dsimp only at hSw); (try subst hSw); go_simp; try with_reducible rfl)
          simp only [Act.put, List.setIfInBounds_toArray, List.set_cons_zero, List.set_cons_succ]
          refine wpAnyH_done (by kernel_rfl) ?_ _
          have F := hide H4.2.2.1.out
          clear H4
          go_wp2
          go_ret
          exact ⟨rfl, LW1.out.trans (F.out.2.mono (Nat.le_trans LW1.out.size (Nat.le_of_eq hB2.out)))⟩
      · have m2 := less_asymm hA
        have m1 : (more.toList == y.2.toList) = false := by
          rw [beq_eq_false_iff_ne]
          intro e
          rw [e, less_irrefl] at hA
          cases hA
        have t1 : cmpT more y.2 = 1 := by unfold cmpT; rw [if_neg (by rw [m2]; decide), if_pos hA]
        rw [t1, if_neg (by decide)] at CP2
        clear hA t1 hgb hB YL
        refine wp_region_held_drew (S := fun w' => w'.cell? ⟨b1, o1 + 1, none⟩ = some (.string y.2) ∧ (w'.cell? ⟨gb, 0, none⟩ = some (.string y.1) ∧ w'.cell? ⟨gb, 1, none⟩ = some (.string more)) ∧ Hid (B ≤ w'.heap.size ∧ Below B w1 w') ∧ True) (by kernel_rfl) ⟨S0.out.1, S0.out.2.1, S0.out.2.2, trivial⟩ (fun hHeld => ?_)
        refine held_take (i := 0) (d := (some 59)) (v := ?_) rfl rfl (by kernel_rfl) (by kernel_rfl) (by kernel_rfl) (fun _ _ _ h => h) (Or.inl ⟨by rfl, ?_⟩) (by first | assumption | rfl | trivial) ?_
        rotate_left 1
        · (intro w hSw; (try dsimp only at hSw); (try subst hSw); go_simp; try with_reducible rfl)
        simp only [Act.put, List.setIfInBounds_toArray, List.set_cons_zero, List.set_cons_succ]
        refine held_take (i := 1) (d := (some 60)) (v := ?_) rfl rfl (by kernel_rfl) (by kernel_rfl) (by kernel_rfl) (fun _ _ _ h => h) (Or.inl ⟨by rfl, ?_⟩) (by first | assumption | rfl | trivial) ?_
        rotate_left 1
        · (intro w hSw; (try dsimp only at hSw); (try subst hSw); go_simp; try with_reducible rfl)
        simp only [Act.put, List.setIfInBounds_toArray, List.set_cons_zero, List.set_cons_succ]
        refine held_next (i := 2) (by kernel_rfl) rfl (by rfl) (fun K hK => ?_)
        go_simp
        with_reducible refine (CP1.out _ _ hHeld).mono ?_
        rintro e x1 ⟨rfl, b4⟩
        have H1 := keepT b4 hHeld
        clear hHeld b4 CP1 S0
        go_wp2_with fail
        refine hK.out _ _ H1 ?_
        clear hK
        refine held_take (i := 3) (d := (some 62)) (v := ?_) rfl rfl (by kernel_rfl) (by kernel_rfl) (by kernel_rfl) (fun _ _ _ h => h) (Or.inl ⟨by rfl, ?_⟩) (by first | assumption | rfl | trivial) ?_
        rotate_left 1
        · (intro w hSw; (try dsimp only at hSw); (try subst hSw); go_simp; try with_reducible rfl)
        simp only [Act.put, List.setIfInBounds_toArray, List.set_cons_zero, List.set_cons_succ]
        refine held_take (i := 4) (d := (some 63)) (v := ?_) rfl rfl (by kernel_rfl) (by kernel_rfl) (by kernel_rfl) (fun _ _ _ h => h) (Or.inl ⟨by rfl, ?_⟩) (by first | assumption | rfl | trivial) ?_
        rotate_left 1
        · (intro w hSw; (try dsimp only at hSw); (try subst hSw); go_simp; try with_reducible rfl)
        simp only [Act.put, List.setIfInBounds_toArray, List.set_cons_zero, List.set_cons_succ]
        refine held_take (i := 5) (d := (some 64)) (v := ?_) rfl rfl (by kernel_rfl) (by kernel_rfl) (by kernel_rfl) (fun _ _ _ h => h) (Or.inl ⟨by rfl, ?_⟩) (by first | assumption | rfl | trivial) ?_
        rotate_left 1
        · (intro w hSw; (try dsimp only at hSw); (try subst hSw); go_simp; try with_reducible rfl)
        simp only [Act.put, List.setIfInBounds_toArray, List.set_cons_zero, List.set_cons_succ]
        refine held_take (i := 7) (d := (some 66)) (v := ?_) rfl rfl (by kernel_rfl) (by kernel_rfl) (by kernel_rfl) (fun _ _ _ h => h) (Or.inl ⟨by rfl, ?_⟩) (by first | assumption | rfl | trivial) ?_
        rotate_left 1
        · (intro w hSw; (try dsimp only at hSw); (try subst hSw); go_simp; try with_reducible rfl)
        simp only [Act.put, List.setIfInBounds_toArray, List.set_cons_zero, List.set_cons_succ]
        refine held_take (i := 10) (d := (some 69)) (v := ?_) rfl rfl (by kernel_rfl) (by kernel_rfl) (by kernel_rfl) (fun _ _ _ h => h) (Or.inl ⟨by rfl, ?_⟩) (by first | assumption | rfl | trivial) ?_
        rotate_left 1
        · (intro w hSw; (try dsimp only at hSw); (try subst hSw); go_simp; try with_reducible rfl)
        simp only [Act.put, List.setIfInBounds_toArray, List.set_cons_zero, List.set_cons_succ]
        refine held_take (i := 11) (d := (some 70)) (v := ?_) rfl rfl (by kernel_rfl) (by kernel_rfl) (by kernel_rfl) (fun _ _ _ h => h) (Or.inl ⟨by rfl, ?_⟩) (by first | assumption | rfl | trivial) ?_
        rotate_left 1
        · (intro w hSw; (try dsimp only at hSw); (try subst hSw); go_simp; try with_reducible rfl)
        simp only [Act.put, List.setIfInBounds_toArray, List.set_cons_zero, List.set_cons_succ]
        refine held_take (i := 12) (d := (some 71)) (v := ?_) rfl rfl (by kernel_rfl) (by kernel_rfl) (by kernel_rfl) (fun _ _ _ h => h) (Or.inl ⟨by rfl, ?_⟩) (by first | assumption | rfl | trivial) ?_
        rotate_left 1
        · (intro w hSw; (try dsimp only at hSw); (try subst hSw); go_simp; try with_reducible rfl)
        simp only [Act.put, List.setIfInBounds_toArray, List.set_cons_zero, List.set_cons_succ]
        refine held_take (i := 13) (d := (some 72)) (v := ?_) rfl rfl (by kernel_rfl) (by kernel_rfl) (by kernel_rfl) (fun _ _ _ h => h) (Or.inl ⟨by rfl, ?_⟩) (by first | assumption | rfl | trivial) ?_
        rotate_left 1
        · (intro w hSw; (try dsimp only at hSw); (try subst hSw); go_simp; try with_reducible rfl)
        simp only [Act.put, List.setIfInBounds_toArray, List.set_cons_zero, List.set_cons_succ]
        refine held_take (i := 14) (d := (some 73)) (v := ?_) rfl rfl (by kernel_rfl) (by kernel_rfl) (by kernel_rfl) (fun _ _ _ h => h) (Or.inl ⟨by rfl, ?_⟩) (by first | assumption | rfl | trivial) ?_
        rotate_left 1
        · (intro w hSw; (try dsimp only at hSw); (try subst hSw); go_simp; try with_reducible rfl)
        simp only [Act.put, List.setIfInBounds_toArray, List.set_cons_zero, List.set_cons_succ]
        refine held_take (i := 15) (d := (some 74)) (v := ?_) rfl rfl (by kernel_rfl) (by kernel_rfl) (by kernel_rfl) (fun _ _ _ h => h) (Or.inl ⟨by rfl, ?_⟩) (by first | assumption | rfl | trivial) ?_
        rotate_left 1
        · (intro w hSw; (try dsimp only at hSw); (try subst hSw); go_simp; try with_reducible rfl)
        simp only [Act.put, List.setIfInBounds_toArray, List.set_cons_zero, List.set_cons_succ]
        refine held_next (i := 6) (by kernel_rfl) rfl (by rfl) (fun K hK => ?_)
        go_simp
        have H2 := keepT ((Below.refl x1.heap.size x1).alloc (Nat.le_refl _) (.cells #[.string y.1, .string more] 40)) H1
        refine hK.out _ _ H2 ?_
        clear hK
        refine held_next (i := 8) (by kernel_rfl) rfl (by rfl) (fun K hK => ?_)
        go_simp
        with_reducible refine (CP2.out _ _ _ H2).mono ?_
        rintro e x2 ⟨rfl, b4⟩
        have H3 := keepT b4 H2
        clear H1 H2 b4 CP2
        go_wp2_with fail
        refine hK.out _ _ H3 ?_
        clear hK
        refine held_take (i := 9) (d := (some 68)) (v := ?_) rfl rfl (by kernel_rfl) (by kernel_rfl) (by kernel_rfl) (fun _ _ _ h => h) (Or.inl ⟨by rfl, ?_⟩) (by first | assumption | rfl | trivial) ?_
        rotate_left 1
        · (intro w hSw; (try dsimp only at hSw); (try subst hSw); go_simp; try with_reducible rfl)
        simp only [Act.put, List.setIfInBounds_toArray, List.set_cons_zero, List.set_cons_succ]
        refine held_take (i := 16) (d := (some 75)) (v := ?_) rfl rfl (by kernel_rfl) (by kernel_rfl) (by kernel_rfl) (fun _ _ _ h => h) (Or.inl ⟨by rfl, ?_⟩) (by first | assumption | rfl | trivial) ?_
        rotate_left 1
        · (intro w hSw; (try dsimp only at hSw); (try subst hSw); go_simp; try with_reducible rfl)
        simp only [Act.put, List.setIfInBounds_toArray, List.set_cons_zero, List.set_cons_succ]
        refine held_take (i := 17) (d := (some 76)) (v := ?_) rfl rfl (by kernel_rfl) (by kernel_rfl) (by kernel_rfl) (fun _ _ _ h => h) (Or.inl ⟨by rfl, ?_⟩) (by first | assumption | rfl | trivial) ?_
        rotate_left 1
        · (intro w hSw; (try dsimp only at hSw); (try subst hSw); go_simp; try with_reducible rfl)
        simp only [Act.put, List.setIfInBounds_toArray, List.set_cons_zero, List.set_cons_succ]
        refine held_take (i := 18) (d := (some 77)) (v := ?_) rfl rfl (by kernel_rfl) (by kernel_rfl) (by kernel_rfl) (fun _ _ _ h => h) (Or.inl ⟨by rfl, ?_⟩) (by first | assumption | rfl | trivial) ?_
        rotate_left 1
        · (intro w hSw; (try dsimp only at hSw); (try subst hSw); go_simp; try with_reducible rfl)
        simp only [Act.put, List.setIfInBounds_toArray, List.set_cons_zero, List.set_cons_succ]
        refine held_take (i := 19) (d := (some 78)) (v := ?_) rfl rfl (by kernel_rfl) (by kernel_rfl) (by kernel_rfl) (fun _ _ _ h => h) (Or.inl ⟨by rfl, ?_⟩) (by first | assumption | rfl | trivial) ?_
        rotate_left 1
        · (intro w hSw; (try dsimp only at hSw); (try subst hSw); go_simp; try with_reducible rfl)
        simp only [Act.put, List.setIfInBounds_toArray, List.set_cons_zero, List.set_cons_succ]
        refine held_take (i := 20) (d := (some 79)) (v := ?_) rfl rfl (by kernel_rfl) (by kernel_rfl) (by kernel_rfl) (fun _ _ _ h => h) (Or.inl ⟨by rfl, ?_⟩) (by first | assumption | rfl | trivial) ?_
        rotate_left 1
        · (intro w hSw; (try dsimp only at hSw); (try subst hSw); go_simp; try with_reducible rfl)
        simp only [Act.put, List.setIfInBounds_toArray, List.set_cons_zero, List.set_cons_succ]
        refine held_take (i := 21) (d := (some 80)) (v := ?_) rfl rfl (by kernel_rfl) (by kernel_rfl) (by kernel_rfl) (fun _ _ _ h => h) (Or.inl ⟨by rfl, ?_⟩) (by first | assumption | rfl | trivial) ?_
        rotate_left 1
        · (intro w hSw; (try dsimp only at hSw); (try subst hSw); go_simp; try with_reducible rfl)
        simp only [Act.put, List.setIfInBounds_toArray, List.set_cons_zero, List.set_cons_succ]
        refine held_take (i := 22) (d := (some 81)) (v := ?_) rfl rfl (by kernel_rfl) (by kernel_rfl) (by kernel_rfl) (fun _ _ _ h => h) (Or.inl ⟨by rfl, ?_⟩) (by first | assumption | rfl | trivial) ?_
        rotate_left 1
        · (intro w hSw; (try dsimp only at hSw); (try subst hSw); go_simp; try with_reducible rfl)
        simp only [Act.put, List.setIfInBounds_toArray, List.set_cons_zero, List.set_cons_succ]
        refine held_take (i := 23) (d := (some 82)) (v := ?_) rfl rfl (by kernel_rfl) (by kernel_rfl) (by kernel_rfl) (fun _ _ _ h => h) (Or.inl ⟨by rfl, ?_⟩) (by first | assumption | rfl | trivial) ?_
        rotate_left 1
        · (intro w hSw; (try dsimp only at hSw); (try subst hSw); go_simp; try with_reducible rfl)
        simp only [Act.put, List.setIfInBounds_toArray, List.set_cons_zero, List.set_cons_succ]
        refine held_take (i := 24) (d := (some 83)) (v := undef) rfl rfl (by kernel_rfl) (by kernel_rfl) (by kernel_rfl) (fun _ _ _ h => h) (Or.inr ⟨by rfl, rfl⟩) (by first | assumption | rfl | trivial) ?_
        simp only [Act.put, List.setIfInBounds_toArray, List.set_cons_zero, List.set_cons_succ]
        refine held_take (i := 25) (d := (some 84)) (v := undef) rfl rfl (by kernel_rfl) (by kernel_rfl) (by kernel_rfl) (fun _ _ _ h => h) (Or.inr ⟨by rfl, rfl⟩) (by first | assumption | rfl | trivial) ?_
        simp only [Act.put, List.setIfInBounds_toArray, List.set_cons_zero, List.set_cons_succ]
        refine held_take (i := 26) (d := (some 85)) (v := undef) rfl rfl (by kernel_rfl) (by kernel_rfl) (by kernel_rfl) (fun _ _ _ h => h) (Or.inr ⟨by rfl, rfl⟩) (by first | assumption | rfl | trivial) ?_
        simp only [Act.put, List.setIfInBounds_toArray, List.set_cons_zero, List.set_cons_succ]
        refine held_take (i := 27) (d := (some 86)) (v := ?_) rfl rfl (by kernel_rfl) (by kernel_rfl) (by kernel_rfl) (fun _ _ _ h => h) (Or.inl ⟨by rfl, ?_⟩) (by first | assumption | rfl | trivial) ?_
        rotate_left 1
        · (intro w hSw; (try dsimp only at hSw); (try subst hSw); go_simp; try with_reducible rfl)
        simp only [Act.put, List.setIfInBounds_toArray, List.set_cons_zero, List.set_cons_succ]
        refine held_take (i := 28) (d := (some 87)) (v := ?_) rfl rfl (by kernel_rfl) (by kernel_rfl) (by kernel_rfl) (fun _ _ _ h => h) (Or.inl ⟨by rfl, ?_⟩) (by first | assumption | rfl | trivial) ?_
        rotate_left 1
        · (intro w hSw; (try dsimp only at hSw); (try subst hSw); go_simp; try with_reducible rfl)
        simp only [Act.put, List.setIfInBounds_toArray, List.set_cons_zero, List.set_cons_succ]
        refine held_take (i := 29) (d := (some 88)) (v := ?_) rfl rfl (by kernel_rfl) (by kernel_rfl) (by kernel_rfl) (fun _ _ _ h => h) (Or.inl ⟨by rfl, ?_⟩) (by first | assumption | rfl | trivial) ?_
        rotate_left 1
        · (intro w hSw; (try dsimp only at hSw); (try subst hSw); go_simp; try with_reducible rfl)
        simp only [Act.put, List.setIfInBounds_toArray, List.set_cons_zero, List.set_cons_succ]
        refine held_take (i := 30) (d := (some 89)) (v := ?_) rfl rfl (by kernel_rfl) (by kernel_rfl) (by kernel_rfl) (fun _ _ _ h => h) (Or.inl ⟨by rfl, ?_⟩) (by first | assumption | rfl | trivial) ?_
        rotate_left 1
        · (intro w hSw; (try dsimp only at hSw); (try subst hSw); go_simp; try with_reducible rfl)
        simp only [Act.put, List.setIfInBounds_toArray, List.set_cons_zero, List.set_cons_succ]
        refine held_take (i := 31) (d := (some 90)) (v := ?_) rfl rfl (by kernel_rfl) (by kernel_rfl) (by kernel_rfl) (fun _ _ _ h => h) (Or.inl ⟨by rfl, ?_⟩) (by first | assumption | rfl | trivial) ?_
        rotate_left 1
        · (intro w hSw; (try dsimp only at hSw); (try subst hSw); go_simp; try with_reducible rfl)
        simp only [Act.put, List.setIfInBounds_toArray, List.set_cons_zero, List.set_cons_succ]
        refine held_next (i := 32) (by kernel_rfl) rfl (by rfl) (fun K hK => ?_)
        go_simp
        with_reducible refine (AW.out _).mono ?_
        rintro e x3 ⟨rfl, b4⟩
        have H4 := keepT b4 H3
        clear H3 b4 AW
        go_wp2_with fail
        refine hK.out _ _ H4 ?_
        clear hK
        refine held_take (i := 33) (d := (some 92)) (v := ?_) rfl rfl (by kernel_rfl) (by kernel_rfl) (by kernel_rfl) (fun _ _ _ h => h) (Or.inl ⟨by rfl, ?_⟩) (by first | assumption | rfl | trivial) ?_
        rotate_left 1
        · (intro w hSw; (try dsimp only at hSw); (try subst hSw); go_simp; try with_reducible rfl)
        simp only [Act.put, List.setIfInBounds_toArray, List.set_cons_zero, List.set_cons_succ]
        refine held_take (i := 34) (d := (some 6)) (v := ?_) rfl rfl (by kernel_rfl) (by kernel_rfl) (by kernel_rfl) (fun _ _ _ h => h) (Or.inl ⟨by rfl, ?_⟩) (by first | assumption | rfl | trivial) ?_
        rotate_left 1
        · (intro w hSw; (try dsimp only at hSw); (try subst hSw); go_simp; try with_reducible rfl)
        simp only [Act.put, List.setIfInBounds_toArray, List.set_cons_zero, List.set_cons_succ]
        refine wpAnyH_done (by kernel_rfl) ?_ _
        have F := hide H4.2.2.1.out
        clear H4
        go_wp2
        go_ret
        exact ⟨rfl, LW1.out.trans (F.out.2.mono (Nat.le_trans LW1.out.size (Nat.le_of_eq hB2.out)))⟩
    · rw [if_neg hkn] at CT
      have g1 : ((k : Int) == ((t + 1 : Nat) : Int)) = false := by rw [beq_eq_false_iff_ne]; omega
      have g2 : ((k : Int) == (t : Int) + 1) = false := by rw [beq_eq_false_iff_ne]; omega
      have g3 : ¬ (k : Int) = (t : Int) + 1 := by omega
      go_enter Try.func6, Try.ntmps6
      go_wp2_with fail
      with_reducible refine (RC.out _ HR.out).mono ?_
      rintro e v1 ⟨rfl, b2⟩
      have L1 := hide b2
      have Q1 := hide (HR.out.below b2 (Nat.le_refl _))
      clear b2
      go_wp2_with fail
      with_reducible refine (PK.out _).mono ?_
      rintro e w' ⟨rfl, hw⟩
      rw [hw]
      clear hw w'
      go_wp2_with fail
      with_reducible refine (LB.out _ Q1.out).mono ?_
      rintro e v2 ⟨d, c, rfl, o, b2⟩
      have L2 := hide (bel_too L1.out b2)
      have Q2 := hide (Q1.out.below b2 (Nat.le_refl _))
      have X2 := hide (o.row (by omega) TW.out)
      clear b2 o
      go_wp2_with fail
      with_reducible refine (CT.out _ _ _ X2.out Q2.out).mono ?_
      rintro e v3 ⟨rfl, b2⟩
      have L3 := hide (bel_too L2.out b2)
      have Q3 := hide (Q2.out.below b2 (Nat.le_refl _))
      clear b2 X2 L2 Q2 L1 Q1
      go_wp2_with fail
      with_reducible refine (LA.out _ Q3.out).mono ?_
      rintro e v4 ⟨d4, c4, rfl, o, b2⟩
      have L4 := hide (bel_too L3.out b2)
      have Q4 := hide (Q3.out.below b2 (Nat.le_refl _))
      have O4 := hide (o.mono L3.out.size)
      clear b2 o L3 Q3 RC PK LB LA CT f1
      obtain ⟨g, rfl⟩ : ∃ g, d4 = some ⟨g, 0, none⟩ := by
        have h := O4.out
        unfold OwnL at h
        rcases h.2 with ⟨_, h2⟩ | ⟨g, c, cur, h1, _⟩
        · omega
        · simp only [Value.slice.injEq, true_and] at h1
          exact ⟨g, h1.1⟩
      obtain ⟨o5, fr, hbg⟩ : OwnL (v4.setCell ⟨g, t * 2 + 1, none⟩ (.string (x.2 ++ ⟨#[97]⟩))) w.heap.size (some ⟨g, 0, none⟩) (t + 1) c4 (p ++ [(x.1, x.2 ++ ⟨#[97]⟩)]) ∧ v4.frozen? ⟨g, t * 2 + 1, none⟩ = false ∧ w.heap.size ≤ g := by
        have h := O4.out
        rw [hpx] at h
        have := h.last (x.2 ++ ⟨#[97]⟩)
        rw [hpl] at this
        exact this
      have cx : v4.cell? ⟨g, t * 2 + 1, none⟩ = some (.string x.2) := by
        obtain ⟨b2, o2, z, hbo, hz, _, hc2⟩ := (O4.out.row HN.out HF.out).at' (j := t) (by omega)
        simp only [Option.some.injEq, Addr.mk.injEq, and_true] at hbo
        obtain ⟨rfl, rfl⟩ := hbo
        have e : z = x := by
          rw [hpx, List.getElem?_append_right (by omega), hpl] at hz
          simpa using hz.symm
        rw [← e]
        have := (hc2 v4 (Below.refl _ _)).2
        rw [Nat.zero_add] at this
        exact this
      have MW : Hid (∀ z ∈ p ++ [(x.1, x.2 ++ (⟨#[97]⟩ : ByteArray))], LbW z) := fun z hz => by
        rcases List.mem_append.1 hz with h | h
        · exact HF.out z (by rw [hpx]; exact List.mem_append_left _ h)
        · simp only [List.mem_cons, List.not_mem_nil, or_false] at h
          rw [h]
          refine ⟨(HF.out x (by rw [hpx]; simp)).1, ?_⟩
          show (x.2 ++ (⟨#[97]⟩ : ByteArray)).size ≤ _
          rw [ByteArray.size_append]
          have : (⟨#[97]⟩ : ByteArray).size = 1 := rfl
          omega
      have O5 := hide o5
      have B5 : Hid (Below w.heap.size w (v4.setCell ⟨g, t * 2 + 1, none⟩ (.string (x.2 ++ ⟨#[97]⟩)))) := L4.out.setCell (p := ⟨g, t * 2 + 1, none⟩) hbg _
      have i0 : (0 : Int) ≤ (t : Int) := by omega
      have i1 : (t : Int) < (t : Int) + 1 := by omega
      have LS : Hid (Op.bytesLess x.2.toList (x.2 ++ (⟨#[97]⟩ : ByteArray)).toList = true) := by
        show _ = _
        have : (x.2 ++ (⟨#[97]⟩ : ByteArray)).toList = x.2.toList ++ [97] := by
          rw [ByteArray.toList_eq, ByteArray.toList_eq, ByteArray.data_append]
          simp
        rw [this]
        exact less_behind _ _
      clear o5 O4 L4 Q4
      go_upto_region 9 with fail
      obtain ⟨u2, hu2⟩ : ∃ u2, Hid (v4.setCell ⟨g, t * 2 + 1, none⟩ (.string (x.2 ++ ⟨#[97]⟩)) = u2) := ⟨_, rfl⟩
      rw [hu2.out] at O5 B5
      rw [hu2.out]
      have RL := hide (HR.out.below B5.out (Nat.le_refl _))
      have RM := hide (O5.out.row HN.out MW.out)
      clear hu2 fr cx O5 HR hbg
      obtain ⟨b1, o1, y', rfl, hy', hyw, hcy⟩ := RL.out.at' (j := 0) (by omega)
      obtain rfl : y = y' := by rw [hy] at hy'; simpa using hy'
      rw [Nat.zero_mul, Nat.add_zero] at hcy
      obtain ⟨f0, f1⟩ := hcy u2 (Below.refl _ _)
      obtain ⟨w1, hw1⟩ : ∃ w1, Hid (u2.alloc (.cells #[.string y.1, .string more] 40) = w1) := ⟨_, rfl⟩
      obtain ⟨gb, hgb⟩ : ∃ gb, Hid (u2.heap.size = gb) := ⟨_, rfl⟩
      have BW1 : Hid (Below u2.heap.size u2 w1) := by rw [← hw1.out]; exact (Below.refl _ _).alloc (Nat.le_refl _) _
      have RL1 := hide (RL.out.below BW1.out (Nat.le_refl _))
      have RM1 := hide (RM.out.below BW1.out (Nat.le_refl _))
      have LW1 : Hid (Below w.heap.size w w1) := bel_too B5.out BW1.out
      obtain ⟨B, hB⟩ : ∃ B, Hid (w1.heap.size = B) := ⟨_, rfl⟩
      have hB2 := hide hB.out
      have S0 : Hid (w1.drew.cell? ⟨b1, o1 + 1, none⟩ = some (.string y.2) ∧ (w1.drew.cell? ⟨gb, 0, none⟩ = some (.string y.1) ∧ w1.drew.cell? ⟨gb, 1, none⟩ = some (.string more)) ∧ Hid (B ≤ w1.drew.heap.size ∧ Below B w1 w1.drew)) := by
        refine ⟨(hcy w1 BW1.out).2, ⟨?_, ?_⟩, Nat.le_of_eq hB.out.symm, (Below.refl _ _).drew⟩
        · rw [← hw1.out, ← hgb.out]; simp [go_sem]
        · rw [← hw1.out, ← hgb.out]; simp [go_sem]
      have CP1 : Hid (∀ (W : World) (R : Prop), (W.cell? ⟨b1, o1 + 1, none⟩ = some (.string y.2) ∧ (W.cell? ⟨gb, 0, none⟩ = some (.string y.1) ∧ W.cell? ⟨gb, 1, none⟩ = some (.string more)) ∧ Hid (B ≤ W.heap.size ∧ Below B w1 W) ∧ R) → Calls Try.prog 21 #[.slice (some ⟨b1, o1, none⟩) (t + 1) cap, .slice (some ⟨g, 0, none⟩) (t + 1) c4] W fun e w' => e = .returned (.int .i64 (-1)) ∧ Below W.heap.size W w') := fun W R h => by
        have hb := h.2.2.1.out.2
        rw [← hB.out] at hb
        have := P.cmp _ _ cap _ _ _ c4 _ W (RL1.out.below hb (Nat.le_refl _)) (RM1.out.below hb (Nat.le_refl _))
        rw [show cmpL l (p ++ [(x.1, x.2 ++ (⟨#[97]⟩ : ByteArray))]) = -1 by rw [hpx]; exact cmpL_last p x.1 x.2 _ LS.out] at this
        exact this
      have CP2 : Hid (∀ (v : World) (ty : TypeId) (R : Prop), ((v.alloc (.cells #[.string y.1, .string more] ty)).cell? ⟨b1, o1 + 1, none⟩ = some (.string y.2) ∧ ((v.alloc (.cells #[.string y.1, .string more] ty)).cell? ⟨gb, 0, none⟩ = some (.string y.1) ∧ (v.alloc (.cells #[.string y.1, .string more] ty)).cell? ⟨gb, 1, none⟩ = some (.string more)) ∧ Hid (B ≤ (v.alloc (.cells #[.string y.1, .string more] ty)).heap.size ∧ Below B w1 (v.alloc (.cells #[.string y.1, .string more] ty))) ∧ R) → Calls Try.prog 21 #[.slice (some ⟨v.heap.size, 0, none⟩) 1 1, .slice (some ⟨b1, o1, none⟩) (t + 1) cap] (v.alloc (.cells #[.string y.1, .string more] ty)) fun e w' => e = .returned (.int .i64 (if cmpT more y.2 = 0 then (if ys = [] then 0 else -1) else cmpT more y.2)) ∧ Below (v.alloc (.cells #[.string y.1, .string more] ty)).heap.size (v.alloc (.cells #[.string y.1, .string more] ty)) w') := fun v ty R h => by
        have hb := h.2.2.1.out.2
        rw [← hB.out] at hb
        have := P.cmp _ _ 1 _ _ _ cap _ (v.alloc (.cells #[.string y.1, .string more] ty)) (one_rowL v ty (y.1, more) ⟨hyw.1, hs⟩) (RL1.out.below hb (Nat.le_refl _))
        rw [show cmpL [(y.1, more)] l = if cmpT more y.2 = 0 then (if ys = [] then 0 else -1) else cmpT more y.2 by rw [hy]; exact cmpL_one y.1 more y.2 ys] at this
        exact this
      have YL : Hid (ys.length = t) := by
        have := HL.out
        rw [hy] at this
        show _ = _
        simpa using this
      clear RL RM hcy hy' BW1 MW B5 hyw RL1 RM1 LS hpx hpl hy hxz cp P HF HL
      have e0 : (0 : Int) < (t : Int) + 1 := by omega
      go_upto_region 10 with fail
      rw [hw1.out, hgb.out]
      clear hw1 f0 f1
      rcases less_tri more.toList y.2.toList with hA | hA | hA
      · have t1 : cmpT more y.2 = -1 := by unfold cmpT; rw [if_pos hA]
        rw [t1, if_neg (by decide)] at CP2
        clear t1 hgb hB YL
        refine wp_region_held_drew (S := fun w' => w'.cell? ⟨b1, o1 + 1, none⟩ = some (.string y.2) ∧ (w'.cell? ⟨gb, 0, none⟩ = some (.string y.1) ∧ w'.cell? ⟨gb, 1, none⟩ = some (.string more)) ∧ Hid (B ≤ w'.heap.size ∧ Below B w1 w') ∧ True) (by kernel_rfl) ⟨S0.out.1, S0.out.2.1, S0.out.2.2, trivial⟩ (fun hHeld => ?_)
        refine held_take (i := 0) (d := (some 59)) (v := ?_) rfl rfl (by kernel_rfl) (by kernel_rfl) (by kernel_rfl) (fun _ _ _ h => h) (Or.inl ⟨by rfl, ?_⟩) (by first | assumption | rfl | trivial) ?_
        rotate_left 1
        · (intro w hSw; (try dsimp only at hSw); (try subst hSw); go_simp; try with_reducible rfl)
        simp only [Act.put, List.setIfInBounds_toArray, List.set_cons_zero, List.set_cons_succ]
        refine held_take (i := 1) (d := (some 60)) (v := ?_) rfl rfl (by kernel_rfl) (by kernel_rfl) (by kernel_rfl) (fun _ _ _ h => h) (Or.inl ⟨by rfl, ?_⟩) (by first | assumption | rfl | trivial) ?_
        rotate_left 1
        · (intro w hSw; (try dsimp only at hSw); (try subst hSw); go_simp; try with_reducible rfl)
        simp only [Act.put, List.setIfInBounds_toArray, List.set_cons_zero, List.set_cons_succ]
        refine held_next (i := 2) (by kernel_rfl) rfl (by rfl) (fun K hK => ?_)
        go_simp
        with_reducible refine (CP1.out _ _ hHeld).mono ?_
        rintro e x1 ⟨rfl, b4⟩
        have H1 := keepT b4 hHeld
        clear hHeld b4 CP1 S0
        go_wp2_with fail
        refine hK.out _ _ H1 ?_
        clear hK
        refine held_take (i := 3) (d := (some 62)) (v := ?_) rfl rfl (by kernel_rfl) (by kernel_rfl) (by kernel_rfl) (fun _ _ _ h => h) (Or.inl ⟨by rfl, ?_⟩) (by first | assumption | rfl | trivial) ?_
        rotate_left 1
        · (intro w hSw; (try dsimp only at hSw); (try subst hSw); go_simp; try with_reducible rfl)
        simp only [Act.put, List.setIfInBounds_toArray, List.set_cons_zero, List.set_cons_succ]
        refine held_take (i := 4) (d := (some 63)) (v := ?_) rfl rfl (by kernel_rfl) (by kernel_rfl) (by kernel_rfl) (fun _ _ _ h => h) (Or.inl ⟨by rfl, ?_⟩) (by first | assumption | rfl | trivial) ?_
        rotate_left 1
        · (intro w hSw; (try dsimp only at hSw); (try subst hSw); go_simp; try with_reducible rfl)
        simp only [Act.put, List.setIfInBounds_toArray, List.set_cons_zero, List.set_cons_succ]
        refine held_take (i := 5) (d := (some 64)) (v := ?_) rfl rfl (by kernel_rfl) (by kernel_rfl) (by kernel_rfl) (fun _ _ _ h => h) (Or.inl ⟨by rfl, ?_⟩) (by first | assumption | rfl | trivial) ?_
        rotate_left 1
        · (intro w hSw; (try dsimp only at hSw); (try subst hSw); go_simp; try with_reducible rfl)
        simp only [Act.put, List.setIfInBounds_toArray, List.set_cons_zero, List.set_cons_succ]
        refine held_take (i := 7) (d := (some 66)) (v := ?_) rfl rfl (by kernel_rfl) (by kernel_rfl) (by kernel_rfl) (fun _ _ _ h => h) (Or.inl ⟨by rfl, ?_⟩) (by first | assumption | rfl | trivial) ?_
        rotate_left 1
        · (intro w hSw; (try dsimp only at hSw); (try subst hSw); go_simp; try with_reducible rfl)
        simp only [Act.put, List.setIfInBounds_toArray, List.set_cons_zero, List.set_cons_succ]
        refine held_take (i := 10) (d := (some 69)) (v := ?_) rfl rfl (by kernel_rfl) (by kernel_rfl) (by kernel_rfl) (fun _ _ _ h => h) (Or.inl ⟨by rfl, ?_⟩) (by first | assumption | rfl | trivial) ?_
        rotate_left 1
        · (intro w hSw; (try dsimp only at hSw); (try subst hSw); go_simp; try with_reducible rfl)
        simp only [Act.put, List.setIfInBounds_toArray, List.set_cons_zero, List.set_cons_succ]
        refine held_take (i := 11) (d := (some 70)) (v := ?_) rfl rfl (by kernel_rfl) (by kernel_rfl) (by kernel_rfl) (fun _ _ _ h => h) (Or.inl ⟨by rfl, ?_⟩) (by first | assumption | rfl | trivial) ?_
        rotate_left 1
        · (intro w hSw; (try dsimp only at hSw); (try subst hSw); go_simp; try with_reducible rfl)
        simp only [Act.put, List.setIfInBounds_toArray, List.set_cons_zero, List.set_cons_succ]
        refine held_take (i := 12) (d := (some 71)) (v := ?_) rfl rfl (by kernel_rfl) (by kernel_rfl) (by kernel_rfl) (fun _ _ _ h => h) (Or.inl ⟨by rfl, ?_⟩) (by first | assumption | rfl | trivial) ?_
        rotate_left 1
        · (intro w hSw; (try dsimp only at hSw); (try subst hSw); go_simp; try with_reducible rfl)
        simp only [Act.put, List.setIfInBounds_toArray, List.set_cons_zero, List.set_cons_succ]
        refine held_take (i := 13) (d := (some 72)) (v := ?_) rfl rfl (by kernel_rfl) (by kernel_rfl) (by kernel_rfl) (fun _ _ _ h => h) (Or.inl ⟨by rfl, ?_⟩) (by first | assumption | rfl | trivial) ?_
        rotate_left 1
        · (intro w hSw; (try dsimp only at hSw); (try subst hSw); go_simp; try with_reducible rfl)
        simp only [Act.put, List.setIfInBounds_toArray, List.set_cons_zero, List.set_cons_succ]
        refine held_take (i := 14) (d := (some 73)) (v := ?_) rfl rfl (by kernel_rfl) (by kernel_rfl) (by kernel_rfl) (fun _ _ _ h => h) (Or.inl ⟨by rfl, ?_⟩) (by first | assumption | rfl | trivial) ?_
        rotate_left 1
        · (intro w hSw; (try dsimp only at hSw); (try subst hSw); go_simp; try with_reducible rfl)
        simp only [Act.put, List.setIfInBounds_toArray, List.set_cons_zero, List.set_cons_succ]
        refine held_take (i := 15) (d := (some 74)) (v := ?_) rfl rfl (by kernel_rfl) (by kernel_rfl) (by kernel_rfl) (fun _ _ _ h => h) (Or.inl ⟨by rfl, ?_⟩) (by first | assumption | rfl | trivial) ?_
        rotate_left 1
        · (intro w hSw; (try dsimp only at hSw); (try subst hSw); go_simp; try with_reducible rfl)
        simp only [Act.put, List.setIfInBounds_toArray, List.set_cons_zero, List.set_cons_succ]
        refine held_next (i := 6) (by kernel_rfl) rfl (by rfl) (fun K hK => ?_)
        go_simp
        have H2 := keepT ((Below.refl x1.heap.size x1).alloc (Nat.le_refl _) (.cells #[.string y.1, .string more] 40)) H1
        refine hK.out _ _ H2 ?_
        clear hK
        refine held_next (i := 8) (by kernel_rfl) rfl (by rfl) (fun K hK => ?_)
        go_simp
        with_reducible refine (CP2.out _ _ _ H2).mono ?_
        rintro e x2 ⟨rfl, b4⟩
        have H3 := keepT b4 H2
        clear H1 H2 b4 CP2
        go_wp2_with fail
        refine hK.out _ _ H3 ?_
        clear hK
        refine held_take (i := 9) (d := (some 68)) (v := ?_) rfl rfl (by kernel_rfl) (by kernel_rfl) (by kernel_rfl) (fun _ _ _ h => h) (Or.inl ⟨by rfl, ?_⟩) (by first | assumption | rfl | trivial) ?_
        rotate_left 1
        · (intro w hSw; (try dsimp only at hSw); (try subst hSw); go_simp; try with_reducible rfl)
        simp only [Act.put, List.setIfInBounds_toArray, List.set_cons_zero, List.set_cons_succ]
        refine held_take (i := 16) (d := (some 75)) (v := ?_) rfl rfl (by kernel_rfl) (by kernel_rfl) (by kernel_rfl) (fun _ _ _ h => h) (Or.inl ⟨by rfl, ?_⟩) (by first | assumption | rfl | trivial) ?_
        rotate_left 1
        · (intro w hSw; (try dsimp only at hSw); (try subst hSw); go_simp; try with_reducible rfl)
        simp only [Act.put, List.setIfInBounds_toArray, List.set_cons_zero, List.set_cons_succ]
        refine held_take (i := 17) (d := (some 76)) (v := undef) rfl rfl (by kernel_rfl) (by kernel_rfl) (by kernel_rfl) (fun _ _ _ h => h) (Or.inr ⟨by rfl, rfl⟩) (by first | assumption | rfl | trivial) ?_
        simp only [Act.put, List.setIfInBounds_toArray, List.set_cons_zero, List.set_cons_succ]
        refine held_take (i := 18) (d := (some 77)) (v := undef) rfl rfl (by kernel_rfl) (by kernel_rfl) (by kernel_rfl) (fun _ _ _ h => h) (Or.inr ⟨by rfl, rfl⟩) (by first | assumption | rfl | trivial) ?_
        simp only [Act.put, List.setIfInBounds_toArray, List.set_cons_zero, List.set_cons_succ]
        refine held_take (i := 19) (d := (some 78)) (v := undef) rfl rfl (by kernel_rfl) (by kernel_rfl) (by kernel_rfl) (fun _ _ _ h => h) (Or.inr ⟨by rfl, rfl⟩) (by first | assumption | rfl | trivial) ?_
        simp only [Act.put, List.setIfInBounds_toArray, List.set_cons_zero, List.set_cons_succ]
        refine held_take (i := 20) (d := (some 79)) (v := undef) rfl rfl (by kernel_rfl) (by kernel_rfl) (by kernel_rfl) (fun _ _ _ h => h) (Or.inr ⟨by rfl, rfl⟩) (by first | assumption | rfl | trivial) ?_
        simp only [Act.put, List.setIfInBounds_toArray, List.set_cons_zero, List.set_cons_succ]
        refine held_take (i := 21) (d := (some 80)) (v := undef) rfl rfl (by kernel_rfl) (by kernel_rfl) (by kernel_rfl) (fun _ _ _ h => h) (Or.inr ⟨by rfl, rfl⟩) (by first | assumption | rfl | trivial) ?_
        simp only [Act.put, List.setIfInBounds_toArray, List.set_cons_zero, List.set_cons_succ]
        refine held_take (i := 22) (d := (some 81)) (v := undef) rfl rfl (by kernel_rfl) (by kernel_rfl) (by kernel_rfl) (fun _ _ _ h => h) (Or.inr ⟨by rfl, rfl⟩) (by first | assumption | rfl | trivial) ?_
        simp only [Act.put, List.setIfInBounds_toArray, List.set_cons_zero, List.set_cons_succ]
        refine held_take (i := 23) (d := (some 82)) (v := undef) rfl rfl (by kernel_rfl) (by kernel_rfl) (by kernel_rfl) (fun _ _ _ h => h) (Or.inr ⟨by rfl, rfl⟩) (by first | assumption | rfl | trivial) ?_
        simp only [Act.put, List.setIfInBounds_toArray, List.set_cons_zero, List.set_cons_succ]
        refine held_take (i := 24) (d := (some 83)) (v := undef) rfl rfl (by kernel_rfl) (by kernel_rfl) (by kernel_rfl) (fun _ _ _ h => h) (Or.inr ⟨by rfl, rfl⟩) (by first | assumption | rfl | trivial) ?_
        simp only [Act.put, List.setIfInBounds_toArray, List.set_cons_zero, List.set_cons_succ]
        refine held_take (i := 25) (d := (some 84)) (v := undef) rfl rfl (by kernel_rfl) (by kernel_rfl) (by kernel_rfl) (fun _ _ _ h => h) (Or.inr ⟨by rfl, rfl⟩) (by first | assumption | rfl | trivial) ?_
        simp only [Act.put, List.setIfInBounds_toArray, List.set_cons_zero, List.set_cons_succ]
        refine held_take (i := 26) (d := (some 85)) (v := undef) rfl rfl (by kernel_rfl) (by kernel_rfl) (by kernel_rfl) (fun _ _ _ h => h) (Or.inr ⟨by rfl, rfl⟩) (by first | assumption | rfl | trivial) ?_
        simp only [Act.put, List.setIfInBounds_toArray, List.set_cons_zero, List.set_cons_succ]
        refine held_take (i := 27) (d := (some 86)) (v := undef) rfl rfl (by kernel_rfl) (by kernel_rfl) (by kernel_rfl) (fun _ _ _ h => h) (Or.inr ⟨by rfl, rfl⟩) (by first | assumption | rfl | trivial) ?_
        simp only [Act.put, List.setIfInBounds_toArray, List.set_cons_zero, List.set_cons_succ]
        refine held_take (i := 28) (d := (some 87)) (v := ?_) rfl rfl (by kernel_rfl) (by kernel_rfl) (by kernel_rfl) (fun _ _ _ h => h) (Or.inl ⟨by rfl, ?_⟩) (by first | assumption | rfl | trivial) ?_
        rotate_left 1
        · (intro w hSw; (try dsimp only at hSw); (try subst hSw); go_simp; try with_reducible rfl)
        simp only [Act.put, List.setIfInBounds_toArray, List.set_cons_zero, List.set_cons_succ]
        refine held_take (i := 29) (d := (some 88)) (v := ?_) rfl rfl (by kernel_rfl) (by kernel_rfl) (by kernel_rfl) (fun _ _ _ h => h) (Or.inl ⟨by rfl, ?_⟩) (by first | assumption | rfl | trivial) ?_
        rotate_left 1
        · (intro w hSw; (try dsimp only at hSw); (try subst hSw); go_simp; try with_reducible rfl)
        simp only [Act.put, List.setIfInBounds_toArray, List.set_cons_zero, List.set_cons_succ]
        refine held_take (i := 30) (d := (some 89)) (v := ?_) rfl rfl (by kernel_rfl) (by kernel_rfl) (by kernel_rfl) (fun _ _ _ h => h) (Or.inl ⟨by rfl, ?_⟩) (by first | assumption | rfl | trivial) ?_
        rotate_left 1
        · (intro w hSw; (try dsimp only at hSw); (try subst hSw); go_simp; try with_reducible rfl)
        simp only [Act.put, List.setIfInBounds_toArray, List.set_cons_zero, List.set_cons_succ]
        refine held_take (i := 31) (d := (some 90)) (v := ?_) rfl rfl (by kernel_rfl) (by kernel_rfl) (by kernel_rfl) (fun _ _ _ h => h) (Or.inl ⟨by rfl, ?_⟩) (by first | assumption | rfl | trivial) ?_
        rotate_left 1
        · (intro w hSw; (try dsimp only at hSw); (try subst hSw); go_simp; try with_reducible rfl)
        simp only [Act.put, List.setIfInBounds_toArray, List.set_cons_zero, List.set_cons_succ]
        refine held_next (i := 32) (by kernel_rfl) rfl (by rfl) (fun K hK => ?_)
        go_simp
        with_reducible refine (AW.out _).mono ?_
        rintro e x3 ⟨rfl, b4⟩
        have H4 := keepT b4 H3
        clear H3 b4 AW
        go_wp2_with fail
        refine hK.out _ _ H4 ?_
        clear hK
        refine held_take (i := 33) (d := (some 92)) (v := ?_) rfl rfl (by kernel_rfl) (by kernel_rfl) (by kernel_rfl) (fun _ _ _ h => h) (Or.inl ⟨by rfl, ?_⟩) (by first | assumption | rfl | trivial) ?_
        rotate_left 1
        · (intro w hSw; (try dsimp only at hSw); (try subst hSw); go_simp; try with_reducible rfl)
        simp only [Act.put, List.setIfInBounds_toArray, List.set_cons_zero, List.set_cons_succ]
        refine held_take (i := 34) (d := (some 6)) (v := ?_) rfl rfl (by kernel_rfl) (by kernel_rfl) (by kernel_rfl) (fun _ _ _ h => h) (Or.inl ⟨by rfl, ?_⟩) (by first | assumption | rfl | trivial) ?_
        rotate_left 1
        · (intro w hSw; (try dsimp only at hSw); (try subst hSw); go_simp; try with_reducible rfl)
        simp only [Act.put, List.setIfInBounds_toArray, List.set_cons_zero, List.set_cons_succ]
        refine wpAnyH_done (by kernel_rfl) ?_ _
        have F := hide H4.2.2.1.out
        clear H4
        go_wp2
        go_ret
        exact ⟨rfl, LW1.out.trans (F.out.2.mono (Nat.le_trans LW1.out.size (Nat.le_of_eq hB2.out)))⟩
      · have m1 : (more.toList == y.2.toList) = true := by rw [hA]; simp
        have m2 : Op.bytesLess more.toList y.2.toList = false := by rw [hA]; exact less_irrefl _
        have t1 : cmpT more y.2 = 0 := by rw [ba_ext hA]; exact cmpT_is.self _
        rw [t1, if_pos rfl] at CP2
        clear hA t1
        by_cases hy0 : ys = []
        · rw [if_pos hy0] at CP2
          have t0 : ¬ (1 : Int) < (t : Int) + 1 := by have := YL.out; rw [hy0] at this; simp at this; omega
          have t0' : decide ((1 : Int) < (t : Int) + 1) = false := decide_eq_false t0
          clear hy0 hgb hB YL
          refine wp_region_held_drew (S := fun w' => w'.cell? ⟨b1, o1 + 1, none⟩ = some (.string y.2) ∧ (w'.cell? ⟨gb, 0, none⟩ = some (.string y.1) ∧ w'.cell? ⟨gb, 1, none⟩ = some (.string more)) ∧ Hid (B ≤ w'.heap.size ∧ Below B w1 w') ∧ True) (by kernel_rfl) ⟨S0.out.1, S0.out.2.1, S0.out.2.2, trivial⟩ (fun hHeld => ?_)
          refine held_take (i := 0) (d := (some 59)) (v := ?_) rfl rfl (by kernel_rfl) (by kernel_rfl) (by kernel_rfl) (fun _ _ _ h => h) (Or.inl ⟨by rfl, ?_⟩) (by first | assumption | rfl | trivial) ?_
          rotate_left 1
          · (intro w hSw; (try dsimp only at hSw); (try subst hSw); go_simp; try with_reducible rfl)
          simp only [Act.put, List.setIfInBounds_toArray, List.set_cons_zero, List.set_cons_succ]
          refine held_take (i := 1) (d := (some 60)) (v := ?_) rfl rfl (by kernel_rfl) (by kernel_rfl) (by kernel_rfl) (fun _ _ _ h => h) (Or.inl ⟨by rfl, ?_⟩) (by first | assumption | rfl | trivial) ?_
          rotate_left 1
          · (intro w hSw; (try dsimp only at hSw); (try subst hSw); go_simp; try with_reducible rfl)
          simp only [Act.put, List.setIfInBounds_toArray, List.set_cons_zero, List.set_cons_succ]
          refine held_next (i := 2) (by kernel_rfl) rfl (by rfl) (fun K hK => ?_)
          go_simp
          with_reducible refine (CP1.out _ _ hHeld).mono ?_
          rintro e x1 ⟨rfl, b4⟩
          have H1 := keepT b4 hHeld
          clear hHeld b4 CP1 S0
          go_wp2_with fail
          refine hK.out _ _ H1 ?_
          clear hK
          refine held_take (i := 3) (d := (some 62)) (v := ?_) rfl rfl (by kernel_rfl) (by kernel_rfl) (by kernel_rfl) (fun _ _ _ h => h) (Or.inl ⟨by rfl, ?_⟩) (by first | assumption | rfl | trivial) ?_
          rotate_left 1
          · (intro w hSw; (try dsimp only at hSw); (try subst hSw); go_simp; try with_reducible rfl)
          simp only [Act.put, List.setIfInBounds_toArray, List.set_cons_zero, List.set_cons_succ]
          refine held_take (i := 4) (d := (some 63)) (v := ?_) rfl rfl (by kernel_rfl) (by kernel_rfl) (by kernel_rfl) (fun _ _ _ h => h) (Or.inl ⟨by rfl, ?_⟩) (by first | assumption | rfl | trivial) ?_
          rotate_left 1
          · (intro w hSw; (try dsimp only at hSw); (try subst hSw); go_simp; try with_reducible rfl)
          simp only [Act.put, List.setIfInBounds_toArray, List.set_cons_zero, List.set_cons_succ]
          refine held_take (i := 5) (d := (some 64)) (v := ?_) rfl rfl (by kernel_rfl) (by kernel_rfl) (by kernel_rfl) (fun _ _ _ h => h) (Or.inl ⟨by rfl, ?_⟩) (by first | assumption | rfl | trivial) ?_
          rotate_left 1
          · (intro w hSw; (try dsimp only at hSw); (try subst hSw); go_simp; try with_reducible rfl)
          simp only [Act.put, List.setIfInBounds_toArray, List.set_cons_zero, List.set_cons_succ]
          refine held_take (i := 7) (d := (some 66)) (v := ?_) rfl rfl (by kernel_rfl) (by kernel_rfl) (by kernel_rfl) (fun _ _ _ h => h) (Or.inl ⟨by rfl, ?_⟩) (by first | assumption | rfl | trivial) ?_
          rotate_left 1
          · (intro w hSw; (try dsimp only at hSw); (try subst hSw); go_simp; try with_reducible rfl)
          simp only [Act.put, List.setIfInBounds_toArray, List.set_cons_zero, List.set_cons_succ]
          refine held_take (i := 10) (d := (some 69)) (v := ?_) rfl rfl (by kernel_rfl) (by kernel_rfl) (by kernel_rfl) (fun _ _ _ h => h) (Or.inl ⟨by rfl, ?_⟩) (by first | assumption | rfl | trivial) ?_
          rotate_left 1
          · (intro w hSw; (try dsimp only at hSw); (try subst hSw); go_simp; try with_reducible rfl)
          simp only [Act.put, List.setIfInBounds_toArray, List.set_cons_zero, List.set_cons_succ]
          refine held_take (i := 11) (d := (some 70)) (v := ?_) rfl rfl (by kernel_rfl) (by kernel_rfl) (by kernel_rfl) (fun _ _ _ h => h) (Or.inl ⟨by rfl, ?_⟩) (by first | assumption | rfl | trivial) ?_
          rotate_left 1
          · (intro w hSw; (try dsimp only at hSw); (try subst hSw); go_simp; try with_reducible rfl)
          simp only [Act.put, List.setIfInBounds_toArray, List.set_cons_zero, List.set_cons_succ]
          refine held_take (i := 12) (d := (some 71)) (v := ?_) rfl rfl (by kernel_rfl) (by kernel_rfl) (by kernel_rfl) (fun _ _ _ h => h) (Or.inl ⟨by rfl, ?_⟩) (by first | assumption | rfl | trivial) ?_
          rotate_left 1
          · (intro w hSw; (try dsimp only at hSw); (try subst hSw); go_simp; try with_reducible rfl)
          simp only [Act.put, List.setIfInBounds_toArray, List.set_cons_zero, List.set_cons_succ]
          refine held_take (i := 13) (d := (some 72)) (v := ?_) rfl rfl (by kernel_rfl) (by kernel_rfl) (by kernel_rfl) (fun _ _ _ h => h) (Or.inl ⟨by rfl, ?_⟩) (by first | assumption | rfl | trivial) ?_
          rotate_left 1
          · (intro w hSw; (try dsimp only at hSw); (try subst hSw); go_simp; try with_reducible rfl)
          simp only [Act.put, List.setIfInBounds_toArray, List.set_cons_zero, List.set_cons_succ]
          refine held_take (i := 14) (d := (some 73)) (v := ?_) rfl rfl (by kernel_rfl) (by kernel_rfl) (by kernel_rfl) (fun _ _ _ h => h) (Or.inl ⟨by rfl, ?_⟩) (by first | assumption | rfl | trivial) ?_
          rotate_left 1
          · (intro w hSw; (try dsimp only at hSw); (try subst hSw); go_simp; try with_reducible rfl)
          simp only [Act.put, List.setIfInBounds_toArray, List.set_cons_zero, List.set_cons_succ]
          refine held_take (i := 15) (d := (some 74)) (v := ?_) rfl rfl (by kernel_rfl) (by kernel_rfl) (by kernel_rfl) (fun _ _ _ h => h) (Or.inl ⟨by rfl, ?_⟩) (by first | assumption | rfl | trivial) ?_
          rotate_left 1
          · (intro w hSw; (try dsimp only at hSw); (try subst hSw); go_simp; try with_reducible rfl)
          simp only [Act.put, List.setIfInBounds_toArray, List.set_cons_zero, List.set_cons_succ]
          refine held_next (i := 6) (by kernel_rfl) rfl (by rfl) (fun K hK => ?_)
          go_simp
          have H2 := keepT ((Below.refl x1.heap.size x1).alloc (Nat.le_refl _) (.cells #[.string y.1, .string more] 40)) H1
          refine hK.out _ _ H2 ?_
          clear hK
          refine held_next (i := 8) (by kernel_rfl) rfl (by rfl) (fun K hK => ?_)
          go_simp
          with_reducible refine (CP2.out _ _ _ H2).mono ?_
          rintro e x2 ⟨rfl, b4⟩
          have H3 := keepT b4 H2
          clear H1 H2 b4 CP2
          go_wp2_with fail
          refine hK.out _ _ H3 ?_
          clear hK
          refine held_take (i := 9) (d := (some 68)) (v := ?_) rfl rfl (by kernel_rfl) (by kernel_rfl) (by kernel_rfl) (fun _ _ _ h => h) (Or.inl ⟨by rfl, ?_⟩) (by first | assumption | rfl | trivial) ?_
          rotate_left 1
          · (intro w hSw; (try dsimp only at hSw); (try subst hSw); go_simp; try with_reducible rfl)
          simp only [Act.put, List.setIfInBounds_toArray, List.set_cons_zero, List.set_cons_succ]
          refine held_take (i := 16) (d := (some 75)) (v := ?_) rfl rfl (by kernel_rfl) (by kernel_rfl) (by kernel_rfl) (fun _ _ _ h => h) (Or.inl ⟨by rfl, ?_⟩) (by first | assumption | rfl | trivial) ?_
          rotate_left 1
          · (intro w hSw; (try dsimp only at hSw); (try subst hSw); go_simp; try with_reducible rfl)
          simp only [Act.put, List.setIfInBounds_toArray, List.set_cons_zero, List.set_cons_succ]
          refine held_take (i := 17) (d := (some 76)) (v := ?_) rfl rfl (by kernel_rfl) (by kernel_rfl) (by kernel_rfl) (fun _ _ _ h => h) (Or.inl ⟨by rfl, ?_⟩) (by first | assumption | rfl | trivial) ?_
          rotate_left 1
          · (intro w hSw; (try dsimp only at hSw); (try subst hSw); go_simp; try with_reducible rfl)
          simp only [Act.put, List.setIfInBounds_toArray, List.set_cons_zero, List.set_cons_succ]
          refine held_take (i := 18) (d := (some 77)) (v := ?_) rfl rfl (by kernel_rfl) (by kernel_rfl) (by kernel_rfl) (fun _ _ _ h => h) (Or.inl ⟨by rfl, ?_⟩) (by first | assumption | rfl | trivial) ?_
          rotate_left 1
          · (intro w hSw; (try dsimp only at hSw); (try subst hSw); go_simp; try with_reducible rfl)
          simp only [Act.put, List.setIfInBounds_toArray, List.set_cons_zero, List.set_cons_succ]
          refine held_take (i := 19) (d := (some 78)) (v := ?_) rfl rfl (by kernel_rfl) (by kernel_rfl) (by kernel_rfl) (fun _ _ _ h => h) (Or.inl ⟨by rfl, ?_⟩) (by first | assumption | rfl | trivial) ?_
          rotate_left 1
          · (intro w hSw; (try dsimp only at hSw); (try subst hSw); go_simp; try with_reducible rfl)
          simp only [Act.put, List.setIfInBounds_toArray, List.set_cons_zero, List.set_cons_succ]
          refine held_take (i := 20) (d := (some 79)) (v := ?_) rfl rfl (by kernel_rfl) (by kernel_rfl) (by kernel_rfl) (fun _ _ _ h => h) (Or.inl ⟨by rfl, ?_⟩) (by first | assumption | rfl | trivial) ?_
          rotate_left 1
          · (intro w hSw; (try dsimp only at hSw); (try subst hSw); go_simp; try with_reducible rfl)
          simp only [Act.put, List.setIfInBounds_toArray, List.set_cons_zero, List.set_cons_succ]
          refine held_take (i := 21) (d := (some 80)) (v := ?_) rfl rfl (by kernel_rfl) (by kernel_rfl) (by kernel_rfl) (fun _ _ _ h => h) (Or.inl ⟨by rfl, ?_⟩) (by first | assumption | rfl | trivial) ?_
          rotate_left 1
          · (intro w hSw; (try dsimp only at hSw); (try subst hSw); go_simp; try with_reducible rfl)
          simp only [Act.put, List.setIfInBounds_toArray, List.set_cons_zero, List.set_cons_succ]
          refine held_take (i := 22) (d := (some 81)) (v := ?_) rfl rfl (by kernel_rfl) (by kernel_rfl) (by kernel_rfl) (fun _ _ _ h => h) (Or.inl ⟨by rfl, ?_⟩) (by first | assumption | rfl | trivial) ?_
          rotate_left 1
          · (intro w hSw; (try dsimp only at hSw); (try subst hSw); go_simp; try with_reducible rfl)
          simp only [Act.put, List.setIfInBounds_toArray, List.set_cons_zero, List.set_cons_succ]
          refine held_take (i := 23) (d := (some 82)) (v := ?_) rfl rfl (by kernel_rfl) (by kernel_rfl) (by kernel_rfl) (fun _ _ _ h => h) (Or.inl ⟨by rfl, ?_⟩) (by first | assumption | rfl | trivial) ?_
          rotate_left 1
          · (intro w hSw; (try dsimp only at hSw); (try subst hSw); go_simp; try with_reducible rfl)
          simp only [Act.put, List.setIfInBounds_toArray, List.set_cons_zero, List.set_cons_succ]
          refine held_take (i := 24) (d := (some 83)) (v := ?_) rfl rfl (by kernel_rfl) (by kernel_rfl) (by kernel_rfl) (fun _ _ _ h => h) (Or.inl ⟨by rfl, ?_⟩) (by first | assumption | rfl | trivial) ?_
          rotate_left 1
          · (intro w hSw; (try dsimp only at hSw); (try subst hSw); go_simp; try with_reducible rfl)
          simp only [Act.put, List.setIfInBounds_toArray, List.set_cons_zero, List.set_cons_succ]
          refine held_take (i := 25) (d := (some 84)) (v := ?_) rfl rfl (by kernel_rfl) (by kernel_rfl) (by kernel_rfl) (fun _ _ _ h => h) (Or.inl ⟨by rfl, ?_⟩) (by first | assumption | rfl | trivial) ?_
          rotate_left 1
          · (intro w hSw; (try dsimp only at hSw); (try subst hSw); go_simp; try with_reducible rfl)
          simp only [Act.put, List.setIfInBounds_toArray, List.set_cons_zero, List.set_cons_succ]
          refine held_take (i := 26) (d := (some 85)) (v := ?_) rfl rfl (by kernel_rfl) (by kernel_rfl) (by kernel_rfl) (fun _ _ _ h => h) (Or.inl ⟨by rfl, ?_⟩) (by first | assumption | rfl | trivial) ?_
          rotate_left 1
          · (intro w hSw; (try dsimp only at hSw); (try subst hSw); go_simp; try with_reducible rfl)
          simp only [Act.put, List.setIfInBounds_toArray, List.set_cons_zero, List.set_cons_succ]
          refine held_take (i := 27) (d := (some 86)) (v := ?_) rfl rfl (by kernel_rfl) (by kernel_rfl) (by kernel_rfl) (fun _ _ _ h => h) (Or.inl ⟨by rfl, ?_⟩) (by first | assumption | rfl | trivial) ?_
          rotate_left 1
          · (intro w hSw; (try dsimp only at hSw); (try subst hSw); go_simp; try with_reducible rfl)
          simp only [Act.put, List.setIfInBounds_toArray, List.set_cons_zero, List.set_cons_succ]
          refine held_take (i := 28) (d := (some 87)) (v := ?_) rfl rfl (by kernel_rfl) (by kernel_rfl) (by kernel_rfl) (fun _ _ _ h => h) (Or.inl ⟨by rfl, ?_⟩) (by first | assumption | rfl | trivial) ?_
          rotate_left 1
          · (intro w hSw; (try dsimp only at hSw); (try subst hSw); go_simp; try with_reducible rfl)
          simp only [Act.put, List.setIfInBounds_toArray, List.set_cons_zero, List.set_cons_succ]
          refine held_take (i := 29) (d := (some 88)) (v := ?_) rfl rfl (by kernel_rfl) (by kernel_rfl) (by kernel_rfl) (fun _ _ _ h => h) (Or.inl ⟨by rfl, ?_⟩) (by first | assumption | rfl | trivial) ?_
          rotate_left 1
          · (intro w hSw; (try dsimp only at hSw); (try subst hSw); go_simp; try with_reducible rfl)
          simp only [Act.put, List.setIfInBounds_toArray, List.set_cons_zero, List.set_cons_succ]
          refine held_take (i := 30) (d := (some 89)) (v := ?_) rfl rfl (by kernel_rfl) (by kernel_rfl) (by kernel_rfl) (fun _ _ _ h => h) (Or.inl ⟨by rfl, ?_⟩) (by first | assumption | rfl | trivial) ?_
          rotate_left 1
          · (intro w hSw; (try dsimp only at hSw); (try subst hSw); go_simp; try with_reducible rfl)
          simp only [Act.put, List.setIfInBounds_toArray, List.set_cons_zero, List.set_cons_succ]
          refine held_take (i := 31) (d := (some 90)) (v := ?_) rfl rfl (by kernel_rfl) (by kernel_rfl) (by kernel_rfl) (fun _ _ _ h => h) (Or.inl ⟨by rfl, ?_⟩) (by first | assumption | rfl | trivial) ?_
          rotate_left 1
          · (intro w hSw; (try dsimp only at hSw); (try subst hSw); go_simp; try with_reducible rfl)
          simp only [Act.put, List.setIfInBounds_toArray, List.set_cons_zero, List.set_cons_succ]
          refine held_next (i := 32) (by kernel_rfl) rfl (by rfl) (fun K hK => ?_)
          go_simp
          with_reducible refine (AW.out _).mono ?_
          rintro e x3 ⟨rfl, b4⟩
          have H4 := keepT b4 H3
          clear H3 b4 AW
          go_wp2_with fail
          refine hK.out _ _ H4 ?_
          clear hK
          refine held_take (i := 33) (d := (some 92)) (v := ?_) rfl rfl (by kernel_rfl) (by kernel_rfl) (by kernel_rfl) (fun _ _ _ h => h) (Or.inl ⟨by rfl, ?_⟩) (by first | assumption | rfl | trivial) ?_
          rotate_left 1
          · (intro w hSw; (try dsimp only at hSw); (try subst hSw); go_simp; try with_reducible rfl)
          simp only [Act.put, List.setIfInBounds_toArray, List.set_cons_zero, List.set_cons_succ]
          refine held_take (i := 34) (d := (some 6)) (v := ?_) rfl rfl (by kernel_rfl) (by kernel_rfl) (by kernel_rfl) (fun _ _ _ h => h) (Or.inl ⟨by rfl, ?_⟩) (by first | assumption | rfl | trivial) ?_
          rotate_left 1
          · (intro w hSw; (try dsimp only at hSw); (try subst hSw); go_simp; try with_reducible rfl)
          simp only [Act.put, List.setIfInBounds_toArray, List.set_cons_zero, List.set_cons_succ]
          refine wpAnyH_done (by kernel_rfl) ?_ _
          have F := hide H4.2.2.1.out
          clear H4
          go_wp2
          go_ret
          exact ⟨rfl, LW1.out.trans (F.out.2.mono (Nat.le_trans LW1.out.size (Nat.le_of_eq hB2.out)))⟩
        · rw [if_neg hy0] at CP2
          have t0 : (1 : Int) < (t : Int) + 1 := by
            have := YL.out
            have := List.length_pos_iff.2 hy0
            omega
          have t0' : decide ((1 : Int) < (t : Int) + 1) = true := decide_eq_true t0
          clear hy0 hgb hB YL
          refine wp_region_held_drew (S := fun w' => w'.cell? ⟨b1, o1 + 1, none⟩ = some (.string y.2) ∧ (w'.cell? ⟨gb, 0, none⟩ = some (.string y.1) ∧ w'.cell? ⟨gb, 1, none⟩ = some (.string more)) ∧ Hid (B ≤ w'.heap.size ∧ Below B w1 w') ∧ True) (by kernel_rfl) ⟨S0.out.1, S0.out.2.1, S0.out.2.2, trivial⟩ (fun hHeld => ?_)
          refine held_take (i := 0) (d := (some 59)) (v := ?_) rfl rfl (by kernel_rfl) (by kernel_rfl) (by kernel_rfl) (fun _ _ _ h => h) (Or.inl ⟨by rfl, ?_⟩) (by first | assumption | rfl | trivial) ?_
          rotate_left 1
          · (intro w hSw; (try dsimp only at hSw); (try subst hSw); go_simp; try with_reducible rfl)
          simp only [Act.put, List.setIfInBounds_toArray, List.set_cons_zero, List.set_cons_succ]
          refine held_take (i := 1) (d := (some 60)) (v := ?_) rfl rfl (by kernel_rfl) (by kernel_rfl) (by kernel_rfl) (fun _ _ _ h => h) (Or.inl ⟨by rfl, ?_⟩) (by first | assumption | rfl | trivial) ?_
          rotate_left 1
          · (intro w hSw; (try dsimp only at hSw); (try subst hSw); go_simp; try with_reducible rfl)
          simp only [Act.put, List.setIfInBounds_toArray, List.set_cons_zero, List.set_cons_succ]
          refine held_next (i := 2) (by kernel_rfl) rfl (by rfl) (fun K hK => ?_)
          go_simp
          with_reducible refine (CP1.out _ _ hHeld).mono ?_
          rintro e x1 ⟨rfl, b4⟩
          have H1 := keepT b4 hHeld
          clear hHeld b4 CP1 S0
          go_wp2_with fail
          refine hK.out _ _ H1 ?_
          clear hK
          refine held_take (i := 3) (d := (some 62)) (v := ?_) rfl rfl (by kernel_rfl) (by kernel_rfl) (by kernel_rfl) (fun _ _ _ h => h) (Or.inl ⟨by rfl, ?_⟩) (by first | assumption | rfl | trivial) ?_
          rotate_left 1
          · (intro w hSw; (try dsimp only at hSw); (try subst hSw); go_simp; try with_reducible rfl)
          simp only [Act.put, List.setIfInBounds_toArray, List.set_cons_zero, List.set_cons_succ]
          refine held_take (i := 4) (d := (some 63)) (v := ?_) rfl rfl (by kernel_rfl) (by kernel_rfl) (by kernel_rfl) (fun _ _ _ h => h) (Or.inl ⟨by rfl, ?_⟩) (by first | assumption | rfl | trivial) ?_
          rotate_left 1
          · (intro w hSw; (try dsimp only at hSw); (try subst hSw); go_simp; try with_reducible rfl)
          simp only [Act.put, List.setIfInBounds_toArray, List.set_cons_zero, List.set_cons_succ]
          refine held_take (i := 5) (d := (some 64)) (v := ?_) rfl rfl (by kernel_rfl) (by kernel_rfl) (by kernel_rfl) (fun _ _ _ h => h) (Or.inl ⟨by rfl, ?_⟩) (by first | assumption | rfl | trivial) ?_
          rotate_left 1
          · (intro w hSw; (try dsimp only at hSw); (try subst hSw); go_simp; try with_reducible rfl)
          simp only [Act.put, List.setIfInBounds_toArray, List.set_cons_zero, List.set_cons_succ]
          refine held_take (i := 7) (d := (some 66)) (v := ?_) rfl rfl (by kernel_rfl) (by kernel_rfl) (by kernel_rfl) (fun _ _ _ h => h) (Or.inl ⟨by rfl, ?_⟩) (by first | assumption | rfl | trivial) ?_
          rotate_left 1
          · (intro w hSw; (try dsimp only at hSw); (try subst hSw); go_simp; try with_reducible rfl)
          simp only [Act.put, List.setIfInBounds_toArray, List.set_cons_zero, List.set_cons_succ]
          refine held_take (i := 10) (d := (some 69)) (v := ?_) rfl rfl (by kernel_rfl) (by kernel_rfl) (by kernel_rfl) (fun _ _ _ h => h) (Or.inl ⟨by rfl, ?_⟩) (by first | assumption | rfl | trivial) ?_
          rotate_left 1
          · (intro w hSw; (try dsimp only at hSw); (try subst hSw); go_simp; try with_reducible rfl)
          simp only [Act.put, List.setIfInBounds_toArray, List.set_cons_zero, List.set_cons_succ]
          refine held_take (i := 11) (d := (some 70)) (v := ?_) rfl rfl (by kernel_rfl) (by kernel_rfl) (by kernel_rfl) (fun _ _ _ h => h) (Or.inl ⟨by rfl, ?_⟩) (by first | assumption | rfl | trivial) ?_
          rotate_left 1
          · (intro w hSw; (try dsimp only at hSw); (try subst hSw); go_simp; try with_reducible rfl)
          simp only [Act.put, List.setIfInBounds_toArray, List.set_cons_zero, List.set_cons_succ]
          refine held_take (i := 12) (d := (some 71)) (v := ?_) rfl rfl (by kernel_rfl) (by kernel_rfl) (by kernel_rfl) (fun _ _ _ h => h) (Or.inl ⟨by rfl, ?_⟩) (by first | assumption | rfl | trivial) ?_
          rotate_left 1
          · (intro w hSw; (try dsimp only at hSw); (try subst hSw); go_simp; try with_reducible rfl)
          simp only [Act.put, List.setIfInBounds_toArray, List.set_cons_zero, List.set_cons_succ]
          refine held_take (i := 13) (d := (some 72)) (v := ?_) rfl rfl (by kernel_rfl) (by kernel_rfl) (by kernel_rfl) (fun _ _ _ h => h) (Or.inl ⟨by rfl, ?_⟩) (by first | assumption | rfl | trivial) ?_
          rotate_left 1
          · (intro w hSw; (try dsimp only at hSw); (try subst hSw); go_simp; try with_reducible rfl)
          simp only [Act.put, List.setIfInBounds_toArray, List.set_cons_zero, List.set_cons_succ]
          refine held_take (i := 14) (d := (some 73)) (v := ?_) rfl rfl (by kernel_rfl) (by kernel_rfl) (by kernel_rfl) (fun _ _ _ h => h) (Or.inl ⟨by rfl, ?_⟩) (by first | assumption | rfl | trivial) ?_
          rotate_left 1
          · (intro w hSw; (try dsimp only at hSw); (try subst hSw); go_simp; try with_reducible rfl)
          simp only [Act.put, List.setIfInBounds_toArray, List.set_cons_zero, List.set_cons_succ]
          refine held_take (i := 15) (d := (some 74)) (v := ?_) rfl rfl (by kernel_rfl) (by kernel_rfl) (by kernel_rfl) (fun _ _ _ h => h) (Or.inl ⟨by rfl, ?_⟩) (by first | assumption | rfl | trivial) ?_
          rotate_left 1
          · (intro w hSw; (try dsimp only at hSw); (try subst hSw); go_simp; try with_reducible rfl)
          simp only [Act.put, List.setIfInBounds_toArray, List.set_cons_zero, List.set_cons_succ]
          refine held_next (i := 6) (by kernel_rfl) rfl (by rfl) (fun K hK => ?_)
          go_simp
          have H2 := keepT ((Below.refl x1.heap.size x1).alloc (Nat.le_refl _) (.cells #[.string y.1, .string more] 40)) H1
          refine hK.out _ _ H2 ?_
          clear hK
          refine held_next (i := 8) (by kernel_rfl) rfl (by rfl) (fun K hK => ?_)
          go_simp
          with_reducible refine (CP2.out _ _ _ H2).mono ?_
          rintro e x2 ⟨rfl, b4⟩
          have H3 := keepT b4 H2
          clear H1 H2 b4 CP2
          go_wp2_with fail
          refine hK.out _ _ H3 ?_
          clear hK
          refine held_take (i := 9) (d := (some 68)) (v := ?_) rfl rfl (by kernel_rfl) (by kernel_rfl) (by kernel_rfl) (fun _ _ _ h => h) (Or.inl ⟨by rfl, ?_⟩) (by first | assumption | rfl | trivial) ?_
          rotate_left 1
          · (intro w hSw; (try dsimp only at hSw); (try subst hSw); go_simp; try with_reducible rfl)
          simp only [Act.put, List.setIfInBounds_toArray, List.set_cons_zero, List.set_cons_succ]
          refine held_take (i := 16) (d := (some 75)) (v := ?_) rfl rfl (by kernel_rfl) (by kernel_rfl) (by kernel_rfl) (fun _ _ _ h => h) (Or.inl ⟨by rfl, ?_⟩) (by first | assumption | rfl | trivial) ?_
          rotate_left 1
          · (intro w hSw; (try dsimp only at hSw); (try subst hSw); go_simp; try with_reducible rfl)
          simp only [Act.put, List.setIfInBounds_toArray, List.set_cons_zero, List.set_cons_succ]
          refine held_take (i := 17) (d := (some 76)) (v := ?_) rfl rfl (by kernel_rfl) (by kernel_rfl) (by kernel_rfl) (fun _ _ _ h => h) (Or.inl ⟨by rfl, ?_⟩) (by first | assumption | rfl | trivial) ?_
          rotate_left 1
          · (intro w hSw; (try dsimp only at hSw); (try subst hSw); go_simp; try with_reducible rfl)
          simp only [Act.put, List.setIfInBounds_toArray, List.set_cons_zero, List.set_cons_succ]
          refine held_take (i := 18) (d := (some 77)) (v := ?_) rfl rfl (by kernel_rfl) (by kernel_rfl) (by kernel_rfl) (fun _ _ _ h => h) (Or.inl ⟨by rfl, ?_⟩) (by first | assumption | rfl | trivial) ?_
          rotate_left 1
          · (intro w hSw; (try dsimp only at hSw); (try subst hSw); go_simp; try with_reducible rfl)
          simp only [Act.put, List.setIfInBounds_toArray, List.set_cons_zero, List.set_cons_succ]
          refine held_take (i := 19) (d := (some 78)) (v := ?_) rfl rfl (by kernel_rfl) (by kernel_rfl) (by kernel_rfl) (fun _ _ _ h => h) (Or.inl ⟨by rfl, ?_⟩) (by first | assumption | rfl | trivial) ?_
          rotate_left 1
          · (intro w hSw; (try dsimp only at hSw); (try subst hSw); go_simp; try with_reducible rfl)
          simp only [Act.put, List.setIfInBounds_toArray, List.set_cons_zero, List.set_cons_succ]
          refine held_take (i := 20) (d := (some 79)) (v := ?_) rfl rfl (by kernel_rfl) (by kernel_rfl) (by kernel_rfl) (fun _ _ _ h => h) (Or.inl ⟨by rfl, ?_⟩) (by first | assumption | rfl | trivial) ?_
          rotate_left 1
          · (intro w hSw; (try dsimp only at hSw); (try subst hSw); go_simp; try with_reducible rfl)
          simp only [Act.put, List.setIfInBounds_toArray, List.set_cons_zero, List.set_cons_succ]
          refine held_take (i := 21) (d := (some 80)) (v := ?_) rfl rfl (by kernel_rfl) (by kernel_rfl) (by kernel_rfl) (fun _ _ _ h => h) (Or.inl ⟨by rfl, ?_⟩) (by first | assumption | rfl | trivial) ?_
          rotate_left 1
          · (intro w hSw; (try dsimp only at hSw); (try subst hSw); go_simp; try with_reducible rfl)
          simp only [Act.put, List.setIfInBounds_toArray, List.set_cons_zero, List.set_cons_succ]
          refine held_take (i := 22) (d := (some 81)) (v := ?_) rfl rfl (by kernel_rfl) (by kernel_rfl) (by kernel_rfl) (fun _ _ _ h => h) (Or.inl ⟨by rfl, ?_⟩) (by first | assumption | rfl | trivial) ?_
          rotate_left 1
          · (intro w hSw; (try dsimp only at hSw); (try subst hSw); go_simp; try with_reducible rfl)
          simp only [Act.put, List.setIfInBounds_toArray, List.set_cons_zero, List.set_cons_succ]
          refine held_take (i := 23) (d := (some 82)) (v := ?_) rfl rfl (by kernel_rfl) (by kernel_rfl) (by kernel_rfl) (fun _ _ _ h => h) (Or.inl ⟨by rfl, ?_⟩) (by first | assumption | rfl | trivial) ?_
          rotate_left 1
          · (intro w hSw; (try dsimp only at hSw); (try subst hSw); go_simp; try with_reducible rfl)
          simp only [Act.put, List.setIfInBounds_toArray, List.set_cons_zero, List.set_cons_succ]
          refine held_take (i := 24) (d := (some 83)) (v := ?_) rfl rfl (by kernel_rfl) (by kernel_rfl) (by kernel_rfl) (fun _ _ _ h => h) (Or.inl ⟨by rfl, ?_⟩) (by first | assumption | rfl | trivial) ?_
          rotate_left 1
          · (intro w hSw; (try dsimp only at hSw); (try subst hSw); go_simp; try with_reducible rfl)
          simp only [Act.put, List.setIfInBounds_toArray, List.set_cons_zero, List.set_cons_succ]
          refine held_take (i := 25) (d := (some 84)) (v := ?_) rfl rfl (by kernel_rfl) (by kernel_rfl) (by kernel_rfl) (fun _ _ _ h => h) (Or.inl ⟨by rfl, ?_⟩) (by first | assumption | rfl | trivial) ?_
          rotate_left 1
          · (intro w hSw; (try dsimp only at hSw); (try subst hSw); go_simp; try with_reducible rfl)
          simp only [Act.put, List.setIfInBounds_toArray, List.set_cons_zero, List.set_cons_succ]
          refine held_take (i := 26) (d := (some 85)) (v := ?_) rfl rfl (by kernel_rfl) (by kernel_rfl) (by kernel_rfl) (fun _ _ _ h => h) (Or.inl ⟨by rfl, ?_⟩) (by first | assumption | rfl | trivial) ?_
          rotate_left 1
          · (intro w hSw; (try dsimp only at hSw); (try subst hSw); go_simp; try with_reducible rfl)
          simp only [Act.put, List.setIfInBounds_toArray, List.set_cons_zero, List.set_cons_succ]
          refine held_take (i := 27) (d := (some 86)) (v := ?_) rfl rfl (by kernel_rfl) (by kernel_rfl) (by kernel_rfl) (fun _ _ _ h => h) (Or.inl ⟨by rfl, ?_⟩) (by first | assumption | rfl | trivial) ?_
          rotate_left 1
          · (intro w hSw; (try dsimp only at hSw); (try subst hSw); go_simp; try with_reducible rfl)
          simp only [Act.put, List.setIfInBounds_toArray, List.set_cons_zero, List.set_cons_succ]
          refine held_take (i := 28) (d := (some 87)) (v := ?_) rfl rfl (by kernel_rfl) (by kernel_rfl) (by kernel_rfl) (fun _ _ _ h => h) (Or.inl ⟨by rfl, ?_⟩) (by first | assumption | rfl | trivial) ?_
          rotate_left 1
          · (intro w hSw; (try dsimp only at hSw); (try subst hSw); go_simp; try with_reducible rfl)
          simp only [Act.put, List.setIfInBounds_toArray, List.set_cons_zero, List.set_cons_succ]
          refine held_take (i := 29) (d := (some 88)) (v := ?_) rfl rfl (by kernel_rfl) (by kernel_rfl) (by kernel_rfl) (fun _ _ _ h => h) (Or.inl ⟨by rfl, ?_⟩) (by first | assumption | rfl | trivial) ?_
          rotate_left 1
          · (intro w hSw; (try dsimp only at hSw); (try subst hSw); go_simp; try with_reducible rfl)
          simp only [Act.put, List.setIfInBounds_toArray, List.set_cons_zero, List.set_cons_succ]
          refine held_take (i := 30) (d := (some 89)) (v := ?_) rfl rfl (by kernel_rfl) (by kernel_rfl) (by kernel_rfl) (fun _ _ _ h => h) (Or.inl ⟨by rfl, ?_⟩) (by first | assumption | rfl | trivial) ?_
          rotate_left 1
          · (intro w hSw; (try dsimp only at hSw); (try subst hSw); go_simp; try with_reducible rfl)
          simp only [Act.put, List.setIfInBounds_toArray, List.set_cons_zero, List.set_cons_succ]
          refine held_take (i := 31) (d := (some 90)) (v := ?_) rfl rfl (by kernel_rfl) (by kernel_rfl) (by kernel_rfl) (fun _ _ _ h => h) (Or.inl ⟨by rfl, ?_⟩) (by first | assumption | rfl | trivial) ?_
          rotate_left 1
          · (intro w hSw; (try dsimp only at hSw); (try subst hSw); go_simp; try with_reducible rfl)
          simp only [Act.put, List.setIfInBounds_toArray, List.set_cons_zero, List.set_cons_succ]
          refine held_next (i := 32) (by kernel_rfl) rfl (by rfl) (fun K hK => ?_)
          go_simp
          with_reducible refine (AW.out _).mono ?_
          rintro e x3 ⟨rfl, b4⟩
          have H4 := keepT b4 H3
          clear H3 b4 AW
          go_wp2_with fail
          refine hK.out _ _ H4 ?_
          clear hK
          refine held_take (i := 33) (d := (some 92)) (v := ?_) rfl rfl (by kernel_rfl) (by kernel_rfl) (by kernel_rfl) (fun _ _ _ h => h) (Or.inl ⟨by rfl, ?_⟩) (by first | assumption | rfl | trivial) ?_
          rotate_left 1
          · (intro w hSw; (try dsimp only at hSw); (try subst hSw); go_simp; try with_reducible rfl)
          simp only [Act.put, List.setIfInBounds_toArray, List.set_cons_zero, List.set_cons_succ]
          refine held_take (i := 34) (d := (some 6)) (v := ?_) rfl rfl (by kernel_rfl) (by kernel_rfl) (by kernel_rfl) (fun _ _ _ h => h) (Or.inl ⟨by rfl, ?_⟩) (by first | assumption | rfl | trivial) ?_
          rotate_left 1
          · (intro w hSw; (try dsimp only at hSw); (try subst hSw); go_simp; try with_reducible rfl)
          simp only [Act.put, List.setIfInBounds_toArray, List.set_cons_zero, List.set_cons_succ]
          refine wpAnyH_done (by kernel_rfl) ?_ _
          have F := hide H4.2.2.1.out
          clear H4
          go_wp2
          go_ret
          exact ⟨rfl, LW1.out.trans (F.out.2.mono (Nat.le_trans LW1.out.size (Nat.le_of_eq hB2.out)))⟩
      · have m2 := less_asymm hA
        have m1 : (more.toList == y.2.toList) = false := by
          rw [beq_eq_false_iff_ne]
          intro e
          rw [e, less_irrefl] at hA
          cases hA
        have t1 : cmpT more y.2 = 1 := by unfold cmpT; rw [if_neg (by rw [m2]; decide), if_pos hA]
        rw [t1, if_neg (by decide)] at CP2
        clear hA t1 hgb hB YL
        refine wp_region_held_drew (S := fun w' => w'.cell? ⟨b1, o1 + 1, none⟩ = some (.string y.2) ∧ (w'.cell? ⟨gb, 0, none⟩ = some (.string y.1) ∧ w'.cell? ⟨gb, 1, none⟩ = some (.string more)) ∧ Hid (B ≤ w'.heap.size ∧ Below B w1 w') ∧ True) (by kernel_rfl) ⟨S0.out.1, S0.out.2.1, S0.out.2.2, trivial⟩ (fun hHeld => ?_)
        refine held_take (i := 0) (d := (some 59)) (v := ?_) rfl rfl (by kernel_rfl) (by kernel_rfl) (by kernel_rfl) (fun _ _ _ h => h) (Or.inl ⟨by rfl, ?_⟩) (by first | assumption | rfl | trivial) ?_
        rotate_left 1
        · (intro w hSw; (try dsimp only at hSw); (try subst hSw); go_simp; try with_reducible rfl)
        simp only [Act.put, List.setIfInBounds_toArray, List.set_cons_zero, List.set_cons_succ]
        refine held_take (i := 1) (d := (some 60)) (v := ?_) rfl rfl (by kernel_rfl) (by kernel_rfl) (by kernel_rfl) (fun _ _ _ h => h) (Or.inl ⟨by rfl, ?_⟩) (by first | assumption | rfl | trivial) ?_
        rotate_left 1
        · (intro w hSw; (try dsimp only at hSw); (try subst hSw); go_simp; try with_reducible rfl)
        simp only [Act.put, List.setIfInBounds_toArray, List.set_cons_zero, List.set_cons_succ]
        refine held_next (i := 2) (by kernel_rfl) rfl (by rfl) (fun K hK => ?_)
        go_simp
        with_reducible refine (CP1.out _ _ hHeld).mono ?_
        rintro e x1 ⟨rfl, b4⟩
        have H1 := keepT b4 hHeld
        clear hHeld b4 CP1 S0
        go_wp2_with fail
        refine hK.out _ _ H1 ?_
        clear hK
        refine held_take (i := 3) (d := (some 62)) (v := ?_) rfl rfl (by kernel_rfl) (by kernel_rfl) (by kernel_rfl) (fun _ _ _ h => h) (Or.inl ⟨by rfl, ?_⟩) (by first | assumption | rfl | trivial) ?_
        rotate_left 1
        · (intro w hSw; (try dsimp only at hSw); (try subst hSw); go_simp; try with_reducible rfl)
        simp only [Act.put, List.setIfInBounds_toArray, List.set_cons_zero, List.set_cons_succ]
        refine held_take (i := 4) (d := (some 63)) (v := ?_) rfl rfl (by kernel_rfl) (by kernel_rfl) (by kernel_rfl) (fun _ _ _ h => h) (Or.inl ⟨by rfl, ?_⟩) (by first | assumption | rfl | trivial) ?_
        rotate_left 1
        · (intro w hSw; (try dsimp only at hSw); (try subst hSw); go_simp; try with_reducible rfl)
        simp only [Act.put, List.setIfInBounds_toArray, List.set_cons_zero, List.set_cons_succ]
        refine held_take (i := 5) (d := (some 64)) (v := ?_) rfl rfl (by kernel_rfl) (by kernel_rfl) (by kernel_rfl) (fun _ _ _ h => h) (Or.inl ⟨by rfl, ?_⟩) (by first | assumption | rfl | trivial) ?_
        rotate_left 1
        · (intro w hSw; (try dsimp only at hSw); (try subst hSw); go_simp; try with_reducible rfl)
        simp only [Act.put, List.setIfInBounds_toArray, List.set_cons_zero, List.set_cons_succ]
        refine held_take (i := 7) (d := (some 66)) (v := ?_) rfl rfl (by kernel_rfl) (by kernel_rfl) (by kernel_rfl) (fun _ _ _ h => h) (Or.inl ⟨by rfl, ?_⟩) (by first | assumption | rfl | trivial) ?_
        rotate_left 1
        · (intro w hSw; (try dsimp only at hSw); (try subst hSw); go_simp; try with_reducible rfl)
        simp only [Act.put, List.setIfInBounds_toArray, List.set_cons_zero, List.set_cons_succ]
        refine held_take (i := 10) (d := (some 69)) (v := ?_) rfl rfl (by kernel_rfl) (by kernel_rfl) (by kernel_rfl) (fun _ _ _ h => h) (Or.inl ⟨by rfl, ?_⟩) (by first | assumption | rfl | trivial) ?_
        rotate_left 1
        · (intro w hSw; (try dsimp only at hSw); (try subst hSw); go_simp; try with_reducible rfl)
        simp only [Act.put, List.setIfInBounds_toArray, List.set_cons_zero, List.set_cons_succ]
        refine held_take (i := 11) (d := (some 70)) (v := ?_) rfl rfl (by kernel_rfl) (by kernel_rfl) (by kernel_rfl) (fun _ _ _ h => h) (Or.inl ⟨by rfl, ?_⟩) (by first | assumption | rfl | trivial) ?_
        rotate_left 1
        · (intro w hSw; (try dsimp only at hSw); (try subst hSw); go_simp; try with_reducible rfl)
        simp only [Act.put, List.setIfInBounds_toArray, List.set_cons_zero, List.set_cons_succ]
        refine held_take (i := 12) (d := (some 71)) (v := ?_) rfl rfl (by kernel_rfl) (by kernel_rfl) (by kernel_rfl) (fun _ _ _ h => h) (Or.inl ⟨by rfl, ?_⟩) (by first | assumption | rfl | trivial) ?_
        rotate_left 1
        · (intro w hSw; (try dsimp only at hSw); (try subst hSw); go_simp; try with_reducible rfl)
        simp only [Act.put, List.setIfInBounds_toArray, List.set_cons_zero, List.set_cons_succ]
        refine held_take (i := 13) (d := (some 72)) (v := ?_) rfl rfl (by kernel_rfl) (by kernel_rfl) (by kernel_rfl) (fun _ _ _ h => h) (Or.inl ⟨by rfl, ?_⟩) (by first | assumption | rfl | trivial) ?_
        rotate_left 1
        · (intro w hSw; (try dsimp only at hSw); (try subst hSw); go_simp; try with_reducible rfl)
        simp only [Act.put, List.setIfInBounds_toArray, List.set_cons_zero, List.set_cons_succ]
        refine held_take (i := 14) (d := (some 73)) (v := ?_) rfl rfl (by kernel_rfl) (by kernel_rfl) (by kernel_rfl) (fun _ _ _ h => h) (Or.inl ⟨by rfl, ?_⟩) (by first | assumption | rfl | trivial) ?_
        rotate_left 1
        · (intro w hSw; (try dsimp only at hSw); (try subst hSw); go_simp; try with_reducible rfl)
        simp only [Act.put, List.setIfInBounds_toArray, List.set_cons_zero, List.set_cons_succ]
        refine held_take (i := 15) (d := (some 74)) (v := ?_) rfl rfl (by kernel_rfl) (by kernel_rfl) (by kernel_rfl) (fun _ _ _ h => h) (Or.inl ⟨by rfl, ?_⟩) (by first | assumption | rfl | trivial) ?_
        rotate_left 1
        · (intro w hSw; (try dsimp only at hSw); (try subst hSw); go_simp; try with_reducible rfl)
        simp only [Act.put, List.setIfInBounds_toArray, List.set_cons_zero, List.set_cons_succ]
        refine held_next (i := 6) (by kernel_rfl) rfl (by rfl) (fun K hK => ?_)
        go_simp
        have H2 := keepT ((Below.refl x1.heap.size x1).alloc (Nat.le_refl _) (.cells #[.string y.1, .string more] 40)) H1
        refine hK.out _ _ H2 ?_
        clear hK
        refine held_next (i := 8) (by kernel_rfl) rfl (by rfl) (fun K hK => ?_)
        go_simp
        with_reducible refine (CP2.out _ _ _ H2).mono ?_
        rintro e x2 ⟨rfl, b4⟩
        have H3 := keepT b4 H2
        clear H1 H2 b4 CP2
        go_wp2_with fail
        refine hK.out _ _ H3 ?_
        clear hK
        refine held_take (i := 9) (d := (some 68)) (v := ?_) rfl rfl (by kernel_rfl) (by kernel_rfl) (by kernel_rfl) (fun _ _ _ h => h) (Or.inl ⟨by rfl, ?_⟩) (by first | assumption | rfl | trivial) ?_
        rotate_left 1
        · (intro w hSw; (try dsimp only at hSw); (try subst hSw); go_simp; try with_reducible rfl)
        simp only [Act.put, List.setIfInBounds_toArray, List.set_cons_zero, List.set_cons_succ]
        refine held_take (i := 16) (d := (some 75)) (v := ?_) rfl rfl (by kernel_rfl) (by kernel_rfl) (by kernel_rfl) (fun _ _ _ h => h) (Or.inl ⟨by rfl, ?_⟩) (by first | assumption | rfl | trivial) ?_
        rotate_left 1
        · (intro w hSw; (try dsimp only at hSw); (try subst hSw); go_simp; try with_reducible rfl)
        simp only [Act.put, List.setIfInBounds_toArray, List.set_cons_zero, List.set_cons_succ]
        refine held_take (i := 17) (d := (some 76)) (v := ?_) rfl rfl (by kernel_rfl) (by kernel_rfl) (by kernel_rfl) (fun _ _ _ h => h) (Or.inl ⟨by rfl, ?_⟩) (by first | assumption | rfl | trivial) ?_
        rotate_left 1
        · (intro w hSw; (try dsimp only at hSw); (try subst hSw); go_simp; try with_reducible rfl)
        simp only [Act.put, List.setIfInBounds_toArray, List.set_cons_zero, List.set_cons_succ]
        refine held_take (i := 18) (d := (some 77)) (v := ?_) rfl rfl (by kernel_rfl) (by kernel_rfl) (by kernel_rfl) (fun _ _ _ h => h) (Or.inl ⟨by rfl, ?_⟩) (by first | assumption | rfl | trivial) ?_
        rotate_left 1
        · (intro w hSw; (try dsimp only at hSw); (try subst hSw); go_simp; try with_reducible rfl)
        simp only [Act.put, List.setIfInBounds_toArray, List.set_cons_zero, List.set_cons_succ]
        refine held_take (i := 19) (d := (some 78)) (v := ?_) rfl rfl (by kernel_rfl) (by kernel_rfl) (by kernel_rfl) (fun _ _ _ h => h) (Or.inl ⟨by rfl, ?_⟩) (by first | assumption | rfl | trivial) ?_
        rotate_left 1
        · (intro w hSw; (try dsimp only at hSw); (try subst hSw); go_simp; try with_reducible rfl)
        simp only [Act.put, List.setIfInBounds_toArray, List.set_cons_zero, List.set_cons_succ]
        refine held_take (i := 20) (d := (some 79)) (v := ?_) rfl rfl (by kernel_rfl) (by kernel_rfl) (by kernel_rfl) (fun _ _ _ h => h) (Or.inl ⟨by rfl, ?_⟩) (by first | assumption | rfl | trivial) ?_
        rotate_left 1
        · (intro w hSw; (try dsimp only at hSw); (try subst hSw); go_simp; try with_reducible rfl)
        simp only [Act.put, List.setIfInBounds_toArray, List.set_cons_zero, List.set_cons_succ]
        refine held_take (i := 21) (d := (some 80)) (v := ?_) rfl rfl (by kernel_rfl) (by kernel_rfl) (by kernel_rfl) (fun _ _ _ h => h) (Or.inl ⟨by rfl, ?_⟩) (by first | assumption | rfl | trivial) ?_
        rotate_left 1
        · (intro w hSw; (try dsimp only at hSw); (try subst hSw); go_simp; try with_reducible rfl)
        simp only [Act.put, List.setIfInBounds_toArray, List.set_cons_zero, List.set_cons_succ]
        refine held_take (i := 22) (d := (some 81)) (v := ?_) rfl rfl (by kernel_rfl) (by kernel_rfl) (by kernel_rfl) (fun _ _ _ h => h) (Or.inl ⟨by rfl, ?_⟩) (by first | assumption | rfl | trivial) ?_
        rotate_left 1
        · (intro w hSw; (try dsimp only at hSw); (try subst hSw); go_simp; try with_reducible rfl)
        simp only [Act.put, List.setIfInBounds_toArray, List.set_cons_zero, List.set_cons_succ]
        refine held_take (i := 23) (d := (some 82)) (v := ?_) rfl rfl (by kernel_rfl) (by kernel_rfl) (by kernel_rfl) (fun _ _ _ h => h) (Or.inl ⟨by rfl, ?_⟩) (by first | assumption | rfl | trivial) ?_
        rotate_left 1
        · (intro w hSw; (try dsimp only at hSw); (try subst hSw); go_simp; try with_reducible rfl)
        simp only [Act.put, List.setIfInBounds_toArray, List.set_cons_zero, List.set_cons_succ]
        refine held_take (i := 24) (d := (some 83)) (v := undef) rfl rfl (by kernel_rfl) (by kernel_rfl) (by kernel_rfl) (fun _ _ _ h => h) (Or.inr ⟨by rfl, rfl⟩) (by first | assumption | rfl | trivial) ?_
        simp only [Act.put, List.setIfInBounds_toArray, List.set_cons_zero, List.set_cons_succ]
        refine held_take (i := 25) (d := (some 84)) (v := undef) rfl rfl (by kernel_rfl) (by kernel_rfl) (by kernel_rfl) (fun _ _ _ h => h) (Or.inr ⟨by rfl, rfl⟩) (by first | assumption | rfl | trivial) ?_
        simp only [Act.put, List.setIfInBounds_toArray, List.set_cons_zero, List.set_cons_succ]
        refine held_take (i := 26) (d := (some 85)) (v := undef) rfl rfl (by kernel_rfl) (by kernel_rfl) (by kernel_rfl) (fun _ _ _ h => h) (Or.inr ⟨by rfl, rfl⟩) (by first | assumption | rfl | trivial) ?_
        simp only [Act.put, List.setIfInBounds_toArray, List.set_cons_zero, List.set_cons_succ]
        refine held_take (i := 27) (d := (some 86)) (v := ?_) rfl rfl (by kernel_rfl) (by kernel_rfl) (by kernel_rfl) (fun _ _ _ h => h) (Or.inl ⟨by rfl, ?_⟩) (by first | assumption | rfl | trivial) ?_
        rotate_left 1
        · (intro w hSw; (try dsimp only at hSw); (try subst hSw); go_simp; try with_reducible rfl)
        simp only [Act.put, List.setIfInBounds_toArray, List.set_cons_zero, List.set_cons_succ]
        refine held_take (i := 28) (d := (some 87)) (v := ?_) rfl rfl (by kernel_rfl) (by kernel_rfl) (by kernel_rfl) (fun _ _ _ h => h) (Or.inl ⟨by rfl, ?_⟩) (by first | assumption | rfl | trivial) ?_
        rotate_left 1
        · (intro w hSw; (try dsimp only at hSw); (try subst hSw); go_simp; try with_reducible rfl)
        simp only [Act.put, List.setIfInBounds_toArray, List.set_cons_zero, List.set_cons_succ]
        refine held_take (i := 29) (d := (some 88)) (v := ?_) rfl rfl (by kernel_rfl) (by kernel_rfl) (by kernel_rfl) (fun _ _ _ h => h) (Or.inl ⟨by rfl, ?_⟩) (by first | assumption | rfl | trivial) ?_
        rotate_left 1
        · (intro w hSw; (try dsimp only at hSw); (try subst hSw); go_simp; try with_reducible rfl)
        simp only [Act.put, List.setIfInBounds_toArray, List.set_cons_zero, List.set_cons_succ]
        refine held_take (i := 30) (d := (some 89)) (v := ?_) rfl rfl (by kernel_rfl) (by kernel_rfl) (by kernel_rfl) (fun _ _ _ h => h) (Or.inl ⟨by rfl, ?_⟩) (by first | assumption | rfl | trivial) ?_
        rotate_left 1
        · (intro w hSw; (try dsimp only at hSw); (try subst hSw); go_simp; try with_reducible rfl)
        simp only [Act.put, List.setIfInBounds_toArray, List.set_cons_zero, List.set_cons_succ]
        refine held_take (i := 31) (d := (some 90)) (v := ?_) rfl rfl (by kernel_rfl) (by kernel_rfl) (by kernel_rfl) (fun _ _ _ h => h) (Or.inl ⟨by rfl, ?_⟩) (by first | assumption | rfl | trivial) ?_
        rotate_left 1
        · (intro w hSw; (try dsimp only at hSw); (try subst hSw); go_simp; try with_reducible rfl)
        simp only [Act.put, List.setIfInBounds_toArray, List.set_cons_zero, List.set_cons_succ]
        refine held_next (i := 32) (by kernel_rfl) rfl (by rfl) (fun K hK => ?_)
        go_simp
        with_reducible refine (AW.out _).mono ?_
        rintro e x3 ⟨rfl, b4⟩
        have H4 := keepT b4 H3
        clear H3 b4 AW
        go_wp2_with fail
        refine hK.out _ _ H4 ?_
        clear hK
        refine held_take (i := 33) (d := (some 92)) (v := ?_) rfl rfl (by kernel_rfl) (by kernel_rfl) (by kernel_rfl) (fun _ _ _ h => h) (Or.inl ⟨by rfl, ?_⟩) (by first | assumption | rfl | trivial) ?_
        rotate_left 1
        · (intro w hSw; (try dsimp only at hSw); (try subst hSw); go_simp; try with_reducible rfl)
        simp only [Act.put, List.setIfInBounds_toArray, List.set_cons_zero, List.set_cons_succ]
        refine held_take (i := 34) (d := (some 6)) (v := ?_) rfl rfl (by kernel_rfl) (by kernel_rfl) (by kernel_rfl) (fun _ _ _ h => h) (Or.inl ⟨by rfl, ?_⟩) (by first | assumption | rfl | trivial) ?_
        rotate_left 1
        · (intro w hSw; (try dsimp only at hSw); (try subst hSw); go_simp; try with_reducible rfl)
        simp only [Act.put, List.setIfInBounds_toArray, List.set_cons_zero, List.set_cons_succ]
        refine wpAnyH_done (by kernel_rfl) ?_ _
        have F := hide H4.2.2.1.out
        clear H4
        go_wp2
        go_ret
        exact ⟨rfl, LW1.out.trans (F.out.2.mono (Nat.le_trans LW1.out.size (Nat.le_of_eq hB2.out)))⟩
end Go.Proofs.Ytoepdgdagjckbab
