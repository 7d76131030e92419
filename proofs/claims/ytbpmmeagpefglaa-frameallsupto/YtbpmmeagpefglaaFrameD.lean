/-
  What frame.find and frame.Get come to: contracts, for every world.
  Conditions: the slice shows its bytes; there is room for a copy.
-/
import Derived.Test.YtbpmmeagpefglaaFrameA
import Derived.Test.YtbpmmeagpefglaaVintR
import Derived.Deep.Cut
namespace Go.Proofs.Ytbpmmeagpefglaa
open Go.RowKit

/-- What find answers. -/
def findE (a : Option Addr) (cap : Nat) (r : Option (Nat × Nat)) : Ending :=
  match r with
  | none => .returned (.tuple #[.slice none 0 0, .int .i64 0, .bool false])
  | some p => .returned (.tuple #[.slice (a.map (·.add p.1)) p.2 (cap - p.1), .int .i64 ((p.1 + p.2 : Nat) : Int), .bool true])

theorem Row.mid {k : IntKind} {w : World} {a : Option Addr} {n cap : Nat} {zs : List Int} (h : Row k w a n zs) (hc : n ≤ cap) (l m : Nat) (hm : 1 ≤ m) (hl : l + m ≤ n) : Row k w (a.map (·.add l)) m ((zs.drop l).take m) := by
  have h1 := (h.from (cap := cap) l (by omega) hc).to m (by omega)
  rwa [if_neg (by omega)] at h1

set_option maxHeartbeats 2000000 in
set_option maxRecDepth 100000 in
theorem find_any (at' : Int) (a : Option Addr) (n cap : Nat) (zs : List Int) (w : World) (ha : (Lit.int .i64 at').wf = true) (hc : n ≤ cap) (hr : Row .u8 w a n zs) :
    Calls Try.prog 34 #[.slice a n cap, .int .i64 at'] w fun e w' => e = findE a cap (findS zs at') ∧ Below w.heap.size w w' := by
  have G := hide (get_any at' a n cap zs w ha hc hr)
  have hl := hr.1
  have hn := hr.2.1
  have HZ : Hid (Bytes8 zs) := hr.bytes
  have HR := hide hr
  clear hr ha
  cases hg : getS zs at' with
  | none =>
    have hE : Hid (findE a cap (findS zs at') = .returned (.tuple #[.slice none 0 0, .int .i64 0, .bool false])) := by
      show _ = _
      unfold findS
      rw [hg]; rfl
    rw [hg] at G
    simp only [gotE] at G
    clear hg
    go_enter Try.func34, Try.ntmps34
    go_wp2_with fail
    refine G.out.mono ?_
    rintro e w' ⟨rfl, rfl⟩
    go_wp2
    go_ret3
    exact ⟨hE.out.symm, Below.refl _ _⟩
  | some p =>
    obtain ⟨v, fr⟩ := p
    rw [hg] at G
    simp only [gotE] at G
    obtain ⟨hw, k, hk, hkn, hfr, hfl, _, _⟩ := getS_some HZ.out hg
    rw [hl] at hkn hfl
    have HS : Hid (findS zs at' = if v < 1 ∨ 1048576 < v ∨ (n : Int) - fr < 4 + v then none else if (zs.drop fr.toNat).take 4 = sumB ((zs.drop (fr.toNat + 4)).take v.toNat) then some (fr.toNat + 4, v.toNat) else none) := by
      show _ = _
      unfold findS
      rw [hg, hl]
    obtain ⟨f, hf⟩ : ∃ f : Nat, fr = f := ⟨_, hfr⟩
    have hfn : f ≤ n := by omega
    obtain ⟨u, hu⟩ := Int.eq_ofNat_of_zero_le hw.1
    subst hf hu
    simp only [Int.toNat_natCast] at HS
    have hu2 : (u : Int) < 18446744073709551616 := hw.2
    clear hg hw hk hkn hfr hfl
    by_cases c1 : u = 0
    · subst c1
      have hE : Hid (findE a cap (findS zs at') = .returned (.tuple #[.slice none 0 0, .int .i64 0, .bool false])) := by
        show _ = _
        rw [HS.out, if_pos (Or.inl (by omega))]; rfl
      clear HS
      go_enter Try.func34, Try.ntmps34
      go_wp2_with fail
      refine G.out.mono ?_
      rintro e w' ⟨rfl, rfl⟩
      go_wp2
      go_ret3
      exact ⟨hE.out.symm, Below.refl _ _⟩
    by_cases c2 : 1048576 < u
    · have hE : Hid (findE a cap (findS zs at') = .returned (.tuple #[.slice none 0 0, .int .i64 0, .bool false])) := by
        show _ = _
        rw [HS.out, if_pos (Or.inr (Or.inl (by omega)))]; rfl
      clear HS
      have t1 : ((u : Int) == 0) = false := by simp; omega
      have t2 : (1048576 : Int) < u := by omega
      go_enter Try.func34, Try.ntmps34
      go_wp2_with fail
      refine G.out.mono ?_
      rintro e w' ⟨rfl, rfl⟩
      go_wp2
      go_ret3
      exact ⟨hE.out.symm, Below.refl _ _⟩
    have t1 : ((u : Int) == 0) = false := by simp; omega
    have t2 : ¬ ((1048576 : Int) < u) := by omega
    by_cases c3 : n < f + (4 + u)
    · have hE : Hid (findE a cap (findS zs at') = .returned (.tuple #[.slice none 0 0, .int .i64 0, .bool false])) := by
        show _ = _
        rw [HS.out, if_pos (Or.inr (Or.inr (by omega)))]; rfl
      clear HS
      have t3 : (n : Int) - f < 4 + u := by omega
      have v1 : (1 : Int) ≤ u := by omega
      clear c3 c2 c1 hl HZ HR
      generalize (u : Int) = v at *
      go_enter Try.func34, Try.ntmps34
      go_wp2_with fail
      refine G.out.mono ?_
      rintro e w' ⟨rfl, rfl⟩
      go_wp2
      go_ret3
      exact ⟨hE.out.symm, Below.refl _ _⟩
    have t3 : ¬ ((n : Int) - f < 4 + u) := by omega
    have RB := hide (HR.out.mid hc (f + 4) u (by omega) (by omega))
    have RQ := hide (HR.out.mid hc f 4 (by omega) (by omega))
    have f1 := slice_mid a n cap (f + 4) (f + 4 + u) (by omega) (by omega)
    have f2 := slice_mid a n cap f (f + 4) (by omega) (by omega)
    rw [if_neg (by omega), show f + 4 + u - (f + 4) = u from by omega] at f1
    rw [if_neg (by omega), show f + 4 - f = 4 from by omega] at f2
    rw [show ((f + 4 + u : Nat) : Int) = (f : Int) + 4 + u from rfl, show ((f + 4 : Nat) : Int) = (f : Int) + 4 from rfl] at f1
    rw [show ((f + 4 : Nat) : Int) = (f : Int) + 4 from rfl] at f2
    rw [if_neg (by omega)] at HS
    unfold sumB at HS
    generalize (zs.drop (f + 4)).take u = bs at *
    generalize (zs.drop f).take 4 = qs at *
    have S := hide (sumbytes_any (a.map (·.add (f + 4))) u (cap - (f + 4)) bs w.drew RB.out.drew)
    have E := hide (equal_any (a.map (·.add f)) 4 (cap - f) qs (some ⟨w.heap.size + 1, 0, none⟩) 4 (quad (moreS 0 bs)) ((w.drew.alloc tbl).alloc (four_ (moreS 0 bs))) ((RQ.out.drew.alloc tbl).alloc _) (by
      have := four_row (w.drew.alloc tbl) (moreS 0 bs)
      rw [World.size_alloc] at this
      exact this))
    have HB : Hid (∀ q, Below w.heap.size w (((w.drew.alloc tbl).alloc (four_ (moreS 0 bs))).drewN q)) := fun q => by
      have h : Below w.heap.size w ((w.drew.alloc tbl).alloc (four_ (moreS 0 bs))) := bel_al (bel_al (Below.refl w.heap.size w).drew (Nat.le_refl _) _) (Nat.le_refl _) _
      exact ⟨h.os, h.tape, h.output, h.size, h.block⟩
    have HQ : Hid (∀ eb, decide (qs = quad (moreS 0 bs)) = eb → findE a cap (findS zs at') = if eb then .returned (.tuple #[.slice (a.map (·.add (f + 4))) u (cap - (f + 4)), .int .i64 ((f : Int) + 4 + u), .bool true]) else .returned (.tuple #[.slice none 0 0, .int .i64 0, .bool false])) := by
      rintro eb rfl
      rw [HS.out]
      by_cases e : qs = quad (moreS 0 bs)
      · rw [if_pos e, decide_eq_true e]; rfl
      · rw [if_neg e, decide_eq_false e]; rfl
    clear HS RB RQ HR HZ
    obtain ⟨eb, heb⟩ : ∃ eb, decide (qs = quad (moreS 0 bs)) = eb := ⟨_, rfl⟩
    rw [heb] at E
    have HE := hide (HQ.out eb heb)
    clear heb HQ
    generalize (a.map (·.add (f + 4))) = ab at *
    generalize (a.map (·.add f)) = aq at *
    obtain ⟨cb, hcb⟩ : ∃ cb, cap - (f + 4) = cb := ⟨_, rfl⟩
    obtain ⟨cq, hcq⟩ : ∃ cq, cap - f = cq := ⟨_, rfl⟩
    rw [hcb] at f1 S HE
    rw [hcq] at f2 E
    clear hcb hcq
    have ht : True := trivial
    have v1 : (1 : Int) ≤ u := by omega
    generalize (u : Int) = v at *
    clear c3 c1 c2 hl hc
    go_enter Try.func34, Try.ntmps34
    go_wp2_with fail
    refine G.out.mono ?_
    rintro e w' ⟨rfl, rfl⟩
    go_upto_region 10 with fail
    refine wp_region_held_drew (S := fun _ => True) (by kernel_rfl) trivial (fun hHeld => ?_)
    refine held_take (i := 0) (d := (some 49)) (v := ?_) rfl rfl (by kernel_rfl) (by kernel_rfl) (by kernel_rfl) (fun _ _ _ h => h) (Or.inl ⟨by rfl, ?_⟩) (by first | assumption | rfl) ?_
    rotate_left 1
    · (intro w hSw; (try dsimp only at hSw); (try subst hSw); go_simp; try with_reducible rfl)
    simp only [Act.put, List.setIfInBounds_toArray, List.set_cons_zero, List.set_cons_succ]
    refine held_take (i := 1) (d := (some 50)) (v := ?_) rfl rfl (by kernel_rfl) (by kernel_rfl) (by kernel_rfl) (fun _ _ _ h => h) (Or.inl ⟨by rfl, ?_⟩) (by first | assumption | rfl) ?_
    rotate_left 1
    · (intro w hSw; (try dsimp only at hSw); (try subst hSw); go_simp; try with_reducible rfl)
    simp only [Act.put, List.setIfInBounds_toArray, List.set_cons_zero, List.set_cons_succ]
    refine held_take (i := 2) (d := (some 51)) (v := ?_) rfl rfl (by kernel_rfl) (by kernel_rfl) (by kernel_rfl) (fun _ _ _ h => h) (Or.inl ⟨by rfl, ?_⟩) (by first | assumption | rfl) ?_
    rotate_left 1
    · (intro w hSw; (try dsimp only at hSw); (try subst hSw); go_simp; try with_reducible rfl)
    simp only [Act.put, List.setIfInBounds_toArray, List.set_cons_zero, List.set_cons_succ]
    refine held_take (i := 3) (d := (some 52)) (v := ?_) rfl rfl (by kernel_rfl) (by kernel_rfl) (by kernel_rfl) (fun _ _ _ h => h) (Or.inl ⟨by rfl, ?_⟩) (by first | assumption | rfl) ?_
    rotate_left 1
    · (intro w hSw; (try dsimp only at hSw); (try subst hSw); go_simp; try with_reducible rfl)
    simp only [Act.put, List.setIfInBounds_toArray, List.set_cons_zero, List.set_cons_succ]
    refine held_take (i := 4) (d := (some 53)) (v := ?_) rfl rfl (by kernel_rfl) (by kernel_rfl) (by kernel_rfl) (fun _ _ _ h => h) (Or.inl ⟨by rfl, ?_⟩) (by first | assumption | rfl) ?_
    rotate_left 1
    · (intro w hSw; (try dsimp only at hSw); (try subst hSw); go_simp; try with_reducible rfl)
    simp only [Act.put, List.setIfInBounds_toArray, List.set_cons_zero, List.set_cons_succ]
    refine held_next (i := 5) (by kernel_rfl) rfl (by rfl) (fun K hK => ?_)
    go_simp
    refine S.out.mono ?_
    rintro e x1 ⟨rfl, rfl⟩
    go_wp2_with fail
    refine hK.out _ _ trivial ?_
    clear hK S
    refine held_next (i := 6) (by kernel_rfl) rfl (by rfl) (fun K hK => ?_)
    go_simp
    refine E.out.mono ?_
    rintro e x2 ⟨rfl, q, rfl⟩
    have HBq := hide (HB.out q)
    clear HB E
    generalize ((w'.drew.alloc tbl).alloc (four_ (moreS 0 bs))).drewN q = W at *
    go_wp2_with fail
    refine hK.out _ _ trivial ?_
    clear hK
    refine held_take (i := 7) (d := (some 56)) (v := ?_) rfl rfl (by kernel_rfl) (by kernel_rfl) (by kernel_rfl) (fun _ _ _ h => h) (Or.inl ⟨by rfl, ?_⟩) (by first | assumption | rfl) ?_
    rotate_left 1
    · (intro w hSw; (try dsimp only at hSw); (try subst hSw); go_simp; try with_reducible rfl)
    simp only [Act.put, List.setIfInBounds_toArray, List.set_cons_zero, List.set_cons_succ]
    refine wpAnyH_done (by kernel_rfl) ?_ _
    cases eb with
    | true =>
      go_wp2
      go_ret3
      exact ⟨HE.out.symm, HBq⟩
    | false =>
      go_wp2
      go_ret3
      exact ⟨HE.out.symm, HBq⟩

/-- What Get answers, but for the body. -/
def getFP (zs : List Int) (n : Nat) (at' : Int) (base : Nat) (w' : World) (e : Ending) : Prop :=
  if at' < 0 ∨ (n : Int) < at' then e = .returned (.tuple #[.slice none 0 0, .int .i64 0, .int .i64 1])
  else if at' = n then e = .returned (.tuple #[.slice none 0 0, .int .i64 0, .int .i64 3])
  else match findS zs at' with
    | none => e = .returned (.tuple #[.slice none 0 0, .int .i64 0, .int .i64 4])
    | some p => ∃ a' cap', e = .returned (.tuple #[.slice a' p.2 cap', .int .i64 ((p.1 + p.2 : Nat) : Int), .int .i64 0]) ∧ Mine w' base a' p.2 cap' ((zs.drop p.1).take p.2)

set_option maxHeartbeats 2000000 in
set_option maxRecDepth 100000 in
theorem getframe_any (at' : Int) (a : Option Addr) (n cap : Nat) (zs : List Int) (w : World) (ha : (Lit.int .i64 at').wf = true) (hc : n ≤ cap) (hr : Row .u8 w a n zs) :
    Calls Try.prog 18 #[.slice a n cap, .int .i64 at'] w fun e w' => getFP zs n at' w.heap.size w' e ∧ Below w.heap.size w w' := by
  have hl := hr.1
  have hn := hr.2.1
  have HZ : Hid (Bytes8 zs) := hr.bytes
  have HR := hide hr
  have F := hide (find_any at' a n cap zs w ha hc hr)
  clear hr ha
  by_cases c1 : at' < 0
  · have HE : Hid (∀ w' e, e = .returned (.tuple #[.slice none 0 0, .int .i64 0, .int .i64 1]) → getFP zs n at' w.heap.size w' e) := by
      rintro w' e rfl; unfold getFP; rw [if_pos (Or.inl c1)]
    go_enter Try.func18, Try.ntmps18
    go_wp2
    go_ret3
    exact ⟨HE.out _ _ rfl, Below.refl _ _⟩
  by_cases c2 : (n : Int) < at'
  · have HE : Hid (∀ w' e, e = .returned (.tuple #[.slice none 0 0, .int .i64 0, .int .i64 1]) → getFP zs n at' w.heap.size w' e) := by
      rintro w' e rfl; unfold getFP; rw [if_pos (Or.inr c2)]
    go_enter Try.func18, Try.ntmps18
    go_wp2
    go_ret3
    exact ⟨HE.out _ _ rfl, Below.refl _ _⟩
  by_cases c3 : at' = n
  · have HE : Hid (∀ w' e, e = .returned (.tuple #[.slice none 0 0, .int .i64 0, .int .i64 3]) → getFP zs n at' w.heap.size w' e) := by
      rintro w' e rfl; unfold getFP; rw [if_neg (by omega), if_pos c3]
    have c4 : (at' == (n : Int)) = true := by simp [c3]
    clear c3
    go_enter Try.func18, Try.ntmps18
    go_wp2
    go_ret3
    exact ⟨HE.out _ _ rfl, Below.refl _ _⟩
  have c4 : (at' == (n : Int)) = false := by simp [c3]
  have HG : Hid (getFP zs n at' = fun base w' e => match findS zs at' with
    | none => e = .returned (.tuple #[.slice none 0 0, .int .i64 0, .int .i64 4])
    | some p => ∃ a' cap', e = .returned (.tuple #[.slice a' p.2 cap', .int .i64 ((p.1 + p.2 : Nat) : Int), .int .i64 0]) ∧ Mine w' base a' p.2 cap' ((zs.drop p.1).take p.2)) := by
    funext base w' e
    unfold getFP; rw [if_neg (by omega), if_neg c3]
  clear c3
  cases hf : findS zs at' with
  | none =>
    rw [hf] at F
    simp only [findE] at F
    have HE : Hid (∀ w' e, e = .returned (.tuple #[.slice none 0 0, .int .i64 0, .int .i64 4]) → getFP zs n at' w.heap.size w' e) := by
      rintro w' e rfl; rw [HG.out]; simp only [hf]
    clear hf HG
    go_enter Try.func18, Try.ntmps18
    go_wp2_with fail
    refine F.out.mono ?_
    rintro e w1 ⟨rfl, k1⟩
    go_wp2
    go_ret3
    exact ⟨HE.out _ _ rfl, k1⟩
  | some p =>
    obtain ⟨st, v⟩ := p
    obtain ⟨h1, h2, h3, _⟩ := findS_some HZ.out hf
    rw [hl] at h3
    rw [hf] at F
    simp only [findE] at F
    have RB := hide (HR.out.mid hc st v h1 h3)
    have HE : Hid (∀ w' e a' cap', e = .returned (.tuple #[.slice a' v cap', .int .i64 ((st + v : Nat) : Int), .int .i64 0]) → Mine w' w.heap.size a' v cap' ((zs.drop st).take v) → getFP zs n at' w.heap.size w' e) := by
      intro w' e a' cap' he ho; rw [HG.out]; simp only [hf]; exact ⟨a', cap', he, ho⟩
    clear hf HG HR HZ
    generalize (zs.drop st).take v = bs at *
    generalize (a.map (·.add st)) = ab at *
    generalize cap - st = cb at *
    generalize ((st + v : Nat) : Int) = nx at *
    go_enter Try.func18, Try.ntmps18
    go_wp2_with fail
    refine F.out.mono ?_
    rintro e w1 ⟨rfl, k1⟩
    have C := hide (clone_any ab v cb bs w1 (RB.out.below k1 (Nat.le_refl _)) (by omega))
    have K1 := hide k1
    clear k1 F RB
    go_wp2_with fail
    refine C.out.mono ?_
    rintro e w2 ⟨a2, c2, rfl, o2, k2⟩
    have O2 : Hid (Mine w2 w.heap.size a2 v c2 bs) := o2.mono K1.out.size
    have K2 : Hid (Below w.heap.size w w2) := bel_to K1.out (Nat.le_refl _) k2
    clear o2 k2 C
    go_wp2
    go_ret3
    exact ⟨HE.out _ _ a2 c2 rfl O2, K2⟩

theorem getframe_some (at' : Int) (a : Option Addr) (n cap : Nat) (zs : List Int) (w : World) (ha : (Lit.int .i64 at').wf = true) (hc : n ≤ cap) (hr : Row .u8 w a n zs) (st v : Nat) (hf : findS zs at' = some (st, v)) :
    Calls Try.prog 18 #[.slice a n cap, .int .i64 at'] w fun e w' => ∃ a' cap', e = .returned (.tuple #[.slice a' v cap', .int .i64 ((st + v : Nat) : Int), .int .i64 0]) ∧ Mine w' w.heap.size a' v cap' ((zs.drop st).take v) ∧ Below w.heap.size w w' := by
  refine (getframe_any at' a n cap zs w ha hc hr).mono ?_
  rintro e w' ⟨h, hb⟩
  have ho : ¬ (at' < 0 ∨ (zs.length : Int) ≤ at') := fun h' => by rw [findS_out h'] at hf; simp at hf
  rw [hr.1] at ho
  unfold getFP at h
  rw [if_neg (by omega), if_neg (by omega), hf] at h
  obtain ⟨a', cap', h1, h2⟩ := h
  exact ⟨a', cap', h1, h2, hb⟩
end Go.Proofs.Ytbpmmeagpefglaa
