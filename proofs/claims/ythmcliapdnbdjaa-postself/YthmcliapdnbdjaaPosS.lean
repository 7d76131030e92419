/-
  Rising lists by the document (put, Less, Most): contracts, for every world.
  Conditions: the slices show their numbers; at most so many as each theorem says.
-/
import Derived.Test.YthmcliapdnbdjaaPosR
import Derived.Deep.RegionHeld3
import Derived.Deep.DeepCutAuto
import Derived.Deep.CutBlock
namespace Go.Proofs.Ythmcliapdnbdjaa
open Go.RowKit
set_option maxRecDepth 20000

theorem slice_toI (a : Option Addr) (n cap k : Nat) (hk : k ≤ cap) (w : World) :
    (Instr.slice 22 (.slice a n cap) none (some (.int .i64 (k : Int))) none).run Try.prog w = .ok (.slice a k cap) w := by
  rw [run_slice_h (P := Try.prog) w 22 a n cap Try.underlying22 .i64 (k : Int) (by omega) (by omega)]
  have hs : (sizeOf (Try.prog.elem 22)).run Try.prog w = .ok 1 w := by kernel_rfl
  rw [hs]
  simp only [Result.andThen, sliced, Int.toNat_natCast, Nat.zero_mul, Nat.sub_zero]
  cases a with
  | none => simp
  | some x => simp [Addr.add]
theorem slice_fromI (a : Option Addr) (n cap k : Nat) (hk : k ≤ n) (w : World) :
    (Instr.slice 22 (.slice a n cap) (some (.int .i64 (k : Int))) none none).run Try.prog w = .ok (.slice (if cap = k then a else a.map (·.add k)) (n - k) (cap - k)) w := by
  rw [run_slice_l (P := Try.prog) w 22 a n cap Try.underlying22 .i64 (k : Int) (by omega) (by omega)]
  have hs : (sizeOf (Try.prog.elem 22)).run Try.prog w = .ok 1 w := by kernel_rfl
  rw [hs]
  simp only [Result.andThen, sliced, Int.toNat_natCast, Nat.mul_one]
theorem insI_mem {v : Int} {l : List Int} (hu : upI l) (h : v ∈ l) : insI v l = l := upI_ext (upI_insI hu) hu (fun x => by
  rw [mem_insI]
  exact ⟨fun q => q.elim (fun e => e ▸ h) id, Or.inr⟩)
theorem insI_cut {v : Int} {l : List Int} {k : Nat} (hu : upI l) (h1 : ∀ x ∈ l.take k, x < v) (h2 : ∀ x ∈ l.drop k, v < x) : l.take k ++ [v] ++ l.drop k = insI v l := by
  refine upI_ext ?_ (upI_insI hu) (fun x => ?_)
  · have hu' : upI (l.take k ++ l.drop k) := by rw [List.take_append_drop]; exact hu
    unfold upI at hu' ⊢
    rw [List.pairwise_append] at hu'
    rw [List.pairwise_append, List.pairwise_append]
    obtain ⟨p1, p2, p3⟩ := hu'
    refine ⟨⟨p1, by simp, fun x hx y hy => ?_⟩, p2, fun x hx y hy => ?_⟩
    · simp at hy
      rw [hy]
      exact h1 x hx
    · rcases List.mem_append.1 hx with hx | hx
      · exact p3 x hx y hy
      · simp at hx
        rw [hx]
        exact h2 y hy
  · rw [mem_insI, List.append_assoc, List.mem_append, List.mem_append]
    have e : x ∈ l ↔ x ∈ l.take k ∨ x ∈ l.drop k := by rw [← List.mem_append, List.take_append_drop]
    rw [e]
    simp only [List.mem_singleton]
    constructor
    · rintro (h | h | h)
      · exact Or.inr (Or.inl h)
      · exact Or.inl h
      · exact Or.inr (Or.inr h)
    · rintro (h | h | h)
      · exact Or.inr (Or.inl h)
      · exact Or.inl h
      · exact Or.inr (Or.inr h)
theorem drop_get {l : List Int} {k : Nat} (h : k < l.length) : l.drop k = l.getD k 0 :: l.drop (k + 1) := by
  rw [List.drop_eq_getElem_cons h, getD_is h]
theorem take_below {v : Int} {l : List Int} {k : Nat} (hu : upI l) (hv : v ∉ l) (hk : k + 1 ≤ l.length) (h : ¬ v < l.getD k 0) : ∀ x ∈ l.take (k + 1), x < v := by
  intro x hx
  have hne : x ≠ v := fun e => hv (e ▸ List.mem_of_mem_take hx)
  rw [take_get (by omega)] at hx
  have hu2 := upI_take (k + 1) hu
  rw [take_get (by omega)] at hu2
  rcases List.mem_append.1 hx with h1 | h1
  · have := (upI_snoc.1 hu2).2 x h1
    omega
  · rw [List.mem_singleton] at h1
    omega

set_option maxHeartbeats 4000000 in
theorem rputI_any (v : Int) (a : Option Addr) (n cap : Nat) (zs : List Int) (w : World) (hs : SlI w a n cap zs) (hu : upI zs) (hn : n ≤ 100000) (hv : (Lit.int .i64 v).wf = true) :
    Calls Try.prog 28 #[.slice a n cap, .int .i64 v] w fun e w' => ∃ a' n' c', e = .returned (.slice a' n' c') ∧ SlI w' a' n' c' (insI v zs) ∧ Below w.heap.size w w' := by
  obtain ⟨i0, hi, hz0, hz1, hz2⟩ := info_parts Try.infoI
  have HS := hide hs
  have HL := hide hs.1.1
  have HU := hide hu
  have hcap := hs.2.1
  have IN := hide (rin_any v a n cap zs w hs)
  clear hs hu
  by_cases hm : v ∈ zs
  · rw [decide_eq_true hm] at IN
    have HE := hide (insI_mem HU.out hm)
    clear hm
    go_enter Try.func28, Try.ntmps28
    go_wp2_with fail
    with_reducible refine IN.out.mono ?_
    rintro e w' ⟨rfl, hw⟩
    rw [hw]
    clear hw
    go_wp2
    go_ret
    rw [HE.out]
    exact ⟨a, n, cap, rfl, HS.out, Below.refl _ _⟩
  · rw [decide_eq_false hm] at IN
    have HM := hide hm
    clear hm
    go_enter Try.func28, Try.ntmps28
    go_wp2_with fail
    with_reducible refine IN.out.mono ?_
    rintro e w' ⟨rfl, hw⟩
    rw [hw]
    clear hw IN
    go_upto_block 0 with fail
    go_cut [5] (fun i wx => ∃ k : Nat, k ≤ n ∧ i = .int .i64 k ∧ Hid (zs.take k ++ [v] ++ zs.drop k = insI v zs) ∧ wx = w)
    case first =>
      go_wp2
      go_loopw [5] (fun i wr => ∃ k : Nat, k ≤ n ∧ i = .int .i64 k ∧ Hid (∀ x ∈ zs.drop k, v < x) ∧ wr = w) (fun i _ => (intOf i).toNat)
      case atStart =>
        refine ⟨n, Nat.le_refl _, rfl, ?_, rfl⟩
        show ∀ x ∈ _, _
        rw [List.drop_of_length_le (by rw [HL.out]; exact Nat.le_refl _)]
        intro x hx
        cases hx
      case round =>
        obtain ⟨k, hk, rfl, HD, rfl⟩ := hrel
        rcases Nat.eq_zero_or_pos k with h0 | hpos
        · subst h0
          have KE : Hid (zs.take 0 ++ [v] ++ zs.drop 0 = insI v zs) := insI_cut HU.out (fun x hx => by simp at hx) HD.out
          clear HD
          go_wp2
          go_meet
          case rel => exact ⟨0, by omega, rfl, KE, rfl⟩
        · obtain ⟨j, rfl⟩ : ∃ j, k = j + 1 := ⟨k - 1, by omega⟩
          obtain ⟨b, off, rfl, g0⟩ := HS.out.at' (i := j) (by omega)
          have i1 : (0 : Int) < ((j + 1 : Nat) : Int) := by omega
          have i3 : (0 : Int) ≤ ((j + 1 : Nat) : Int) - 1 := by omega
          have i4 : ((j + 1 : Nat) : Int) - 1 < (n : Int) := by omega
          have i5 : (((j + 1 : Nat) : Int) - 1).toNat = j := by omega
          have DG := hide (drop_get (l := zs) (k := j) (by rw [HL.out]; omega))
          have TB : Hid (¬ v < zs.getD j 0 → ∀ x ∈ zs.take (j + 1), x < v) := fun h => take_below HU.out HM.out (by rw [HL.out]; omega) h
          generalize zs.getD j 0 = y at *
          by_cases hvy : v < y
          · have HD2 : Hid (∀ x ∈ zs.drop j, v < x) := by
              show ∀ x ∈ _, _
              rw [DG.out]
              intro x hx
              rcases List.mem_cons.1 hx with e | e
              · rw [e]; exact hvy
              · exact HD.out x e
            clear DG TB HD
            go_wp2
            go_roundw
            case rel => exact ⟨j, by omega, by go_num, HD2, trivial⟩
            case measure => simp [intOf]
          · have KE : Hid (zs.take (j + 1) ++ [v] ++ zs.drop (j + 1) = insI v zs) := insI_cut HU.out (TB.out hvy) HD.out
            clear DG TB HD
            go_wp2
            go_meet
            case rel => exact ⟨j + 1, by omega, rfl, KE, rfl⟩
    case rest =>
      obtain ⟨k, hk, rfl, KE, rfl⟩ := hcut
      have st := slice_toI a n cap k (by omega)
      have sf := slice_fromI a n cap k (by omega)
      have RT := hide (HS.out.1.to k hk)
      have RF := hide (HS.out.1.from k hk hcap)
      have CT := hide HS.out.2.2
      have HW0 := hide HS.out.1.2.2.1
      have CF : Hid ((if cap = k then a else a.map (·.add k)) = none → cap - k = 0) := by
        intro h
        split at h
        · omega
        · have : a = none := by cases a with | none => rfl | some x => cases h
          have := CT.out this
          omega
      generalize (if cap = k then a else a.map (·.add k)) = af at *
      have B0 : Hid (Below wc.heap.size wc wc) := Below.refl _ _
      go_wp2_with (at_builtin; refine wpList_append_ints _ rfl _ _ 22 rfl wc.heap.size 3 i0 Try.underlying22 hi hz0 hz1 hz2 none 0 0 [] rfl (own_nil _ _ _ _) a k cap _ rfl RT.out CT.out (by omega) (Nat.le_refl _) ?_)
      intro a2 c2 w2 o2 b2 _
      have O2 := hide o2.alloc
      have B2 := hide b2
      clear o2 b2
      have RV := hide ((one_introw w2 v 3).2 hv)
      go_wp2_with (at_builtin; refine wpList_append_ints _ rfl _ _ 22 rfl wc.heap.size 3 i0 Try.underlying22 hi hz0 hz1 hz2 a2 k c2 _ rfl (O2.out _) (some ⟨w2.heap.size, 0, none⟩) 1 1 [v] rfl RV.out (fun h => by cases h) (by omega) (Nat.le_trans B2.out.size (by simp)) ?_)
      intro a3 c3 w3 o3 b3 _
      have B3 : Hid (Below wc.heap.size wc w3) := (bel_al B2.out (Nat.le_refl _) _).trans b3
      have O3 := hide o3
      have RF3 := hide (RF.out.below B3.out (Nat.le_refl _))
      clear o3 b3 O2 B2 RV RF RT
      go_wp2_with (at_builtin; refine wpList_append_ints _ rfl _ _ 22 rfl wc.heap.size 3 i0 Try.underlying22 hi hz0 hz1 hz2 a3 (k + 1) c3 _ rfl O3.out af (n - k) (cap - k) _ rfl RF3.out CF.out (by omega) B3.out.size ?_)
      intro a4 c4 w4 o4 b4 _
      rw [List.append_cons, KE.out] at o4
      have B4 := hide (B3.out.trans b4)
      have S4 : Hid (SlI w4 a4 (k + 1 + (n - k)) c4 (insI v zs)) := MineI.sl o4 (by omega) (fun z hz => by
        rcases mem_insI.1 hz with e | e
        · rw [e]; exact hv
        · exact HW0.out z e)
      clear o4 b4
      go_wp2
      go_ret
      exact ⟨a4, _, c4, rfl, S4.out, B4.out⟩
/-- Is it not among these? -/
def outB (ys : List Int) (x : Int) : Bool := decide (x ∉ ys)
set_option maxHeartbeats 4000000 in
theorem rless_any (a : Option Addr) (n cap : Nat) (xs : List Int) (b : Option Addr) (m capb : Nat) (ys : List Int) (w : World) (hx : SlI w a n cap xs) (hy : SlI w b m capb ys) (hn : n ≤ 100000) :
    Calls Try.prog 17 #[.slice a n cap, .slice b m capb] w fun e w' => ∃ a' n' c', e = .returned (.slice a' n' c') ∧ SlI w' a' n' c' (lessS xs ys) ∧ Below w.heap.size w w' := by
  obtain ⟨i0, hi, hz0, hz1, hz2⟩ := info_parts Try.infoI
  have HX := hide hx
  have HY := hide hy
  have HL := hide hx.1.1
  have HWF := hide hx.wf
  have R1 := hide (rrises_any a n cap xs w hx)
  have R2 := hide (fun u (hu : Below w.heap.size w u) => rrises_any b m capb ys u (HY.out.below hu (Nat.le_refl _)))
  clear hx hy
  by_cases h1 : upI xs
  · rw [decide_eq_true h1] at R1
    by_cases h2 : upI ys
    · rw [decide_eq_true h2] at R2
      have HE : Hid (lessS xs ys = xs.filter (outB ys)) := by show _ = _; unfold lessS; rw [if_pos ⟨h1, h2⟩]; rfl
      have HPF : Hid (∀ k, ((xs.take k).filter (outB ys)).length ≤ 100000) := fun k => by
        have h1 := List.length_filter_le (outB ys) (xs.take k)
        have h2 := HL.out
        rw [List.length_take] at h1
        omega
      clear h1 h2
      go_enter Try.func17, Try.ntmps17
      go_wp2_with fail
      with_reducible refine R1.out.mono ?_
      rintro e w1 ⟨rfl, b1⟩
      have B1 := hide b1
      clear b1 R1
      go_wp2_with fail
      with_reducible refine (R2.out _ B1.out).mono ?_
      rintro e w2 ⟨rfl, b2⟩
      have B2 := hide (bel_to B1.out (Nat.le_refl _) b2)
      clear b2 R2 B1
      go_wp2
      go_loopw [5, 6] (fun x i wr => ∃ (k : Nat) (ar : Option Addr) (L cr : Nat), k ≤ n ∧ i = .int .i64 k ∧ x = .slice ar L cr ∧ L ≤ 100000 ∧ Hid (MineI wr w.heap.size ar L cr ((xs.take k).filter (outB ys))) ∧ Hid (Below w.heap.size w wr)) (fun _ i _ => n - (intOf i).toNat)
      case atStart => exact ⟨0, none, 0, 0, by omega, rfl, rfl, by omega, own_nil _ _ _ _, B2⟩
      case round =>
        clear B2
        obtain ⟨k, ar, L, cr, hk, rfl, rfl, hL, OW, BW⟩ := hrel
        obtain ⟨u, rfl⟩ : ∃ u, u = wr := ⟨wr, rfl⟩
        by_cases hlt : k < n
        · obtain ⟨x0, o0, rfl, g0⟩ := (HX.out.below BW.out (Nat.le_refl _)).at' hlt
          have TG := hide (take_get (ls := xs) (k := k) (by rw [HL.out]; exact hlt))
          have HV : Hid ((Lit.int .i64 (xs.getD k 0)).wf = true) := HWF.out _ (getD_mem' (by rw [HL.out]; exact hlt))
          have i1 : (0 : Int) ≤ (k : Int) := by omega
          have i2 : (k : Int) < (n : Int) := by omega
          generalize xs.getD k 0 = x at *
          have IN := hide (rin_any x b m capb ys u (HY.out.below BW.out (Nat.le_refl _)))
          cases hin : decide (x ∈ ys) with
          | true =>
            rw [hin] at IN
            have FT : Hid ((xs.take (k + 1)).filter (outB ys) = (xs.take k).filter (outB ys)) := by
              show _ = _
              rw [TG.out, List.filter_append, List.filter_cons, if_neg (by unfold outB; simp [of_decide_eq_true hin]), List.filter_nil, List.append_nil]
            rw [← FT.out] at OW
            clear hin TG FT
            go_wp2_with fail
            with_reducible refine IN.out.mono ?_
            rintro e w' ⟨rfl, hw⟩
            rw [hw]
            clear hw IN
            go_wp2
            go_roundw
            case rel => exact ⟨k + 1, ar, L, cr, by omega, by go_num, rfl, hL, OW, BW⟩
            case measure => simp [intOf]; omega
          | false =>
            rw [hin] at IN
            have FT : Hid ((xs.take (k + 1)).filter (outB ys) = (xs.take k).filter (outB ys) ++ [x]) := by
              show _ = _
              rw [TG.out, List.filter_append, List.filter_cons, if_pos (by unfold outB; simp [of_decide_eq_false hin]), List.filter_nil]
            clear hin TG
            go_wp2_with fail
            with_reducible refine IN.out.mono ?_
            rintro e w' ⟨rfl, hw⟩
            rw [hw]
            clear hw IN
            have RV := hide ((one_introw u x 3).2 HV.out)
            have OA := hide OW.out.alloc
            go_wp2_with (at_builtin; refine wpList_append_ints _ rfl _ _ 22 rfl w.heap.size 3 i0 Try.underlying22 hi hz0 hz1 hz2 ar L cr _ rfl (OA.out _) (some ⟨u.heap.size, 0, none⟩) 1 1 [x] rfl RV.out (fun h => by cases h) (by omega) (Nat.le_trans BW.out.size (by simp)) ?_)
            intro a3 c3 w3 o3 b3 _
            rw [← FT.out] at o3
            have hL3 : L + 1 ≤ 100000 := by rw [← o3.len]; exact HPF.out (k + 1)
            have O3 := hide o3
            have B3 := hide ((bel_al BW.out (Nat.le_refl _) _).trans b3)
            clear o3 b3 OA RV OW BW FT
            go_wp2
            go_roundw
            case rel => exact ⟨k + 1, a3, L + 1, c3, by omega, by go_num, rfl, hL3, O3, B3⟩
            case measure => simp [intOf]; omega
        · have i2 : ¬ (k : Int) < (n : Int) := by omega
          rw [List.take_of_length_le (by rw [HL.out]; omega), ← HE.out] at OW
          have S4 : Hid (SlI u ar L cr (lessS xs ys)) := MineI.sl OW.out (by omega) (fun z hz => HWF.out z (mem_less.1 hz).2.1)
          go_wp2
          go_ret
          exact ⟨ar, L, cr, rfl, S4.out, BW.out⟩
    · rw [decide_eq_false h2] at R2
      have HE : Hid (lessS xs ys = []) := by show _ = _; unfold lessS; rw [if_neg (fun h => h2 h.2)]
      clear h1 h2
      go_enter Try.func17, Try.ntmps17
      go_wp2_with fail
      with_reducible refine R1.out.mono ?_
      rintro e w1 ⟨rfl, b1⟩
      have B1 := hide b1
      clear b1 R1
      go_wp2_with fail
      with_reducible refine (R2.out _ B1.out).mono ?_
      rintro e w2 ⟨rfl, b2⟩
      have B2 := hide (bel_to B1.out (Nat.le_refl _) b2)
      clear b2 R2 B1
      go_wp2
      go_ret
      rw [HE.out]
      exact ⟨none, 0, 0, rfl, sli_nil _, B2.out⟩
  · rw [decide_eq_false h1] at R1
    have HE : Hid (lessS xs ys = []) := by show _ = _; unfold lessS; rw [if_neg (fun h => h1 h.1)]
    clear h1
    go_enter Try.func17, Try.ntmps17
    go_wp2_with fail
    with_reducible refine R1.out.mono ?_
    rintro e w1 ⟨rfl, b1⟩
    have B1 := hide b1
    clear b1 R1
    go_wp2
    go_ret
    rw [HE.out]
    exact ⟨none, 0, 0, rfl, sli_nil _, B1.out⟩
end Go.Proofs.Ythmcliapdnbdjaa
