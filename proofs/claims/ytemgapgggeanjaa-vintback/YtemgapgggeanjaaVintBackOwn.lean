/-
  What is got of any bytes is put as just these: numbers, numbers with signs, texts, lists that rise; and the bytes stay as they were; the document's examples hold. The call returns true, and its arguments read as they did.
  Conditions: none: every value of the parameters' types.
-/
import Derived.Test.YtemgapgggeanjaaVintE
import Derived.Test.YtemgapgggeanjaaVintF
import Derived.Test.YtemgapgggeanjaaVintV
import Derived.Test.YtemgapgggeanjaaPlace
import Derived.Test.YtemgapgggeanjaaVintR
import Derived.Deep.RegionWith
import Derived.Deep.DrawnRows
import Derived.Deep.CutRange
import Derived.Deep.DeepCutAuto
import Derived.ProofKit
import Derived.OpenShut
import Derived.ShutString
import Derived.ChangeOld
import Derived.SizedLaws
namespace Go.Proofs.Ytemgapgggeanjaa
open Go.RowKit
attribute [local go_sem ↓] Go.wp_at_zero Go.wp_at_succ

/-- Bytes from k to e of a row, which are those that were put. -/
theorem mid_string {w : World} {a : Option Addr} {n cap k e : Nat} {zs us t : List Int} (hr : Row .u8 w a n zs) (hc : n ≤ cap) (hk : k ≤ e) (he : e ≤ n) (hd : zs.drop k = us ++ t) (hl : e = k + us.length) :
    (convert 23 9 (.slice (if cap = k then a else a.map (·.add k)) (e - k) (cap - k))).run Try.prog w = .ok (.string (strOfNums us)) w := by
  have h := row_string (cap := cap - k) ((hr.from k (by omega) hc).to (e - k) (by omega))
  rw [hd, hl, Nat.add_sub_cancel_left, List.take_left] at h
  rw [hl, Nat.add_sub_cancel_left]
  exact h

set_option maxHeartbeats 4000000 in
set_option maxRecDepth 100000 in
theorem walk_back (a : Option Addr) (n cap : Nat) (z : List Int) (v : Int) (w : World) (w0 : IsRow .u8 w a n cap z) (_w1 : (Lit.int .i64 v).wf = true) :
    Calls Try.prog 7 #[.slice a n cap, .int .i64 v] w fun e w' => e = .returned (.bool true) ∧ Below w.heap.size w w' := by
  obtain ⟨hcap, hreach, hnil, hr⟩ := row_of w0
  replace hreach : cap * 1 ≤ 140737488351232 := hreach
  generalize z.take n = zs at hr
  have p1 := Int.emod_nonneg v (b := (n : Int) + 1) (by omega)
  have p2 := Int.emod_lt_of_pos v (b := (n : Int) + 1) (by omega)
  have P := hide (fun w1 => place_any v ((n : Int) + 1) (by omega) (by omega) w1)
  obtain ⟨k, hk⟩ := Int.eq_ofNat_of_zero_le p1
  rw [hk] at P
  rw [hk] at p2
  have hkn : k ≤ n := by omega
  have C := hide (bytes_any a n cap zs w hr hnil (by omega))
  have HZ := hide hr.bytes
  have hwfk : (Lit.int .i64 (k : Int)).wf = true := i64_wf (by omega) (by omega)
  have R := hide hr
  clear hk p1 p2 hr w0 hnil
  go_enter Try.func7, Try.ntmps7
  go_wp2_with fail
  refine (P.out _).mono ?_
  rintro e w1 ⟨rfl, rfl⟩
  go_wp2_with fail
  refine C.out.mono ?_
  rintro e w2 ⟨ac, cc, rfl, h1, b1⟩
  have hcc := h1.capped.1
  have HC1 := hide (h1.row (by omega) (fits_wf HZ.out))
  have HA1 := hide (R.out.below b1 (Nat.le_refl _))
  have B1 := hide b1
  clear h1 b1 P C R
  go_wp2_with fail
  refine (get_var (k : Int) ac n cc zs w2 hwfk hcc HC1.out).mono ?_
  rintro e w3 ⟨u, x, ok, rfl, rfl, hg⟩
  have HG := hide hg
  clear hg
  go_upto_region 4 with fail
  go_cut [49] (fun b wx => b = .bool false ∧ Hid (Below w3.heap.size w3 wx))
  case first =>
    rcases HG.out with ⟨rfl, hg⟩ | ⟨rfl, hg⟩
    · obtain ⟨hw, k', hk', _, hx, hle, t, hd⟩ := getS_some HZ.out hg
      have hkk : k' = k := by omega
      subst hkk
      have hl1 := (putS_len u).1
      have PP := hide (put_str u w3.drew hw)
      clear hw
      have hlz := HC1.out.1
      have h2 : k' + (putS u).length ≤ n := by omega
      have F := hide (fun w' (h : Row .u8 w' a n zs) => mid_string h hcap (e := k' + (putS u).length) (by omega) h2 hd rfl)
      have hsl := slice_mid a n cap k' (k' + (putS u).length) (by omega) (by omega)
      have t1 : ¬ x ≤ (k' : Int) := by omega
      have t2 : ¬ (n : Int) < x := by omega
      rw [← hx] at hsl
      clear hk' hd hg hlz
      generalize k' + (putS u).length - k' = len at F hsl
      generalize (if cap = k' then a else a.map (·.add k')) = am at F hsl
      clear hx h2 hl1
      generalize strOfNums (putS u) = S at F PP
      generalize (putS u).length = L at PP
      refine wp_region_held_drew (S := fun w' => (convert 23 9 (.slice am len (cap - k'))).run Try.prog w' = .ok (.string S) w') (by kernel_rfl) (F.out _ HA1.out.drew) (fun hHeld => ?_)
      refine held_take (i := 0) (d := (some 27)) (v := ?_) rfl rfl (by kernel_rfl) (by kernel_rfl) (by kernel_rfl) (fun _ _ _ h => h) (Or.inl ⟨by rfl, ?_⟩) (by first | assumption | rfl) ?_
      rotate_left 1
      · (intro w hSw; (try dsimp only at hSw); (try subst hSw); go_simp; try with_reducible rfl)
      simp only [Act.put, List.setIfInBounds_toArray, List.set_cons_zero, List.set_cons_succ]
      refine held_take (i := 1) (d := (some 28)) (v := ?_) rfl rfl (by kernel_rfl) (by kernel_rfl) (by kernel_rfl) (fun _ _ _ h => h) (Or.inl ⟨by rfl, ?_⟩) (by first | assumption | rfl) ?_
      rotate_left 1
      · (intro w hSw; (try dsimp only at hSw); (try subst hSw); go_simp; try with_reducible rfl)
      simp only [Act.put, List.setIfInBounds_toArray, List.set_cons_zero, List.set_cons_succ]
      refine held_take (i := 2) (d := (some 29)) (v := ?_) rfl rfl (by kernel_rfl) (by kernel_rfl) (by kernel_rfl) (fun _ _ _ h => h) (Or.inl ⟨by rfl, ?_⟩) (by first | assumption | rfl) ?_
      rotate_left 1
      · (intro w hSw; (try dsimp only at hSw); (try subst hSw); go_simp; try with_reducible rfl)
      simp only [Act.put, List.setIfInBounds_toArray, List.set_cons_zero, List.set_cons_succ]
      refine held_take (i := 3) (d := (some 30)) (v := ?_) rfl rfl (by kernel_rfl) (by kernel_rfl) (by kernel_rfl) (fun _ _ _ h => h) (Or.inl ⟨by rfl, ?_⟩) (by first | assumption | rfl) ?_
      rotate_left 1
      · (intro w hSw; (try dsimp only at hSw); (try subst hSw); go_simp; try with_reducible rfl)
      simp only [Act.put, List.setIfInBounds_toArray, List.set_cons_zero, List.set_cons_succ]
      refine held_take (i := 4) (d := (some 31)) (v := ?_) rfl rfl (by kernel_rfl) (by kernel_rfl) (by kernel_rfl) (fun _ _ _ h => h) (Or.inl ⟨by rfl, ?_⟩) (by first | assumption | rfl) ?_
      rotate_left 1
      · (intro w hSw; (try dsimp only at hSw); (try subst hSw); go_simp; try with_reducible rfl)
      simp only [Act.put, List.setIfInBounds_toArray, List.set_cons_zero, List.set_cons_succ]
      refine held_take (i := 5) (d := (some 32)) (v := ?_) rfl rfl (by kernel_rfl) (by kernel_rfl) (by kernel_rfl) (fun _ _ _ h => h) (Or.inl ⟨by rfl, ?_⟩) (by first | assumption | rfl) ?_
      rotate_left 1
      · (intro w hSw; (try dsimp only at hSw); (try subst hSw); go_simp; try with_reducible rfl)
      simp only [Act.put, List.setIfInBounds_toArray, List.set_cons_zero, List.set_cons_succ]
      refine held_take (i := 6) (d := (some 33)) (v := ?_) rfl rfl (by kernel_rfl) (by kernel_rfl) (by kernel_rfl) (fun _ _ _ h => h) (Or.inl ⟨by rfl, ?_⟩) (by first | assumption | rfl) ?_
      rotate_left 1
      · (intro w hSw; (try dsimp only at hSw); (try subst hSw); go_simp; try with_reducible rfl)
      simp only [Act.put, List.setIfInBounds_toArray, List.set_cons_zero, List.set_cons_succ]
      refine held_take (i := 7) (d := (some 34)) (v := ?_) rfl rfl (by kernel_rfl) (by kernel_rfl) (by kernel_rfl) (fun _ _ _ h => h) (Or.inl ⟨by rfl, ?_⟩) (by first | assumption | rfl) ?_
      rotate_left 1
      · (intro w hSw; (try dsimp only at hSw); (try subst hSw); go_simp; try with_reducible rfl)
      simp only [Act.put, List.setIfInBounds_toArray, List.set_cons_zero, List.set_cons_succ]
      refine held_take (i := 8) (d := (some 35)) (v := ?_) rfl rfl (by kernel_rfl) (by kernel_rfl) (by kernel_rfl) (fun _ _ _ h => h) (Or.inl ⟨by rfl, ?_⟩) (by first | assumption | rfl) ?_
      rotate_left 1
      · (intro w hSw; (try dsimp only at hSw); (try subst hSw); go_simp; try with_reducible rfl)
      simp only [Act.put, List.setIfInBounds_toArray, List.set_cons_zero, List.set_cons_succ]
      refine held_take (i := 9) (d := (some 36)) (v := ?_) rfl rfl (by kernel_rfl) (by kernel_rfl) (by kernel_rfl) (fun _ _ _ h => h) (Or.inl ⟨by rfl, ?_⟩) (by first | assumption | rfl) ?_
      rotate_left 1
      · (intro w hSw; (try dsimp only at hSw); (try subst hSw); go_simp; try with_reducible rfl)
      simp only [Act.put, List.setIfInBounds_toArray, List.set_cons_zero, List.set_cons_succ]
      refine held_take (i := 10) (d := (some 37)) (v := ?_) rfl rfl (by kernel_rfl) (by kernel_rfl) (by kernel_rfl) (fun _ _ _ h => h) (Or.inl ⟨by rfl, ?_⟩) (by first | assumption | rfl) ?_
      rotate_left 1
      · (intro w hSw; (try dsimp only at hSw); (try subst hSw); go_simp; try with_reducible rfl)
      simp only [Act.put, List.setIfInBounds_toArray, List.set_cons_zero, List.set_cons_succ]
      refine held_take (i := 11) (d := (some 38)) (v := ?_) rfl rfl (by kernel_rfl) (by kernel_rfl) (by kernel_rfl) (fun _ _ _ h => h) (Or.inl ⟨by rfl, ?_⟩) (by first | assumption | rfl) ?_
      rotate_left 1
      · (intro w hSw; (try dsimp only at hSw); (try subst hSw); go_simp; try with_reducible rfl)
      simp only [Act.put, List.setIfInBounds_toArray, List.set_cons_zero, List.set_cons_succ]
      refine held_take (i := 12) (d := (some 39)) (v := ?_) rfl rfl (by kernel_rfl) (by kernel_rfl) (by kernel_rfl) (fun _ _ _ h => h) (Or.inl ⟨by rfl, ?_⟩) (by first | assumption | rfl) ?_
      rotate_left 1
      · (intro w hSw; (try dsimp only at hSw); (try subst hSw); go_simp; try with_reducible rfl)
      simp only [Act.put, List.setIfInBounds_toArray, List.set_cons_zero, List.set_cons_succ]
      refine held_take (i := 15) (d := (some 42)) (v := ?_) rfl rfl (by kernel_rfl) (by kernel_rfl) (by kernel_rfl) (fun _ _ _ h => h) (Or.inl ⟨by rfl, ?_⟩) (by first | assumption | rfl) ?_
      rotate_left 1
      · (intro w hSw; (try dsimp only at hSw); (try subst hSw); go_simp; try with_reducible rfl)
      simp only [Act.put, List.setIfInBounds_toArray, List.set_cons_zero, List.set_cons_succ]
      refine held_take (i := 16) (d := (some 43)) (v := ?_) rfl rfl (by kernel_rfl) (by kernel_rfl) (by kernel_rfl) (fun _ _ _ h => h) (Or.inl ⟨by rfl, ?_⟩) (by first | assumption | rfl) ?_
      rotate_left 1
      · (intro w hSw; (try dsimp only at hSw); (try subst hSw); go_simp; try with_reducible rfl)
      simp only [Act.put, List.setIfInBounds_toArray, List.set_cons_zero, List.set_cons_succ]
      refine held_take (i := 17) (d := (some 44)) (v := ?_) rfl rfl (by kernel_rfl) (by kernel_rfl) (by kernel_rfl) (fun _ _ _ h => h) (Or.inl ⟨by rfl, ?_⟩) (by first | assumption | rfl) ?_
      rotate_left 1
      · (intro w hSw; (try dsimp only at hSw); (try subst hSw); go_simp; try with_reducible rfl)
      simp only [Act.put, List.setIfInBounds_toArray, List.set_cons_zero, List.set_cons_succ]
      refine held_take (i := 18) (d := (some 45)) (v := ?_) rfl rfl (by kernel_rfl) (by kernel_rfl) (by kernel_rfl) (fun _ _ _ h => h) (Or.inl ⟨by rfl, ?_⟩) (by first | assumption | rfl) ?_
      rotate_left 1
      · (intro w hSw; (try dsimp only at hSw); (try subst hSw); go_simp; try with_reducible rfl)
      simp only [Act.put, List.setIfInBounds_toArray, List.set_cons_zero, List.set_cons_succ]
      refine held_take (i := 19) (d := (some 46)) (v := ?_) rfl rfl (by kernel_rfl) (by kernel_rfl) (by kernel_rfl) (fun _ _ _ h => h) (Or.inl ⟨by rfl, ?_⟩) (by first | assumption | rfl) ?_
      rotate_left 1
      · (intro w hSw; (try dsimp only at hSw); (try subst hSw); go_simp; try with_reducible rfl)
      simp only [Act.put, List.setIfInBounds_toArray, List.set_cons_zero, List.set_cons_succ]
      refine held_call (i := 13) (by kernel_rfl) rfl (by rfl) (fun K hK => ?_)
      go_simp
      refine PP.out.mono ?_
      rintro e w' ⟨ap, cp, rfl, hst, hbe⟩
      have HBE := hide hbe
      have HS := hide (F.out w' (HA1.out.drew.below hbe (Nat.le_refl _)))
      clear hbe F PP hHeld
      go_wp2_with fail
      refine hK.out _ _ HS.out ?_
      refine held_take (i := 14) (d := (some 41)) (v := ?_) rfl rfl (by kernel_rfl) (by kernel_rfl) (by kernel_rfl) (fun _ _ _ h => h) (Or.inl ⟨by rfl, ?_⟩) (by first | assumption | rfl) ?_
      rotate_left 1
      · (intro w hSw; (try dsimp only at hSw); (try subst hSw); go_simp; try with_reducible rfl)
      simp only [Act.put, List.setIfInBounds_toArray, List.set_cons_zero, List.set_cons_succ]
      refine held_take (i := 20) (d := (some 47)) (v := ?_) rfl rfl (by kernel_rfl) (by kernel_rfl) (by kernel_rfl) (fun _ _ _ h => h) (Or.inl ⟨by rfl, ?_⟩) (by first | assumption | rfl) ?_
      rotate_left 1
      · (intro w hSw; (try dsimp only at hSw); (try subst hSw); go_simp; try with_reducible rfl)
      simp only [Act.put, List.setIfInBounds_toArray, List.set_cons_zero, List.set_cons_succ]
      refine held_take (i := 21) (d := (some 48)) (v := ?_) rfl rfl (by kernel_rfl) (by kernel_rfl) (by kernel_rfl) (fun _ _ _ h => h) (Or.inl ⟨by rfl, ?_⟩) (by first | assumption | rfl) ?_
      rotate_left 1
      · (intro w hSw; (try dsimp only at hSw); (try subst hSw); go_simp; try with_reducible rfl)
      simp only [Act.put, List.setIfInBounds_toArray, List.set_cons_zero, List.set_cons_succ]
      refine held_take (i := 22) (d := (some 49)) (v := ?_) rfl rfl (by kernel_rfl) (by kernel_rfl) (by kernel_rfl) (fun _ _ _ h => h) (Or.inl ⟨by rfl, ?_⟩) (by first | assumption | rfl) ?_
      rotate_left 1
      · (intro w hSw; (try dsimp only at hSw); (try subst hSw); go_simp; try with_reducible rfl)
      simp only [Act.put, List.setIfInBounds_toArray, List.set_cons_zero, List.set_cons_succ]
      refine wpAnyH_done (by kernel_rfl) ?_ _
      go_wp2_with fail
      go_meet
      case rel => exact ⟨rfl, bel_to ((Below.refl _ _).drew) (Nat.le_refl _) HBE.out⟩
    · clear hg
      go_region
      go_wp2_with fail
      go_meet
      case rel => exact ⟨rfl, (Below.refl _ _).drew⟩
  case rest =>
    obtain ⟨rfl, hb2⟩ := hcut
    have HC2 := hide (HC1.out.below hb2.out (Nat.le_refl _))
    have HA2 := hide (HA1.out.below hb2.out (Nat.le_refl _))
    have B2 : Hid (Below w1.heap.size w1 wc) := bel_to B1.out (Nat.le_refl _) hb2.out
    clear HC1 HA1 B1 HG hb2
    go_wp2_with fail
    refine (getint_var (k : Int) ac n cc zs wc hwfk hcc HC2.out).mono ?_
    rintro e w4 ⟨v2, x, ok2, rfl, rfl, hg⟩
    have HG := hide hg
    clear hg
    go_upto_region 7 with fail
    go_cut [79] (fun b wx => b = .bool false ∧ Hid (Below w4.heap.size w4 wx))
    case first =>
      rcases HG.out with ⟨rfl, u2, rfl, hg⟩ | ⟨rfl, hg⟩
      · obtain ⟨hw, k', hk', _, hx, hle, t, hd⟩ := getS_some HZ.out hg
        have hkk : k' = k := by omega
        subst hkk
        have hl1 := (putS_len u2).1
        have hzi := zag_int hw
        have PP := hide (putint_str (zag u2) w4.drew (i64_wf hzi.1 hzi.2))
        rw [zig_zag hw.1] at PP
        clear hw hzi
        have hlz := HC2.out.1
        have h2 : k' + (putS u2).length ≤ n := by omega
        have F := hide (fun w' (h : Row .u8 w' a n zs) => mid_string h hcap (e := k' + (putS u2).length) (by omega) h2 hd rfl)
        have hsl := slice_mid a n cap k' (k' + (putS u2).length) (by omega) (by omega)
        have t1 : ¬ x ≤ (k' : Int) := by omega
        have t2 : ¬ (n : Int) < x := by omega
        rw [← hx] at hsl
        clear hk' hd hg hlz
        generalize k' + (putS u2).length - k' = len at F hsl
        generalize (if cap = k' then a else a.map (·.add k')) = am at F hsl
        clear hx h2 hl1
        generalize strOfNums (putS u2) = S at F PP
        generalize (putS u2).length = L at PP
        refine wp_region_held_drew (S := fun w' => (convert 23 9 (.slice am len (cap - k'))).run Try.prog w' = .ok (.string S) w') (by kernel_rfl) (F.out _ HA2.out.drew) (fun hHeld => ?_)
        refine held_take (i := 0) (d := (some 57)) (v := ?_) rfl rfl (by kernel_rfl) (by kernel_rfl) (by kernel_rfl) (fun _ _ _ h => h) (Or.inl ⟨by rfl, ?_⟩) (by first | assumption | rfl) ?_
        rotate_left 1
        · (intro w hSw; (try dsimp only at hSw); (try subst hSw); go_simp; try with_reducible rfl)
        simp only [Act.put, List.setIfInBounds_toArray, List.set_cons_zero, List.set_cons_succ]
        refine held_take (i := 1) (d := (some 58)) (v := ?_) rfl rfl (by kernel_rfl) (by kernel_rfl) (by kernel_rfl) (fun _ _ _ h => h) (Or.inl ⟨by rfl, ?_⟩) (by first | assumption | rfl) ?_
        rotate_left 1
        · (intro w hSw; (try dsimp only at hSw); (try subst hSw); go_simp; try with_reducible rfl)
        simp only [Act.put, List.setIfInBounds_toArray, List.set_cons_zero, List.set_cons_succ]
        refine held_take (i := 2) (d := (some 59)) (v := ?_) rfl rfl (by kernel_rfl) (by kernel_rfl) (by kernel_rfl) (fun _ _ _ h => h) (Or.inl ⟨by rfl, ?_⟩) (by first | assumption | rfl) ?_
        rotate_left 1
        · (intro w hSw; (try dsimp only at hSw); (try subst hSw); go_simp; try with_reducible rfl)
        simp only [Act.put, List.setIfInBounds_toArray, List.set_cons_zero, List.set_cons_succ]
        refine held_take (i := 3) (d := (some 60)) (v := ?_) rfl rfl (by kernel_rfl) (by kernel_rfl) (by kernel_rfl) (fun _ _ _ h => h) (Or.inl ⟨by rfl, ?_⟩) (by first | assumption | rfl) ?_
        rotate_left 1
        · (intro w hSw; (try dsimp only at hSw); (try subst hSw); go_simp; try with_reducible rfl)
        simp only [Act.put, List.setIfInBounds_toArray, List.set_cons_zero, List.set_cons_succ]
        refine held_take (i := 4) (d := (some 61)) (v := ?_) rfl rfl (by kernel_rfl) (by kernel_rfl) (by kernel_rfl) (fun _ _ _ h => h) (Or.inl ⟨by rfl, ?_⟩) (by first | assumption | rfl) ?_
        rotate_left 1
        · (intro w hSw; (try dsimp only at hSw); (try subst hSw); go_simp; try with_reducible rfl)
        simp only [Act.put, List.setIfInBounds_toArray, List.set_cons_zero, List.set_cons_succ]
        refine held_take (i := 5) (d := (some 62)) (v := ?_) rfl rfl (by kernel_rfl) (by kernel_rfl) (by kernel_rfl) (fun _ _ _ h => h) (Or.inl ⟨by rfl, ?_⟩) (by first | assumption | rfl) ?_
        rotate_left 1
        · (intro w hSw; (try dsimp only at hSw); (try subst hSw); go_simp; try with_reducible rfl)
        simp only [Act.put, List.setIfInBounds_toArray, List.set_cons_zero, List.set_cons_succ]
        refine held_take (i := 6) (d := (some 63)) (v := ?_) rfl rfl (by kernel_rfl) (by kernel_rfl) (by kernel_rfl) (fun _ _ _ h => h) (Or.inl ⟨by rfl, ?_⟩) (by first | assumption | rfl) ?_
        rotate_left 1
        · (intro w hSw; (try dsimp only at hSw); (try subst hSw); go_simp; try with_reducible rfl)
        simp only [Act.put, List.setIfInBounds_toArray, List.set_cons_zero, List.set_cons_succ]
        refine held_take (i := 7) (d := (some 64)) (v := ?_) rfl rfl (by kernel_rfl) (by kernel_rfl) (by kernel_rfl) (fun _ _ _ h => h) (Or.inl ⟨by rfl, ?_⟩) (by first | assumption | rfl) ?_
        rotate_left 1
        · (intro w hSw; (try dsimp only at hSw); (try subst hSw); go_simp; try with_reducible rfl)
        simp only [Act.put, List.setIfInBounds_toArray, List.set_cons_zero, List.set_cons_succ]
        refine held_take (i := 8) (d := (some 65)) (v := ?_) rfl rfl (by kernel_rfl) (by kernel_rfl) (by kernel_rfl) (fun _ _ _ h => h) (Or.inl ⟨by rfl, ?_⟩) (by first | assumption | rfl) ?_
        rotate_left 1
        · (intro w hSw; (try dsimp only at hSw); (try subst hSw); go_simp; try with_reducible rfl)
        simp only [Act.put, List.setIfInBounds_toArray, List.set_cons_zero, List.set_cons_succ]
        refine held_take (i := 9) (d := (some 66)) (v := ?_) rfl rfl (by kernel_rfl) (by kernel_rfl) (by kernel_rfl) (fun _ _ _ h => h) (Or.inl ⟨by rfl, ?_⟩) (by first | assumption | rfl) ?_
        rotate_left 1
        · (intro w hSw; (try dsimp only at hSw); (try subst hSw); go_simp; try with_reducible rfl)
        simp only [Act.put, List.setIfInBounds_toArray, List.set_cons_zero, List.set_cons_succ]
        refine held_take (i := 10) (d := (some 67)) (v := ?_) rfl rfl (by kernel_rfl) (by kernel_rfl) (by kernel_rfl) (fun _ _ _ h => h) (Or.inl ⟨by rfl, ?_⟩) (by first | assumption | rfl) ?_
        rotate_left 1
        · (intro w hSw; (try dsimp only at hSw); (try subst hSw); go_simp; try with_reducible rfl)
        simp only [Act.put, List.setIfInBounds_toArray, List.set_cons_zero, List.set_cons_succ]
        refine held_take (i := 11) (d := (some 68)) (v := ?_) rfl rfl (by kernel_rfl) (by kernel_rfl) (by kernel_rfl) (fun _ _ _ h => h) (Or.inl ⟨by rfl, ?_⟩) (by first | assumption | rfl) ?_
        rotate_left 1
        · (intro w hSw; (try dsimp only at hSw); (try subst hSw); go_simp; try with_reducible rfl)
        simp only [Act.put, List.setIfInBounds_toArray, List.set_cons_zero, List.set_cons_succ]
        refine held_take (i := 12) (d := (some 69)) (v := ?_) rfl rfl (by kernel_rfl) (by kernel_rfl) (by kernel_rfl) (fun _ _ _ h => h) (Or.inl ⟨by rfl, ?_⟩) (by first | assumption | rfl) ?_
        rotate_left 1
        · (intro w hSw; (try dsimp only at hSw); (try subst hSw); go_simp; try with_reducible rfl)
        simp only [Act.put, List.setIfInBounds_toArray, List.set_cons_zero, List.set_cons_succ]
        refine held_take (i := 15) (d := (some 72)) (v := ?_) rfl rfl (by kernel_rfl) (by kernel_rfl) (by kernel_rfl) (fun _ _ _ h => h) (Or.inl ⟨by rfl, ?_⟩) (by first | assumption | rfl) ?_
        rotate_left 1
        · (intro w hSw; (try dsimp only at hSw); (try subst hSw); go_simp; try with_reducible rfl)
        simp only [Act.put, List.setIfInBounds_toArray, List.set_cons_zero, List.set_cons_succ]
        refine held_take (i := 16) (d := (some 73)) (v := ?_) rfl rfl (by kernel_rfl) (by kernel_rfl) (by kernel_rfl) (fun _ _ _ h => h) (Or.inl ⟨by rfl, ?_⟩) (by first | assumption | rfl) ?_
        rotate_left 1
        · (intro w hSw; (try dsimp only at hSw); (try subst hSw); go_simp; try with_reducible rfl)
        simp only [Act.put, List.setIfInBounds_toArray, List.set_cons_zero, List.set_cons_succ]
        refine held_take (i := 17) (d := (some 74)) (v := ?_) rfl rfl (by kernel_rfl) (by kernel_rfl) (by kernel_rfl) (fun _ _ _ h => h) (Or.inl ⟨by rfl, ?_⟩) (by first | assumption | rfl) ?_
        rotate_left 1
        · (intro w hSw; (try dsimp only at hSw); (try subst hSw); go_simp; try with_reducible rfl)
        simp only [Act.put, List.setIfInBounds_toArray, List.set_cons_zero, List.set_cons_succ]
        refine held_take (i := 18) (d := (some 75)) (v := ?_) rfl rfl (by kernel_rfl) (by kernel_rfl) (by kernel_rfl) (fun _ _ _ h => h) (Or.inl ⟨by rfl, ?_⟩) (by first | assumption | rfl) ?_
        rotate_left 1
        · (intro w hSw; (try dsimp only at hSw); (try subst hSw); go_simp; try with_reducible rfl)
        simp only [Act.put, List.setIfInBounds_toArray, List.set_cons_zero, List.set_cons_succ]
        refine held_take (i := 19) (d := (some 76)) (v := ?_) rfl rfl (by kernel_rfl) (by kernel_rfl) (by kernel_rfl) (fun _ _ _ h => h) (Or.inl ⟨by rfl, ?_⟩) (by first | assumption | rfl) ?_
        rotate_left 1
        · (intro w hSw; (try dsimp only at hSw); (try subst hSw); go_simp; try with_reducible rfl)
        simp only [Act.put, List.setIfInBounds_toArray, List.set_cons_zero, List.set_cons_succ]
        refine held_call (i := 13) (by kernel_rfl) rfl (by rfl) (fun K hK => ?_)
        go_simp
        refine PP.out.mono ?_
        rintro e w' ⟨ap, cp, rfl, hst, hbe⟩
        have HBE := hide hbe
        have HS := hide (F.out w' (HA2.out.drew.below hbe (Nat.le_refl _)))
        clear hbe F PP hHeld
        go_wp2_with fail
        refine hK.out _ _ HS.out ?_
        refine held_take (i := 14) (d := (some 71)) (v := ?_) rfl rfl (by kernel_rfl) (by kernel_rfl) (by kernel_rfl) (fun _ _ _ h => h) (Or.inl ⟨by rfl, ?_⟩) (by first | assumption | rfl) ?_
        rotate_left 1
        · (intro w hSw; (try dsimp only at hSw); (try subst hSw); go_simp; try with_reducible rfl)
        simp only [Act.put, List.setIfInBounds_toArray, List.set_cons_zero, List.set_cons_succ]
        refine held_take (i := 20) (d := (some 77)) (v := ?_) rfl rfl (by kernel_rfl) (by kernel_rfl) (by kernel_rfl) (fun _ _ _ h => h) (Or.inl ⟨by rfl, ?_⟩) (by first | assumption | rfl) ?_
        rotate_left 1
        · (intro w hSw; (try dsimp only at hSw); (try subst hSw); go_simp; try with_reducible rfl)
        simp only [Act.put, List.setIfInBounds_toArray, List.set_cons_zero, List.set_cons_succ]
        refine held_take (i := 21) (d := (some 78)) (v := ?_) rfl rfl (by kernel_rfl) (by kernel_rfl) (by kernel_rfl) (fun _ _ _ h => h) (Or.inl ⟨by rfl, ?_⟩) (by first | assumption | rfl) ?_
        rotate_left 1
        · (intro w hSw; (try dsimp only at hSw); (try subst hSw); go_simp; try with_reducible rfl)
        simp only [Act.put, List.setIfInBounds_toArray, List.set_cons_zero, List.set_cons_succ]
        refine held_take (i := 22) (d := (some 79)) (v := ?_) rfl rfl (by kernel_rfl) (by kernel_rfl) (by kernel_rfl) (fun _ _ _ h => h) (Or.inl ⟨by rfl, ?_⟩) (by first | assumption | rfl) ?_
        rotate_left 1
        · (intro w hSw; (try dsimp only at hSw); (try subst hSw); go_simp; try with_reducible rfl)
        simp only [Act.put, List.setIfInBounds_toArray, List.set_cons_zero, List.set_cons_succ]
        refine wpAnyH_done (by kernel_rfl) ?_ _
        go_wp2_with fail
        go_meet
        case rel => exact ⟨rfl, bel_to ((Below.refl _ _).drew) (Nat.le_refl _) HBE.out⟩
      · clear hg
        go_region
        go_wp2_with fail
        go_meet
        case rel => exact ⟨rfl, (Below.refl _ _).drew⟩
    case rest =>
      obtain ⟨rfl, hb2⟩ := hcut
      have HC3 := hide (HC2.out.below hb2.out (Nat.le_refl _))
      have HA3 := hide (HA2.out.below hb2.out (Nat.le_refl _))
      have B3 : Hid (Below w1.heap.size w1 wc) := bel_to B2.out (Nat.le_refl _) hb2.out
      clear HC2 HA2 B2 HG hb2
      go_wp2_with fail
      refine (gettext_var (k : Int) 1073741824 ac n cc zs wc hwfk (by decide) hcc HC3.out).mono ?_
      rintro e w5 ⟨s3, x, ok3, rfl, rfl, hg⟩
      have HG := hide hg
      clear hg
      go_upto_region 10 with fail
      go_cut [109] (fun b wx => b = .bool false ∧ Hid (Below w5.heap.size w5 wx))
      case first =>
        rcases HG.out with ⟨rfl, s4, rfl, hg⟩ | ⟨rfl, hg⟩
        · obtain ⟨k', hk', hx0, hx1, t, hd, hx⟩ := textS_back HZ.out hg
          have hkk : k' = k := by omega
          subst hkk
          have hl1 : 1 ≤ (putT s4).length := by omega
          have hs4 : Bytes8 s4 := fun z hz => HZ.out z (List.mem_of_mem_drop (i := k') (by rw [hd]; unfold putT; simp [hz]))
          have hs5 : s4.length ≤ n := by
            have := HC3.out.1
            have h0 : s4.length ≤ (putT s4).length := by unfold putT; rw [List.length_append]; omega
            omega
          have PP := hide (puttext_str s4 w5.drew (by omega) hs4)
          have h20 : k' + (putT s4).length ≤ n := by
            have := HC3.out.1
            omega
          clear hs4 hs5 hx0 hx1
          generalize strOfNums s4 = S4 at *
          have hlz := HC3.out.1
          have h2 : k' + (putT s4).length ≤ n := by omega
          have F := hide (fun w' (h : Row .u8 w' a n zs) => mid_string h hcap (e := k' + (putT s4).length) (by omega) h2 hd rfl)
          have hsl := slice_mid a n cap k' (k' + (putT s4).length) (by omega) (by omega)
          have t1 : ¬ x ≤ (k' : Int) := by omega
          have t2 : ¬ (n : Int) < x := by omega
          rw [← hx] at hsl
          clear hk' hd hg hlz
          generalize k' + (putT s4).length - k' = len at F hsl
          generalize (if cap = k' then a else a.map (·.add k')) = am at F hsl
          clear hx h2 hl1
          generalize strOfNums (putT s4) = S at F PP
          generalize (putT s4).length = L at PP
          refine wp_region_held_drew (S := fun w' => (convert 23 9 (.slice am len (cap - k'))).run Try.prog w' = .ok (.string S) w') (by kernel_rfl) (F.out _ HA3.out.drew) (fun hHeld => ?_)
          refine held_take (i := 0) (d := (some 87)) (v := ?_) rfl rfl (by kernel_rfl) (by kernel_rfl) (by kernel_rfl) (fun _ _ _ h => h) (Or.inl ⟨by rfl, ?_⟩) (by first | assumption | rfl) ?_
          rotate_left 1
          · (intro w hSw; (try dsimp only at hSw); (try subst hSw); go_simp; try with_reducible rfl)
          simp only [Act.put, List.setIfInBounds_toArray, List.set_cons_zero, List.set_cons_succ]
          refine held_take (i := 1) (d := (some 88)) (v := ?_) rfl rfl (by kernel_rfl) (by kernel_rfl) (by kernel_rfl) (fun _ _ _ h => h) (Or.inl ⟨by rfl, ?_⟩) (by first | assumption | rfl) ?_
          rotate_left 1
          · (intro w hSw; (try dsimp only at hSw); (try subst hSw); go_simp; try with_reducible rfl)
          simp only [Act.put, List.setIfInBounds_toArray, List.set_cons_zero, List.set_cons_succ]
          refine held_take (i := 2) (d := (some 89)) (v := ?_) rfl rfl (by kernel_rfl) (by kernel_rfl) (by kernel_rfl) (fun _ _ _ h => h) (Or.inl ⟨by rfl, ?_⟩) (by first | assumption | rfl) ?_
          rotate_left 1
          · (intro w hSw; (try dsimp only at hSw); (try subst hSw); go_simp; try with_reducible rfl)
          simp only [Act.put, List.setIfInBounds_toArray, List.set_cons_zero, List.set_cons_succ]
          refine held_take (i := 3) (d := (some 90)) (v := ?_) rfl rfl (by kernel_rfl) (by kernel_rfl) (by kernel_rfl) (fun _ _ _ h => h) (Or.inl ⟨by rfl, ?_⟩) (by first | assumption | rfl) ?_
          rotate_left 1
          · (intro w hSw; (try dsimp only at hSw); (try subst hSw); go_simp; try with_reducible rfl)
          simp only [Act.put, List.setIfInBounds_toArray, List.set_cons_zero, List.set_cons_succ]
          refine held_take (i := 4) (d := (some 91)) (v := ?_) rfl rfl (by kernel_rfl) (by kernel_rfl) (by kernel_rfl) (fun _ _ _ h => h) (Or.inl ⟨by rfl, ?_⟩) (by first | assumption | rfl) ?_
          rotate_left 1
          · (intro w hSw; (try dsimp only at hSw); (try subst hSw); go_simp; try with_reducible rfl)
          simp only [Act.put, List.setIfInBounds_toArray, List.set_cons_zero, List.set_cons_succ]
          refine held_take (i := 5) (d := (some 92)) (v := ?_) rfl rfl (by kernel_rfl) (by kernel_rfl) (by kernel_rfl) (fun _ _ _ h => h) (Or.inl ⟨by rfl, ?_⟩) (by first | assumption | rfl) ?_
          rotate_left 1
          · (intro w hSw; (try dsimp only at hSw); (try subst hSw); go_simp; try with_reducible rfl)
          simp only [Act.put, List.setIfInBounds_toArray, List.set_cons_zero, List.set_cons_succ]
          refine held_take (i := 6) (d := (some 93)) (v := ?_) rfl rfl (by kernel_rfl) (by kernel_rfl) (by kernel_rfl) (fun _ _ _ h => h) (Or.inl ⟨by rfl, ?_⟩) (by first | assumption | rfl) ?_
          rotate_left 1
          · (intro w hSw; (try dsimp only at hSw); (try subst hSw); go_simp; try with_reducible rfl)
          simp only [Act.put, List.setIfInBounds_toArray, List.set_cons_zero, List.set_cons_succ]
          refine held_take (i := 7) (d := (some 94)) (v := ?_) rfl rfl (by kernel_rfl) (by kernel_rfl) (by kernel_rfl) (fun _ _ _ h => h) (Or.inl ⟨by rfl, ?_⟩) (by first | assumption | rfl) ?_
          rotate_left 1
          · (intro w hSw; (try dsimp only at hSw); (try subst hSw); go_simp; try with_reducible rfl)
          simp only [Act.put, List.setIfInBounds_toArray, List.set_cons_zero, List.set_cons_succ]
          refine held_take (i := 8) (d := (some 95)) (v := ?_) rfl rfl (by kernel_rfl) (by kernel_rfl) (by kernel_rfl) (fun _ _ _ h => h) (Or.inl ⟨by rfl, ?_⟩) (by first | assumption | rfl) ?_
          rotate_left 1
          · (intro w hSw; (try dsimp only at hSw); (try subst hSw); go_simp; try with_reducible rfl)
          simp only [Act.put, List.setIfInBounds_toArray, List.set_cons_zero, List.set_cons_succ]
          refine held_take (i := 9) (d := (some 96)) (v := ?_) rfl rfl (by kernel_rfl) (by kernel_rfl) (by kernel_rfl) (fun _ _ _ h => h) (Or.inl ⟨by rfl, ?_⟩) (by first | assumption | rfl) ?_
          rotate_left 1
          · (intro w hSw; (try dsimp only at hSw); (try subst hSw); go_simp; try with_reducible rfl)
          simp only [Act.put, List.setIfInBounds_toArray, List.set_cons_zero, List.set_cons_succ]
          refine held_take (i := 10) (d := (some 97)) (v := ?_) rfl rfl (by kernel_rfl) (by kernel_rfl) (by kernel_rfl) (fun _ _ _ h => h) (Or.inl ⟨by rfl, ?_⟩) (by first | assumption | rfl) ?_
          rotate_left 1
          · (intro w hSw; (try dsimp only at hSw); (try subst hSw); go_simp; try with_reducible rfl)
          simp only [Act.put, List.setIfInBounds_toArray, List.set_cons_zero, List.set_cons_succ]
          refine held_take (i := 11) (d := (some 98)) (v := ?_) rfl rfl (by kernel_rfl) (by kernel_rfl) (by kernel_rfl) (fun _ _ _ h => h) (Or.inl ⟨by rfl, ?_⟩) (by first | assumption | rfl) ?_
          rotate_left 1
          · (intro w hSw; (try dsimp only at hSw); (try subst hSw); go_simp; try with_reducible rfl)
          simp only [Act.put, List.setIfInBounds_toArray, List.set_cons_zero, List.set_cons_succ]
          refine held_take (i := 12) (d := (some 99)) (v := ?_) rfl rfl (by kernel_rfl) (by kernel_rfl) (by kernel_rfl) (fun _ _ _ h => h) (Or.inl ⟨by rfl, ?_⟩) (by first | assumption | rfl) ?_
          rotate_left 1
          · (intro w hSw; (try dsimp only at hSw); (try subst hSw); go_simp; try with_reducible rfl)
          simp only [Act.put, List.setIfInBounds_toArray, List.set_cons_zero, List.set_cons_succ]
          refine held_take (i := 15) (d := (some 102)) (v := ?_) rfl rfl (by kernel_rfl) (by kernel_rfl) (by kernel_rfl) (fun _ _ _ h => h) (Or.inl ⟨by rfl, ?_⟩) (by first | assumption | rfl) ?_
          rotate_left 1
          · (intro w hSw; (try dsimp only at hSw); (try subst hSw); go_simp; try with_reducible rfl)
          simp only [Act.put, List.setIfInBounds_toArray, List.set_cons_zero, List.set_cons_succ]
          refine held_take (i := 16) (d := (some 103)) (v := ?_) rfl rfl (by kernel_rfl) (by kernel_rfl) (by kernel_rfl) (fun _ _ _ h => h) (Or.inl ⟨by rfl, ?_⟩) (by first | assumption | rfl) ?_
          rotate_left 1
          · (intro w hSw; (try dsimp only at hSw); (try subst hSw); go_simp; try with_reducible rfl)
          simp only [Act.put, List.setIfInBounds_toArray, List.set_cons_zero, List.set_cons_succ]
          refine held_take (i := 17) (d := (some 104)) (v := ?_) rfl rfl (by kernel_rfl) (by kernel_rfl) (by kernel_rfl) (fun _ _ _ h => h) (Or.inl ⟨by rfl, ?_⟩) (by first | assumption | rfl) ?_
          rotate_left 1
          · (intro w hSw; (try dsimp only at hSw); (try subst hSw); go_simp; try with_reducible rfl)
          simp only [Act.put, List.setIfInBounds_toArray, List.set_cons_zero, List.set_cons_succ]
          refine held_take (i := 18) (d := (some 105)) (v := ?_) rfl rfl (by kernel_rfl) (by kernel_rfl) (by kernel_rfl) (fun _ _ _ h => h) (Or.inl ⟨by rfl, ?_⟩) (by first | assumption | rfl) ?_
          rotate_left 1
          · (intro w hSw; (try dsimp only at hSw); (try subst hSw); go_simp; try with_reducible rfl)
          simp only [Act.put, List.setIfInBounds_toArray, List.set_cons_zero, List.set_cons_succ]
          refine held_take (i := 19) (d := (some 106)) (v := ?_) rfl rfl (by kernel_rfl) (by kernel_rfl) (by kernel_rfl) (fun _ _ _ h => h) (Or.inl ⟨by rfl, ?_⟩) (by first | assumption | rfl) ?_
          rotate_left 1
          · (intro w hSw; (try dsimp only at hSw); (try subst hSw); go_simp; try with_reducible rfl)
          simp only [Act.put, List.setIfInBounds_toArray, List.set_cons_zero, List.set_cons_succ]
          refine held_call (i := 13) (by kernel_rfl) rfl (by rfl) (fun K hK => ?_)
          go_simp
          refine PP.out.mono ?_
          rintro e w' ⟨ap, cp, rfl, hst, hbe⟩
          have HBE := hide hbe
          have HS := hide (F.out w' (HA3.out.drew.below hbe (Nat.le_refl _)))
          clear hbe F PP hHeld
          go_wp2_with fail
          refine hK.out _ _ HS.out ?_
          refine held_take (i := 14) (d := (some 101)) (v := ?_) rfl rfl (by kernel_rfl) (by kernel_rfl) (by kernel_rfl) (fun _ _ _ h => h) (Or.inl ⟨by rfl, ?_⟩) (by first | assumption | rfl) ?_
          rotate_left 1
          · (intro w hSw; (try dsimp only at hSw); (try subst hSw); go_simp; try with_reducible rfl)
          simp only [Act.put, List.setIfInBounds_toArray, List.set_cons_zero, List.set_cons_succ]
          refine held_take (i := 20) (d := (some 107)) (v := ?_) rfl rfl (by kernel_rfl) (by kernel_rfl) (by kernel_rfl) (fun _ _ _ h => h) (Or.inl ⟨by rfl, ?_⟩) (by first | assumption | rfl) ?_
          rotate_left 1
          · (intro w hSw; (try dsimp only at hSw); (try subst hSw); go_simp; try with_reducible rfl)
          simp only [Act.put, List.setIfInBounds_toArray, List.set_cons_zero, List.set_cons_succ]
          refine held_take (i := 21) (d := (some 108)) (v := ?_) rfl rfl (by kernel_rfl) (by kernel_rfl) (by kernel_rfl) (fun _ _ _ h => h) (Or.inl ⟨by rfl, ?_⟩) (by first | assumption | rfl) ?_
          rotate_left 1
          · (intro w hSw; (try dsimp only at hSw); (try subst hSw); go_simp; try with_reducible rfl)
          simp only [Act.put, List.setIfInBounds_toArray, List.set_cons_zero, List.set_cons_succ]
          refine held_take (i := 22) (d := (some 109)) (v := ?_) rfl rfl (by kernel_rfl) (by kernel_rfl) (by kernel_rfl) (fun _ _ _ h => h) (Or.inl ⟨by rfl, ?_⟩) (by first | assumption | rfl) ?_
          rotate_left 1
          · (intro w hSw; (try dsimp only at hSw); (try subst hSw); go_simp; try with_reducible rfl)
          simp only [Act.put, List.setIfInBounds_toArray, List.set_cons_zero, List.set_cons_succ]
          refine wpAnyH_done (by kernel_rfl) ?_ _
          go_wp2_with fail
          go_meet
          case rel => exact ⟨rfl, bel_to ((Below.refl _ _).drew) (Nat.le_refl _) HBE.out⟩
        · clear hg
          go_region
          go_wp2_with fail
          go_meet
          case rel => exact ⟨rfl, (Below.refl _ _).drew⟩
      case rest =>
        obtain ⟨rfl, hb2⟩ := hcut
        have HC4 := hide (HC3.out.below hb2.out (Nat.le_refl _))
        have HA4 := hide (HA3.out.below hb2.out (Nat.le_refl _))
        have B4 : Hid (Below w1.heap.size w1 wc) := bel_to B3.out (Nat.le_refl _) hb2.out
        clear HC3 HA3 B3 HG hb2
        go_wp2_with fail
        refine (getrise_var (k : Int) 1073741824 ac n cc zs wc hwfk (by decide) hcc HC4.out (Or.inl (by decide))).mono ?_
        rintro e w6 ⟨a6, m6, c6, x, ok4, rfl, hb6, hg⟩
        have HC5 := hide (HC4.out.below hb6 (Nat.le_refl _))
        have HA5 := hide (HA4.out.below hb6 (Nat.le_refl _))
        have B5 : Hid (Below w1.heap.size w1 w6) := bel_to B4.out (Nat.le_refl _) hb6
        clear HC4 HA4 B4 hb6
        have HG := hide hg
        clear hg
        go_upto_region 13 with fail
        go_cut [139] (fun b wx => b = .bool false ∧ Hid (Below w6.heap.size w6 wx))
        case first =>
          rcases HG.out with ⟨rfl, l6, hml, hg, hm6⟩ | ⟨rfl, hm0, hx0, hg⟩
          · obtain ⟨_, hl6, hl7, _, k', hk', hx0, hx1, t, hd, hx⟩ := riseS_back HZ.out hg
            have hkk : k' = k := by omega
            subst hkk
            have hl1 : 1 ≤ (putR l6).length := by omega
            have PP := hide (putrise_str a6 m6 c6 l6 w6.drew (by omega) (hm6.row (by omega) (words_wf hl6)).drew)
            have h20 : k' + (putR l6).length ≤ n := by
              have := HC5.out.1
              omega
            clear hl6 hl7 hx0 hx1 hm6 hml
            have hlz := HC5.out.1
            have h2 : k' + (putR l6).length ≤ n := by omega
            have F := hide (fun w' (h : Row .u8 w' a n zs) => mid_string h hcap (e := k' + (putR l6).length) (by omega) h2 hd rfl)
            have hsl := slice_mid a n cap k' (k' + (putR l6).length) (by omega) (by omega)
            have t1 : ¬ x ≤ (k' : Int) := by omega
            have t2 : ¬ (n : Int) < x := by omega
            rw [← hx] at hsl
            clear hk' hd hg hlz
            generalize k' + (putR l6).length - k' = len at F hsl
            generalize (if cap = k' then a else a.map (·.add k')) = am at F hsl
            clear hx h2 hl1
            generalize strOfNums (putR l6) = S at F PP
            generalize (putR l6).length = L at PP
            refine wp_region_held_drew (S := fun w' => (convert 23 9 (.slice am len (cap - k'))).run Try.prog w' = .ok (.string S) w') (by kernel_rfl) (F.out _ HA5.out.drew) (fun hHeld => ?_)
            refine held_take (i := 0) (d := (some 117)) (v := ?_) rfl rfl (by kernel_rfl) (by kernel_rfl) (by kernel_rfl) (fun _ _ _ h => h) (Or.inl ⟨by rfl, ?_⟩) (by first | assumption | rfl) ?_
            rotate_left 1
            · (intro w hSw; (try dsimp only at hSw); (try subst hSw); go_simp; try with_reducible rfl)
            simp only [Act.put, List.setIfInBounds_toArray, List.set_cons_zero, List.set_cons_succ]
            refine held_take (i := 1) (d := (some 118)) (v := ?_) rfl rfl (by kernel_rfl) (by kernel_rfl) (by kernel_rfl) (fun _ _ _ h => h) (Or.inl ⟨by rfl, ?_⟩) (by first | assumption | rfl) ?_
            rotate_left 1
            · (intro w hSw; (try dsimp only at hSw); (try subst hSw); go_simp; try with_reducible rfl)
            simp only [Act.put, List.setIfInBounds_toArray, List.set_cons_zero, List.set_cons_succ]
            refine held_take (i := 2) (d := (some 119)) (v := ?_) rfl rfl (by kernel_rfl) (by kernel_rfl) (by kernel_rfl) (fun _ _ _ h => h) (Or.inl ⟨by rfl, ?_⟩) (by first | assumption | rfl) ?_
            rotate_left 1
            · (intro w hSw; (try dsimp only at hSw); (try subst hSw); go_simp; try with_reducible rfl)
            simp only [Act.put, List.setIfInBounds_toArray, List.set_cons_zero, List.set_cons_succ]
            refine held_take (i := 3) (d := (some 120)) (v := ?_) rfl rfl (by kernel_rfl) (by kernel_rfl) (by kernel_rfl) (fun _ _ _ h => h) (Or.inl ⟨by rfl, ?_⟩) (by first | assumption | rfl) ?_
            rotate_left 1
            · (intro w hSw; (try dsimp only at hSw); (try subst hSw); go_simp; try with_reducible rfl)
            simp only [Act.put, List.setIfInBounds_toArray, List.set_cons_zero, List.set_cons_succ]
            refine held_take (i := 4) (d := (some 121)) (v := ?_) rfl rfl (by kernel_rfl) (by kernel_rfl) (by kernel_rfl) (fun _ _ _ h => h) (Or.inl ⟨by rfl, ?_⟩) (by first | assumption | rfl) ?_
            rotate_left 1
            · (intro w hSw; (try dsimp only at hSw); (try subst hSw); go_simp; try with_reducible rfl)
            simp only [Act.put, List.setIfInBounds_toArray, List.set_cons_zero, List.set_cons_succ]
            refine held_take (i := 5) (d := (some 122)) (v := ?_) rfl rfl (by kernel_rfl) (by kernel_rfl) (by kernel_rfl) (fun _ _ _ h => h) (Or.inl ⟨by rfl, ?_⟩) (by first | assumption | rfl) ?_
            rotate_left 1
            · (intro w hSw; (try dsimp only at hSw); (try subst hSw); go_simp; try with_reducible rfl)
            simp only [Act.put, List.setIfInBounds_toArray, List.set_cons_zero, List.set_cons_succ]
            refine held_take (i := 6) (d := (some 123)) (v := ?_) rfl rfl (by kernel_rfl) (by kernel_rfl) (by kernel_rfl) (fun _ _ _ h => h) (Or.inl ⟨by rfl, ?_⟩) (by first | assumption | rfl) ?_
            rotate_left 1
            · (intro w hSw; (try dsimp only at hSw); (try subst hSw); go_simp; try with_reducible rfl)
            simp only [Act.put, List.setIfInBounds_toArray, List.set_cons_zero, List.set_cons_succ]
            refine held_take (i := 7) (d := (some 124)) (v := ?_) rfl rfl (by kernel_rfl) (by kernel_rfl) (by kernel_rfl) (fun _ _ _ h => h) (Or.inl ⟨by rfl, ?_⟩) (by first | assumption | rfl) ?_
            rotate_left 1
            · (intro w hSw; (try dsimp only at hSw); (try subst hSw); go_simp; try with_reducible rfl)
            simp only [Act.put, List.setIfInBounds_toArray, List.set_cons_zero, List.set_cons_succ]
            refine held_take (i := 8) (d := (some 125)) (v := ?_) rfl rfl (by kernel_rfl) (by kernel_rfl) (by kernel_rfl) (fun _ _ _ h => h) (Or.inl ⟨by rfl, ?_⟩) (by first | assumption | rfl) ?_
            rotate_left 1
            · (intro w hSw; (try dsimp only at hSw); (try subst hSw); go_simp; try with_reducible rfl)
            simp only [Act.put, List.setIfInBounds_toArray, List.set_cons_zero, List.set_cons_succ]
            refine held_take (i := 9) (d := (some 126)) (v := ?_) rfl rfl (by kernel_rfl) (by kernel_rfl) (by kernel_rfl) (fun _ _ _ h => h) (Or.inl ⟨by rfl, ?_⟩) (by first | assumption | rfl) ?_
            rotate_left 1
            · (intro w hSw; (try dsimp only at hSw); (try subst hSw); go_simp; try with_reducible rfl)
            simp only [Act.put, List.setIfInBounds_toArray, List.set_cons_zero, List.set_cons_succ]
            refine held_take (i := 10) (d := (some 127)) (v := ?_) rfl rfl (by kernel_rfl) (by kernel_rfl) (by kernel_rfl) (fun _ _ _ h => h) (Or.inl ⟨by rfl, ?_⟩) (by first | assumption | rfl) ?_
            rotate_left 1
            · (intro w hSw; (try dsimp only at hSw); (try subst hSw); go_simp; try with_reducible rfl)
            simp only [Act.put, List.setIfInBounds_toArray, List.set_cons_zero, List.set_cons_succ]
            refine held_take (i := 11) (d := (some 128)) (v := ?_) rfl rfl (by kernel_rfl) (by kernel_rfl) (by kernel_rfl) (fun _ _ _ h => h) (Or.inl ⟨by rfl, ?_⟩) (by first | assumption | rfl) ?_
            rotate_left 1
            · (intro w hSw; (try dsimp only at hSw); (try subst hSw); go_simp; try with_reducible rfl)
            simp only [Act.put, List.setIfInBounds_toArray, List.set_cons_zero, List.set_cons_succ]
            refine held_take (i := 12) (d := (some 129)) (v := ?_) rfl rfl (by kernel_rfl) (by kernel_rfl) (by kernel_rfl) (fun _ _ _ h => h) (Or.inl ⟨by rfl, ?_⟩) (by first | assumption | rfl) ?_
            rotate_left 1
            · (intro w hSw; (try dsimp only at hSw); (try subst hSw); go_simp; try with_reducible rfl)
            simp only [Act.put, List.setIfInBounds_toArray, List.set_cons_zero, List.set_cons_succ]
            refine held_take (i := 15) (d := (some 132)) (v := ?_) rfl rfl (by kernel_rfl) (by kernel_rfl) (by kernel_rfl) (fun _ _ _ h => h) (Or.inl ⟨by rfl, ?_⟩) (by first | assumption | rfl) ?_
            rotate_left 1
            · (intro w hSw; (try dsimp only at hSw); (try subst hSw); go_simp; try with_reducible rfl)
            simp only [Act.put, List.setIfInBounds_toArray, List.set_cons_zero, List.set_cons_succ]
            refine held_take (i := 16) (d := (some 133)) (v := ?_) rfl rfl (by kernel_rfl) (by kernel_rfl) (by kernel_rfl) (fun _ _ _ h => h) (Or.inl ⟨by rfl, ?_⟩) (by first | assumption | rfl) ?_
            rotate_left 1
            · (intro w hSw; (try dsimp only at hSw); (try subst hSw); go_simp; try with_reducible rfl)
            simp only [Act.put, List.setIfInBounds_toArray, List.set_cons_zero, List.set_cons_succ]
            refine held_take (i := 17) (d := (some 134)) (v := ?_) rfl rfl (by kernel_rfl) (by kernel_rfl) (by kernel_rfl) (fun _ _ _ h => h) (Or.inl ⟨by rfl, ?_⟩) (by first | assumption | rfl) ?_
            rotate_left 1
            · (intro w hSw; (try dsimp only at hSw); (try subst hSw); go_simp; try with_reducible rfl)
            simp only [Act.put, List.setIfInBounds_toArray, List.set_cons_zero, List.set_cons_succ]
            refine held_take (i := 18) (d := (some 135)) (v := ?_) rfl rfl (by kernel_rfl) (by kernel_rfl) (by kernel_rfl) (fun _ _ _ h => h) (Or.inl ⟨by rfl, ?_⟩) (by first | assumption | rfl) ?_
            rotate_left 1
            · (intro w hSw; (try dsimp only at hSw); (try subst hSw); go_simp; try with_reducible rfl)
            simp only [Act.put, List.setIfInBounds_toArray, List.set_cons_zero, List.set_cons_succ]
            refine held_take (i := 19) (d := (some 136)) (v := ?_) rfl rfl (by kernel_rfl) (by kernel_rfl) (by kernel_rfl) (fun _ _ _ h => h) (Or.inl ⟨by rfl, ?_⟩) (by first | assumption | rfl) ?_
            rotate_left 1
            · (intro w hSw; (try dsimp only at hSw); (try subst hSw); go_simp; try with_reducible rfl)
            simp only [Act.put, List.setIfInBounds_toArray, List.set_cons_zero, List.set_cons_succ]
            refine held_call (i := 13) (by kernel_rfl) rfl (by rfl) (fun K hK => ?_)
            go_simp
            refine PP.out.mono ?_
            rintro e w' ⟨ap, cp, rfl, hst, hbe⟩
            have HBE := hide hbe
            have HS := hide (F.out w' (HA5.out.drew.below hbe (Nat.le_refl _)))
            clear hbe F PP hHeld
            go_wp2_with fail
            refine hK.out _ _ HS.out ?_
            refine held_take (i := 14) (d := (some 131)) (v := ?_) rfl rfl (by kernel_rfl) (by kernel_rfl) (by kernel_rfl) (fun _ _ _ h => h) (Or.inl ⟨by rfl, ?_⟩) (by first | assumption | rfl) ?_
            rotate_left 1
            · (intro w hSw; (try dsimp only at hSw); (try subst hSw); go_simp; try with_reducible rfl)
            simp only [Act.put, List.setIfInBounds_toArray, List.set_cons_zero, List.set_cons_succ]
            refine held_take (i := 20) (d := (some 137)) (v := ?_) rfl rfl (by kernel_rfl) (by kernel_rfl) (by kernel_rfl) (fun _ _ _ h => h) (Or.inl ⟨by rfl, ?_⟩) (by first | assumption | rfl) ?_
            rotate_left 1
            · (intro w hSw; (try dsimp only at hSw); (try subst hSw); go_simp; try with_reducible rfl)
            simp only [Act.put, List.setIfInBounds_toArray, List.set_cons_zero, List.set_cons_succ]
            refine held_take (i := 21) (d := (some 138)) (v := ?_) rfl rfl (by kernel_rfl) (by kernel_rfl) (by kernel_rfl) (fun _ _ _ h => h) (Or.inl ⟨by rfl, ?_⟩) (by first | assumption | rfl) ?_
            rotate_left 1
            · (intro w hSw; (try dsimp only at hSw); (try subst hSw); go_simp; try with_reducible rfl)
            simp only [Act.put, List.setIfInBounds_toArray, List.set_cons_zero, List.set_cons_succ]
            refine held_take (i := 22) (d := (some 139)) (v := ?_) rfl rfl (by kernel_rfl) (by kernel_rfl) (by kernel_rfl) (fun _ _ _ h => h) (Or.inl ⟨by rfl, ?_⟩) (by first | assumption | rfl) ?_
            rotate_left 1
            · (intro w hSw; (try dsimp only at hSw); (try subst hSw); go_simp; try with_reducible rfl)
            simp only [Act.put, List.setIfInBounds_toArray, List.set_cons_zero, List.set_cons_succ]
            refine wpAnyH_done (by kernel_rfl) ?_ _
            go_wp2_with fail
            go_meet
            case rel => exact ⟨rfl, bel_to ((Below.refl _ _).drew) (Nat.le_refl _) HBE.out⟩
          · clear hg hm0 hx0
            go_region
            go_wp2_with fail
            go_meet
            case rel => exact ⟨rfl, (Below.refl _ _).drew⟩
        case rest =>
          obtain ⟨rfl, hb2⟩ := hcut
          have HC6 := hide (HC5.out.below hb2.out (Nat.le_refl _))
          have HA6 := hide (HA5.out.below hb2.out (Nat.le_refl _))
          have B6 : Hid (Below w1.heap.size w1 wc) := bel_to B5.out (Nat.le_refl _) hb2.out
          clear HC5 HA5 B5 HG hb2
          have g1 := row_string (cap := cc) HC6.out
          have g2 := row_string (cap := cap) HA6.out
          generalize strOfNums zs = S at g1 g2
          clear HC6 HA6
          go_wp2_with fail
          refine (awake_any _).mono ?_
          rintro e w7 ⟨rfl, b7⟩
          go_wp2
          go_ret
          exact ⟨rfl, bel_to B6.out (Nat.le_refl _) b7⟩
end Go.Proofs.Ytemgapgggeanjaa

namespace Go.Proofs.Ytemgapgggeanjaa.vintBack
open Go.ChangeShapes Go.WideShapes Go.ChangeAt Go.RowKit
open Go.ChangeMaps (open_string shut_string)
set_option linter.unusedVariables false

theorem own : ownKnob Try.prog.godebug = none := by kernel_rfl
theorem laidOut : laidOutB Try.prog = true := by kernel_rfl

set_option maxRecDepth 100000 in
theorem lifted (os : Os) (started : os.Started) (H : Type) (enc : TypeId × Value → H) :
    ReturnsInHanded {} Try.checked os 7 .any (Rows.vintBackSpec.pre6 enc Try.prog Try.f7 Rows.vintBackRow.domain false) (Rows.vintBackSpec.post enc Try.prog Try.f7 false true false false) := by
  refine returnsInHanded_of_change_sized (C := Try.checked) own started (by kernel_rfl) Try.func7
    (ChangeSpec.witness6 (enc := enc) (C := Try.checked) false ⟨#[], #[.slice none 0 0, .int .i64 0], []⟩ 8 (by kernel_rfl) (by kernel_rfl) (by kernel_rfl) (by kernel_rfl)) ?_
  intro W base args ds gs before hval0 hW hcnd hsz0 _
  have hsz : (DataW.weightsEach Try.prog (Try.f7.params.toList ++ Rows.vintBackSpec.plain.varTypes Try.prog) (ds ++ gs)).all (· ≤ reachBytes) = true := hsz0
  have hval : ∀ (j : Nat) t v, Try.f7.params[j]? = some t → args[j]? = some v → Value.okWide Try.prog W .any base t v := hval0
  have hW' := hW
  obtain ⟨p, q, hA0, hV, rfl, hfz, hnd⟩ := hW
  have hA : DataW.TrodAll enc Try.prog W 0 (fun _ => true) true Try.f7.params.toList args.toList ds p := hA0
  rw [Try.params7] at hA hval hsz
  obtain ⟨v0, vs0, d0, ds0, p0, q0, hargs, rfl, rfl, h0, r0⟩ := trodAll_cons hA
  obtain ⟨v1, vs1, d1, ds1, p1, q1, rfl, rfl, rfl, h1, r1⟩ := trodAll_cons r0
  obtain ⟨rfl, rfl, rfl⟩ := trodAll_nil r1
  obtain rfl : args = #[v0, v1] := by cases args; simp_all
  obtain ⟨rfl, rfl⟩ := trodVars_none hV
  obtain ⟨a0, len0, cap0, rfl⟩ := okWide_slice Try.underlying23 (hval 0 23 v0 rfl rfl)
  have k0 := h0
  have lt0 : ∀ x ∈ p0, x.block < W.heap.size := by obtain ⟨m, hm⟩ := k0; exact DataW.trod_lt m _ _ _ hm
  obtain ⟨z0, w0⟩ : ∃ zs, IsRow .u8 W a0 len0 cap0 zs := by
    obtain ⟨fuel, hf⟩ := h0
    rcases open_ints Try.underlying23 Try.underlying5 (by kernel_rfl) hf with ⟨hcs, _⟩ | ⟨x, l, c, zs, hcs, _, hl, hm, hz, hx, hcell, hwz⟩
    · simp [Value.cells] at hcs
      obtain ⟨rfl, rfl, rfl⟩ := hcs
      exact ⟨[], by decide, .inl ⟨rfl, rfl, rfl, rfl⟩⟩
    · simp [Value.cells] at hcs
      obtain ⟨rfl, rfl, rfl⟩ := hcs
      have hd := congrArg Prod.fst hx
      simp only at hd
      have hs := sized_slice hsz (j := 0) (t := 23) (e := 5) rfl (by rw [hd]; rfl) Try.underlying23
      rw [show Try.prog.bytesOf 5 = 1 from by kernel_rfl] at hs
      simp only [lits, List.length_map, List.length_take, List.length_drop, reachBytes] at hs
      have hzc : zs.length = cap0 := by simpa using hz
      exact ⟨zs, by show cap0 * 1 ≤ _; omega, .inr ⟨_, rfl, hl, hm, hzc, hcell, hwz⟩⟩
  obtain ⟨a1, rfl, rfl, rfl, w1⟩ := open_int Try.underlying3 (hval 1 3 v1 rfl rfl) h1
  clear hA0 hval0 hsz0 hsz
  refine (walk_back a0 len0 cap0 z0 a1 W w0 w1).mono fun e W' ⟨he, bel⟩ => ?_
  subst he
  exact ⟨_, rfl, _, _, _, [], _, [], hW', trodAll_mk1 (shut_bool Try.underlying4 _), (trodAll_cons_mk (Below.trod laidOut (by kernel_rfl) (of_decide_eq_true (by kernel_rfl)) k0 bel lt0) (trodAll_cons_mk (shut_int Try.underlying3 w1) trodAll_mk0)), rfl, bel.frame _, fun h => by cases h⟩

theorem proved : Rows.VintBackSaid :=
  OpenClaim.holds_of_wide 7 Try.f7 rfl rfl rfl rfl rfl rfl rfl ⟨rfl, rfl, rfl, rfl, rfl⟩ rfl rfl rfl rfl rfl (by kernel_rfl) Try.func7 (by kernel_rfl)
    (of_decide_eq_true (by kernel_rfl)) (by unfold Func.isWrapper; first | (rw [if_pos (by decide +kernel)]; kernel_rfl) | (rw [if_neg (by decide +kernel)]; exact ⟨rfl, rfl⟩))
    (fun os started H enc _ => lifted os started H enc)
end Go.Proofs.Ytemgapgggeanjaa.vintBack
