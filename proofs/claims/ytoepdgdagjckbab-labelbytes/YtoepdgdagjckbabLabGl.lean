/-
  The law of a set's bytes: what was put is the document's bytes, and comes back; any bytes are read as the document reads them.
  Conditions: the arguments came in.
-/
import Derived.Test.YtoepdgdagjckbabLabGe
import Derived.Test.YtoepdgdagjckbabLabD
import Derived.Test.YtoepdgdagjckbabLabS
import Derived.Test.YtoepdgdagjckbabLabT
import Derived.Test.YtoepdgdagjckbabVintR
import Derived.Laws.Concat
import Derived.Deep.RegionWith
import Derived.Deep.DrawnRows
import Derived.Deep.DeepCutAuto
namespace Go.Proofs.Ytoepdgdagjckbab
open Go.RowKit
set_option maxRecDepth 20000

section
variable {P : Program} {ops : Array Oper} {Q : Exit → Act → World → Prop} {md : Region.Mode} {S : World → Prop}
/-- A call in a region that draws its order: what holds from then on is told behind the call. -/
theorem held_callL {i : Nat} {o : Oper} {fuel : Nat} {listed : Array Bool} {a : Act} {w : World} (hr : Region.ready md ops listed = [i]) (ho : ops[i]? = some o) (hw : Region.wanted o (yielded ops a.tmps) = true)
    (h : ∀ K' : Act → World → Prop, Shut (∀ (S2 : World → Prop) a w, (∀ w, S2 w → S w) → S2 w → wpAnyH P md ops Q S2 fuel (listed.setIfInBounds i true) a w → K' a w) → Oper.wp P o a w K' Q) : wpAnyH P md ops Q S (fuel + 1) listed a w := by
  refine wpAnyH_all hr (by simp) ?_
  intro j hj
  have : j = i := by simpa using hj
  subst this
  unfold wpOp
  simp only [ho]
  rw [if_pos hw]
  refine Or.inl (h _ ?_)
  intro S2 a' w' hi hS h'
  exact ⟨hi _ hS, held_mono hi _ _ _ _ h'⟩
end

/-- The reader, made last, alone has turned: what was there before stays. -/
theorem chL_old {W X : World} {o : Obj} (c : Ch (fun k => k = W.heap.size) (W.alloc o) X) : Below W.heap.size W X :=
  ⟨c.os, c.tape, c.output, Nat.le_trans (by simp) c.size, fun k hk => (c.block k (by simp; omega) (by omega)).trans (Below.heap_alloc W o k hk)⟩
theorem smL_of {l : List Lb} (h : chkL l = true) : SmL l := by
  obtain ⟨_, h8, hp⟩ := chkL_parts h
  refine ⟨h8, fun x hx => ?_⟩
  obtain ⟨h1, _, h2⟩ := hp x hx
  unfold nameB at h1
  simp only [Bool.and_eq_true, decide_eq_true_eq] at h1
  exact ⟨h1.2.2, h2⟩

set_option maxRecDepth 100000 in
set_option maxHeartbeats 16000000 in
theorem bytesL_of (al : Option Addr) (nl cl : Nat) (l : List Lb) (a : Option Addr) (n cap : Nat) (bs : List Int) (p : Int) (w : World) (hl : RowL w al nl l) (hl0 : al = none → cl = 0) (hcap : n ≤ cap) (hn47 : n ≤ 140737488351232) (hnil : a = none → cap = 0) (hr : Row .u8 w a n bs) (w2 : (Lit.int .i64 p).wf = true) :
    Calls Try.prog 3 #[.slice al nl cl, .slice a n cap, .int .i64 p] w fun e w' => e = .returned (.bool true) ∧ Below w.heap.size w w' := by
  have HZ : Hid (Bytes8 bs) := hr.bytes
  have R := hide hr
  have HL := hide hr.1
  have HN := hide hnil
  have RL := hide hl
  have LL := hide hl.1
  have HFW := hide hl.2.2.1
  have hnl := hl.2.1
  have AW := hide (fun W (bl : Below w.heap.size w W) => (awakeL_any laN laC laV laM laT W).mono (fun e W' (h : e = .returned (.bool true) ∧ Below W.heap.size W W') => (⟨h.1, bl.trans (h.2.mono bl.size)⟩ : e = .returned (.bool true) ∧ Below w.heap.size w W')))
  have CK := hide (quietB0 (refchkl_any al nl cl l w hl))
  clear hl hr hnil
  go_enter Try.func3, Try.ntmps3
  go_wp2_with fail
  with_reducible refine CK.out.mono ?_
  rintro e v1 ⟨rfl, b1⟩
  have K1 := hide b1
  clear b1 CK
  go_upto_if 17 with fail
  go_cut [7] (fun _ wx => Hid (Below w.heap.size w wx))
  case first =>
    by_cases hck : chkL l = true
    · rw [hck]
      have hsm := smL_of hck
      have HSM := hide hsm
      obtain ⟨hP0, hP, hPB⟩ := putL_fit hsm
      have HV := hide hPB
      have BX : Hid (Bytes8 (bs ++ putL l)) := Bytes8.append HZ.out hPB
      obtain ⟨NL, HNL⟩ : ∃ NL, Hid (n + (putL l).length = NL) := ⟨_, rfl⟩
      have hNL := HNL.out
      have hNLs : NL ≤ 140737488455328 := by omega
      have BE : Hid (getL (bs ++ putL l) (n : Int) = some (l, (NL : Int))) := by
        have e := getL_back hck hsm.1 hsm.2 bs
        rw [HL.out, HNL.out] at e
        exact e
      clear hNL hsm hPB
      have C1 := hide (bytes_any a n cap bs v1 (R.out.below K1.out (Nat.le_refl _)) HN.out (by omega))
      go_wp2_with fail
      with_reducible refine C1.out.mono ?_
      rintro e u1 ⟨a1, e1, rfl, o1, b1⟩
      have K2 : Hid (Below w.heap.size w u1) := bel_to K1.out (Nat.le_refl _) b1
      have O1 := hide (o1.row (by omega) (fits_wf HZ.out))
      have C2 := hide (labels_any al nl cl l u1 (RL.out.below K2.out (Nat.le_refl _)) hl0)
      clear o1 b1 C1 K1
      go_wp2_with fail
      with_reducible refine C2.out.mono ?_
      rintro e u2 ⟨a2, e2, rfl, o2, b2⟩
      have K3 : Hid (Below w.heap.size w u2) := bel_to K2.out (Nat.le_refl _) b2
      have O2 := hide (O1.out.below b2 (Nat.le_refl _))
      have C3 := hide (lput_any a1 n e1 bs a2 nl e2 l u2 (by omega) O2.out (o2.row (by have h1 := HSM.out.1; have h2 := LL.out; omega) HFW.out) HSM.out)
      rw [HNL.out] at C3
      clear o2 b2 C2 K2 O1
      go_wp2_with fail
      with_reducible refine C3.out.mono ?_
      rintro e u3 ⟨a3, e3, rfl, o3, b3⟩
      have K4 : Hid (Below w.heap.size w u3) := bel_to K3.out (Nat.le_refl _) b3
      have p3 := o3.capped.1
      have R3 := hide (o3.row (by omega) (fits_wf BX.out))
      have G1 := hide (lget_any laC (n : Int) a3 NL e3 (bs ++ putL l) u3 (i64_wf (by omega) (by omega)) p3 R3.out)
      rw [BE.out] at G1
      simp only [GotL] at G1
      rw [LL.out] at G1
      clear o3 b3 C3 K3 O2 BE
      go_wp2_with fail
      with_reducible refine G1.out.mono ?_
      rintro e u4 ⟨b4, a8, c8, rfl, q8, _⟩
      have K5 : Hid (Below w.heap.size w u4) := bel_to K4.out (Nat.le_refl _) b4
      have Q8 := hide q8
      have R5 := hide (R3.out.below b4 (Nat.le_refl _))
      have RB6 := hide (R.out.below K5.out (Nat.le_refl _))
      have RL6 := hide (RL.out.below K5.out (Nat.le_refl _))
      clear b4 q8 G1 K4 R3
      go_upto_region 4 with fail
      have PP := hide (fun W (q : RowL W al nl l) => reflput_any al nl cl l W q HSM.out)
      have SM := hide (fun W x c (q : RowL W x nl l) (q' : RowL W al nl l) => quietB0 (samelabs_any x nl c l al nl cl l W q q'))
      rw [show decide (l = l) = true from decide_eq_true rfl] at SM
      have F1 := hide (fun w' (x : Row .u8 w' a3 NL (bs ++ putL l)) => row_string (cap := e3) x)
      have F2 := hide (fun w' (x : Row .u8 w' a n bs) => row_string (cap := cap) x)
      have F3 := hide (fun w' base a' c' (x : Mine w' base a' (putL l).length c' (putL l)) => row_string (cap := c') (x.row (by omega) (fits_wf HV.out)))
      have hadd := add_str bs (putL l) (by rw [HL.out]; omega)
      generalize strOfNums (bs ++ putL l) = X at F1 hadd
      generalize strOfNums bs = X1 at F2 hadd
      generalize strOfNums (putL l) = X2 at F3 hadd
      obtain ⟨L, HLL⟩ : ∃ L, Hid ((putL l).length = L) := ⟨_, rfl⟩
      rw [HLL.out] at PP F3
      have tq : ((NL : Int) != (NL : Int)) = false := by simp
      clear hP hP0
      refine wp_region_held_drew (S := fun w' => (convert 23 9 (.slice a3 NL e3)).run Try.prog w' = .ok (.string X) w' ∧ (convert 23 9 (.slice a n cap)).run Try.prog w' = .ok (.string X1) w') (by kernel_rfl) ⟨F1.out _ R5.out.drew, F2.out _ RB6.out.drew⟩ (fun hHeld => ?_)
      refine held_take (i := 0) (d := (some 31)) (v := ?_) rfl rfl (by kernel_rfl) (by kernel_rfl) (by kernel_rfl) (fun _ _ _ h => h) (Or.inl ⟨by rfl, ?_⟩) (by first | assumption | rfl | trivial) ?_
      rotate_left 1
      · (intro w hSw; (try dsimp only at hSw); (try subst hSw); go_simp; try with_reducible rfl)
      simp only [Act.put, List.setIfInBounds_toArray, List.set_cons_zero, List.set_cons_succ]
      refine held_take (i := 1) (d := (some 32)) (v := ?_) rfl rfl (by kernel_rfl) (by kernel_rfl) (by kernel_rfl) (fun _ _ _ h => h) (Or.inl ⟨by rfl, ?_⟩) (by first | assumption | rfl | trivial) ?_
      rotate_left 1
      · (intro w hSw; (try dsimp only at hSw); (try subst hSw); go_simp; try with_reducible rfl)
      simp only [Act.put, List.setIfInBounds_toArray, List.set_cons_zero, List.set_cons_succ]
      refine held_take (i := 2) (d := (some 33)) (v := ?_) rfl rfl (by kernel_rfl) (by kernel_rfl) (by kernel_rfl) (fun _ _ _ h => h) (Or.inl ⟨by rfl, ?_⟩) (by first | assumption | rfl | trivial) ?_
      rotate_left 1
      · (intro w hSw; (try dsimp only at hSw); (try subst hSw); go_simp; try with_reducible rfl)
      simp only [Act.put, List.setIfInBounds_toArray, List.set_cons_zero, List.set_cons_succ]
      refine held_take (i := 3) (d := (some 34)) (v := ?_) rfl rfl (by kernel_rfl) (by kernel_rfl) (by kernel_rfl) (fun _ _ _ h => h) (Or.inl ⟨by rfl, ?_⟩) (by first | assumption | rfl | trivial) ?_
      rotate_left 1
      · (intro w hSw; (try dsimp only at hSw); (try subst hSw); go_simp; try with_reducible rfl)
      simp only [Act.put, List.setIfInBounds_toArray, List.set_cons_zero, List.set_cons_succ]
      refine held_take (i := 4) (d := (some 35)) (v := ?_) rfl rfl (by kernel_rfl) (by kernel_rfl) (by kernel_rfl) (fun _ _ _ h => h) (Or.inl ⟨by rfl, ?_⟩) (by first | assumption | rfl | trivial) ?_
      rotate_left 1
      · (intro w hSw; (try dsimp only at hSw); (try subst hSw); go_simp; try with_reducible rfl)
      simp only [Act.put, List.setIfInBounds_toArray, List.set_cons_zero, List.set_cons_succ]
      refine held_callL (i := 5) (by kernel_rfl) rfl (by rfl) (fun K hK => ?_)
      go_simp
      with_reducible refine (PP.out _ RL6.out.drew).mono ?_
      rintro e x7 ⟨a7, e7, rfl, o7, k7⟩
      have R7 := hide (R5.out.drew.below k7 (Nat.le_refl _))
      have RB7 := hide (RB6.out.drew.below k7 (Nat.le_refl _))
      have RL7 := hide (RL6.out.drew.below k7 (Nat.le_refl _))
      have Q9 := hide (Q8.out.drew.below k7 (Nat.le_refl _))
      have K7 : Hid (Below w.heap.size w x7) := bel_to K5.out.drew (Nat.le_refl _) k7
      have hS7 : (convert 23 9 (.slice a3 NL e3)).run Try.prog x7 = .ok (.string X) x7 ∧ (convert 23 9 (.slice a n cap)).run Try.prog x7 = .ok (.string X1) x7 ∧ (convert 23 9 (.slice a7 L e7)).run Try.prog x7 = .ok (.string X2) x7 := ⟨F1.out _ R7.out, F2.out _ RB7.out, F3.out _ _ _ _ o7⟩
      have O7 := hide o7
      clear o7 k7 PP hHeld R5 RB6 RL6 Q8 K5
      go_wp2_with fail
      refine hK.out (fun w' => (convert 23 9 (.slice a3 NL e3)).run Try.prog w' = .ok (.string X) w' ∧ (convert 23 9 (.slice a n cap)).run Try.prog w' = .ok (.string X1) w' ∧ (convert 23 9 (.slice a7 L e7)).run Try.prog w' = .ok (.string X2) w') _ _ (fun _ h => ⟨h.1, h.2.1⟩) hS7 ?_
      clear hK
      refine held_take (i := 6) (d := (some 37)) (v := ?_) rfl rfl (by kernel_rfl) (by kernel_rfl) (by kernel_rfl) (fun _ _ _ h => h) (Or.inl ⟨by rfl, ?_⟩) (by first | assumption | rfl | trivial) ?_
      rotate_left 1
      · (intro w hSw; (try dsimp only at hSw); (try subst hSw); go_simp; try with_reducible rfl)
      simp only [Act.put, List.setIfInBounds_toArray, List.set_cons_zero, List.set_cons_succ]
      refine held_take (i := 7) (d := (some 38)) (v := ?_) rfl rfl (by kernel_rfl) (by kernel_rfl) (by kernel_rfl) (fun _ _ _ h => h) (Or.inl ⟨by rfl, ?_⟩) (by first | assumption | rfl | trivial) ?_
      rotate_left 1
      · (intro w hSw; (try dsimp only at hSw); (try subst hSw); go_simp; try with_reducible rfl)
      simp only [Act.put, List.setIfInBounds_toArray, List.set_cons_zero, List.set_cons_succ]
      refine held_take (i := 8) (d := (some 39)) (v := ?_) rfl rfl (by kernel_rfl) (by kernel_rfl) (by kernel_rfl) (fun _ _ _ h => h) (Or.inl ⟨by rfl, ?_⟩) (by first | assumption | rfl | trivial) ?_
      rotate_left 1
      · (intro w hSw; (try dsimp only at hSw); (try subst hSw); go_simp; try with_reducible rfl)
      simp only [Act.put, List.setIfInBounds_toArray, List.set_cons_zero, List.set_cons_succ]
      refine held_take (i := 9) (d := (some 40)) (v := ?_) rfl rfl (by kernel_rfl) (by kernel_rfl) (by kernel_rfl) (fun _ _ _ h => h) (Or.inl ⟨by rfl, ?_⟩) (by first | assumption | rfl | trivial) ?_
      rotate_left 1
      · (intro w hSw; (try dsimp only at hSw); (try subst hSw); go_simp; try with_reducible rfl)
      simp only [Act.put, List.setIfInBounds_toArray, List.set_cons_zero, List.set_cons_succ]
      refine held_take (i := 10) (d := (some 41)) (v := ?_) rfl rfl (by kernel_rfl) (by kernel_rfl) (by kernel_rfl) (fun _ _ _ h => h) (Or.inl ⟨by rfl, ?_⟩) (by first | assumption | rfl | trivial) ?_
      rotate_left 1
      · (intro w hSw; (try dsimp only at hSw); (try subst hSw); go_simp; try with_reducible rfl)
      simp only [Act.put, List.setIfInBounds_toArray, List.set_cons_zero, List.set_cons_succ]
      refine held_take (i := 11) (d := (some 42)) (v := ?_) rfl rfl (by kernel_rfl) (by kernel_rfl) (by kernel_rfl) (fun _ _ _ h => h) (Or.inl ⟨by rfl, ?_⟩) (by first | assumption | rfl | trivial) ?_
      rotate_left 1
      · (intro w hSw; (try dsimp only at hSw); (try subst hSw); go_simp; try with_reducible rfl)
      simp only [Act.put, List.setIfInBounds_toArray, List.set_cons_zero, List.set_cons_succ]
      refine held_next (i := 12) (by kernel_rfl) rfl (by rfl) (fun K hK => ?_)
      go_simp
      with_reducible refine (SM.out _ _ _ Q9.out RL7.out).mono ?_
      rintro e x8 ⟨rfl, k8'⟩
      have hS8 : (convert 23 9 (.slice a3 NL e3)).run Try.prog x8 = .ok (.string X) x8 ∧ (convert 23 9 (.slice a n cap)).run Try.prog x8 = .ok (.string X1) x8 ∧ (convert 23 9 (.slice a7 L e7)).run Try.prog x8 = .ok (.string X2) x8 := ⟨F1.out _ (R7.out.below k8' (Nat.le_refl _)), F2.out _ (RB7.out.below k8' (Nat.le_refl _)), F3.out _ _ _ _ (O7.out.below k8' (Nat.le_refl _))⟩
      have K8 : Hid (Below w.heap.size w x8) := bel_to K7.out (Nat.le_refl _) k8'
      clear hS7
      go_wp2_with fail
      refine hK.out _ _ hS8 ?_
      clear hK k8' SM hadd R7 RB7 RL7 Q9 O7 K7
      refine held_take (i := 13) (d := (some 44)) (v := ?_) rfl rfl (by kernel_rfl) (by kernel_rfl) (by kernel_rfl) (fun _ _ _ h => h) (Or.inl ⟨by rfl, ?_⟩) (by first | assumption | rfl | trivial) ?_
      rotate_left 1
      · (intro w hSw; (try dsimp only at hSw); (try subst hSw); go_simp; try with_reducible rfl)
      simp only [Act.put, List.setIfInBounds_toArray, List.set_cons_zero, List.set_cons_succ]
      refine held_take (i := 14) (d := (some 45)) (v := ?_) rfl rfl (by kernel_rfl) (by kernel_rfl) (by kernel_rfl) (fun _ _ _ h => h) (Or.inl ⟨by rfl, ?_⟩) (by first | assumption | rfl | trivial) ?_
      rotate_left 1
      · (intro w hSw; (try dsimp only at hSw); (try subst hSw); go_simp; try with_reducible rfl)
      simp only [Act.put, List.setIfInBounds_toArray, List.set_cons_zero, List.set_cons_succ]
      refine held_take (i := 15) (d := (some 46)) (v := ?_) rfl rfl (by kernel_rfl) (by kernel_rfl) (by kernel_rfl) (fun _ _ _ h => h) (Or.inl ⟨by rfl, ?_⟩) (by first | assumption | rfl | trivial) ?_
      rotate_left 1
      · (intro w hSw; (try dsimp only at hSw); (try subst hSw); go_simp; try with_reducible rfl)
      simp only [Act.put, List.setIfInBounds_toArray, List.set_cons_zero, List.set_cons_succ]
      refine held_take (i := 16) (d := (some 47)) (v := ?_) rfl rfl (by kernel_rfl) (by kernel_rfl) (by kernel_rfl) (fun _ _ _ h => h) (Or.inl ⟨by rfl, ?_⟩) (by first | assumption | rfl | trivial) ?_
      rotate_left 1
      · (intro w hSw; (try dsimp only at hSw); (try subst hSw); go_simp; try with_reducible rfl)
      simp only [Act.put, List.setIfInBounds_toArray, List.set_cons_zero, List.set_cons_succ]
      refine held_take (i := 17) (d := (some 48)) (v := ?_) rfl rfl (by kernel_rfl) (by kernel_rfl) (by kernel_rfl) (fun _ _ _ h => h) (Or.inl ⟨by rfl, ?_⟩) (by first | assumption | rfl | trivial) ?_
      rotate_left 1
      · (intro w hSw; (try dsimp only at hSw); (try subst hSw); go_simp; try with_reducible rfl)
      simp only [Act.put, List.setIfInBounds_toArray, List.set_cons_zero, List.set_cons_succ]
      refine held_take (i := 18) (d := (some 49)) (v := ?_) rfl rfl (by kernel_rfl) (by kernel_rfl) (by kernel_rfl) (fun _ _ _ h => h) (Or.inl ⟨by rfl, ?_⟩) (by first | assumption | rfl | trivial) ?_
      rotate_left 1
      · (intro w hSw; (try dsimp only at hSw); (try subst hSw); go_simp; try with_reducible rfl)
      simp only [Act.put, List.setIfInBounds_toArray, List.set_cons_zero, List.set_cons_succ]
      refine held_take (i := 19) (d := (some 50)) (v := ?_) rfl rfl (by kernel_rfl) (by kernel_rfl) (by kernel_rfl) (fun _ _ _ h => h) (Or.inl ⟨by rfl, ?_⟩) (by first | assumption | rfl | trivial) ?_
      rotate_left 1
      · (intro w hSw; (try dsimp only at hSw); (try subst hSw); go_simp; try with_reducible rfl)
      simp only [Act.put, List.setIfInBounds_toArray, List.set_cons_zero, List.set_cons_succ]
      refine held_take (i := 20) (d := (some 51)) (v := ?_) rfl rfl (by kernel_rfl) (by kernel_rfl) (by kernel_rfl) (fun _ _ _ h => h) (Or.inl ⟨by rfl, ?_⟩) (by first | assumption | rfl | trivial) ?_
      rotate_left 1
      · (intro w hSw; (try dsimp only at hSw); (try subst hSw); go_simp; try with_reducible rfl)
      simp only [Act.put, List.setIfInBounds_toArray, List.set_cons_zero, List.set_cons_succ]
      refine held_take (i := 21) (d := (some 52)) (v := ?_) rfl rfl (by kernel_rfl) (by kernel_rfl) (by kernel_rfl) (fun _ _ _ h => h) (Or.inl ⟨by rfl, ?_⟩) (by first | assumption | rfl | trivial) ?_
      rotate_left 1
      · (intro w hSw; (try dsimp only at hSw); (try subst hSw); go_simp; try with_reducible rfl)
      simp only [Act.put, List.setIfInBounds_toArray, List.set_cons_zero, List.set_cons_succ]
      refine held_take (i := 22) (d := (some 53)) (v := ?_) rfl rfl (by kernel_rfl) (by kernel_rfl) (by kernel_rfl) (fun _ _ _ h => h) (Or.inl ⟨by rfl, ?_⟩) (by first | assumption | rfl | trivial) ?_
      rotate_left 1
      · (intro w hSw; (try dsimp only at hSw); (try subst hSw); go_simp; try with_reducible rfl)
      simp only [Act.put, List.setIfInBounds_toArray, List.set_cons_zero, List.set_cons_succ]
      refine held_take (i := 23) (d := (some 54)) (v := ?_) rfl rfl (by kernel_rfl) (by kernel_rfl) (by kernel_rfl) (fun _ _ _ h => h) (Or.inl ⟨by rfl, ?_⟩) (by first | assumption | rfl | trivial) ?_
      rotate_left 1
      · (intro w hSw; (try dsimp only at hSw); (try subst hSw); go_simp; try with_reducible rfl)
      simp only [Act.put, List.setIfInBounds_toArray, List.set_cons_zero, List.set_cons_succ]
      refine held_take (i := 24) (d := (some 55)) (v := ?_) rfl rfl (by kernel_rfl) (by kernel_rfl) (by kernel_rfl) (fun _ _ _ h => h) (Or.inl ⟨by rfl, ?_⟩) (by first | assumption | rfl | trivial) ?_
      rotate_left 1
      · (intro w hSw; (try dsimp only at hSw); (try subst hSw); go_simp; try with_reducible rfl)
      simp only [Act.put, List.setIfInBounds_toArray, List.set_cons_zero, List.set_cons_succ]
      refine wpAnyH_done (by kernel_rfl) ?_ _
      go_wp2
      go_meet
      case rel => exact K8.out
    · rw [show chkL l = false by simpa using hck]
      go_wp2
      go_meet
      case rel => exact K1.out
  case rest =>
    have RBc := hide (R.out.below hcut.out (Nat.le_refl _))
    have Kc := hcut
    clear K1 hcut RL HFW LL
    have C5 := hide (bytes_any a n cap bs wc RBc.out HN.out (by omega))
    go_wp2_with fail
    with_reducible refine C5.out.mono ?_
    rintro e x6 ⟨a6, e6, rfl, o6, k6⟩
    have p6 := o6.capped.1
    have C6 := hide (lget_any laC p a6 n e6 bs x6 w2 p6 (o6.row (by omega) (fits_wf HZ.out)))
    have K6 : Hid (Below w.heap.size w x6) := bel_to Kc.out (Nat.le_refl _) k6
    clear o6 k6 C5 RBc Kc
    have N := hide (fun (W : World) (K : Below w.heap.size w W) => reflget_any p W.heap.size a n cap bs w (W.alloc (.cells #[.slice a n cap, .int .i64 p, .bool false] 34)) w2 hcap R.out K.size (K.alloc K.size _) (rb_new W a n cap p))
    cases hgg : getL bs p with
    | none =>
      rw [hgg] at C6 N
      simp only [GotL] at C6
      simp only [ReadL] at N
      clear hgg w2
      go_wp2_with fail
      with_reducible refine C6.out.mono ?_
      rintro e x7 ⟨k7, rfl⟩
      have K7 : Hid (Below w.heap.size w x7) := bel_to K6.out (Nat.le_refl _) k7
      have N8 := hide (N.out x7 K7.out)
      clear k7 C6 K6 N
      go_wp2_with fail
      with_reducible refine N8.out.mono ?_
      rintro e x9 ⟨k9, rfl, p9, hrb⟩
      have K9 : Hid (Below w.heap.size w x9) := bel_to K7.out (Nat.le_refl _) (chL_old k9)
      obtain ⟨_, d1, d2, _⟩ := hrb.cell
      clear k9 hrb N8 K7 d1
      go_wp2_with fail
      with_reducible refine (AW.out _ K9.out).mono ?_
      rintro e x12 ⟨rfl, k12⟩
      have K12 := hide k12
      clear k12
      go_wp2
      go_ret
      exact ⟨rfl, K12.out⟩
    | some q =>
      obtain ⟨t, nx⟩ := q
      rw [hgg] at C6 N
      simp only [GotL] at C6
      simp only [ReadL] at N
      clear hgg w2
      have tx : (nx == nx) = true := by simp
      obtain ⟨T, HT⟩ : ∃ T, Hid (t.length = T) := ⟨_, rfl⟩
      rw [HT.out] at C6 N
      have SM := hide (fun W x c y c' (q : RowL W x T t) (q' : RowL W y T t) => quietB0 (samelabs_any x T c t y T c' t W q q'))
      rw [show decide (t = t) = true from decide_eq_true rfl] at SM
      go_wp2_with fail
      with_reducible refine C6.out.mono ?_
      rintro e x7 ⟨k7, a7, c7, rfl, q7, _⟩
      have K7 : Hid (Below w.heap.size w x7) := bel_to K6.out (Nat.le_refl _) k7
      have N8 := hide (N.out x7 K7.out)
      have Q7 := hide q7
      clear k7 q7 C6 K6 N
      go_wp2_with fail
      with_reducible refine N8.out.mono ?_
      rintro e x9 ⟨k9, a9, c9, rfl, q9, hrb⟩
      have K9 : Hid (Below w.heap.size w x9) := bel_to K7.out (Nat.le_refl _) (chL_old k9)
      have Q8 := hide (Q7.out.below (chL_old k9) (Nat.le_refl _))
      have Q9 := hide q9
      have HRB := hide hrb
      obtain ⟨_, d1, d2, _⟩ := hrb.cell
      clear k9 hrb N8 K7 Q7 q9
      go_wp2_with fail
      with_reducible refine (SM.out _ _ _ _ _ Q8.out Q9.out).mono ?_
      rintro e x11 ⟨rfl, k11⟩
      have K11 : Hid (Below w.heap.size w x11) := bel_to K9.out (Nat.le_refl _) k11
      obtain ⟨_, f1, f2, _⟩ := (HRB.out.below k11 HRB.out.lt).cell
      clear k11 d1 d2 K9 Q8 Q9 HRB SM
      go_wp2_with fail
      with_reducible refine (AW.out _ K11.out).mono ?_
      rintro e x12 ⟨rfl, k12⟩
      have K12 := hide k12
      clear k12
      go_wp2
      go_ret
      exact ⟨rfl, K12.out⟩
end Go.Proofs.Ytoepdgdagjckbab
