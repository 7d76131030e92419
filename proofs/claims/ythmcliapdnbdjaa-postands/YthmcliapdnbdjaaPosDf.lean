/-
  What post.Less comes to: an iterator that tells what is in the one list and not in the other: a contract, for every world.
  Conditions: the slices show their numbers, at most 2000 each.
-/
import Derived.Test.YthmcliapdnbdjaaPosDe
namespace Go.Proofs.Ythmcliapdnbdjaa
open Go.RowKit
set_option maxRecDepth 20000

set_option maxHeartbeats 4000000 in
theorem less_any (a : Option Addr) (n cap : Nat) (xs : List Int) (b : Option Addr) (m capb : Nat) (ys : List Int) (w : World) (hx : SlI w a n cap xs) (hy : SlI w b m capb ys) (hn : n ≤ 2000) :
    Calls Try.prog 16 #[.slice a n cap, .slice b m capb] w fun e w' => Iter (lessS xs ys) w e w' := by
  obtain ⟨i0, hi, hz0, hz1, hz2⟩ := info_parts Try.infoI
  obtain ⟨W1, hW1⟩ : ∃ W, Hid (w.alloc (.cells #[.slice a n cap, .slice b m capb] 22) = W) := ⟨_, rfl⟩
  have B1 : Hid (Below w.heap.size w W1) := by rw [← hW1.out]; exact (Below.refl _ _).alloc (Nat.le_refl _) _
  have R1 : Hid (RowII W1 (some ⟨w.heap.size, 0, none⟩) 2 [xs, ys]) := by
    rw [← hW1.out]
    exact rowii_new w [(a, n, cap), (b, m, capb)] [xs, ys] 22 rfl (show 2 ≤ 10 by decide) (fun i hi => by
      match i, hi with
      | 0, _ => exact hx
      | 1, _ => exact hy)
  have RI := hide (rise_any _ 2 2 _ W1 R1.out)
  have HX := hide hx
  have HY := hide hy
  have HL : Hid (xs.length ≤ 2000) := by show _ ≤ _; rw [hx.len]; exact hn
  have HWF := hide hx.wf
  have HN : Hid (xs.length = n) := hx.len
  obtain ⟨ans, HA⟩ : ∃ ans, Hid (lessS xs ys = ans) := ⟨_, rfl⟩
  rw [HA.out]
  clear R1 hx hy HL
  by_cases hup : upI xs ∧ upI ys
  · have h1 : allUp [xs, ys] = true := by rw [allUp_iff]; simpa using hup
    rw [h1] at RI
    have HE : Hid (xs.filter (outB ys) = ans) := by rw [← HA.out]; show _ = _; unfold lessS; rw [if_pos hup]; rfl
    have HPF : Hid (∀ k, ((xs.take k).filter (outB ys)).length ≤ 2000) := fun k => by
      have h1 := List.length_filter_le (outB ys) (xs.take k)
      have h2 := HN.out
      rw [List.length_take] at h1
      omega
    have LS := hide (lesI_start hup.1 hup.2)
    clear hup h1
    go_enter Try.func16, Try.ntmps16
    go_wp2_with fail
    go_step3
    go_wp2_with fail
    rw [hW1.out]
    with_reducible refine RI.out.mono ?_
    rintro e u1 ⟨rfl, b1⟩
    have B2 := hide (bel_to B1.out (Nat.le_refl _) b1)
    clear b1 RI hW1
    go_wp2
    go_step3
    go_wp2
    go_loopw [1, 5, 16] (fun y o i wr => ∃ (br : Option Addr) (mr dr : Nat) (ao : Option Addr) (L co : Nat) (yr : List Int) (k : Nat), y = .slice br mr dr ∧ o = .slice ao L co ∧ i = .int .i64 k ∧ k ≤ n ∧ L ≤ 2000 ∧ Hid (SlI w br mr dr yr) ∧ Hid (LesI xs ys k yr) ∧ Hid (MineI wr w.heap.size ao L co ((xs.take k).filter (outB ys))) ∧ Hid (Below w.heap.size w wr)) (fun _ _ i _ => n - (intOf i).toNat)
    case atStart => exact ⟨_, _, _, none, 0, 0, ys, 0, rfl, rfl, rfl, by omega, by omega, HY, LS, own_nil _ _ _ _, B2⟩
    case round =>
      obtain ⟨br, mr, dr, ao, L, co, yr, k, rfl, rfl, rfl, hk, hL, SY, LI, OW, BW⟩ := hrel
      obtain ⟨z, rfl⟩ : ∃ z, z = wr := ⟨wr, rfl⟩
      by_cases hlt : k < n
      · obtain ⟨b1, o1, e, g1⟩ := (HX.out.below BW.out (Nat.le_refl _)).at' hlt
        subst e
        have HK : Hid (k < xs.length) := by show _ < _; rw [HN.out]; exact hlt
        have HV : Hid ((Lit.int .i64 (xs.getD k 0)).wf = true) := HWF.out _ (getD_mem' HK.out)
        have i1 : (0 : Int) ≤ (k : Int) := by omega
        have i2 : (k : Int) < (n : Int) := by omega
        obtain ⟨v, hv⟩ : ∃ v, Hid (xs.getD k 0 = v) := ⟨_, rfl⟩
        rw [hv.out] at g1 HV
        go_wp2
        clear g1
        go_loopw [1] (fun y wr => ∃ (br : Option Addr) (mr dr : Nat) (yr : List Int), y = .slice br mr dr ∧ Hid (SlI w br mr dr yr) ∧ Hid (LesI xs ys k yr) ∧ wr = z) (fun y _ => lenV y)
        case atStart => exact ⟨_, _, _, yr, rfl, SY, LI, rfl⟩
        case round =>
          clear SY LI
          obtain ⟨br, mr, dr, yr, rfl, SY, LI, rfl⟩ := hrel
          have app : Hid (∀ q ∈ yr, xs.getD k 0 < q) → Hid ((xs.take (k + 1)).filter (outB ys) = (xs.take k).filter (outB ys) ++ [v]) := fun h => by
            show _ = _
            rw [← hv.out]
            exact LI.out.none HK.out h.out
          rcases SY.out.split with ⟨rfl, rfl⟩ | ⟨j, q, s, rfl, rfl, sy⟩
          · have FT := app (fun q hq => by cases hq)
            have LI2 := hide LI.out.next
            clear app LI
            have RV := hide ((one_introw wr v 3).2 HV.out)
            have OA := hide OW.out.alloc
            go_wp2_with (at_builtin; refine wpList_append_ints _ rfl _ _ 22 rfl w.heap.size 3 i0 Try.underlying22 hi hz0 hz1 hz2 ao L co _ rfl (OA.out _) (some ⟨wr.heap.size, 0, none⟩) 1 1 [v] rfl RV.out (fun h => by cases h) (by omega) (Nat.le_trans BW.out.size (by simp)) ?_)
            intro a3 c3 w3 o3 b3 _
            rw [← FT.out] at o3
            have hL3 : L + 1 ≤ 2000 := by rw [← o3.len]; exact HPF.out (k + 1)
            have O3 := hide o3
            have B3 := hide ((bel_al BW.out (Nat.le_refl _) _).trans b3)
            clear o3 b3 OA RV OW BW FT
            go_wp2
            go_roundw
            case rel => exact ⟨_, _, _, a3, L + 1, c3, _, k + 1, rfl, rfl, by go_num, by omega, hL3, SY, LI2, O3, B3⟩
            case measure => simp [intOf]; omega
          · obtain ⟨b2, o2, rfl, g2⟩ := (sy.below BW.out (Nat.le_refl _)).first
            obtain ⟨as', cs, rs, ss⟩ := sy.tail
            have SS := hide ss
            have i3 : (0 : Int) < ((j + 1 : Nat) : Int) := by omega
            have i4 : (0 : Int) < (j : Int) + 1 := by omega
            clear ss
            rcases Int.lt_trichotomy q v with hq | hq | hq
            · have LI2 := hide (LI.out.pass HK.out (by rw [hv.out]; exact hq))
              have h1 : q ≤ v := by omega
              have h2 : (q == v) = false := by simp; omega
              clear app LI
              go_wp2
              go_roundw
              case rel => exact ⟨as', j, cs, s, rfl, SS, LI2, trivial⟩
              case measure => simp [lenV]
            · subst hq
              have FT := hide (LI.out.found HK.out hv.out.symm)
              have LI2 := hide LI.out.next
              have h1 : q ≤ q := by omega
              have h2 : (q == q) = true := by simp
              rw [← FT.out] at OW
              clear app LI FT
              go_wp2
              go_roundw
              case rel => exact ⟨_, _, _, ao, L, co, q :: s, k + 1, rfl, rfl, by go_num, by omega, hL, SY, LI2, OW, BW⟩
              case measure => simp [intOf]; omega
            · have h1 : ¬ q ≤ v := by omega
              have FT := app (by
                show ∀ x ∈ _, _
                intro x hx
                rw [hv.out]
                rcases List.mem_cons.1 hx with e | e
                · omega
                · have := upI_head LI.out.uy x e
                  omega)
              have LI2 := hide LI.out.next
              clear app LI
              have RV := hide ((one_introw wr v 3).2 HV.out)
              have OA := hide OW.out.alloc
              go_wp2_with (at_builtin; refine wpList_append_ints _ rfl _ _ 22 rfl w.heap.size 3 i0 Try.underlying22 hi hz0 hz1 hz2 ao L co _ rfl (OA.out _) (some ⟨wr.heap.size, 0, none⟩) 1 1 [v] rfl RV.out (fun h => by cases h) (by omega) (Nat.le_trans BW.out.size (by simp)) ?_)
              intro a3 c3 w3 o3 b3 _
              rw [← FT.out] at o3
              have hL3 : L + 1 ≤ 2000 := by rw [← o3.len]; exact HPF.out (k + 1)
              have O3 := hide o3
              have B3 := hide ((bel_al BW.out (Nat.le_refl _) _).trans b3)
              clear o3 b3 OA RV OW BW FT
              go_wp2
              go_roundw
              case rel => exact ⟨_, _, _, a3, L + 1, c3, _, k + 1, rfl, rfl, by go_num, by omega, hL3, SY, LI2, O3, B3⟩
              case measure => simp [intOf]; omega
      · have i2 : ¬ (k : Int) < (n : Int) := by omega
        rw [List.take_of_length_le (by rw [HN.out]; omega), HE.out] at OW
        have TI := hide (tell_iter ao L co ans z (MineI.sl OW.out (by omega) (fun x hx => HWF.out x (by rw [← HE.out] at hx; exact (List.mem_filter.1 hx).1))) (by omega))
        clear SY LI OW
        go_wp2_with fail
        with_reducible refine TI.out.mono ?_
        intro e u3 h3
        have I3 := hide (h3.from' BW.out)
        clear h3 TI
        obtain ⟨F, rfl, -, -⟩ := I3.out
        go_wp2
        go_ret
        exact I3.out
  · have h1 : allUp [xs, ys] = false := by
      rw [Bool.eq_false_iff]
      intro e
      exact hup ⟨allUp_iff.1 e xs (by simp), allUp_iff.1 e ys (by simp)⟩
    rw [h1] at RI
    have HE : Hid ([] = ans) := by rw [← HA.out]; exact (less_none hup).symm
    clear hup h1
    go_enter Try.func16, Try.ntmps16
    go_wp2_with fail
    go_step3
    go_wp2_with fail
    rw [hW1.out]
    with_reducible refine RI.out.mono ?_
    rintro e u1 ⟨rfl, b1⟩
    have B2 := hide (bel_to B1.out (Nat.le_refl _) b1)
    have TI := hide (tell_iter none 0 0 [] u1 (sli_nil _) (by omega))
    clear b1 RI hW1
    go_wp2_with fail
    with_reducible refine TI.out.mono ?_
    intro e u3 h3
    have I3 := hide (h3.from' B2.out)
    clear h3 TI
    obtain ⟨F, rfl, -, -⟩ := I3.out
    go_wp2
    go_ret
    rw [← HE.out]
    exact I3.out
end Go.Proofs.Ythmcliapdnbdjaa
