/-
  Frames cut anywhere tell just those that are whole, and where they end; the document's examples hold. The call returns true, and its arguments read as they did.
  Conditions: none: every value of the parameters' types.
-/
import Derived.Test.YtbpmmeagpefglaaFrameV
import Derived.Test.YtbpmmeagpefglaaPlace
import Derived.ProofKit
import Derived.OpenShut
import Derived.ShutString
import Derived.ChangeOld
import Derived.SizedLaws
namespace Go.Proofs.Ytbpmmeagpefglaa
open Go.RowKit

set_option maxRecDepth 100000 in
set_option maxHeartbeats 8000000 in
theorem walk_cuts (a : Option Addr) (n cap : Nat) (zs : List ByteArray) (p : Int) (w : World) (w0 : IsTextsF w a n cap zs) (_w1 : (Lit.int .i64 p).wf = true) :
    Calls Try.prog 7 #[.slice a n cap, .int .i64 p] w fun e w' => e = .returned (.bool true) ∧ Below w.heap.size w w' := by
  have L := hide (laid_any a n cap (zs.take n) w (textsF_of w0))
  have HG := hide (bodiesK_good (zs.take n) 20)
  have hs1 := (bodiesK_short (zs.take n) 20).1
  have hs2 := (bodiesK_short (zs.take n) 20).2
  clear w0 _w1
  generalize bodiesK (zs.take n) 20 = gs at *
  have HEF := hide (ends_fit (gs := gs) (by omega))
  have HB8 := hide (laidS_byte HG.out)
  have HCUT := hide (fun j k h1 h2 => told_cut gs HG.out j k h1 h2)
  have HEG := hide (fun j h => endsS_get gs j h)
  have HLE := hide (fun j => laid_le gs j)
  have HL0 : Hid ((laidS (gs.take 0)).length = 0) := rfl
  have HFEW : Hid (∀ j, j ≤ gs.length → ((posS 0 (gs.take j)).take (1000 : Int).toNat).length = j) := by
    intro j hj
    rw [posS_few (by rw [List.length_take]; omega), posS_len, List.length_take]; omega
  have HLEN : Hid (∀ k, k ≤ (laidS gs).length → ((laidS gs).take k).length = k) := fun k hk => by rw [List.length_take]; omega
  obtain ⟨nb, hnb⟩ : ∃ nb, (laidS gs).length = nb := ⟨_, rfl⟩
  obtain ⟨ne, hne⟩ : ∃ ne, gs.length = ne := ⟨_, rfl⟩
  rw [hnb] at L hs1 HLEN
  simp only [hnb] at HLE
  rw [hne] at L hs2 HFEW HCUT HEG
  clear hnb hne
  have hk0 : 0 ≤ p % ((nb : Int) + 1) := Int.emod_nonneg p (by omega)
  have hk1 : p % ((nb : Int) + 1) < (nb : Int) + 1 := Int.emod_lt_of_pos p (by omega)
  obtain ⟨K, hK⟩ := Int.eq_ofNat_of_zero_le hk0
  have hKn : K ≤ nb := by omega
  have P := hide (fun W => place_any p ((nb : Int) + 1) (by omega) (by omega) W)
  rw [hK] at P
  clear hK hk0 hk1
  go_enter Try.func7, Try.ntmps7
  go_wp2_with fail
  refine L.out.mono ?_
  rintro e x1 ⟨ab, cb, ae, ce, rfl, o1, o2, k1⟩
  have hcb := o1.capped.1
  have R1 := hide (o1.row8 (by omega) HB8.out)
  have o2' : Own 3 .i64 x1 w.heap.size ae ne ce (endsS gs) := o2
  have RE := hide (o2'.row (by omega) HEF.out)
  have K1 := hide k1
  have RK := hide (R1.out.to K hKn)
  clear o1 o2 o2' k1 L R1
  go_wp2_with fail
  refine (P.out _).mono ?_
  rintro e x1' ⟨rfl, rfl⟩
  clear P
  go_wp2
  go_loop [9] (fun i => ∃ j : Nat, j ≤ ne ∧ i = .int .i64 j ∧ Hid ((laidS (gs.take j)).length ≤ K)) (fun i => ne - (intOf i).toNat)
  case atStart => exact ⟨0, by omega, rfl, by show _ ≤ _; rw [HL0.out]; omega⟩
  case round =>
    obtain ⟨j, hj, rfl, HJ⟩ := hrel
    by_cases hgo : j < ne ∧ (laidS (gs.take (j + 1))).length ≤ K
    · obtain ⟨g1, g2⟩ := hgo
      obtain ⟨_, _, _, h0 | ⟨bb, off, rfl, hcell⟩⟩ := RE.out
      · omega
      have hck := hcell j g1
      rw [HEG.out j g1] at hck
      clear hcell
      have HJ2 : Hid ((laidS (gs.take (j + 1))).length ≤ K) := g2
      generalize (laidS (gs.take (j + 1))).length = E at hck g2
      have t1 : (j : Int) < ne := by omega
      have t2 : (E : Int) ≤ K := by omega
      go_wp2
      exact ⟨⟨j + 1, by omega, by go_num, HJ2⟩, by simp [intOf]; omega⟩
    · -- the loop ends
      have HST : Hid (j < ne → K < (laidS (gs.take (j + 1))).length) := fun h => by
        have := fun h' => hgo ⟨h, h'⟩
        omega
      obtain ⟨c1, c2⟩ := HCUT.out j K HJ.out HST.out
      have A := hide (fun W (h : Row .u8 W ab K ((laidS gs).take K)) => all_any 1000 ab K cb ((laidS gs).take K) W h (by omega) (by omega) (by omega))
      have E := hide (fun W (h : Row .u8 W ab K ((laidS gs).take K)) => ends_any ab K cb ((laidS gs).take K) W (by omega) h)
      rw [c1, HFEW.out j hj] at A
      rw [c2] at E
      have f1 := slice_to ab nb cb K (by omega)
      have HFIN : Hid (∀ i : Nat, i + 1 = j → ∃ bb off, ae = some ⟨bb, off, none⟩ ∧ x1'.cell? ⟨bb, off + i, none⟩ = some (.int .i64 ((laidS (gs.take j)).length : Int))) := by
        intro i hi
        obtain ⟨_, _, _, h0 | ⟨bb, off, rfl, hcell⟩⟩ := RE.out
        · omega
        refine ⟨bb, off, rfl, ?_⟩
        rw [hcell i (by omega), HEG.out i (by omega), hi]
      have HBF : Hid (∀ bb off, ae = some ⟨bb, off, none⟩ → j ≠ 0 → bb < x1'.heap.size) := by
        intro bb off hae hj0
        obtain ⟨i, hi⟩ : ∃ i, i + 1 = j := ⟨j - 1, by omega⟩
        obtain ⟨bb', off', hae', hcell⟩ := HFIN.out i hi
        rw [hae] at hae'
        simp at hae'
        rw [hae'.1]
        exact World.block_lt_of_cell? x1' _ hcell
      obtain ⟨En, hEn⟩ : ∃ En, (laidS (gs.take j)).length = En := ⟨_, rfl⟩
      have hEK : En ≤ K := by rw [← hEn]; exact HJ.out
      have hE0 : j = 0 → En = 0 := by rintro rfl; rw [← hEn, HL0.out]
      rw [hEn] at E
      simp only [hEn] at HFIN
      have HSTOP := hide (fun (hlt : j < ne) => HEG.out j hlt)
      have HSC : Hid (j < ne → ∃ bb off, ae = some ⟨bb, off, none⟩ ∧ ∃ E' : Nat, x1'.cell? ⟨bb, off + j, none⟩ = some (.int .i64 (E' : Int)) ∧ K < E') := by
        intro hlt
        obtain ⟨_, _, _, h0 | ⟨bb, off, rfl, hcell⟩⟩ := RE.out
        · omega
        exact ⟨bb, off, rfl, _, by rw [hcell j hlt, HEG.out j hlt], HST.out hlt⟩
      clear c1 c2 hEn HCUT HST HJ HEG RE HSTOP hgo
      obtain ⟨eb, heb⟩ : ∃ eb, decide (En = K) = eb := ⟨_, rfl⟩
      rw [heb] at E
      have hbE : ((K : Int) == (En : Int)) = eb := by
        rw [← heb]
        by_cases e : En = K
        · rw [decide_eq_true e, e]; simp
        · rw [decide_eq_false e]; simp; omega
      clear heb
      -- both ways out of the loop's test lead to the same rest
      by_cases hlt : j < ne
      · obtain ⟨bb, off, hae, E', hck, hKE⟩ := HSC.out hlt
        subst hae
        have t1 : (j : Int) < ne := by omega
        have t2 : ¬ ((E' : Int) ≤ K) := by omega
        clear HSC
        go_wp2_with fail
        refine (A.out _ RK.out).mono ?_
        rintro e x2 ⟨a3, c3, a4, c4, rfl, _, _, k3⟩
        have RK2 := hide (RK.out.below k3 (Nat.le_refl _))
        have K2 : Hid (Below w.heap.size w x2) := bel_to K1.out (Nat.le_refl _) k3
        have k3' := k3
        clear k3 A hck
        go_wp2_with fail
        refine (E.out _ RK2.out).mono ?_
        rintro e x3 ⟨rfl, k4⟩
        have K3 : Hid (Below w.heap.size w x3) := bel_to K2.out (Nat.le_refl _) k4
        have k5 : Below x1'.heap.size x1' x3 := bel_to k3' (Nat.le_refl _) k4
        clear k3' k4 E RK2 K2
        by_cases hj0 : j = 0
        · have hEn0 := hE0 hj0
          subst hj0 hEn0
          have hb0 : ((K : Int) == 0) = eb := hbE
          clear hbE
          go_wp2_with fail
          refine (awake_any _).mono ?_
          rintro e x4 ⟨rfl, k6⟩
          go_wp2
          go_ret
          exact ⟨rfl, bel_to K3.out (Nat.le_refl _) k6⟩
        · obtain ⟨i, hi⟩ : ∃ i, i + 1 = j := ⟨j - 1, by omega⟩
          obtain ⟨bb', off', hae', hcell⟩ := HFIN.out i hi
          simp only [Option.some.injEq, Addr.mk.injEq, and_true] at hae'
          obtain ⟨rfl, rfl⟩ := hae'
          have hce : x3.cell? ⟨bb, off + i, none⟩ = some (.int .i64 (En : Int)) := by
            rw [k5.cell (p := ⟨bb, off + i, none⟩) (World.block_lt_of_cell? x1' _ hcell)]
            exact hcell
          subst hi
          have hj1 : (((i + 1 : Nat) : Int) == 0) = false := by simp; omega
          have hw1 : IntKind.i64.wrap (((i + 1 : Nat) : Int) - 1) = (i : Int) := by rw [IntKind.wrap_i64]; omega
          clear hcell k5 HFIN HBF
          go_wp2_with fail
          refine (awake_any _).mono ?_
          rintro e x4 ⟨rfl, k6⟩
          go_wp2
          go_ret
          exact ⟨rfl, bel_to K3.out (Nat.le_refl _) k6⟩
      · have t1 : ¬ ((j : Int) < ne) := by omega
        clear HSC
        go_wp2_with fail
        refine (A.out _ RK.out).mono ?_
        rintro e x2 ⟨a3, c3, a4, c4, rfl, _, _, k3⟩
        have RK2 := hide (RK.out.below k3 (Nat.le_refl _))
        have K2 : Hid (Below w.heap.size w x2) := bel_to K1.out (Nat.le_refl _) k3
        have k3' := k3
        clear k3 A
        go_wp2_with fail
        refine (E.out _ RK2.out).mono ?_
        rintro e x3 ⟨rfl, k4⟩
        have K3 : Hid (Below w.heap.size w x3) := bel_to K2.out (Nat.le_refl _) k4
        have k5 : Below x1'.heap.size x1' x3 := bel_to k3' (Nat.le_refl _) k4
        clear k3' k4 E RK2 K2
        by_cases hj0 : j = 0
        · have hEn0 := hE0 hj0
          subst hj0 hEn0
          have hb0 : ((K : Int) == 0) = eb := hbE
          clear hbE
          go_wp2_with fail
          refine (awake_any _).mono ?_
          rintro e x4 ⟨rfl, k6⟩
          go_wp2
          go_ret
          exact ⟨rfl, bel_to K3.out (Nat.le_refl _) k6⟩
        · obtain ⟨i, hi⟩ : ∃ i, i + 1 = j := ⟨j - 1, by omega⟩
          obtain ⟨bb', off', hae', hcell⟩ := HFIN.out i hi
          subst hae'
          have hce : x3.cell? ⟨bb', off' + i, none⟩ = some (.int .i64 (En : Int)) := by
            rw [k5.cell (p := ⟨bb', off' + i, none⟩) (World.block_lt_of_cell? x1' _ hcell)]
            exact hcell
          subst hi
          have hj1 : (((i + 1 : Nat) : Int) == 0) = false := by simp; omega
          have hw1 : IntKind.i64.wrap (((i + 1 : Nat) : Int) - 1) = (i : Int) := by rw [IntKind.wrap_i64]; omega
          clear hcell k5 HFIN HBF
          go_wp2_with fail
          refine (awake_any _).mono ?_
          rintro e x4 ⟨rfl, k6⟩
          go_wp2
          go_ret
          exact ⟨rfl, bel_to K3.out (Nat.le_refl _) k6⟩
end Go.Proofs.Ytbpmmeagpefglaa

namespace Go.Proofs.Ytbpmmeagpefglaa.frameCuts
open Go.ChangeShapes Go.WideShapes Go.ChangeAt Go.RowKit
open Go.ChangeMaps (open_string shut_string)
open Go.ChangeShapes
set_option linter.unusedVariables false

theorem own : ownKnob Try.prog.godebug = none := by kernel_rfl
theorem laidOut : laidOutB Try.prog = true := by kernel_rfl

set_option maxRecDepth 100000 in
theorem lifted (os : Os) (started : os.Started) (H : Type) (enc : TypeId × Value → H) :
    ReturnsInHanded {} Try.checked os 7 .any (Rows.frameCutsSpec.pre6 enc Try.prog Try.f7 Rows.frameCutsRow.domain false) (Rows.frameCutsSpec.post enc Try.prog Try.f7 false true false false) := by
  refine returnsInHanded_of_change_sized (C := Try.checked) own started (by kernel_rfl) Try.func7
    (ChangeSpec.witness6 (enc := enc) (C := Try.checked) false ⟨#[], #[.slice none 0 0, .int .i64 0], []⟩ 8 (by kernel_rfl) (by kernel_rfl) (by kernel_rfl) (by kernel_rfl)) ?_
  intro W base args ds gs before hval0 hW hcnd hsz0 _
  have hsz : (DataW.weightsEach Try.prog (Try.f7.params.toList ++ Rows.frameCutsSpec.plain.varTypes Try.prog) (ds ++ gs)).all (· ≤ reachBytes) = true := hsz0
  have hval : ∀ (j : Nat) t v, Try.f7.params[j]? = some t → args[j]? = some v → Value.okWide Try.prog W .any base t v := hval0
  have hW' := hW
  obtain ⟨p, q, hA0, hV, rfl, hfz, hnd⟩ := hW
  have hA : DataW.TrodAll enc Try.prog W 0 (fun _ => true) true Try.f7.params.toList args.toList ds p := hA0
  rw [Try.params7] at hA hval hsz
  obtain ⟨v0, vs0, d0, ds0, p0, q0, hargs, rfl, rfl, h0, r0⟩ := trodAll_cons hA
  obtain ⟨v1, vs1, d1, ds1, p1, q1, rfl, rfl, rfl, h1, r1⟩ := trodAll_cons r0
  obtain ⟨rfl, rfl, rfl⟩ := trodAll_nil r1
  obtain rfl : args = #[v0, v1] := by cases args; simp_all
  obtain ⟨rfl, rfl⟩ := trodVars_none hV
  obtain ⟨a0, len0, cap0, rfl⟩ := okWide_slice Try.underlying23 (hval 0 23 v0 rfl rfl)
  have k0 := h0
  have lt0 : ∀ x ∈ p0, x.block < W.heap.size := by obtain ⟨m, hm⟩ := k0; exact DataW.trod_lt m _ _ _ hm
  obtain ⟨z0, w0⟩ : ∃ ss, IsTextsF W a0 len0 cap0 ss := by
    obtain ⟨fuel, hf⟩ := h0
    rcases open_strings Try.underlying23 Try.underlying9 (by kernel_rfl) hf with ⟨hcs, _⟩ | ⟨x, l, c, ss, hcs, _, hl, hm, hz, hx, hcell, hws⟩
    · simp [Value.cells] at hcs
      obtain ⟨rfl, rfl, rfl⟩ := hcs
      exact ⟨[], by decide, .inl ⟨rfl, rfl, rfl, rfl⟩⟩
    · simp [Value.cells] at hcs
      obtain ⟨rfl, rfl, rfl⟩ := hcs
      have hd := congrArg Prod.fst hx
      simp only at hd
      have hzc : ss.length = cap0 := by simpa using hz
      have hs := sized_slice hsz (j := 0) (t := 23) (e := 9) rfl (by rw [hd]; rfl) Try.underlying23
      rw [show Try.prog.bytesOf 9 = 16 from by kernel_rfl] at hs
      simp only [strs, List.length_map, List.length_take, List.length_drop, reachBytes] at hs
      exact ⟨ss, by omega, .inr ⟨_, rfl, hl, hzc, hcell⟩⟩
  obtain ⟨a1, rfl, rfl, rfl, w1⟩ := open_int Try.underlying3 (hval 1 3 v1 rfl rfl) h1
  clear hA0 hval0 hsz0 hsz
  refine (walk_cuts a0 len0 cap0 z0 a1 W w0 w1).mono fun e W' ⟨he, bel⟩ => ?_
  subst he
  exact ⟨_, rfl, _, _, _, [], _, [], hW', trodAll_mk1 (shut_bool Try.underlying4 _), (trodAll_cons_mk (Below.trod laidOut (by kernel_rfl) (of_decide_eq_true (by kernel_rfl)) k0 bel lt0) (trodAll_cons_mk (shut_int Try.underlying3 w1) trodAll_mk0)), rfl, bel.frame _, fun h => by cases h⟩

theorem proved : Rows.FrameCutsSaid :=
  OpenClaim.holds_of_wide 7 Try.f7 rfl rfl rfl rfl rfl rfl rfl ⟨rfl, rfl, rfl, rfl, rfl⟩ rfl rfl rfl rfl rfl (by kernel_rfl) Try.func7 (by kernel_rfl)
    (of_decide_eq_true (by kernel_rfl)) (by unfold Func.isWrapper; first | (rw [if_pos (by decide +kernel)]; kernel_rfl) | (rw [if_neg (by decide +kernel)]; exact ⟨rfl, rfl⟩))
    (fun os started H enc _ => lifted os started H enc)
end Go.Proofs.Ytbpmmeagpefglaa.frameCuts
