/-
  Of what was added one by one the quantile is at most the k-th least one, and less by no more than a 128th of it; without numbers, or of a part that is none, there is none; the document's examples hold. The call returns true, and its arguments read as they did.
  Conditions: none: every value of the parameters' types.
-/
import Derived.Test.YtjngpdhhkkambaaHistAj
import Derived.Test.YtjngpdhhkkambaaVintR
import Derived.Deep.QuietTactic
import Derived.BigQuiet
import Derived.Deep.Cut
import Derived.Deep.RegionWith
import Derived.Deep.DrawnRows
import Derived.ProofKit
import Derived.OpenShut
import Derived.ShutString
import Derived.ChangeOld
import Derived.SizedLaws
namespace Go.Proofs.Ytjngpdhhkkambaa
open Go.RowKit

theorem Try.infoW : (Try.prog.info? 22).map (fun i => (i.zero, i.size, i.bytes)) = some (some (.int .u64 0), 1, 8) := by kernel_rfl

/-- The law's own state: the histogram, the numbers in order, what lay there before. -/
structure Stt (w wr : World) (g b0 : Nat) (as_ : Option Addr) (n cap : Nat) (S : List Int) (L : Bks) : Prop where
  low : Below w.heap.size w wr
  hist : ∃ H, HistAt wr g H ∧ spS H = L
  own : Own 22 .u64 wr b0 as_ n cap S
  size : b0 ≤ wr.heap.size
theorem Stt.drewN {w wr : World} {g b0 : Nat} {as_ : Option Addr} {n cap : Nat} {S : List Int} {L : Bks} (h : Stt w wr g b0 as_ n cap S L) (j : Nat) : Stt w (wr.drewN j) g b0 as_ n cap S L := by
  obtain ⟨H, h1, h2⟩ := h.hist
  exact ⟨bel_drewN h.low j, ⟨H, ⟨h1.heap, h1.len, h1.words⟩, h2⟩, h.own, h.size⟩
theorem cut_from (g n cap k : Nat) (hk : k ≤ n) (hc : n ≤ cap) : ∃ D c, (k < n → D = some ⟨g, k, none⟩) ∧ ∀ w : World, (Instr.slice 54 (.slice (some ⟨g, 0, none⟩) n cap) (some (.int .i64 (k : Int))) none none).run Try.prog w = .ok (.slice D (n - k) c) w := by
  refine ⟨if cap = k then some ⟨g, 0, none⟩ else some ⟨g, k, none⟩, cap - k, fun h => by rw [if_neg (by omega)], fun w => ?_⟩
  rw [run_slice_l (P := Try.prog) w 54 (some ⟨g, 0, none⟩) n cap Try.underlying54 .i64 (k : Int) (by omega) (by omega)]
  have hs : (sizeOf (Try.prog.elem 54)).run Try.prog w = .ok 1 w := by kernel_rfl
  rw [hs]
  simp only [Result.andThen, sliced, Int.toNat_natCast, Nat.mul_one]
  split <;> simp [Addr.add_lit]

theorem Own.cellAt' {e : TypeId} {w : World} {base g n cap : Nat} {zs : List Int} (h : Own e .u64 w base (some ⟨g, 0, none⟩) n cap zs) {k : Nat} (hk : k < n) : w.cell? ⟨g, k, none⟩ = some (.int .u64 (zs.getD k 0)) := by
  have hl := h.len
  rw [World.ownsRow.cellAt h k (by omega), List.getElem?_map, List.getElem?_eq_getElem (by omega), List.getD_eq_getElem?_getD, List.getElem?_eq_getElem (by omega)]
  rfl
set_option maxRecDepth 20000 in
set_option maxHeartbeats 8000000 in
theorem walk_true (ad : Option Addr) (n cap : Nat) (ys : List Int) (a b : Int) (w : World) (hl : IsRow .u64 w ad n cap ys) (ha : (Lit.int .u64 a).wf = true) (hb : (Lit.int .u64 b).wf = true) :
    Calls Try.prog 8 #[.slice ad n cap, .int .u64 a, .int .u64 b] w fun e w' => e = .returned (.bool true) ∧ Below w.heap.size w w' := by
  obtain ⟨hnc, hcap, hnone, hrow⟩ := row_of hl
  generalize ys.take n = zs at hrow
  have ha := u64_of_wf ha
  have hb := u64_of_wf hb
  have HA := hide ha
  have HB := hide hb
  obtain ⟨a0, a1⟩ := ha
  obtain ⟨b0, b1⟩ := hb
  obtain ⟨i0, hi, hz0, hz1, hz2⟩ := info_parts Try.infoW
  have HR := hide hrow
  have HL := hide hrow.1
  have hn := hrow.2.1
  have N := hide new_any
  have AW := hide awake_any
  clear hl hrow hnone hcap
  go_enter Try.func8, Try.ntmps8
  go_wp2_with fail
  refine (N.out _).mono ?_
  rintro e w1 ⟨rfl, h1, b1'⟩
  obtain ⟨g, HGA⟩ : ∃ g, Hid (w.heap.size = g) := ⟨_, rfl⟩
  obtain ⟨q0, HQ0⟩ : ∃ q, Hid (w1.heap.size = q) := ⟨_, rfl⟩
  have HG : Hid (w.heap.size ≤ g ∧ g < q0) := ⟨by rw [HGA.out]; exact Nat.le_refl _, by rw [← HGA.out, ← HQ0.out]; exact h1.lt⟩
  have T0 : Hid (Stt w w1 g q0 none 0 0 [] (seen [])) := ⟨b1', ⟨H0, by rw [← HGA.out]; exact h1, spS_H0⟩, own_nil _ _ _ _, by rw [HQ0.out]; exact Nat.le_refl _⟩
  rw [HGA.out]
  clear h1 b1' HGA HQ0 N
  by_cases hbig : 300 < n
  · have d0 : decide ((300 : Int) < (n : Int)) = true := decide_eq_true (by omega)
    have B1 := hide T0.out.low
    go_wp2_with fail
    refine (AW.out _).mono ?_
    rintro e w4 ⟨rfl, b4⟩
    have B4 := hide (below_to B1.out b4 (Nat.le_refl _))
    clear b4 B1 T0
    go_wp2
    go_ret
    exact ⟨rfl, B4.out⟩
  have d0 : decide ((300 : Int) < (n : Int)) = false := decide_eq_false (by omega)
  have hn3 : n ≤ 300 := by omega
  clear hbig
  go_wp2
  go_loopw [8, 9] (fun s i wr => ∃ (as_ : Option Addr) (j cs : Nat) (S : List Int), j ≤ n ∧ s = .slice as_ j cs ∧ i = .int .i64 j ∧ Hid (Stt w wr g q0 as_ j cs S (seen (zs.take j))) ∧ Hid (S.Perm (zs.take j) ∧ S.Pairwise (· ≤ ·))) (fun _ i _ => n - (intOf i).toNat)
  case atStart => exact ⟨none, 0, 0, [], by omega, rfl, rfl, T0, ⟨by simp, by simp⟩⟩
  case round =>
    obtain ⟨as_, j, cs, S, hj, rfl, rfl, HT, HS⟩ := hrel
    by_cases hlt : j < n
    · have HRW : Hid (∀ W, Below w.heap.size w W → ∃ b off, ad = some ⟨b, off, none⟩ ∧ W.cell? ⟨b, off + j, none⟩ = some (.int .u64 (zs.getD j 0))) := by
        intro W hW
        obtain ⟨_, _, _, h | ⟨b, off, rfl, hcell⟩⟩ := HR.out.below hW (Nat.le_refl _)
        · omega
        · exact ⟨b, off, rfl, hcell j hlt⟩
      obtain ⟨bb, off, rfl, f0⟩ := HRW.out wr HT.out.low
      have HC : Hid (∀ W, Below w.heap.size w W → W.cell? ⟨bb, off + j, none⟩ = some (.int .u64 (zs.getD j 0))) := by
        intro W hW
        obtain ⟨b', off', hbo, f1⟩ := HRW.out W hW
        simp only [Option.some.injEq, Addr.mk.injEq, and_true] at hbo
        obtain ⟨rfl, rfl⟩ := hbo
        exact f1
      have hy := HR.out.word j
      have HTK := hide (take_ints (l := zs) (k := j) (by rw [HL.out]; exact hlt))
      have i1 : (0 : Int) ≤ (j : Int) := by omega
      have i2 : (j : Int) < (n : Int) := by omega
      generalize zs.getD j 0 = y at *
      have HY := hide hy
      obtain ⟨y0, y1⟩ := hy
      obtain ⟨H, hh1, hh2⟩ := HT.out.hist
      have A1 := hide (hadd_any g H y 1 wr HY.out ⟨by omega, by omega⟩ hh1)
      have E1 := hide (spS_addH hh1 HY.out (n := 1) ⟨by omega, by omega⟩)
      have E2 := hide hh2
      clear hh1 hh2 HRW
      go_wp2_with fail
      refine A1.out.mono ?_
      rintro e w4 ⟨rfl, h4, c4⟩
      have HT4 : Hid (Stt w w4 g q0 as_ j cs S (seen (zs.take (j + 1)))) := by
        refine ⟨below_ch HT.out.low c4 (Nat.le_refl _) HG.out.1, ⟨_, h4, ?_⟩, HT.out.own.ch c4 (fun k hk e => by have := HG.out; omega), Nat.le_trans HT.out.size c4.size⟩
        rw [E1.out, E2.out, HTK.out, seen_snoc]
      have HSL : Hid (S.length = j) := HT.out.own.len
      clear h4 c4 A1 E1 E2 HT f0
      go_wp2
      go_loopw [10] (fun kk wi => ∃ k : Nat, k ≤ j ∧ kk = .int .i64 k ∧ Hid (Stt w wi g q0 as_ j cs S (seen (zs.take (j + 1)))) ∧ Hid (∀ p, k ≤ p → p < S.length → y < S.getD p 0)) (fun kk _ => (intOf kk).toNat)
      case atStart => exact ⟨j, by omega, rfl, HT4, fun p h1 h2 => by have := HSL.out; omega⟩
      case round =>
        obtain ⟨k, hk, rfl, HI, HK⟩ := hrel
        have f1 := HC.out _ HI.out.low
        by_cases hk0 : k = 0
        · have dk : decide ((0 : Int) < (k : Int)) = false := decide_eq_false (by omega)
          have dk2 : decide (0 < k) = false := decide_eq_false (by omega)
          have HST : Hid (k = 0 ∨ S.getD (k - 1) 0 ≤ y) := Or.inl hk0
          clear hk0
          go_wp2
          go_quiet (fail)
          have WQ : Hid (Stt w (wr.drewN nq) g q0 as_ j cs S (seen (zs.take (j + 1)))) := HI.out.drewN _
          clear HI
          generalize wr.drewN nq = wq at *
          clear f1
          have HQS : Hid (q0 ≤ wq.heap.size) := WQ.out.size
          go_wp2_with (at_builtin; refine wpList_append_src _ rfl _ _ 54 rfl q0 22 i0 8 Try.underlying54 hi hz0 hz1 hz2 as_ j cs S rfl (Or.inl (WQ.out.own.alloc _)) ⟨wq.heap.size, 0, none⟩ 1 1 [0] rfl (by omega) (one_row wq 0 (by decide) _ _) (by omega) (by omega) (by have := HQS.out; simp; omega) ?_)
          intro a2 c2 w2 o2 b2
          obtain ⟨gs, cx, hax⟩ := ownsRow_succ o2
          simp only [Value.slice.injEq, true_and] at hax
          obtain ⟨rfl, rfl⟩ := hax
          have hcap2 := o2.capped.1
          have hgs := own_block o2 gs rfl
          have B2 : Hid (Below w.heap.size w w2) := (bel_al WQ.out.low (Nat.le_refl _) _).trans (b2.mono (by have := HG.out; omega))
          have o2 : Own 22 .u64 w2.drew q0 (some ⟨gs, 0, none⟩) (j + 1) c2 (S ++ [0]) := o2
          obtain ⟨D, c3, hD, sD⟩ := cut_from gs (j + 1) c2 (k + 1) (by omega) hcap2
          obtain ⟨E, c4, hE, sE⟩ := cut_from gs (j + 1) c2 k (by omega) hcap2
          rw [show j + 1 - (k + 1) = j - k by omega, show ((k + 1 : Nat) : Int) = (k : Int) + 1 by omega] at sD
          have hcp := fun ty => copy_seen o2 HSL.out hk ty D E c3 c4 (fun h => hD (by omega)) (fun h => hE (by omega))
          have o3 := o2.putAt (k + 1) (S.drop k)
          have b3 : Below w.heap.size w (w2.drew.setCells gs (k + 1) ((S.drop k).map (Value.int .u64))) := below_cells (by have := HG.out; omega) B2.out.drew _ _
          have q3 : Below q0 w2.drew (w2.drew.setCells gs (k + 1) ((S.drop k).map (Value.int .u64))) := below_cells hgs (Below.refl _ _) _ _
          have hwr : IntKind.i64.wrap ((k : Int) + 1) = (k : Int) + 1 := by rw [IntKind.wrap_i64]; omega
          have O3 := hide o3
          have B3 := hide b3
          have B4 : Hid (Below q0 wq w2.drew) := ((bel_al (Below.refl _ _) HQS.out _).trans b2).drew
          have Q3 := hide q3
          clear o2 b2 o3 b3 q3 hD hE hcap2 hgs
          generalize w2.drew.setCells gs (k + 1) ((S.drop k).map (Value.int .u64)) = w3 at *
          go_upto_region 13 with fail
          refine wp_region_held_drew (S := fun _ => True) (by kernel_rfl) trivial (fun hHeld => ?_)
          refine held_take (i := 0) (d := (some 61)) (v := ?_) rfl rfl (by kernel_rfl) (by kernel_rfl) (by kernel_rfl) (fun _ _ _ h => h) (Or.inl ⟨by rfl, ?_⟩) (by first | assumption | rfl | trivial) ?_
          rotate_left 1
          · (intro w hSw; (try dsimp only at hSw); (try subst hSw); go_simp; try with_reducible rfl)
          simp only [Act.put, List.setIfInBounds_toArray, List.set_cons_zero, List.set_cons_succ]
          refine held_take (i := 1) (d := (some 62)) (v := ?_) rfl rfl (by kernel_rfl) (by kernel_rfl) (by kernel_rfl) (fun _ _ _ h => h) (Or.inl ⟨by rfl, ?_⟩) (by first | assumption | rfl | trivial) ?_
          rotate_left 1
          · (intro w hSw; (try dsimp only at hSw); (try subst hSw); go_simp; try with_reducible rfl)
          simp only [Act.put, List.setIfInBounds_toArray, List.set_cons_zero, List.set_cons_succ]
          refine held_take (i := 2) (d := (some 63)) (v := ?_) rfl rfl (by kernel_rfl) (by kernel_rfl) (by kernel_rfl) (fun _ _ _ h => h) (Or.inl ⟨by rfl, ?_⟩) (by first | assumption | rfl | trivial) ?_
          rotate_left 1
          · (intro w hSw; (try dsimp only at hSw); (try subst hSw); go_simp; try with_reducible rfl)
          simp only [Act.put, List.setIfInBounds_toArray, List.set_cons_zero, List.set_cons_succ]
          refine held_take (i := 3) (d := (some 64)) (v := ?_) rfl rfl (by kernel_rfl) (by kernel_rfl) (by kernel_rfl) (fun _ _ _ h => h) (Or.inl ⟨by rfl, ?_⟩) (by first | assumption | rfl | trivial) ?_
          rotate_left 1
          · (intro w hSw; (try dsimp only at hSw); (try subst hSw); go_simp; try with_reducible rfl)
          simp only [Act.put, List.setIfInBounds_toArray, List.set_cons_zero, List.set_cons_succ]
          refine held_take (i := 4) (d := (some 65)) (v := ?_) rfl rfl (by kernel_rfl) (by kernel_rfl) (by kernel_rfl) (fun _ _ _ h => h) (Or.inl ⟨by rfl, ?_⟩) (by first | assumption | rfl | trivial) ?_
          rotate_left 1
          · (intro w hSw; (try dsimp only at hSw); (try subst hSw); go_simp; try with_reducible rfl)
          simp only [Act.put, List.setIfInBounds_toArray, List.set_cons_zero, List.set_cons_succ]
          refine held_take (i := 5) (d := (some 66)) (v := ?_) rfl rfl (by kernel_rfl) (by kernel_rfl) (by kernel_rfl) (fun _ _ _ h => h) (Or.inl ⟨by rfl, ?_⟩) (by first | assumption | rfl | trivial) ?_
          rotate_left 1
          · (intro w hSw; (try dsimp only at hSw); (try subst hSw); go_simp; try with_reducible rfl)
          simp only [Act.put, List.setIfInBounds_toArray, List.set_cons_zero, List.set_cons_succ]
          refine held_take (i := 6) (d := (some 67)) (v := ?_) rfl rfl (by kernel_rfl) (by kernel_rfl) (by kernel_rfl) (fun _ _ _ h => h) (Or.inl ⟨by rfl, ?_⟩) (by first | assumption | rfl | trivial) ?_
          rotate_left 1
          · (intro w hSw; (try dsimp only at hSw); (try subst hSw); go_simp; try with_reducible rfl)
          simp only [Act.put, List.setIfInBounds_toArray, List.set_cons_zero, List.set_cons_succ]
          refine held_next (i := 7) (by kernel_rfl) rfl (by rfl) (fun K hK => ?_)
          go_simp
          refine hK.out _ _ trivial ?_
          clear hK
          refine wpAnyH_done (by kernel_rfl) ?_ _
          have f2 := HC.out _ B3.out
          have f3 := O3.out.cellAt' (k := k) (by omega)
          have f4 := World.ownsRow.frozenAt O3.out k
          have k1 : (0 : Int) ≤ (k : Int) := by omega
          have k2 : (k : Int) < ((j + 1 : Nat) : Int) := by omega
          have k3 : (k : Int) < (j : Int) + 1 := by omega
          have HN : Hid (Stt w (w3.setCell ⟨gs, k, none⟩ (.int .u64 y)) g q0 (some ⟨gs, 0, none⟩) (j + 1) c2 (putIn S k y) (seen (zs.take (j + 1))) ∧ (putIn S k y).Perm (zs.take (j + 1)) ∧ (putIn S k y).Pairwise (· ≤ ·)) := by
            refine ⟨⟨?_, ?_, ?_, ?_⟩, ?_, ?_⟩
            · exact (B3.out.setCell (p := ⟨gs, k, none⟩) (by have := own_block O3.out gs rfl; have := HG.out; show w.heap.size ≤ gs; omega) _)
            · obtain ⟨H, x1, x2⟩ := WQ.out.hist
              refine ⟨H, ?_, x2⟩
              have x3 : Below q0 wq (w3.setCell ⟨gs, k, none⟩ (.int .u64 y)) := (B4.out.trans Q3.out).setCell (p := ⟨gs, k, none⟩) (own_block O3.out gs rfl) _
              exact x1.below x3 HG.out.2
            · have x := O3.out.stored k y
              rw [moved S HSL.out hk y] at x
              exact x
            · have x1 := B4.out.size
              have x2 := Q3.out.size
              have x3 := HQS.out
              have x4 := (KeepsWalks.setCell w3 ⟨gs, k, none⟩ (.int .u64 y)).size
              show q0 ≤ (w3.setCell ⟨gs, k, none⟩ (.int .u64 y)).heap.size
              omega
            · refine (putIn_perm S k y).trans ?_
              rw [HTK.out]
              exact (List.Perm.cons y HS.out.1).trans (List.perm_append_singleton y _).symm
            · exact putIn_sorted HS.out.2 HST.out (by rw [HSL.out]; exact hk) HK.out
          clear hcp sD sE HS HK HST WQ B2 B3 B4 Q3 O3 HC
          go_wp2
          exact ⟨⟨_, j + 1, c2, _, by omega, rfl, by go_num, HN.out.1, HN.out.2⟩, by simp [intOf]; omega⟩
        have hk1 : 1 ≤ k := by omega
        have dk : decide ((0 : Int) < (k : Int)) = true := decide_eq_true (by omega)
        have dk2 : decide (0 < k) = true := decide_eq_true (by omega)
        obtain ⟨gs0, rfl⟩ : ∃ gs0, as_ = some ⟨gs0, 0, none⟩ := by
          rcases HI.out.own.2 with ⟨h1, h2⟩ | ⟨g', c, cur, h1, _⟩
          · omega
          · simp only [Value.slice.injEq, true_and] at h1
            exact ⟨g', h1.1⟩
        have f5 := HI.out.own.cellAt' (k := k - 1) (by omega)
        have i5 : ((k : Int) - 1).toNat = k - 1 := by omega
        have i6 : (0 : Int) ≤ (k : Int) - 1 := by omega
        have i7 : (k : Int) - 1 < (j : Int) := by omega
        have HGD : Hid (∀ q, k - 1 ≤ q → q < S.length → y < S.getD (k - 1) 0 → y < S.getD q 0) := by
          intro q h1 h2 h3
          by_cases hq : q = k - 1
          · rw [hq]; exact h3
          · exact HK.out q (by omega) h2
        have HSQ : Hid (S.getD (k - 1) 0 = S.getD (k - 1) 0) := rfl
        generalize hv : S.getD (k - 1) 0 = v at f5 HGD
        by_cases hvy : y < v
        · have d2 : decide (y < v) = true := decide_eq_true hvy
          have HN : Hid (∀ p, k - 1 ≤ p → p < S.length → y < S.getD p 0) := fun p h1 h2 => HGD.out p h1 h2 hvy
          have HIQ := hide HI.out.drewN
          clear hv HGD HSQ HI
          go_wp2
          go_quiet (fail)
          go_wp2
          go_roundw
          case rel => exact ⟨k - 1, by omega, by rw [Int.natCast_sub hk1]; rfl, HIQ.out _, HN⟩
          case measure => simp [intOf]; omega
        · have d2 : decide (y < v) = false := decide_eq_false hvy
          have HST : Hid (k = 0 ∨ S.getD (k - 1) 0 ≤ y) := Or.inr (by rw [hv]; omega)
          clear hv HGD HSQ hvy
          go_wp2
          go_quiet (fail)
          clear f5
          have WQ : Hid (Stt w (wr.drewN nq) g q0 (some ⟨gs0, 0, none⟩) j cs S (seen (zs.take (j + 1)))) := HI.out.drewN _
          clear HI
          generalize wr.drewN nq = wq at *
          clear f1
          have HQS : Hid (q0 ≤ wq.heap.size) := WQ.out.size
          go_wp2_with (at_builtin; refine wpList_append_src _ rfl _ _ 54 rfl q0 22 i0 8 Try.underlying54 hi hz0 hz1 hz2 (some ⟨gs0, 0, none⟩) j cs S rfl (Or.inl (WQ.out.own.alloc _)) ⟨wq.heap.size, 0, none⟩ 1 1 [0] rfl (by omega) (one_row wq 0 (by decide) _ _) (by omega) (by omega) (by have := HQS.out; simp; omega) ?_)
          intro a2 c2 w2 o2 b2
          obtain ⟨gs, cx, hax⟩ := ownsRow_succ o2
          simp only [Value.slice.injEq, true_and] at hax
          obtain ⟨rfl, rfl⟩ := hax
          have hcap2 := o2.capped.1
          have hgs := own_block o2 gs rfl
          have B2 : Hid (Below w.heap.size w w2) := (bel_al WQ.out.low (Nat.le_refl _) _).trans (b2.mono (by have := HG.out; omega))
          have o2 : Own 22 .u64 w2.drew q0 (some ⟨gs, 0, none⟩) (j + 1) c2 (S ++ [0]) := o2
          obtain ⟨D, c3, hD, sD⟩ := cut_from gs (j + 1) c2 (k + 1) (by omega) hcap2
          obtain ⟨E, c4, hE, sE⟩ := cut_from gs (j + 1) c2 k (by omega) hcap2
          rw [show j + 1 - (k + 1) = j - k by omega, show ((k + 1 : Nat) : Int) = (k : Int) + 1 by omega] at sD
          have hcp := fun ty => copy_seen o2 HSL.out hk ty D E c3 c4 (fun h => hD (by omega)) (fun h => hE (by omega))
          have o3 := o2.putAt (k + 1) (S.drop k)
          have b3 : Below w.heap.size w (w2.drew.setCells gs (k + 1) ((S.drop k).map (Value.int .u64))) := below_cells (by have := HG.out; omega) B2.out.drew _ _
          have q3 : Below q0 w2.drew (w2.drew.setCells gs (k + 1) ((S.drop k).map (Value.int .u64))) := below_cells hgs (Below.refl _ _) _ _
          have hwr : IntKind.i64.wrap ((k : Int) + 1) = (k : Int) + 1 := by rw [IntKind.wrap_i64]; omega
          have O3 := hide o3
          have B3 := hide b3
          have B4 : Hid (Below q0 wq w2.drew) := ((bel_al (Below.refl _ _) HQS.out _).trans b2).drew
          have Q3 := hide q3
          clear o2 b2 o3 b3 q3 hD hE hcap2 hgs
          generalize w2.drew.setCells gs (k + 1) ((S.drop k).map (Value.int .u64)) = w3 at *
          go_upto_region 13 with fail
          refine wp_region_held_drew (S := fun _ => True) (by kernel_rfl) trivial (fun hHeld => ?_)
          refine held_take (i := 0) (d := (some 61)) (v := ?_) rfl rfl (by kernel_rfl) (by kernel_rfl) (by kernel_rfl) (fun _ _ _ h => h) (Or.inl ⟨by rfl, ?_⟩) (by first | assumption | rfl | trivial) ?_
          rotate_left 1
          · (intro w hSw; (try dsimp only at hSw); (try subst hSw); go_simp; try with_reducible rfl)
          simp only [Act.put, List.setIfInBounds_toArray, List.set_cons_zero, List.set_cons_succ]
          refine held_take (i := 1) (d := (some 62)) (v := ?_) rfl rfl (by kernel_rfl) (by kernel_rfl) (by kernel_rfl) (fun _ _ _ h => h) (Or.inl ⟨by rfl, ?_⟩) (by first | assumption | rfl | trivial) ?_
          rotate_left 1
          · (intro w hSw; (try dsimp only at hSw); (try subst hSw); go_simp; try with_reducible rfl)
          simp only [Act.put, List.setIfInBounds_toArray, List.set_cons_zero, List.set_cons_succ]
          refine held_take (i := 2) (d := (some 63)) (v := ?_) rfl rfl (by kernel_rfl) (by kernel_rfl) (by kernel_rfl) (fun _ _ _ h => h) (Or.inl ⟨by rfl, ?_⟩) (by first | assumption | rfl | trivial) ?_
          rotate_left 1
          · (intro w hSw; (try dsimp only at hSw); (try subst hSw); go_simp; try with_reducible rfl)
          simp only [Act.put, List.setIfInBounds_toArray, List.set_cons_zero, List.set_cons_succ]
          refine held_take (i := 3) (d := (some 64)) (v := ?_) rfl rfl (by kernel_rfl) (by kernel_rfl) (by kernel_rfl) (fun _ _ _ h => h) (Or.inl ⟨by rfl, ?_⟩) (by first | assumption | rfl | trivial) ?_
          rotate_left 1
          · (intro w hSw; (try dsimp only at hSw); (try subst hSw); go_simp; try with_reducible rfl)
          simp only [Act.put, List.setIfInBounds_toArray, List.set_cons_zero, List.set_cons_succ]
          refine held_take (i := 4) (d := (some 65)) (v := ?_) rfl rfl (by kernel_rfl) (by kernel_rfl) (by kernel_rfl) (fun _ _ _ h => h) (Or.inl ⟨by rfl, ?_⟩) (by first | assumption | rfl | trivial) ?_
          rotate_left 1
          · (intro w hSw; (try dsimp only at hSw); (try subst hSw); go_simp; try with_reducible rfl)
          simp only [Act.put, List.setIfInBounds_toArray, List.set_cons_zero, List.set_cons_succ]
          refine held_take (i := 5) (d := (some 66)) (v := ?_) rfl rfl (by kernel_rfl) (by kernel_rfl) (by kernel_rfl) (fun _ _ _ h => h) (Or.inl ⟨by rfl, ?_⟩) (by first | assumption | rfl | trivial) ?_
          rotate_left 1
          · (intro w hSw; (try dsimp only at hSw); (try subst hSw); go_simp; try with_reducible rfl)
          simp only [Act.put, List.setIfInBounds_toArray, List.set_cons_zero, List.set_cons_succ]
          refine held_take (i := 6) (d := (some 67)) (v := ?_) rfl rfl (by kernel_rfl) (by kernel_rfl) (by kernel_rfl) (fun _ _ _ h => h) (Or.inl ⟨by rfl, ?_⟩) (by first | assumption | rfl | trivial) ?_
          rotate_left 1
          · (intro w hSw; (try dsimp only at hSw); (try subst hSw); go_simp; try with_reducible rfl)
          simp only [Act.put, List.setIfInBounds_toArray, List.set_cons_zero, List.set_cons_succ]
          refine held_next (i := 7) (by kernel_rfl) rfl (by rfl) (fun K hK => ?_)
          go_simp
          refine hK.out _ _ trivial ?_
          clear hK
          refine wpAnyH_done (by kernel_rfl) ?_ _
          have f2 := HC.out _ B3.out
          have f3 := O3.out.cellAt' (k := k) (by omega)
          have f4 := World.ownsRow.frozenAt O3.out k
          have k1 : (0 : Int) ≤ (k : Int) := by omega
          have k2 : (k : Int) < ((j + 1 : Nat) : Int) := by omega
          have k3 : (k : Int) < (j : Int) + 1 := by omega
          have HN : Hid (Stt w (w3.setCell ⟨gs, k, none⟩ (.int .u64 y)) g q0 (some ⟨gs, 0, none⟩) (j + 1) c2 (putIn S k y) (seen (zs.take (j + 1))) ∧ (putIn S k y).Perm (zs.take (j + 1)) ∧ (putIn S k y).Pairwise (· ≤ ·)) := by
            refine ⟨⟨?_, ?_, ?_, ?_⟩, ?_, ?_⟩
            · exact (B3.out.setCell (p := ⟨gs, k, none⟩) (by have := own_block O3.out gs rfl; have := HG.out; show w.heap.size ≤ gs; omega) _)
            · obtain ⟨H, x1, x2⟩ := WQ.out.hist
              refine ⟨H, ?_, x2⟩
              have x3 : Below q0 wq (w3.setCell ⟨gs, k, none⟩ (.int .u64 y)) := (B4.out.trans Q3.out).setCell (p := ⟨gs, k, none⟩) (own_block O3.out gs rfl) _
              exact x1.below x3 HG.out.2
            · have x := O3.out.stored k y
              rw [moved S HSL.out hk y] at x
              exact x
            · have x1 := B4.out.size
              have x2 := Q3.out.size
              have x3 := HQS.out
              have x4 := (KeepsWalks.setCell w3 ⟨gs, k, none⟩ (.int .u64 y)).size
              show q0 ≤ (w3.setCell ⟨gs, k, none⟩ (.int .u64 y)).heap.size
              omega
            · refine (putIn_perm S k y).trans ?_
              rw [HTK.out]
              exact (List.Perm.cons y HS.out.1).trans (List.perm_append_singleton y _).symm
            · exact putIn_sorted HS.out.2 HST.out (by rw [HSL.out]; exact hk) HK.out
          clear hcp sD sE HS HK HST WQ B2 B3 B4 Q3 O3 HC
          go_wp2
          exact ⟨⟨_, j + 1, c2, _, by omega, rfl, by go_num, HN.out.1, HN.out.2⟩, by simp [intOf]; omega⟩
    · have : j = n := by omega
      subst this
      obtain ⟨H, t1, t2⟩ := HT.out.hist
      have B1 := hide HT.out.low
      have O1 := hide HT.out.own
      have hSl := HT.out.own.len
      have HSL := hide hSl
      have HSP := hide HS.out
      have Q := hide (hquant_any g H a b wr t1 HA.out HB.out)
      have hzt : zs.take j = zs := List.take_of_length_le (by rw [HL.out]; omega)
      rw [t2, hzt] at Q
      rw [hzt] at HSP
      have HZW : Hid (WordsH zs) := HR.out.words
      clear t1 t2 HT HS hzt hSl
      by_cases hbad : b = 0 ∨ b < a
      · have hq : quantS (seen zs) a b = (0, 5) := by unfold quantS; rw [if_pos hbad]
        rw [hq] at Q
        have hz : ((b == 0) || decide (b < a)) = true := by
          simp only [Bool.or_eq_true, beq_iff_eq, decide_eq_true_eq]
          omega
        clear hbad hq
        obtain ⟨z2, hz2⟩ : ∃ z, (b == 0) = z := ⟨_, rfl⟩
        obtain ⟨z3, hz3⟩ : ∃ z, decide (b < a) = z := ⟨_, rfl⟩
        rw [hz2, hz3] at hz
        cases z2 <;> cases z3 <;> simp at hz
        all_goals
          go_wp2_with fail
          refine Q.out.mono ?_
          rintro e w5 ⟨rfl, b5⟩
          have B5 := hide (below_to B1.out b5 (Nat.le_refl _))
          clear b5
          go_wp2_with fail
          refine (AW.out _).mono ?_
          rintro e w6 ⟨rfl, b6⟩
          have B6 := hide (below_to B5.out b6 (Nat.le_refl _))
          clear b6 B5
          go_wp2
          go_ret
          exact ⟨rfl, B6.out⟩
      have z2 : (b == 0) = false := by simp; omega
      have z3 : decide (b < a) = false := decide_eq_false (by omega)
      have hab : a ≤ b := by omega
      have hb1 : 0 < b := by omega
      have hsc := seen_count' HZW.out (by rw [HL.out]; omega)
      rw [HL.out] at hsc
      by_cases hn0 : j = 0
      · have hq : quantS (seen zs) a b = (0, 3) := by
          unfold quantS
          rw [if_neg hbad, if_neg (by rw [hsc]; omega), if_pos (by rw [hsc]; omega)]
        rw [hq] at Q
        subst hn0
        clear hq hbad hsc
        go_wp2_with fail
        refine Q.out.mono ?_
        rintro e w5 ⟨rfl, b5⟩
        have B5 := hide (below_to B1.out b5 (Nat.le_refl _))
        clear b5 B1
        go_wp2_with fail
        refine (AW.out _).mono ?_
        rintro e w6 ⟨rfl, b6⟩
        have B6 := hide (below_to B5.out b6 (Nat.le_refl _))
        clear b6 B5
        go_wp2
        go_ret
        exact ⟨rfl, B6.out⟩
      have hne : zs ≠ [] := by intro h; have := HL.out; rw [h] at this; simp at this; omega
      have HSQ := hide (seen_quant HZW.out (by rw [HL.out]; omega) hne HSP.out.1 HSP.out.2 HA.out HB.out hb1 hab)
      rw [HL.out, HSL.out] at HSQ
      have HPM := hide HSP.out.1
      have z4 : ((j : Int) == 0) = false := by simp; omega
      have hj1 : 1 ≤ j := by omega
      obtain ⟨qv, HQV⟩ : ∃ q, Hid (q = (quantS (seen zs) a b).1) := ⟨_, rfl⟩
      have hq2 : (quantS (seen zs) a b).2 = 0 := by obtain ⟨k, -, -, h⟩ := HSQ.out; rw [h]
      rw [hq2, ← HQV.out] at Q
      obtain ⟨gs, rfl⟩ : ∃ gs, as_ = some ⟨gs, 0, none⟩ := by
        rcases O1.out.2 with ⟨h1, h2⟩ | ⟨g', c, cur, h1, _⟩
        · omega
        · simp only [Value.slice.injEq, true_and] at h1
          exact ⟨g', h1.1⟩
      clear hbad hsc hn0 hne hq2 HSP
      go_wp2_with fail
      refine Q.out.mono ?_
      rintro e w5 ⟨rfl, b5⟩
      have B5 := hide (below_to B1.out b5 (Nat.le_refl _))
      have O5 := hide (O1.out.below b5 (Nat.le_refl _))
      clear b5 B1 O1 Q
      have O1 := O5
      clear O5
      go_wp2
      go_loop [13] (fun mm => ∃ m : Int, mm = .int .i64 m ∧ 1 ≤ m ∧ m ≤ j ∧ Hid (m = 1 ∨ (m - 1) * b < j * a)) (fun mm => (j - intOf mm).toNat)
      case atStart => exact ⟨1, rfl, by omega, by omega, Or.inl rfl⟩
      case round =>
        obtain ⟨m, rfl, m1, m2, HM⟩ := hrel
        by_cases hmj : m < j
        · have LS := hide (fun w => less_any m b j a w (by omega) (by omega) (by omega) (by omega) HB.out HA.out)
          by_cases hle : m * b < j * a
          · rw [decide_eq_true hle] at LS
            have HN : Hid (m + 1 = 1 ∨ (m + 1 - 1) * b < j * a) := Or.inr (by rw [show m + 1 - 1 = m by omega]; exact hle)
            clear hle
            go_wp2_with fail
            refine (LS.out _).mono ?_
            rintro e w6 ⟨rfl, rfl⟩
            go_wp2
            exact ⟨⟨m + 1, by go_num, by omega, by omega, HN⟩, by simp [intOf]; omega⟩
          · rw [decide_eq_false hle] at LS
            have HLE := hide hle
            clear hle
            have hm2 := (show m = (j : Int) ∨ (j : Int) * a ≤ m * b from Or.inr (by have := HLE.out; omega))
            have hwant := want_least HA.out ⟨by omega, by omega⟩ HB.out hb1 hab m1 m2 HM.out hm2
            obtain ⟨k, hk1, hk2, hk3⟩ := HSQ.out
            have hkm : k = m.toNat - 1 := by rw [hwant] at hk2; omega
            subst hkm
            obtain ⟨mm, rfl⟩ := Int.eq_ofNat_of_zero_le (show 0 ≤ m by omega)
            rw [Int.toNat_natCast] at hk1 hk3
            have f5 := O1.out.cellAt' (k := mm - 1) (by omega)
            have hX : W64 (S.getD (mm - 1) 0) := getD_all (fun z hz => HZW.out z (HPM.out.mem_iff.1 hz)) ⟨by decide, by decide⟩ (mm - 1)
            have l1 := (bucketS_between hX.1 hX.2).1
            have l3 := bucketS_near hX.1 hX.2
            obtain ⟨r0, r1⟩ := bucketS_range hX.1 hX.2
            obtain ⟨l4, l5⟩ := lowS_word r0 r1
            have hqe : qv = lowS (bucketS (S.getD (mm - 1) 0)) := by rw [HQV.out, hk3]
            rw [← hqe] at l1 l3 l4 l5
            clear hk1 hk2 hk3 hwant hm2 hqe HSQ HQV
            generalize S.getD (mm - 1) 0 = X at *
            obtain ⟨x0, x1⟩ := hX
            have q1 : X.tdiv 128 = X / 128 := Int.tdiv_eq_ediv_of_nonneg x0
            have s1 : decide (qv ≤ X) = true := decide_eq_true l1
            have s2 : decide (X - qv ≤ X / 128) = true := decide_eq_true l3
            have s6 : X / 128 < 18446744073709551616 := by omega
            have s7 : 0 ≤ X / 128 := by omega
            have i5 : ((mm : Int) - 1).toNat = mm - 1 := by omega
            have i6 : (0 : Int) ≤ (mm : Int) - 1 := by omega
            have i7 : (mm : Int) - 1 < (j : Int) := by omega
            clear HM HLE
            go_wp2_with fail
            refine (LS.out _).mono ?_
            rintro e w6 ⟨rfl, rfl⟩
            clear LS
            go_wp2_with fail
            refine (AW.out _).mono ?_
            rintro e w9 ⟨rfl, b9⟩
            have B9 := hide (below_to B5.out b9 (Nat.le_refl _))
            clear b9 B5
            go_wp2
            go_ret
            exact ⟨rfl, B9.out⟩
        · have hmj' : m = j := by omega
          have hm2 := (show m = (j : Int) ∨ (j : Int) * a ≤ m * b from Or.inl hmj')
          have hwant := want_least HA.out ⟨by omega, by omega⟩ HB.out hb1 hab m1 m2 HM.out hm2
          obtain ⟨k, hk1, hk2, hk3⟩ := HSQ.out
          have hkm : k = m.toNat - 1 := by rw [hwant] at hk2; omega
          subst hkm
          obtain ⟨mm, rfl⟩ := Int.eq_ofNat_of_zero_le (show 0 ≤ m by omega)
          rw [Int.toNat_natCast] at hk1 hk3
          have f5 := O1.out.cellAt' (k := mm - 1) (by omega)
          have hX : W64 (S.getD (mm - 1) 0) := getD_all (fun z hz => HZW.out z (HPM.out.mem_iff.1 hz)) ⟨by decide, by decide⟩ (mm - 1)
          have l1 := (bucketS_between hX.1 hX.2).1
          have l3 := bucketS_near hX.1 hX.2
          obtain ⟨r0, r1⟩ := bucketS_range hX.1 hX.2
          obtain ⟨l4, l5⟩ := lowS_word r0 r1
          have hqe : qv = lowS (bucketS (S.getD (mm - 1) 0)) := by rw [HQV.out, hk3]
          rw [← hqe] at l1 l3 l4 l5
          clear hk1 hk2 hk3 hwant hm2 hqe HSQ HQV
          generalize S.getD (mm - 1) 0 = X at *
          obtain ⟨x0, x1⟩ := hX
          have q1 : X.tdiv 128 = X / 128 := Int.tdiv_eq_ediv_of_nonneg x0
          have s1 : decide (qv ≤ X) = true := decide_eq_true l1
          have s2 : decide (X - qv ≤ X / 128) = true := decide_eq_true l3
          have s6 : X / 128 < 18446744073709551616 := by omega
          have s7 : 0 ≤ X / 128 := by omega
          have i5 : ((mm : Int) - 1).toNat = mm - 1 := by omega
          have i6 : (0 : Int) ≤ (mm : Int) - 1 := by omega
          have i7 : (mm : Int) - 1 < (j : Int) := by omega
          clear HM hmj'
          have hmm : mm = j := by omega
          subst hmm
          go_wp2_with fail
          refine (AW.out _).mono ?_
          rintro e w9 ⟨rfl, b9⟩
          have B9 := hide (below_to B5.out b9 (Nat.le_refl _))
          clear b9 B5
          go_wp2
          go_ret
          exact ⟨rfl, B9.out⟩
end Go.Proofs.Ytjngpdhhkkambaa

namespace Go.Proofs.Ytjngpdhhkkambaa.histTrue
open Go.ChangeShapes Go.WideShapes Go.ChangeAt Go.RowKit
open Go.ChangeMaps (open_string shut_string)
set_option linter.unusedVariables false

theorem own : ownKnob Try.prog.godebug = none := by kernel_rfl
theorem laidOut : laidOutB Try.prog = true := by kernel_rfl

set_option maxRecDepth 100000 in
theorem lifted (os : Os) (started : os.Started) (H : Type) (enc : TypeId × Value → H) :
    ReturnsInHanded {} Try.checked os 8 .any (Rows.histTrueSpec.pre6 enc Try.prog Try.f8 Rows.histTrueRow.domain false) (Rows.histTrueSpec.post enc Try.prog Try.f8 false true false false) := by
  refine returnsInHanded_of_change_sized (C := Try.checked) own started (by kernel_rfl) Try.func8
    (ChangeSpec.witness6 (enc := enc) (C := Try.checked) false ⟨#[], #[.slice none 0 0, .int .u64 0, .int .u64 0], []⟩ 8 (by kernel_rfl) (by kernel_rfl) (by kernel_rfl) (by kernel_rfl)) ?_
  intro W base args ds gs before hval0 hW hcnd hsz0 _
  have hsz : (DataW.weightsEach Try.prog (Try.f8.params.toList ++ Rows.histTrueSpec.plain.varTypes Try.prog) (ds ++ gs)).all (· ≤ reachBytes) = true := hsz0
  have hval : ∀ (j : Nat) t v, Try.f8.params[j]? = some t → args[j]? = some v → Value.okWide Try.prog W .any base t v := hval0
  have hW' := hW
  obtain ⟨p, q, hA0, hV, rfl, hfz, hnd⟩ := hW
  have hA : DataW.TrodAll enc Try.prog W 0 (fun _ => true) true Try.f8.params.toList args.toList ds p := hA0
  rw [Try.params8] at hA hval hsz
  obtain ⟨v0, vs0, d0, ds0, p0, q0, hargs, rfl, rfl, h0, r0⟩ := trodAll_cons hA
  obtain ⟨v1, vs1, d1, ds1, p1, q1, rfl, rfl, rfl, h1, r1⟩ := trodAll_cons r0
  obtain ⟨v2, vs2, d2, ds2, p2, q2, rfl, rfl, rfl, h2, r2⟩ := trodAll_cons r1
  obtain ⟨rfl, rfl, rfl⟩ := trodAll_nil r2
  obtain rfl : args = #[v0, v1, v2] := by cases args; simp_all
  obtain ⟨rfl, rfl⟩ := trodVars_none hV
  obtain ⟨a0, len0, cap0, rfl⟩ := okWide_slice Try.underlying54 (hval 0 54 v0 rfl rfl)
  have k0 := h0
  have lt0 : ∀ x ∈ p0, x.block < W.heap.size := by obtain ⟨m, hm⟩ := k0; exact DataW.trod_lt m _ _ _ hm
  obtain ⟨z0, w0⟩ : ∃ zs, IsRow .u64 W a0 len0 cap0 zs := by
    obtain ⟨fuel, hf⟩ := h0
    rcases open_ints Try.underlying54 Try.underlying22 (by kernel_rfl) hf with ⟨hcs, _⟩ | ⟨x, l, c, zs, hcs, _, hl, hm, hz, hx, hcell, hwz⟩
    · simp [Value.cells] at hcs
      obtain ⟨rfl, rfl, rfl⟩ := hcs
      exact ⟨[], by decide, .inl ⟨rfl, rfl, rfl, rfl⟩⟩
    · simp [Value.cells] at hcs
      obtain ⟨rfl, rfl, rfl⟩ := hcs
      have hd := congrArg Prod.fst hx
      simp only at hd
      have hs := sized_slice hsz (j := 0) (t := 54) (e := 22) rfl (by rw [hd]; rfl) Try.underlying54
      rw [show Try.prog.bytesOf 22 = 8 from by kernel_rfl] at hs
      simp only [lits, List.length_map, List.length_take, List.length_drop, reachBytes] at hs
      have hzc : zs.length = cap0 := by simpa using hz
      exact ⟨zs, by show cap0 * 8 ≤ _; omega, .inr ⟨_, rfl, hl, hm, hzc, hcell, hwz⟩⟩
  obtain ⟨a1, rfl, rfl, rfl, w1⟩ := open_int Try.underlying22 (hval 1 22 v1 rfl rfl) h1
  obtain ⟨a2, rfl, rfl, rfl, w2⟩ := open_int Try.underlying22 (hval 2 22 v2 rfl rfl) h2
  clear hA0 hval0 hsz0 hsz
  refine (walk_true a0 len0 cap0 z0 a1 a2 W w0 w1 w2).mono fun e W' ⟨he, bel⟩ => ?_
  subst he
  exact ⟨_, rfl, _, _, _, [], _, [], hW', trodAll_mk1 (shut_bool Try.underlying4 _), (trodAll_cons_mk (Below.trod laidOut (by kernel_rfl) (of_decide_eq_true (by kernel_rfl)) k0 bel lt0) (trodAll_cons_mk (shut_int Try.underlying22 w1) (trodAll_cons_mk (shut_int Try.underlying22 w2) trodAll_mk0))), rfl, bel.frame _, fun h => by cases h⟩

theorem proved : Rows.HistTrueSaid :=
  OpenClaim.holds_of_wide 8 Try.f8 rfl rfl rfl rfl rfl rfl rfl ⟨rfl, rfl, rfl, rfl, rfl⟩ rfl rfl rfl rfl rfl (by kernel_rfl) Try.func8 (by kernel_rfl)
    (of_decide_eq_true (by kernel_rfl)) (by unfold Func.isWrapper; first | (rw [if_pos (by decide +kernel)]; kernel_rfl) | (rw [if_neg (by decide +kernel)]; exact ⟨rfl, rfl⟩))
    (fun os started H enc _ => lifted os started H enc)
end Go.Proofs.Ytjngpdhhkkambaa.histTrue
