/-
  The document's own answers of layer 5 (the laws' reference): the frame that begins at a place: a contract, for every world.
  Conditions: the slice shows its bytes; there is room for a copy.
-/
import Derived.Test.YtbpmmeagpefglaaFrameR
import Derived.Test.YtbpmmeagpefglaaFrameD
namespace Go.Proofs.Ytbpmmeagpefglaa
open Go.RowKit

/-- A frame of the reference's, as a block of memory. -/
def FB (w : World) (g : Nat) (i : Int) (v : Value) (j : Int) : Prop :=
  w.heap[g]? = some (.cells #[.int .i64 i, v, .int .i64 j] 52 (0, 0))
theorem FB.cell {w : World} {g : Nat} {i : Int} {v : Value} {j : Int} (h : FB w g i v j) :
    w.cell? ⟨g, 0, none⟩ = some (.int .i64 i) ∧ w.cell? ⟨g, 1, none⟩ = some v ∧ w.cell? ⟨g, 2, none⟩ = some (.int .i64 j) ∧ ∀ o, w.frozen? ⟨g, o, none⟩ = false := by
  unfold FB at h
  refine ⟨?_, ?_, ?_, fun o => ?_⟩
  · simp [World.cell?, h]
  · simp [World.cell?, h]
  · simp [World.cell?, h]
  · simp [World.frozen?, h]
theorem FB.store {w : World} {g : Nat} {i : Int} {v : Value} {j : Int} (h : FB w g i v j) (i' : Int) (v' : Value) (j' : Int) : FB (((w.setCell ⟨g, 0, none⟩ (.int .i64 i')).setCell ⟨g, 1, none⟩ v').setCell ⟨g, 2, none⟩ (.int .i64 j')) g i' v' j' := by
  unfold FB at *
  simp [World.setCell, Array.getElem?_modify, h]
theorem FB.below {w w' : World} {g B : Nat} {i : Int} {v : Value} {j : Int} (h : FB w g i v j) (k : Below B w w') (hB : g < B) : FB w' g i v j := (k.block g hB).trans h
theorem fb_new (w : World) (i : Int) (v : Value) (j : Int) : FB (w.alloc (.cells #[.int .i64 i, v, .int .i64 j] 52)) w.heap.size i v j := heap_alloc_new w _
theorem bel_store {B : Nat} {w x : World} (h : Below B w x) {g : Nat} (hg : B ≤ g) (u1 u2 u3 : Value) : Below B w (((x.setCell ⟨g, 0, none⟩ u1).setCell ⟨g, 1, none⟩ u2).setCell ⟨g, 2, none⟩ u3) :=
  ((h.setCell (p := ⟨g, 0, none⟩) hg _).setCell (p := ⟨g, 1, none⟩) hg _).setCell (p := ⟨g, 2, none⟩) hg _

theorem results_one {tmps : Array Value} {w : World} {g : Nat} {i j : Int} {a : Option Addr} {n c : Nat} {b : Bool} (h4 : tmps[4]?.getD undef = .pointer (some ⟨g, 0, none⟩)) (h5 : tmps[5]?.getD undef = .bool b) (hF : FB w g i (.slice a n c) j) :
    (results Try.f35 tmps).run Try.prog w = .ok (.tuple #[.agg #[.int .i64 i, .slice a n c, .int .i64 j], .bool b]) w := by
  obtain ⟨c0, c1, c2, _⟩ := hF.cell
  simp [results, Try.f35, h4, h5, go_sem, c0, c1, c2]

/-- What the reference's one answers. -/
def oneP (zs : List Int) (at' : Int) (base : Nat) (w' : World) (e : Ending) : Prop :=
  match findS zs at' with
  | none => e = .returned (.tuple #[.agg #[.int .i64 0, .slice none 0 0, .int .i64 0], .bool false])
  | some p => ∃ a' cap', e = .returned (.tuple #[.agg #[.int .i64 at', .slice a' p.2 cap', .int .i64 ((p.1 : Int) + p.2)], .bool true]) ∧ Mine w' base a' p.2 cap' ((zs.drop p.1).take p.2)

set_option maxHeartbeats 4000000 in
set_option maxRecDepth 100000 in
theorem one_any (at' : Int) (a : Option Addr) (n cap : Nat) (zs : List Int) (w : World) (ha : (Lit.int .i64 at').wf = true) (hc : n ≤ cap) (hn0 : a = none → cap = 0) (hr : Row .u8 w a n zs) :
    Calls Try.prog 35 #[.slice a n cap, .int .i64 at'] w fun e w' => oneP zs at' w.heap.size w' e ∧ Below w.heap.size w w' := by
  obtain ⟨i0, hi, hz0, hz1, hz2⟩ := info_parts Try.info5
  have hl := hr.1
  have hn := hr.2.1
  have HZ : Hid (Bytes8 zs) := hr.bytes
  have HR := hide hr
  have N := hide (num_any at' (w.heap.size + 1) a n cap zs w ((w.alloc (.cells #[.int .i64 0, .slice none 0 0, .int .i64 0] 52)).alloc (.cells #[.slice a n cap, .int .i64 at', .bool false] 78)) ha hr (by omega) (bel_al (bel_al (Below.refl _ _) (Nat.le_refl _) _) (Nat.le_refl _) _) (by
    have := rb_new (w.alloc (.cells #[.int .i64 0, .slice none 0 0, .int .i64 0] 52)) a n cap at'
    rwa [World.size_alloc] at this))
  clear hr ha
  cases hg : getS zs at' with
  | none =>
    rw [hg] at N
    simp only [NumP] at N
    have HE : Hid (∀ w' e, e = .returned (.tuple #[.agg #[.int .i64 0, .slice none 0 0, .int .i64 0], .bool false]) → oneP zs at' w.heap.size w' e) := by
      rintro w' e rfl; unfold oneP findS; simp only [hg]
    clear hg
    go_enter Try.func35, Try.ntmps35
    go_wp2_with fail
    refine N.out.mono ?_
    rintro e w1 ⟨k1, rfl, p', hrb⟩
    obtain ⟨_, d1, d2, _⟩ := hrb.cell
    have HF1 : Hid (FB w1 w.heap.size 0 (.slice none 0 0) 0) := by
      refine Eq.trans (k1.block _ (by omega)) ?_
      rw [Below.heap_alloc _ _ _ (by simp)]
      exact fb_new w _ _ _
    have K1 : Hid (Below w.heap.size w w1) := (bel_al (bel_al (Below.refl _ _) (Nat.le_refl _) _) (Nat.le_refl _) _).trans (k1.below (by omega))
    obtain ⟨c0, c1, c2, c3⟩ := HF1.out.cell
    have c30 := c3 0
    have c31 := c3 1
    have c32 := c3 2
    clear k1 hrb N c3
    have HL : Hid (∀ W, Below w.heap.size w W → oneP zs at' w.heap.size W (.returned (.tuple #[.agg #[.int .i64 0, .slice none 0 0, .int .i64 0], .bool false])) ∧ Below w.heap.size w W) := fun W h => ⟨HE.out _ _ rfl, h⟩
    generalize hBB : w.heap.size = B at *
    have HBB := hide hBB
    clear hBB
    go_wp2
    refine bodyPost_ret (results_one rfl rfl (HF1.out.store 0 (.slice none 0 0) 0)) rfl ?_
    rw [HBB.out]
    exact HL.out _ (bel_store K1.out (Nat.le_refl _) _ _ _)
  | some p =>
    obtain ⟨v, fr⟩ := p
    rw [hg] at N
    simp only [NumP] at N
    obtain ⟨hw, k, hk, hkn, hfr, hfl, _, _⟩ := getS_some HZ.out hg
    rw [hl] at hkn hfl
    have HS : Hid (findS zs at' = if v < 1 ∨ 1048576 < v ∨ (n : Int) - fr < 4 + v then none else if (zs.drop fr.toNat).take 4 = sumB ((zs.drop (fr.toNat + 4)).take v.toNat) then some (fr.toNat + 4, v.toNat) else none) := by
      show _ = _
      unfold findS
      rw [hg, hl]
    obtain ⟨f, hf⟩ : ∃ f : Nat, fr = f := ⟨_, hfr⟩
    have hfn : f ≤ n := by omega
    obtain ⟨u, hu⟩ := Int.eq_ofNat_of_zero_le hw.1
    subst hf hu
    simp only [Int.toNat_natCast] at HS
    have hu2 : (u : Int) < 18446744073709551616 := hw.2
    clear hg hw hk hkn hfr hfl
    have HL : Hid (∀ W, Below w.heap.size w W → findS zs at' = none → oneP zs at' w.heap.size W (.returned (.tuple #[.agg #[.int .i64 0, .slice none 0 0, .int .i64 0], .bool false])) ∧ Below w.heap.size w W) := fun W h hf => ⟨by unfold oneP; rw [hf], h⟩
    have HL2 : Hid (∀ W st v' a' c', Below w.heap.size w W → findS zs at' = some (st, v') → Mine W w.heap.size a' v' c' ((zs.drop st).take v') → oneP zs at' w.heap.size W (.returned (.tuple #[.agg #[.int .i64 at', .slice a' v' c', .int .i64 ((st : Int) + v')], .bool true])) ∧ Below w.heap.size w W) := fun W st v' a' c' h hf hm => ⟨by unfold oneP; rw [hf]; exact ⟨a', c', rfl, hm⟩, h⟩
    go_enter Try.func35, Try.ntmps35
    go_wp2_with fail
    refine N.out.mono ?_
    rintro e w1 ⟨k1, rfl, hrb⟩
    obtain ⟨_, d1, d2, _⟩ := hrb.cell
    have HF1 : Hid (FB w1 w.heap.size 0 (.slice none 0 0) 0) := by
      refine Eq.trans (k1.block _ (by omega)) ?_
      rw [Below.heap_alloc _ _ _ (by simp)]
      exact fb_new w _ _ _
    have K1 : Hid (Below w.heap.size w w1) := (bel_al (bel_al (Below.refl _ _) (Nat.le_refl _) _) (Nat.le_refl _) _).trans (k1.below (by omega))
    obtain ⟨c0, c1, c2, c3⟩ := HF1.out.cell
    have c30 := c3 0
    have c31 := c3 1
    have c32 := c3 2
    have HR1 := hide (HR.out.below K1.out (Nat.le_refl _))
    clear k1 hrb N c3 HR
    have hB0 : w.heap.size ≤ w1.heap.size := K1.out.size
    have hB1 : Hid (w.heap.size < w1.heap.size) := World.block_lt_of_cell? w1 _ c0
    generalize hBB : w.heap.size = B at *
    have HBB := hide hBB
    clear hBB
    by_cases q1 : u = 0
    · subst q1
      have HN : Hid (findS zs at' = none) := by show _ = _; rw [HS.out, if_pos (Or.inl (by omega))]
      clear HS
      go_wp2
      refine bodyPost_ret (results_one rfl rfl (HF1.out.store 0 (.slice none 0 0) 0)) rfl ?_
      rw [HBB.out]
      exact HL.out _ (bel_store K1.out (Nat.le_refl _) _ _ _) HN.out
    have v1 : (1 : Int) ≤ u := by omega
    by_cases q2 : 1048576 < u
    · have HN : Hid (findS zs at' = none) := by show _ = _; rw [HS.out, if_pos (Or.inr (Or.inl (by omega)))]
      have t2 : (1048576 : Int) < u := by omega
      clear HS
      generalize (u : Int) = v at *
      go_wp2
      refine bodyPost_ret (results_one rfl rfl (HF1.out.store 0 (.slice none 0 0) 0)) rfl ?_
      rw [HBB.out]
      exact HL.out _ (bel_store K1.out (Nat.le_refl _) _ _ _) HN.out
    have t2 : (u : Int) ≤ 1048576 := by omega
    by_cases q3 : n < f + 4
    · have HN : Hid (findS zs at' = none) := by show _ = _; rw [HS.out, if_pos (Or.inr (Or.inr (by omega)))]
      have t3 : (n : Int) - f < 4 := by omega
      clear HS q1 q2 q3
      generalize (u : Int) = v at *
      go_wp2
      refine bodyPost_ret (results_one rfl rfl (HF1.out.store 0 (.slice none 0 0) 0)) rfl ?_
      rw [HBB.out]
      exact HL.out _ (bel_store K1.out (Nat.le_refl _) _ _ _) HN.out
    have t3 : ¬ ((n : Int) - f < 4) := by omega
    by_cases q4 : n < f + 4 + u
    · have HN : Hid (findS zs at' = none) := by show _ = _; rw [HS.out, if_pos (Or.inr (Or.inr (by omega)))]
      have t4 : (n : Int) - f - 4 < u := by omega
      clear HS q1 q2 q3 q4
      generalize (u : Int) = v at *
      go_wp2
      refine bodyPost_ret (results_one rfl rfl (HF1.out.store 0 (.slice none 0 0) 0)) rfl ?_
      rw [HBB.out]
      exact HL.out _ (bel_store K1.out (Nat.le_refl _) _ _ _) HN.out
    have t4 : ¬ ((n : Int) - f - 4 < u) := by omega
    have t4' : (u : Int) ≤ n - f - 4 := by omega
    rw [if_neg (by omega)] at HS
    unfold sumB at HS
    have RB := hide (HR1.out.mid hc (f + 4) u (by omega) (by omega))
    have RQ := hide (HR1.out.mid hc f 4 (by omega) (by omega))
    have f1 := slice_mid a n cap (f + 4) (f + 4 + u) (by omega) (by omega)
    rw [if_neg (by omega), show f + 4 + u - (f + 4) = u from by omega] at f1
    rw [show ((f + 4 + u : Nat) : Int) = (f : Int) + 4 + u from rfl, show ((f + 4 : Nat) : Int) = (f : Int) + 4 from rfl] at f1
    have HL3 : Hid (∀ W a' c', Below B w W → findS zs at' = some (f + 4, u) → Mine W B a' u c' ((zs.drop (f + 4)).take u) → oneP zs at' B W (.returned (.tuple #[.agg #[.int .i64 at', .slice a' u c', .int .i64 ((f : Int) + 4 + u)], .bool true])) ∧ Below B w W) := fun W a' c' => HL2.out W (f + 4) u a' c'
    clear HL2
    have hcells : Hid (∀ i, i < 4 → ∃ bb off, a = some ⟨bb, off, none⟩ ∧ w1.cell? ⟨bb, off + (f + i), none⟩ = some (.int .u8 (((zs.drop f).take 4).getD i 0))) := by
      intro i h4
      obtain ⟨_, _, _, h0 | ⟨bb, off, rfl, hcell⟩⟩ := HR1.out
      · omega
      refine ⟨bb, off, rfl, ?_⟩
      rw [hcell (f + i) (by omega)]
      simp [h4]
    have M := hide (refof_any (a.map (·.add (f + 4))) u (cap - (f + 4)) ((zs.drop (f + 4)).take u) w1 RB.out)
    have hsw := moreS_word (s := 0) (by decide) RB.out.bytes
    generalize hbs : (zs.drop (f + 4)).take u = bs at *
    generalize hqs : (zs.drop f).take 4 = qs at *
    have hql : qs.length = 4 := RQ.out.1
    have HQB := hide RQ.out.bytes
    clear hbs hqs
    generalize moreS 0 bs = s at *
    have hnone : (a.map (·.add (f + 4))) = none → cap - (f + 4) = 0 := by
      intro h
      cases a with
      | none => have := hn0 rfl; omega
      | some x => simp at h
    generalize (a.map (·.add (f + 4))) = ab at *
    obtain ⟨cb, hcb⟩ : ∃ cb, cap - (f + 4) = cb := ⟨_, rfl⟩
    rw [hcb] at f1 M hnone
    clear hcb
    have hfn2 : (f : Int) + 4 + u ≤ n := by omega
    have hun : u ≤ 1048576 := by omega
    clear q1 q2 q3 q4 RQ HR1 hn0 hc hl HZ
    generalize hv : (u : Int) = v at *
    have HV := hide hv
    clear hv
    obtain ⟨s0, s1⟩ := hsw
    go_wp2_with fail
    refine M.out.mono ?_
    rintro e w2 ⟨rfl, rfl⟩
    clear M f1
    go_wp2
    clear t2 t3 t4 t4'
    go_loop [11] (fun x => ∃ k : Nat, k ≤ 4 ∧ x = .int .i64 k ∧ Hid (∀ j, j < k → qs.getD j 0 = (quad s).getD j 0)) (fun x => 4 - (intOf x).toNat)
    case atStart => exact ⟨0, by omega, rfl, fun j hj => absurd hj (Nat.not_lt_zero _)⟩
    case round =>
      obtain ⟨i, hi4, rfl, HI⟩ := hrel
      by_cases hlt : i < 4
      · obtain ⟨bb, off, hab, hck⟩ := hcells.out i hlt
        subst hab
        obtain ⟨x0, x1⟩ : 0 ≤ qs.getD i 0 ∧ qs.getD i 0 ≤ 255 := getD_all HQB.out (by decide) i
        have HX : Hid (∀ x, qs.getD i 0 = x → (x = s / 2 ^ (8 * i) % 256 → qs.getD i 0 = (quad s).getD i 0) ∧ (x ≠ s / 2 ^ (8 * i) % 256 → qs ≠ quad s)) := by
          rintro x rfl
          have e : (quad s).getD i 0 = s / 2 ^ (8 * i) % 256 := by
            match i, hlt with
            | 0, _ => simp [quad]
            | 1, _ => rfl
            | 2, _ => rfl
            | 3, _ => rfl
            | n + 4, h => omega
          exact ⟨fun h => by rw [e]; exact h, fun h h' => h (by rw [← e, h'])⟩
        obtain ⟨x, hx⟩ : ∃ x, qs.getD i 0 = x := ⟨_, rfl⟩
        rw [hx] at hck x0 x1
        have HX1 := hide (HX.out x hx)
        clear HX hx
        go_wp2
        · rename_i hne _
          refine bodyPost_ret (results_one rfl rfl (HF1.out.store 0 (.slice none 0 0) 0)) rfl ?_
          rw [HBB.out]
          exact HL.out _ (bel_store K1.out (Nat.le_refl _) _ _ _) (by rw [HS.out, if_neg (HX1.out.2 (by simpa using hne))])
        · rename_i heq
          have heq' : x = s / 2 ^ (8 * i) % 256 := by simpa using heq
          refine ⟨⟨i + 1, by omega, by go_num, fun j hj => ?_⟩, by simp [intOf]; omega⟩
          by_cases e : j = i
          · subst e; exact HX1.out.1 heq'
          · exact HI.out j (by omega)
      · have : i = 4 := by omega
        subst this
        have HFS : Hid (findS zs at' = some (f + 4, u)) := by show _ = _; rw [HS.out, if_pos (ends_list hql (quad_len s) HI.out)]
        clear HS HI HQB hcells HL
        have hcap47 : 0 + u ≤ 140737488355328 := by omega
        go_wp2_with (at_builtin; refine wpList_append_row _ rfl _ _ 25 rfl w2.heap.size 5 i0 Try.underlying25 hi hz0 hz1 hz2 none 0 0 [] rfl (own_nil _ _ _ _) ab u cb bs rfl RB.out hnone hcap47 (Nat.le_refl _) ?_)
        intro a3 c3 w3 o3 k3
        have HF3 := hide (HF1.out.below k3 hB1.out)
        have K3 : Hid (Below B w w3) := K1.out.trans (k3.mono hB0)
        have O3 : Hid (Mine (((w3.setCell ⟨B, 0, none⟩ (.int .i64 at')).setCell ⟨B, 1, none⟩ (.slice a3 u c3)).setCell ⟨B, 2, none⟩ (.int .i64 ((f : Int) + 4 + v))) B a3 u c3 bs) := by
          have h1 : Mine w3 w2.heap.size a3 u c3 bs := by simpa using o3
          have h2 : Mine (((w3.setCell ⟨B, 0, none⟩ (.int .i64 at')).setCell ⟨B, 1, none⟩ (.slice a3 u c3)).setCell ⟨B, 2, none⟩ (.int .i64 ((f : Int) + 4 + v))) w2.heap.size a3 u c3 bs :=
            ownsRow_setCell_below (ownsRow_setCell_below (ownsRow_setCell_below h1 (a := ⟨B, 0, none⟩) hB1.out _) (a := ⟨B, 1, none⟩) hB1.out _) (a := ⟨B, 2, none⟩) hB1.out _
          exact h2.mono hB0
        obtain ⟨e0, e1, e2, e3⟩ := HF3.out.cell
        have e30 := e3 0
        have e31 := e3 1
        have e32 := e3 2
        clear e3 k3 o3 c0 c1 c2 c30 c31 c32 HF1 K1 RB d1 d2
        go_wp2
        refine bodyPost_ret (results_one rfl rfl (HF3.out.store at' (.slice a3 u c3) ((f : Int) + 4 + v))) rfl ?_
        rw [HBB.out]
        exact HL3.out _ _ _ (bel_store K3.out (Nat.le_refl _) _ _ _) HFS.out O3.out
end Go.Proofs.Ytbpmmeagpefglaa
