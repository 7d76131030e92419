/-
  The document's Select: a contract, for every world, over what is asked of the document's Eval (MatG pays it); Select of the index, beside it.
  Conditions: the index and the matcher lie in memory.
-/
import Derived.Test.YtpffhpnmbpjifaaGreatIdxI
import Derived.Test.YtpffhpnmbpjifaaGreatIdxX
import Derived.Test.YtpffhpnmbpjifaaGreatMatLz
import Derived.Test.YtpffhpnmbpjifaaGreatMatX
import Derived.BigQuiet
import Derived.Deep.QuietTactic
namespace Go.Proofs.YtpffhpnmbpjifaaGreat
open Go.RowKit
set_option maxRecDepth 20000

/-- What is asked of the document's Eval. -/
def EvD (m : Mt) : Prop := ∀ (l : List Lb) (S : Nat → Prop) (h : Hm) (al : Option Addr) (nl cl : Nat) (w : World), SeeM S w m h → chkM m = true → RowL w al nl l →
    Calls Tryz.prog 26 #[.agg #[.int .i64 h.op, .string h.nm, .string h.vl, .slice h.va h.vn h.vc, .slice h.ka h.kn h.kc], .slice al nl cl] w fun e w' => e = .returned (.bool (evalM l m)) ∧ Below w.heap.size w w'

set_option maxHeartbeats 4000000 in
theorem rselect_of (g : Nat) (S T : Nat → Prop) (L : Lx) (m : Mt) (h : Hm) (w : World) (hX : XAt w g S L) (hL : L.length ≤ 5000) (q : SeeM T w m h) (EV : EvD m) :
    Calls Tryz.prog 10 #[.pointer (some ⟨g, 0, none⟩), .agg #[.int .i64 h.op, .string h.nm, .string h.vl, .slice h.va h.vn h.vc, .slice h.ka h.kn h.kc]] w fun e w' => SelP L m w e w' := by
  obtain ⟨op, nm, vl, va, vn, vc, ka, kn, kc⟩ := h
  dsimp only
  obtain ⟨i0, hi, hz0, hz1, hz2⟩ := info_parts Tryz.infoI
  obtain ⟨ax, cx, hc, -, hat⟩ := hX.open'
  have HC := hide hc
  have HAT := hide hat
  obtain ⟨mm, hm⟩ : ∃ m, Hid (L.length = m) := ⟨_, rfl⟩
  rw [hm.out] at HC HAT hL
  have HLN : Hid (∀ k, (idxs (evalP m) 0 (L.take k)).length ≤ 5000) := fun k => by
    have h1 := idxs_len (evalP m) 0 (L.take k)
    have h2 := hm.out
    rw [List.length_take] at h1
    omega
  have BA := hide ((Below.refl w.heap.size w).alloc (Nat.le_refl _) (.cells #[.int .i64 op, .string nm, .string vl, .slice va vn vc, .slice ka kn kc] 26))
  have Q0 := hide q
  have CK := hide (refchkM_any T m ⟨op, nm, vl, va, vn, vc, ka, kn, kc⟩ _ (q.below BA.out))
  have BX := hide (boxM_new w ⟨op, nm, vl, va, vn, vc, ka, kn, kc⟩)
  have EVH := hide EV
  dsimp only at BX CK
  clear hX hc hat q EV
  go_enter Tryz.func10, Tryz.ntmps10
  go_wp2_with fail
  with_reducible refine CK.out.mono ?_
  rintro e w1 ⟨rfl, b1⟩
  have B1 := hide (bel_to BA.out (by simp) b1)
  have BX1 := hide (BX.out.block (b1.block w.heap.size (by simp)))
  have W1L : Hid (w.heap.size + 1 ≤ w1.heap.size) := BoxM.lt BX1.out
  clear b1 CK BX BA
  cases hck : chkM m with
  | false =>
    go_wp2
    refine bodyPost_ret (v := .tuple #[.slice none 0 0, .int .i64 5]) (by simp [results, Tryz.results10, go_sem]) rfl ?_
    refine ⟨B1.out, ?_⟩
    rw [if_neg (by rw [hck]; decide)]
    exact ⟨_, _, rfl, fun _ => rfl⟩
  | true =>
    have EVM := hide (fun l S h al nl cl w q => EVH.out l S h al nl cl w q hck)
    clear EVH
    go_wp2
    go_loopw [6, 7] (fun o i wr => ∃ (k : Nat) (ao : Option Addr) (M co : Nat), k ≤ mm ∧ i = .int .i64 k ∧ o = .slice ao M co ∧ M ≤ 5000 ∧ Hid (MineI wr (w.heap.size + 1) ao M co (idxs (evalP m) 0 (L.take k))) ∧ Hid (Below (w.heap.size + 1) w1 wr)) (fun _ i _ => mm - (intOf i).toNat)
    case atStart => exact ⟨0, none, 0, 0, by omega, rfl, rfl, by omega, own_nil _ _ _ _, Below.refl _ _⟩
    case round =>
      obtain ⟨k, ao, M, co, hk, rfl, rfl, hM, OW, BW1⟩ := hrel
      obtain ⟨u, rfl⟩ : ∃ u, u = wr := ⟨wr, rfl⟩
      have BW : Hid (Below w.heap.size w u) := B1.out.trans (BW1.out.mono (by omega))
      have hcu : u.cell? ⟨g, 0, none⟩ = some (.slice ax mm cx) := by
        rw [BW.out.cell (p := ⟨g, 0, none⟩) (World.block_lt_of_cell? w _ HC.out)]
        exact HC.out
      by_cases hlt : k < mm
      · obtain ⟨b, a1, n1, c1, x, e, hx, q1, q2⟩ := HAT.out k hlt
        have g1 : u.cell? ⟨b, k, none⟩ = some (.slice a1 n1 c1) := by
          rw [BW.out.cell (p := ⟨b, k, none⟩) (World.block_lt_of_cell? w _ q1)]
          exact q1
        rw [e] at hcu
        have BXu := BX1.out.block (BW1.out.block w.heap.size (by omega))
        have BXL : Hid (w.heap.size < u.heap.size) := BoxM.lt BXu
        obtain ⟨d0, d1, d2, d3, d4, -⟩ := BoxM.all BXu
        dsimp only at d0 d1 d2 d3 d4
        have S0 : Hid (∀ W, Below u.heap.size u W → (W.cell? ⟨w.heap.size, 0, none⟩ = some (.int .i64 op) ∧ W.cell? ⟨w.heap.size, 1, none⟩ = some (.string nm) ∧ W.cell? ⟨w.heap.size, 2, none⟩ = some (.string vl) ∧ W.cell? ⟨w.heap.size, 3, none⟩ = some (.slice va vn vc) ∧ W.cell? ⟨w.heap.size, 4, none⟩ = some (.slice ka kn kc) ∧ W.cell? ⟨g, 0, none⟩ = some (.slice (some ⟨b, 0, none⟩) mm cx) ∧ W.cell? ⟨b, k, none⟩ = some (.slice a1 n1 c1)) ∧ Hid (Below u.heap.size u W)) := fun W hb => ⟨⟨(hb.cell (World.block_lt_of_cell? u _ d0)).trans d0, (hb.cell (World.block_lt_of_cell? u _ d1)).trans d1, (hb.cell (World.block_lt_of_cell? u _ d2)).trans d2, (hb.cell (World.block_lt_of_cell? u _ d3)).trans d3, (hb.cell (World.block_lt_of_cell? u _ d4)).trans d4, (hb.cell (World.block_lt_of_cell? u _ hcu)).trans hcu, (hb.cell (World.block_lt_of_cell? u _ g1)).trans g1⟩, hb⟩
        have KP : Hid (∀ W W', Below W.heap.size W W' → ((W.cell? ⟨w.heap.size, 0, none⟩ = some (.int .i64 op) ∧ W.cell? ⟨w.heap.size, 1, none⟩ = some (.string nm) ∧ W.cell? ⟨w.heap.size, 2, none⟩ = some (.string vl) ∧ W.cell? ⟨w.heap.size, 3, none⟩ = some (.slice va vn vc) ∧ W.cell? ⟨w.heap.size, 4, none⟩ = some (.slice ka kn kc) ∧ W.cell? ⟨g, 0, none⟩ = some (.slice (some ⟨b, 0, none⟩) mm cx) ∧ W.cell? ⟨b, k, none⟩ = some (.slice a1 n1 c1)) ∧ Hid (Below u.heap.size u W)) → ((W'.cell? ⟨w.heap.size, 0, none⟩ = some (.int .i64 op) ∧ W'.cell? ⟨w.heap.size, 1, none⟩ = some (.string nm) ∧ W'.cell? ⟨w.heap.size, 2, none⟩ = some (.string vl) ∧ W'.cell? ⟨w.heap.size, 3, none⟩ = some (.slice va vn vc) ∧ W'.cell? ⟨w.heap.size, 4, none⟩ = some (.slice ka kn kc) ∧ W'.cell? ⟨g, 0, none⟩ = some (.slice (some ⟨b, 0, none⟩) mm cx) ∧ W'.cell? ⟨b, k, none⟩ = some (.slice a1 n1 c1)) ∧ Hid (Below u.heap.size u W'))) := fun W W' hb h => S0.out W' (bel_to h.2.out (Nat.le_refl _) hb)
        have EVX := hide (fun W (hW : (W.cell? ⟨w.heap.size, 0, none⟩ = some (.int .i64 op) ∧ W.cell? ⟨w.heap.size, 1, none⟩ = some (.string nm) ∧ W.cell? ⟨w.heap.size, 2, none⟩ = some (.string vl) ∧ W.cell? ⟨w.heap.size, 3, none⟩ = some (.slice va vn vc) ∧ W.cell? ⟨w.heap.size, 4, none⟩ = some (.slice ka kn kc) ∧ W.cell? ⟨g, 0, none⟩ = some (.slice (some ⟨b, 0, none⟩) mm cx) ∧ W.cell? ⟨b, k, none⟩ = some (.slice a1 n1 c1)) ∧ Hid (Below u.heap.size u W)) => EVM.out x T ⟨op, nm, vl, va, vn, vc, ka, kn, kc⟩ a1 n1 c1 W ((Q0.out.below BW.out).below hW.2.out) ((q2.1.below BW.out (Nat.le_refl _)).below hW.2.out (Nat.le_refl _)))
        dsimp only at EVX
        have S1 := hide (S0.out u.drew (Below.refl _ _).drew)
        have S2 := hide (S0.out u (Below.refl _ _))
        have ST := hide (idxs_step (p := evalP m) hx)
        have i1 : (0 : Int) ≤ (k : Int) := by omega
        have i2 : (k : Int) < (mm : Int) := by omega
        have g0 : u.cell? ⟨g, 0, none⟩ = some (.slice (some ⟨b, 0, none⟩) mm cx) := hcu
        clear q1 q2 hx e d0 d1 d2 d3 d4 BXu g1 hcu
        go_wp2_with fail
        clear g0
        cases hp : evalP m x with
        | true =>
          rw [show evalM x m = true from hp] at EVX
          rw [hp, if_pos rfl] at ST
          clear hp
          go_region_held3 (fun W => (W.cell? ⟨w.heap.size, 0, none⟩ = some (.int .i64 op) ∧ W.cell? ⟨w.heap.size, 1, none⟩ = some (.string nm) ∧ W.cell? ⟨w.heap.size, 2, none⟩ = some (.string vl) ∧ W.cell? ⟨w.heap.size, 3, none⟩ = some (.slice va vn vc) ∧ W.cell? ⟨w.heap.size, 4, none⟩ = some (.slice ka kn kc) ∧ W.cell? ⟨g, 0, none⟩ = some (.slice (some ⟨b, 0, none⟩) mm cx) ∧ W.cell? ⟨b, k, none⟩ = some (.slice a1 n1 c1)) ∧ Hid (Below u.heap.size u W)) (first | with_reducible exact S1.out | with_reducible exact S2.out | with_reducible exact KP.out _ _ (by assumption) (by assumption)) (first
            | (go_at_call 26; (with_reducible refine (EVX.out _ (by assumption)).mono ?_); rintro e v1 ⟨rfl, q⟩))
          rename_i hh
          have bu := hh.2.out
          have B2 := hide (bel_to BW.out (Nat.le_refl _) bu)
          have B3 : Hid (Below (w.heap.size + 1) w1 v1) := BW1.out.trans (bu.mono (by have := BXL.out; omega))
          have O1 := hide (OW.out.below bu (Nat.le_refl _))
          clear hh bu q S0 S1 S2 KP EVX OW BW BW1
          have RV := hide ((one_introw v1 (k : Int) 3).2 (by simp [Lit.wf, IntKind.min, IntKind.max, IntKind.signed, IntKind.bits]; omega))
          have OA := hide O1.out.alloc
          have SZ : Hid (w.heap.size + 1 ≤ v1.heap.size) := Nat.le_trans W1L.out B3.out.size
          go_wp2_with (at_builtin; refine wpList_append_ints _ rfl _ _ 33 rfl (w.heap.size + 1) 3 i0 Tryz.underlying33 hi hz0 hz1 hz2 ao M co _ rfl (OA.out _) (some ⟨v1.heap.size, 0, none⟩) 1 1 [(k : Int)] rfl RV.out (fun h => by cases h) (by omega) (Nat.le_trans SZ.out (by simp)) ?_)
          intro a3 c3 w3 o3 b3 _
          rw [← ST.out] at o3
          have hM3 : M + 1 ≤ 5000 := by rw [← o3.len]; exact HLN.out (k + 1)
          have O3 := hide o3
          have B4 := hide ((bel_al B3.out W1L.out _).trans b3)
          clear o3 b3 OA RV O1 B2 B3 ST
          go_wp2
          go_roundw
          case rel => exact ⟨k + 1, a3, M + 1, c3, by omega, by go_num, rfl, hM3, O3, B4⟩
          case measure => simp [intOf]; omega
        | false =>
          rw [show evalM x m = false from hp] at EVX
          rw [hp, if_neg (by decide), List.append_nil] at ST
          clear hp
          go_region_held3 (fun W => (W.cell? ⟨w.heap.size, 0, none⟩ = some (.int .i64 op) ∧ W.cell? ⟨w.heap.size, 1, none⟩ = some (.string nm) ∧ W.cell? ⟨w.heap.size, 2, none⟩ = some (.string vl) ∧ W.cell? ⟨w.heap.size, 3, none⟩ = some (.slice va vn vc) ∧ W.cell? ⟨w.heap.size, 4, none⟩ = some (.slice ka kn kc) ∧ W.cell? ⟨g, 0, none⟩ = some (.slice (some ⟨b, 0, none⟩) mm cx) ∧ W.cell? ⟨b, k, none⟩ = some (.slice a1 n1 c1)) ∧ Hid (Below u.heap.size u W)) (first | with_reducible exact S1.out | with_reducible exact S2.out | with_reducible exact KP.out _ _ (by assumption) (by assumption)) (first
            | (go_at_call 26; (with_reducible refine (EVX.out _ (by assumption)).mono ?_); rintro e v1 ⟨rfl, q⟩))
          rename_i hh
          have bu := hh.2.out
          have B3 : Hid (Below (w.heap.size + 1) w1 v1) := BW1.out.trans (bu.mono (by have := BXL.out; omega))
          have O1 := hide (OW.out.below bu (Nat.le_refl _))
          rw [← ST.out] at O1
          clear hh bu q S0 S1 S2 KP EVX OW BW BW1 ST
          go_wp2
          go_roundw
          case rel => exact ⟨k + 1, ao, M, co, by omega, by go_num, rfl, hM, O1, B3⟩
          case measure => simp [intOf]; omega
      · have i2 : ¬ (k : Int) < (mm : Int) := by omega
        rw [List.take_of_length_le (by rw [hm.out]; omega)] at OW
        go_wp2
        refine bodyPost_ret (v := .tuple #[.slice ao M co, .int .i64 0]) (by simp [results, Tryz.results10, go_sem]) rfl ?_
        refine ⟨BW.out, ?_⟩
        rw [if_pos hck]
        exact ⟨ao, M, co, rfl, Own.mono OW.out (by omega)⟩
end Go.Proofs.YtpffhpnmbpjifaaGreat
