/-
  What the laws' own collector of numbers does, what fnv.Each's iterator does with it, and what the two come to together (Hashes): contracts, for every world.
  Conditions: the slice of numbers shows them; there is room for one more of 8 bytes; at least one is asked for.
-/
import Derived.Test.YtllipocbaknkpaaChK
import Derived.Test.YtllipocbaknkpaaFnvA
import Derived.Deep.Cut
namespace Go.Proofs.Ytllipocbaknkpaa
open Go.RowKit

theorem Try.infoN : (Try.prog.info? 22).map (fun i => (i.zero, i.size, i.bytes)) = some (some (.int .u64 0), 1, 8) := by kernel_rfl

/-- The collector's two boxes and its list. -/
structure CollH (w : World) (n0 Bl Bm : Nat) (ks : List Int) (most : Int) (v : Value) : Prop where
  bl : Boxed w Bl 30 v
  bm : Boxed w Bm 3 (.int .i64 most)
  rl : w.ownsRow n0 22 1 v ks.length (ks.map (Value.int .u64))
  nl : n0 ≤ Bl

theorem one_numcell (w : World) (k : Int) (e : TypeId) (j : Nat) (u : Value) (h : [Value.int .u64 k][j]? = some u) : (w.alloc (.cells #[.int .u64 k] e)).cell? ((⟨w.heap.size, 0, none⟩ : Addr).add j) = some u := by
  match j, h with
  | 0, h => simp at h; subst h; rw [Addr.add_lit, World.cell?_alloc_mark]; rfl

set_option maxHeartbeats 2000000 in
theorem hpush_any (k : Int) (w : World) (n0 Bl Bm L : Nat) (ks : List Int) (most : Int) (v : Value) (hC : CollH w n0 Bl Bm ks most v) (hks : ks.length = L) (hlen : (L + 1) * 8 ≤ 140737488355328) :
    Calls Try.prog 17 #[.int .u64 k, .pointer (some ⟨Bl, 0, none⟩), .pointer (some ⟨Bm, 0, none⟩)] w fun e w' =>
      e = .returned (.bool (decide ((L : Int) + 1 < most))) ∧ ∃ v', CollH w' n0 Bl Bm (ks ++ [k]) most v' ∧ Below n0 w w' := by
  obtain ⟨i1, hi1, hz10, hz11, hz12⟩ := info_parts Try.infoN
  have rl := hC.rl
  rw [hks] at rl
  obtain ⟨al, cl, rfl⟩ := row_form rl
  have HC := hide hC
  have cbl := hC.bl.cell
  have RL := hide rl
  have HKS := hide hks
  have h0 : n0 ≤ w.heap.size := by have := hC.nl; have := hC.bl.lt; omega
  clear hC rl hks
  go_enter Try.func17, Try.ntmps17
  go_wp2_with (at_builtin; refine wpList_push _ rfl _ _ 30 rfl n0 22 i1 (.int .u64 0) 8 Try.underlying30 hi1 hz10 hz11 hz12 rfl al L cl (ks.map (Value.int .u64)) rfl (RL.out.alloc _) ⟨w.heap.size, 0, none⟩ 1 (.int .u64 k) rfl (one_numcell w k _) rfl (by unfold maxLen; omega) (by omega) (by simp; omega) ?_)
  intro gg1 cc1 w1 o1 g1 n1
  have O1 : Hid (w1.ownsRow n0 22 1 (.slice (some ⟨gg1, 0, none⟩) (L + 1) cc1) (L + 1) ((ks ++ [k]).map (Value.int .u64))) := by
    show w1.ownsRow _ _ _ _ _ _
    rw [List.map_append]; exact o1
  have C1 : Hid (Ch (fun g => (Value.slice al L cl).ownBlock = some g) w w1) := ((Ch.refl (fun g => (Value.slice al L cl).ownBlock = some g) w).alloc (.cells #[.int .u64 k] 22)).trans (Ch.grown g1)
  have BL1 := hide (boxed_ch HC.out.bl C1.out (fun h => (row_cells HC.out.rl h).1.ne (boxed_cells HC.out.bl) (by decide) rfl))
  have BM1 := hide (boxed_ch HC.out.bm C1.out (fun h => (row_cells HC.out.rl h).1.ne (boxed_cells HC.out.bm) (by decide) rfl))
  have hbl1 := BL1.out.cell
  have hfl1 := BL1.out.frozen
  have D2 : Hid (Ch (fun g => g = Bl) w1 (w1.setCell ⟨Bl, 0, none⟩ (.slice (some ⟨gg1, 0, none⟩) (L + 1) cc1))) := Ch.set w1 Bl _
  have hBM : Hid (Bm ≠ Bl) := (boxed_cells HC.out.bm).ne (boxed_cells HC.out.bl) (by decide)
  have BL2 := hide (BL1.out.set (.slice (some ⟨gg1, 0, none⟩) (L + 1) cc1))
  have BM2 := hide (boxed_ch BM1.out D2.out hBM.out)
  have RL2 := hide (row_ch O1.out D2.out (fun g h => (row_cells O1.out h).1.ne (boxed_cells BL1.out) (by decide)))
  have HB : Hid (Below n0 w (w1.setCell ⟨Bl, 0, none⟩ (.slice (some ⟨gg1, 0, none⟩) (L + 1) cc1))) :=
    (C1.out.below h0 (fun g hg h => by have := (row_cells HC.out.rl h).2; omega)).trans (D2.out.below (by have := C1.out.size; omega) (fun g hg h => by have := HC.out.nl; omega))
  have NL := hide HC.out.nl
  clear o1 g1 n1 cbl O1 BL1 BM1 RL HC C1 D2
  go_upto_region 2 with fail
  obtain ⟨W2, hW2⟩ : ∃ W2, w1.setCell ⟨Bl, 0, none⟩ (.slice (some ⟨gg1, 0, none⟩) (L + 1) cc1) = W2 := ⟨_, rfl⟩
  rw [hW2] at BL2 BM2 RL2 HB ⊢
  clear hW2 hbl1 hfl1
  have hl2 := BL2.out.cell
  have hm2 := BM2.out.cell
  have HF : Hid (CollH W2 n0 Bl Bm (ks ++ [k]) most (.slice (some ⟨gg1, 0, none⟩) (L + 1) cc1)) := by
    refine ⟨BL2.out, BM2.out, ?_, NL.out⟩
    rw [List.length_append, HKS.out]; exact RL2.out
  clear BL2 BM2 RL2
  go_wp2
  go_ret
  exact ⟨rfl, _, HF, HB.out⟩

set_option maxHeartbeats 2000000 in
theorem eachgo_any (W0 : World) (n0 Bk Bl Bm : Nat) (a : Option Addr) (n cap : Nat) (zs : List Int) (most : Int) (v : Value) (hr : Row .u64 W0 a n zs) (ha : ∀ x, a = some x → n = 0 ∨ x.block < n0) (hn8 : (n + 1) * 8 ≤ 140737488355328) (hk : Boxed W0 Bk 30 (.slice a n cap))
    (hC : CollH W0 n0 Bl Bm [] most v) (hm : 1 ≤ most) :
    Calls Try.prog 16 #[.func (.func 17) #[] #[.pointer (some ⟨Bl, 0, none⟩), .pointer (some ⟨Bm, 0, none⟩)], .pointer (some ⟨Bk, 0, none⟩)] W0 fun e W' =>
      e = .returned (.tuple #[]) ∧ (∃ v', CollH W' n0 Bl Bm (zs.take most.toNat) most v') ∧ Below n0 W0 W' := by
  have hcell := hk.cell
  have hn := hr.2.1
  have HR := hide hr
  have HL := hide hr.1
  have HA := hide ha
  have HC := hide hC
  clear hr ha hk hC
  go_enter Try.func16, Try.ntmps16
  go_wp2
  clear hcell
  go_loopw [7] (fun i wr => ∃ (k : Nat), k ≤ n ∧ i = .int .i64 k ∧ (k = 0 ∨ (k : Int) < most) ∧ Hid (∃ v', CollH wr n0 Bl Bm (zs.take k) most v') ∧ Hid (Below n0 W0 wr)) (fun i _ => n - (intOf i).toNat)
  case atStart => exact ⟨0, by omega, rfl, Or.inl rfl, ⟨v, HC.out⟩, Below.refl _ _⟩
  case round =>
    obtain ⟨k, hk, rfl, hkm, HV, HB⟩ := hrel
    by_cases hlt : k < n
    · obtain ⟨v1, hv1⟩ := HV.out
      obtain ⟨hl, _, _, h0 | ⟨b, off, rfl, hc⟩⟩ := HR.out
      · omega
      have hck : wr.cell? ⟨b, off + k, none⟩ = some (.int .u64 (zs.getD k 0)) := by
        rw [HB.out.cell (p := ⟨b, off + k, none⟩) (show b < n0 from (HA.out ⟨b, off, none⟩ rfl).resolve_left (by omega))]
        exact hc k hlt
      have HS : Hid (zs.take (k + 1) = zs.take k ++ [zs.getD k 0]) := take_getD (by omega)
      have P := hide (hpush_any (zs.getD k 0) wr n0 Bl Bm k (zs.take k) most v1 hv1 (by rw [List.length_take]; omega) (by omega))
      rw [← HS.out] at P
      clear hc hl hv1
      generalize zs.getD k 0 = z at *
      obtain ⟨bb, hbb⟩ : ∃ bb, decide ((k : Int) + 1 < most) = bb := ⟨_, rfl⟩
      rw [hbb] at P
      have HBT : Hid (bb = true → (k : Int) + 1 < most) := fun h => of_decide_eq_true (hbb.trans h)
      have HBF : Hid (bb = false → ¬ (k : Int) + 1 < most) := fun h => of_decide_eq_false (hbb.trans h)
      clear hbb
      go_wp2_with fail
      refine P.out.mono ?_
      rintro e w2 ⟨rfl, v2, hv2, hb2⟩
      have HV2 : Hid (∃ v', CollH w2 n0 Bl Bm (zs.take (k + 1)) most v') := ⟨v2, hv2⟩
      have HB2 : Hid (Below n0 W0 w2) := HB.out.trans hb2
      clear hv2 hb2 P hck HB HV HS
      cases bb
      · have h1 := HBF.out rfl
        have HE : Hid (zs.take most.toNat = zs.take (k + 1)) := by
          have e1 : most.toNat = k + 1 := by rcases hkm with h | h <;> omega
          show _ = _
          rw [e1]
        clear h1 HBT HBF
        go_wp2
        refine bodyPost_ret (results_none rfl _ _ _) rfl ?_
        exact ⟨rfl, by rw [HE.out]; exact HV2.out, HB2.out⟩
      · have h1 := HBT.out rfl
        go_wp2
        go_roundw
        case rel => exact ⟨k + 1, by omega, by go_num, Or.inr (by omega), HV2, HB2⟩
        case measure => simp [intOf]; omega
    · have : k = n := by omega
      subst this
      have HE : Hid (zs.take most.toNat = zs.take k) := by
        show _ = _
        have h1 : k ≤ most.toNat := by rcases hkm with h | h <;> omega
        rw [List.take_of_length_le (by rw [HL.out]; omega), List.take_of_length_le (by rw [HL.out]; omega)]
      go_wp2
      go_end0
      exact ⟨rfl, by rw [HE.out]; exact HV.out, HB.out⟩

theorem equalIn_seq (w : World) (d : Nat) (f : Fn) (c b : Array Value) : (Op.equalIn (d + 1) 32 (.func f c b) .nilFunc).run Try.prog w = .ok false w := by
  simp [Op.equalIn, run_underlying Try.underlying32]
theorem eql_seq (w : World) (f : Fn) (c b : Array Value) : (binOp .eql 32 (.func f c b) .nilFunc).run Try.prog w = .ok (.bool false) w := by
  simp only [binOp]
  simp [Op.equal, Op.maxDepth, equalIn_seq w 9999 f c b]

set_option maxHeartbeats 1000000 in
theorem hashes_any (most : Int) (Bk : Nat) (a : Option Addr) (n cap : Nat) (zs : List Int) (w : World) (hr : Row .u64 w a n zs) (hn8 : (n + 1) * 8 ≤ 140737488355328) (hk : Boxed w Bk 30 (.slice a n cap)) (hm : 1 ≤ most) :
    Calls Try.prog 15 #[.func (.func 16) #[] #[.pointer (some ⟨Bk, 0, none⟩)], .int .i64 most] w fun e w' =>
      ∃ a' c', e = .returned (.slice a' (zs.take most.toNat).length c') ∧ Own 22 .u64 w' w.heap.size a' (zs.take most.toNat).length c' (zs.take most.toNat) ∧ Below w.heap.size w w' := by
  have KK := hide (bel_al (bel_al (Below.refl w.heap.size w) (Nat.le_refl _) (.cells #[.int .i64 most] 3)) (Nat.le_refl _) (.cells #[.slice none 0 0] 30))
  have BM := hide (Boxed.new w 3 (.int .i64 most))
  have hcm := (BM.out.alloc (.cells #[.slice none 0 0] 30)).cell
  have hq := eql_seq
  have t1 : ¬ (most < 1) := by omega
  have C0 : Hid (CollH ((w.alloc (.cells #[.int .i64 most] 3)).alloc (.cells #[.slice none 0 0] 30)) w.heap.size (w.heap.size + 1) w.heap.size [] most (.slice none 0 0)) := by
    refine ⟨?_, BM.out.alloc _, World.ownsRow_nil _ _ _ _, by omega⟩
    have := Boxed.new (w.alloc (.cells #[.int .i64 most] 3)) 30 (.slice none 0 0)
    rwa [World.size_alloc] at this
  have hb : ∀ x, a = some x → n = 0 ∨ x.block < w.heap.size := by
    rintro x rfl
    obtain ⟨_, _, _, h | ⟨b, off, e, hc⟩⟩ := hr
    · exact Or.inl h
    · by_cases h0 : n = 0
      · exact Or.inl h0
      · right
        simp only [Option.some.injEq] at e
        subst e
        exact World.block_lt_of_cell? w _ (hc 0 (by omega))
  have G := hide (eachgo_any _ w.heap.size Bk (w.heap.size + 1) w.heap.size a n cap zs most (.slice none 0 0) ((hr.alloc (.cells #[.int .i64 most] 3)).alloc (.cells #[.slice none 0 0] 30)) hb hn8 ((hk.alloc _).alloc _) C0.out hm)
  clear hr hk hb C0 BM
  generalize zs.take most.toNat = X at *
  go_enter Try.func15, Try.ntmps15
  go_wp2_with fail
  refine G.out.mono ?_
  rintro e w2 ⟨rfl, ⟨v2, hC⟩, k2⟩
  have rl := hC.rl
  obtain ⟨a3, c3, rfl⟩ := row_form rl
  have hcl := hC.bl.cell
  have RL := hide rl
  have K2 : Hid (Below w.heap.size w w2) := KK.out.trans k2
  clear hC rl k2 G KK hq hcm
  go_wp2
  go_ret
  exact ⟨a3, c3, rfl, RL, K2⟩
end Go.Proofs.Ytllipocbaknkpaa
