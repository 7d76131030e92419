/-
  Of many texts: each one's number, in order, as the document's own answer, with the loop broken off anywhere, and gone through again to its end; the document's examples hold. The call returns true, and its arguments read as they did.
  Conditions: none: every value of the parameters' types.
-/
import Derived.Test.YtllipocbaknkpaaFnvD
import Derived.Test.YtllipocbaknkpaaFnvR
import Derived.Test.YtllipocbaknkpaaNumS
import Derived.Test.YtllipocbaknkpaaPlace
import Derived.Test.YtllipocbaknkpaaVintR
import Derived.Laws.AppendOwnNone
import Derived.Lib.MinMax
import Derived.ProofKit
import Derived.OpenShut
import Derived.ShutString
import Derived.ChangeOld
import Derived.SizedLaws
namespace Go.Proofs.Ytllipocbaknkpaa
open Go.RowKit

theorem Try.infoT : (Try.prog.info? 9).map (fun i => (i.zero, i.size, i.bytes)) = some (some (.string { data := #[] }), 1, 16) := by kernel_rfl

theorem slice_nums_to (a : Option Addr) (n cap k : Nat) (hk : k ≤ cap) (w : World) :
    (Instr.slice 30 (.slice a n cap) none (some (.int .i64 (k : Int))) none).run Try.prog w = .ok (.slice a k cap) w := by
  rw [run_slice_h (P := Try.prog) w 30 a n cap Try.underlying30 .i64 (k : Int) (by omega) (by omega)]
  have hs : (sizeOf (Try.prog.elem 30)).run Try.prog w = .ok 1 w := by kernel_rfl
  rw [hs]
  simp only [Result.andThen, sliced, Int.toNat_natCast, Nat.zero_mul, Nat.sub_zero]
  cases a with
  | none => simp
  | some x => simp [Addr.add]

theorem own_texts {w : World} {base n : Nat} {v : Value} {ss : List ByteArray} (h : w.ownsRow base 9 1 v n (ss.map Value.string)) (hn : n ≤ 140737488355328) : ∃ a c, v = .slice a n c ∧ RowX w a n ss := by
  have hl : ss.length = n := by simpa using h.1
  rcases id h.2 with ⟨rfl, rfl⟩ | ⟨g, c, cur, rfl, _⟩
  · exact ⟨none, 0, rfl, hl, by omega, Or.inl rfl⟩
  · refine ⟨_, _, rfl, hl, hn, Or.inr ⟨g, 0, rfl, fun i hi => ?_⟩⟩
    rw [Nat.zero_add, h.cellAt i (by omega), List.getElem?_map, List.getElem?_eq_getElem (by omega), List.getD_eq_getElem?_getD, List.getElem?_eq_getElem (by omega)]
    rfl

/-- A copy of texts in new memory. -/
theorem wpList_copy_texts (w : World) {ops : Array Oper} {rest : List Oper} {o : Oper} {a : Act} {Q : Exit → Act → World → Prop} (hgd : o.guard = none) (s x : Operand)
    (ho : o.op = .call { callee := .builtin .append, args := #[s, x], argTypes := #[29, 29] }) (hs : a.eval s = .slice none 0 0)
    (ao : Option Addr) (n cap : Nat) (ss : List ByteArray) (hx : a.eval x = .slice ao n cap) (hr : RowX w ao n ss) (hnil : ao = none → n = 0 ∧ cap = 0) (hn : n * 16 ≤ 140737488355328)
    (h : ∀ a' c' w', RowX w' a' n ss → Below w.heap.size w w' → wpList Try.prog ops Q rest (a.put o.dst (.slice a' n c')) w') : wpList Try.prog ops Q (o :: rest) a w := by
  obtain ⟨i0, hi, hz0, hz1, hz2⟩ := info_parts Try.infoT
  cases ao with
  | none =>
    obtain ⟨rfl, rfl⟩ := hnil rfl
    have hz : ss = [] := List.length_eq_zero_iff.1 hr.1
    subst hz
    exact wpList_append_own_none hgd _ _ 29 ho w.heap.size 9 i0 1 Try.underlying29 hi _ 0 [] hs (World.ownsRow_nil _ _ _ _) hx (h _ _ _ hr (Below.refl _ _))
  | some ad =>
    refine wpList_append_own _ hgd _ _ 29 ho w.heap.size 9 i0 (.string { data := #[] }) 1 16 Try.underlying29 hi hz0 hz1 hz2 rfl (by decide) _ 0 [] hs (World.ownsRow_nil _ _ _ _) ad n cap (ss.map Value.string) hx (by simp [hr.1]) hr.cells (texts_oneCell ss) (by unfold maxLen; omega) (by omega) (Nat.le_refl _) ?_
    intro v' w' h1 h2 _
    rw [List.nil_append, Nat.zero_add] at h1
    obtain ⟨a', c', rfl, h3⟩ := own_texts h1 (by omega)
    exact h a' c' w' h3 ((Below.refl _ _).grown h2 (Nat.le_refl _) (fun k hk => by simp [Value.ownBlock] at hk))

set_option maxRecDepth 100000 in
set_option maxHeartbeats 4000000 in
theorem walk_each (a : Option Addr) (n cap : Nat) (z : List ByteArray) (v : Int) (w : World) (w0 : IsTextsZ w a n cap z) (_w1 : (Lit.int .i64 v).wf = true) :
    Calls Try.prog 5 #[.slice a n cap, .int .i64 v] w fun e w' => e = .returned (.bool true) ∧ Below w.heap.size w w' := by
  obtain ⟨i1, hi1, hz10, hz11, hz12⟩ := info_parts Try.infoN
  have hr := textsF_of w0.1
  have hnil : a = none → n = 0 ∧ cap = 0 := by
    rintro rfl
    obtain ⟨⟨_, ⟨_, h1, h2, _⟩ | ⟨_, h, _⟩⟩, _⟩ := w0
    · exact ⟨h1, h2⟩
    · simp at h
  have hcap : n ≤ cap ∧ cap * 16 ≤ 140737488351232 := by
    obtain ⟨⟨h0, ⟨_, h1, h2, _⟩ | ⟨_, _, h1, _⟩⟩, _⟩ := w0
    · exact ⟨by omega, by omega⟩
    · exact ⟨h1, h0⟩
  have hn : n * 16 ≤ 140737488351232 := by omega
  have HSS : Hid (∀ s ∈ z.take n, s.size ≤ maxLen) := fun s hs => w0.2 s (List.mem_of_mem_take hs)
  have HNIL := hide hnil
  generalize z.take n = ss at *
  have HR := hide hr
  have HL := hide hr.1
  obtain ⟨zs, HZS⟩ : ∃ zs, Hid (ss.map numOf = zs) := ⟨_, rfl⟩
  have HZL : Hid (zs.length = n) := by show _ = _; rw [← HZS.out, List.length_map, HL.out]
  have HZW : Hid (∀ z ∈ zs, (Lit.int .u64 z).wf = true) := by
    intro z hz
    rw [← HZS.out] at hz
    obtain ⟨s, _, rfl⟩ := List.mem_map.1 hz
    exact wf_of_u64 (numOf_word s)
  clear hr w0 hcap hnil
  go_enter Try.func5, Try.ntmps5
  go_wp2
  go_loopw [5, 6] (fun x i wr => ∃ (aw : Option Addr) (k cw : Nat), x = .slice aw k cw ∧ i = .int .i64 k ∧ k ≤ n ∧ Hid (wr.ownsRow w.heap.size 22 1 (.slice aw k cw) k ((zs.take k).map (Value.int .u64))) ∧ Hid (Below w.heap.size w wr)) (fun _ i _ => n - (intOf i).toNat)
  case atStart => exact ⟨none, 0, 0, rfl, rfl, by omega, World.ownsRow_nil _ _ _ _, Below.refl _ _⟩
  case round =>
    obtain ⟨aw, k, cw, rfl, rfl, hk, HW, HB⟩ := hrel
    by_cases hlt : k < n
    · obtain ⟨-, -, h0 | ⟨b, off, rfl, hc⟩⟩ := HR.out
      · omega
      have hlt0 : b < w.heap.size := World.block_lt_of_cell? w _ (hc k hlt)
      have hck : wr.cell? ⟨b, off + k, none⟩ = some (.string (ss.getD k ByteArray.empty)) := by
        rw [HB.out.cell (p := ⟨b, off + k, none⟩) hlt0]
        exact hc k hlt
      have hsz : (ss.getD k ByteArray.empty).size ≤ 9223372036854775807 := getD_text HSS.out (by rw [HL.out]; exact hlt)
      have C := hide (refOf_any (ss.getD k ByteArray.empty) wr hsz)
      have HS : Hid (zs.take (k + 1) = zs.take k ++ [fnvOf (numsOf (ss.getD k ByteArray.empty))]) := by
        show _ = _
        rw [← HZS.out, ← List.map_take, take_text (by rw [HL.out]; exact hlt), List.map_append, ← List.map_take]
        rfl
      have HBW : Hid (w.heap.size ≤ wr.heap.size) := HB.out.size
      generalize fnvOf (numsOf (ss.getD k ByteArray.empty)) = u at *
      generalize ss.getD k ByteArray.empty = s at *
      clear hc hsz
      go_wp2_with fail
      refine C.out.mono ?_
      rintro e w' ⟨rfl, rfl⟩
      go_wp2_with (at_builtin; refine wpList_push _ rfl _ _ 30 rfl w.heap.size 22 i1 (.int .u64 0) 8 Try.underlying30 hi1 hz10 hz11 hz12 rfl aw k cw _ rfl (HW.out.alloc _) ⟨w'.heap.size, 0, none⟩ 1 (.int .u64 u) rfl (one_numcell w' u _) rfl (by unfold maxLen; omega) (by omega) (by have := HBW.out; simp; omega) ?_)
      intro gg cc w2 o2 g2 _
      have O2 : Hid (w2.ownsRow w.heap.size 22 1 (.slice (some ⟨gg, 0, none⟩) (k + 1) cc) (k + 1) ((zs.take (k + 1)).map (Value.int .u64))) := by
        show w2.ownsRow _ _ _ _ _ _
        rw [HS.out]; simpa using o2
      have K2 : Hid (Below w.heap.size w w2) := (bel_al HB.out (Nat.le_refl _) (.cells #[.int .u64 u] 22)).grown g2 (by have := HBW.out; simp; omega) (fun g hg => (row_cells HW.out hg).2)
      clear o2 g2 HW HB C hck
      go_wp2
      go_roundw
      case rel => exact ⟨_, k + 1, cc, rfl, by go_num, by omega, O2, K2⟩
      case measure => simp [intOf]; omega
    · have : k = n := by omega
      subst this
      have HW0 : Hid (Own 22 .u64 wr w.heap.size aw k cw zs) := by
        have := HW.out
        rw [List.take_of_length_le (by rw [HZL.out]; omega)] at this
        exact this
      have hcw := HW0.out.capped.1
      have HRr := hide (HR.out.below HB.out (Nat.le_refl _))
      clear HW
      go_wp2_with (at_builtin; refine wpList_copy_texts _ rfl _ _ rfl rfl a k cap ss rfl HRr.out HNIL.out (by omega) ?_)
      intro al cl x1 hx1 k1
      have E1 := hide (each_any al k cl ss x1 hx1 (by omega) HSS.out)
      rw [HZS.out] at E1
      have K1 : Hid (Below wr.heap.size wr x1) := k1
      clear hx1 k1 HRr
      go_wp2_with fail
      refine E1.out.mono ?_
      rintro e x2 ⟨Bk, g, rfl, bk, o2, k2⟩
      have K2 : Hid (Below wr.heap.size wr x2) := bel_to K1.out (Nat.le_refl _) k2
      have BK := hide bk
      have RN := hide (o2.row (by omega) HZW.out)
      clear bk o2 k2 E1 K1
      have hp0 : 0 ≤ v % 20 := Int.emod_nonneg v (by omega)
      have hp1 : v % 20 < 20 := Int.emod_lt_of_pos v (by omega)
      have P := hide (fun W => place_any v 20 (by omega) (by omega) W)
      obtain ⟨q, hq⟩ := Int.eq_ofNat_of_zero_le hp0
      rw [hq] at P hp1
      clear hq hp0
      go_wp2_with fail
      refine (P.out _).mono ?_
      rintro e x3 ⟨rfl, rfl⟩
      clear P
      obtain ⟨m, hm⟩ : ∃ m, min (q + 1) k = m := ⟨_, rfl⟩
      have hmk : m ≤ k := by omega
      have HT1 : Hid (zs.take (1 + (q : Int)).toNat = zs.take m) := by
        have := HZL.out
        show _ = _
        by_cases hqk : q + 1 ≤ k
        · rw [show (1 + (q : Int)).toNat = m by omega]
        · rw [List.take_of_length_le (by omega), List.take_of_length_le (by omega)]
      have HT2 : Hid (zs.take ((k : Int) + 1).toNat = zs) := List.take_of_length_le (by rw [HZL.out]; omega)
      have HLM : Hid ((zs.take m).length = m) := by have := HZL.out; show _ = _; rw [List.length_take]; omega
      have hmin : min (1 + (q : Int)) (k : Int) = (m : Int) := by omega
      have C1 := hide (fun W (h : Below x3.heap.size x3 W) => hashes_any (1 + (q : Int)) Bk (some ⟨g, 0, none⟩) k k zs W (RN.out.below h (Nat.le_refl _)) (by omega) (boxed_below BK.out h) (by omega))
      have C2 := hide (fun W (h : Below x3.heap.size x3 W) => hashes_any ((k : Int) + 1) Bk (some ⟨g, 0, none⟩) k k zs W (RN.out.below h (Nat.le_refl _)) (by omega) (boxed_below BK.out h) (by omega))
      rw [HT1.out, HLM.out] at C1
      rw [HT2.out, HZL.out] at C2
      have D1 := hide (fun W a1 c1 (h1 : Row .u64 W a1 m (zs.take m)) (h2 : Row .u64 W aw m (zs.take m)) => same_any a1 m c1 (zs.take m) aw m cw (zs.take m) W h1 h2)
      have D2 := hide (fun W a1 c1 (h1 : Row .u64 W a1 k zs) (h2 : Row .u64 W aw k zs) => same_any a1 k c1 zs aw k cw zs W h1 h2)
      simp only [decide_true] at D1 D2
      have f1 := slice_nums_to aw k cw m (by omega)
      have HKW : Hid (Below w.heap.size w x3) := bel_to HB.out (Nat.le_refl _) K2.out
      have HWW : Hid (Row .u64 x3 aw k zs) := ((HW0.out.row (by omega) HZW.out).below K2.out (Nat.le_refl _))
      clear hm HT1 HT2 HLM K2 HB HW0 RN BK HR HNIL HSS HL
      go_upto_region 8 with fail
      refine wp_region_held_drew (S := fun _ => True) (by kernel_rfl) trivial (fun hHeld => ?_)
      refine held_take (i := 0) (d := (some 29)) (v := ?_) rfl rfl (by kernel_rfl) (by kernel_rfl) (by kernel_rfl) (fun _ _ _ h => h) (Or.inl ⟨by rfl, ?_⟩) (by first | assumption | rfl | trivial) ?_
      rotate_left 1
      · (intro w hSw; (try dsimp only at hSw); (try subst hSw); go_simp; try with_reducible rfl)
      simp only [Act.put, List.setIfInBounds_toArray, List.set_cons_zero, List.set_cons_succ]
      refine held_take (i := 1) (d := (some 30)) (v := ?_) rfl rfl (by kernel_rfl) (by kernel_rfl) (by kernel_rfl) (fun _ _ _ h => h) (Or.inl ⟨by rfl, ?_⟩) (by first | assumption | rfl | trivial) ?_
      rotate_left 1
      · (intro w hSw; (try dsimp only at hSw); (try subst hSw); go_simp; try with_reducible rfl)
      simp only [Act.put, List.setIfInBounds_toArray, List.set_cons_zero, List.set_cons_succ]
      refine held_take (i := 3) (d := (some 32)) (v := ?_) rfl rfl (by kernel_rfl) (by kernel_rfl) (by kernel_rfl) (fun _ _ _ h => h) (Or.inl ⟨by rfl, ?_⟩) (by first | assumption | rfl | trivial) ?_
      rotate_left 1
      · (intro w hSw; (try dsimp only at hSw); (try subst hSw); go_simp; try with_reducible rfl)
      simp only [Act.put, List.setIfInBounds_toArray, List.set_cons_zero, List.set_cons_succ]
      refine held_take (i := 4) (d := (some 33)) (v := ?_) rfl rfl (by kernel_rfl) (by kernel_rfl) (by kernel_rfl) (fun _ _ _ h => h) (Or.inl ⟨by rfl, ?_⟩) (by first | assumption | rfl | trivial) ?_
      rotate_left 1
      · (intro w hSw; (try dsimp only at hSw); (try subst hSw); go_simp; try with_reducible rfl)
      simp only [Act.put, List.setIfInBounds_toArray, List.set_cons_zero, List.set_cons_succ]
      refine held_take (i := 5) (d := (some 34)) (v := ?_) rfl rfl (by kernel_rfl) (by kernel_rfl) (by kernel_rfl) (fun _ _ _ h => h) (Or.inl ⟨by rfl, ?_⟩) (by first | assumption | rfl | trivial) ?_
      rotate_left 1
      · (intro w hSw; (try dsimp only at hSw); (try subst hSw); go_simp; try with_reducible rfl)
      simp only [Act.put, List.setIfInBounds_toArray, List.set_cons_zero, List.set_cons_succ]
      refine held_take (i := 6) (d := (some 35)) (v := ?_) rfl rfl (by kernel_rfl) (by kernel_rfl) (by kernel_rfl) (fun _ _ _ h => h) (Or.inl ⟨by rfl, ?_⟩) (by first | assumption | rfl | trivial) ?_
      rotate_left 1
      · (intro w hSw; (try dsimp only at hSw); (try subst hSw); go_simp; try with_reducible rfl)
      simp only [Act.put, List.setIfInBounds_toArray, List.set_cons_zero, List.set_cons_succ]
      refine held_take (i := 7) (d := (some 36)) (v := ?_) rfl rfl (by kernel_rfl) (by kernel_rfl) (by kernel_rfl) (fun _ _ _ h => h) (Or.inl ⟨by rfl, ?_⟩) (by first | assumption | rfl | trivial) ?_
      rotate_left 1
      · (intro w hSw; (try dsimp only at hSw); (try subst hSw); go_simp; try with_reducible rfl)
      simp only [Act.put, List.setIfInBounds_toArray, List.set_cons_zero, List.set_cons_succ]
      refine held_take (i := 8) (d := (some 37)) (v := ?_) rfl rfl (by kernel_rfl) (by kernel_rfl) (by kernel_rfl) (fun _ _ _ h => h) (Or.inl ⟨by rfl, ?_⟩) (by first | assumption | rfl | trivial) ?_
      rotate_left 1
      · (intro w hSw; (try dsimp only at hSw); (try subst hSw); go_simp; try with_reducible rfl)
      simp only [Act.put, List.setIfInBounds_toArray, List.set_cons_zero, List.set_cons_succ]
      refine held_next (i := 2) (by kernel_rfl) rfl (by rfl) (fun K hK => ?_)
      go_simp
      have G1 := hide (C1.out x3.drew ((Below.refl _ _).drew))
      refine G1.out.mono ?_
      rintro e x4 ⟨a4, c4, rfl, o4, k4⟩
      have K4 : Hid (Below x3.heap.size x3 x4) := bel_to (Below.refl x3.heap.size x3).drew (Nat.le_refl _) k4
      have G2 := hide (D1.out x4 a4 c4 (o4.row (by omega) (fun z hz => HZW.out z (List.mem_of_mem_take hz))) ((HWW.out.below K4.out (Nat.le_refl _)).to m hmk))
      clear o4 k4 C1 G1 hHeld f1 hmin
      go_wp2_with fail
      refine hK.out _ _ trivial ?_
      clear hK
      refine held_next (i := 9) (by kernel_rfl) rfl (by rfl) (fun K hK => ?_)
      go_simp
      refine G2.out.mono ?_
      rintro e x5 ⟨rfl, k5⟩
      have K5 : Hid (Below x3.heap.size x3 x5) := bel_to K4.out (Nat.le_refl _) k5
      clear k5 G2 D1 K4
      go_wp2_with fail
      refine hK.out _ _ trivial ?_
      clear hK
      have hadd : IntKind.i64.wrap ((k : Int) + 1) = (k : Int) + 1 := by rw [IntKind.wrap_i64]; omega
      refine held_take (i := 10) (d := (some 39)) (v := ?_) rfl rfl (by kernel_rfl) (by kernel_rfl) (by kernel_rfl) (fun _ _ _ h => h) (Or.inl ⟨by rfl, ?_⟩) (by first | assumption | rfl | trivial) ?_
      rotate_left 1
      · (intro w hSw; (try dsimp only at hSw); (try subst hSw); go_simp; try with_reducible rfl)
      simp only [Act.put, List.setIfInBounds_toArray, List.set_cons_zero, List.set_cons_succ]
      refine held_take (i := 11) (d := (some 40)) (v := ?_) rfl rfl (by kernel_rfl) (by kernel_rfl) (by kernel_rfl) (fun _ _ _ h => h) (Or.inl ⟨by rfl, ?_⟩) (by first | assumption | rfl | trivial) ?_
      rotate_left 1
      · (intro w hSw; (try dsimp only at hSw); (try subst hSw); go_simp; try with_reducible rfl)
      simp only [Act.put, List.setIfInBounds_toArray, List.set_cons_zero, List.set_cons_succ]
      refine held_take (i := 12) (d := (some 41)) (v := ?_) rfl rfl (by kernel_rfl) (by kernel_rfl) (by kernel_rfl) (fun _ _ _ h => h) (Or.inl ⟨by rfl, ?_⟩) (by first | assumption | rfl | trivial) ?_
      rotate_left 1
      · (intro w hSw; (try dsimp only at hSw); (try subst hSw); go_simp; try with_reducible rfl)
      simp only [Act.put, List.setIfInBounds_toArray, List.set_cons_zero, List.set_cons_succ]
      refine held_take (i := 13) (d := (some 42)) (v := ?_) rfl rfl (by kernel_rfl) (by kernel_rfl) (by kernel_rfl) (fun _ _ _ h => h) (Or.inl ⟨by rfl, ?_⟩) (by first | assumption | rfl | trivial) ?_
      rotate_left 1
      · (intro w hSw; (try dsimp only at hSw); (try subst hSw); go_simp; try with_reducible rfl)
      simp only [Act.put, List.setIfInBounds_toArray, List.set_cons_zero, List.set_cons_succ]
      refine held_take (i := 14) (d := (some 43)) (v := ?_) rfl rfl (by kernel_rfl) (by kernel_rfl) (by kernel_rfl) (fun _ _ _ h => h) (Or.inl ⟨by rfl, ?_⟩) (by first | assumption | rfl | trivial) ?_
      rotate_left 1
      · (intro w hSw; (try dsimp only at hSw); (try subst hSw); go_simp; try with_reducible rfl)
      simp only [Act.put, List.setIfInBounds_toArray, List.set_cons_zero, List.set_cons_succ]
      refine held_take (i := 16) (d := (some 45)) (v := ?_) rfl rfl (by kernel_rfl) (by kernel_rfl) (by kernel_rfl) (fun _ _ _ h => h) (Or.inl ⟨by rfl, ?_⟩) (by first | assumption | rfl | trivial) ?_
      rotate_left 1
      · (intro w hSw; (try dsimp only at hSw); (try subst hSw); go_simp; try with_reducible rfl)
      simp only [Act.put, List.setIfInBounds_toArray, List.set_cons_zero, List.set_cons_succ]
      refine held_next (i := 15) (by kernel_rfl) rfl (by rfl) (fun K hK => ?_)
      go_simp
      have G3 := hide (C2.out x5 K5.out)
      refine G3.out.mono ?_
      rintro e x6 ⟨a6, c6, rfl, o6, k6⟩
      have K6 : Hid (Below x3.heap.size x3 x6) := bel_to K5.out (Nat.le_refl _) k6
      have G4 := hide (D2.out x6 a6 c6 (o6.row (by omega) HZW.out) (HWW.out.below K6.out (Nat.le_refl _)))
      clear o6 k6 C2 G3 K5 hadd
      go_wp2_with fail
      refine hK.out _ _ trivial ?_
      clear hK
      refine held_next (i := 17) (by kernel_rfl) rfl (by rfl) (fun K hK => ?_)
      go_simp
      refine G4.out.mono ?_
      rintro e x7 ⟨rfl, k7⟩
      have K7 : Hid (Below x3.heap.size x3 x7) := bel_to K6.out (Nat.le_refl _) k7
      clear k7 G4 D2 K6
      go_wp2_with fail
      refine hK.out _ _ trivial ?_
      clear hK
      refine held_take (i := 18) (d := (some 47)) (v := ?_) rfl rfl (by kernel_rfl) (by kernel_rfl) (by kernel_rfl) (fun _ _ _ h => h) (Or.inl ⟨by rfl, ?_⟩) (by first | assumption | rfl | trivial) ?_
      rotate_left 1
      · (intro w hSw; (try dsimp only at hSw); (try subst hSw); go_simp; try with_reducible rfl)
      simp only [Act.put, List.setIfInBounds_toArray, List.set_cons_zero, List.set_cons_succ]
      refine held_take (i := 19) (d := (some 48)) (v := ?_) rfl rfl (by kernel_rfl) (by kernel_rfl) (by kernel_rfl) (fun _ _ _ h => h) (Or.inl ⟨by rfl, ?_⟩) (by first | assumption | rfl | trivial) ?_
      rotate_left 1
      · (intro w hSw; (try dsimp only at hSw); (try subst hSw); go_simp; try with_reducible rfl)
      simp only [Act.put, List.setIfInBounds_toArray, List.set_cons_zero, List.set_cons_succ]
      refine held_next (i := 20) (by kernel_rfl) rfl (by rfl) (fun K hK => ?_)
      go_simp
      have G5 := hide (fnvAwake_any x7)
      refine G5.out.mono ?_
      rintro e x8 ⟨rfl, rfl⟩
      clear G5
      go_wp2_with fail
      refine hK.out _ _ trivial ?_
      clear hK
      refine held_take (i := 21) (d := (some 50)) (v := ?_) rfl rfl (by kernel_rfl) (by kernel_rfl) (by kernel_rfl) (fun _ _ _ h => h) (Or.inl ⟨by rfl, ?_⟩) (by first | assumption | rfl | trivial) ?_
      rotate_left 1
      · (intro w hSw; (try dsimp only at hSw); (try subst hSw); go_simp; try with_reducible rfl)
      simp only [Act.put, List.setIfInBounds_toArray, List.set_cons_zero, List.set_cons_succ]
      refine held_take (i := 22) (d := (some 4)) (v := ?_) rfl rfl (by kernel_rfl) (by kernel_rfl) (by kernel_rfl) (fun _ _ _ h => h) (Or.inl ⟨by rfl, ?_⟩) (by first | assumption | rfl | trivial) ?_
      rotate_left 1
      · (intro w hSw; (try dsimp only at hSw); (try subst hSw); go_simp; try with_reducible rfl)
      simp only [Act.put, List.setIfInBounds_toArray, List.set_cons_zero, List.set_cons_succ]
      refine wpAnyH_done (by kernel_rfl) ?_ _
      go_wp2
      go_ret
      exact ⟨rfl, bel_to HKW.out (Nat.le_refl _) K7.out⟩
end Go.Proofs.Ytllipocbaknkpaa

namespace Go.Proofs.Ytllipocbaknkpaa.fnvEach
open Go.ChangeShapes Go.WideShapes Go.ChangeAt Go.RowKit
open Go.ChangeMaps (open_string shut_string)
set_option linter.unusedVariables false

theorem own : ownKnob Try.prog.godebug = none := by kernel_rfl
theorem laidOut : laidOutB Try.prog = true := by kernel_rfl

set_option maxRecDepth 100000 in
theorem lifted (os : Os) (started : os.Started) (H : Type) (enc : TypeId × Value → H) :
    ReturnsInHanded {} Try.checked os 5 .any (Rows.fnvEachSpec.pre6 enc Try.prog Try.f5 Rows.fnvEachRow.domain false) (Rows.fnvEachSpec.post enc Try.prog Try.f5 false true false false) := by
  refine returnsInHanded_of_change_sized (C := Try.checked) own started (by kernel_rfl) Try.func5
    (ChangeSpec.witness6 (enc := enc) (C := Try.checked) false ⟨#[], #[.slice none 0 0, .int .i64 0], []⟩ 8 (by kernel_rfl) (by kernel_rfl) (by kernel_rfl) (by kernel_rfl)) ?_
  intro W base args ds gs before hval0 hW hcnd hsz0 _
  have hsz : (DataW.weightsEach Try.prog (Try.f5.params.toList ++ Rows.fnvEachSpec.plain.varTypes Try.prog) (ds ++ gs)).all (· ≤ reachBytes) = true := hsz0
  have hval : ∀ (j : Nat) t v, Try.f5.params[j]? = some t → args[j]? = some v → Value.okWide Try.prog W .any base t v := hval0
  have hW' := hW
  obtain ⟨p, q, hA0, hV, rfl, hfz, hnd⟩ := hW
  have hA : DataW.TrodAll enc Try.prog W 0 (fun _ => true) true Try.f5.params.toList args.toList ds p := hA0
  rw [Try.params5] at hA hval hsz
  obtain ⟨v0, vs0, d0, ds0, p0, q0, hargs, rfl, rfl, h0, r0⟩ := trodAll_cons hA
  obtain ⟨v1, vs1, d1, ds1, p1, q1, rfl, rfl, rfl, h1, r1⟩ := trodAll_cons r0
  obtain ⟨rfl, rfl, rfl⟩ := trodAll_nil r1
  obtain rfl : args = #[v0, v1] := by cases args; simp_all
  obtain ⟨rfl, rfl⟩ := trodVars_none hV
  obtain ⟨a0, len0, cap0, rfl⟩ := okWide_slice Try.underlying29 (hval 0 29 v0 rfl rfl)
  have k0 := h0
  have lt0 : ∀ x ∈ p0, x.block < W.heap.size := by obtain ⟨m, hm⟩ := k0; exact DataW.trod_lt m _ _ _ hm
  obtain ⟨z0, w0⟩ : ∃ ss, IsTextsZ W a0 len0 cap0 ss := by
    obtain ⟨fuel, hf⟩ := h0
    rcases open_strings Try.underlying29 Try.underlying9 (by kernel_rfl) hf with ⟨hcs, _⟩ | ⟨x, l, c, ss, hcs, _, hl, hm, hz, hx, hcell, hws⟩
    · simp [Value.cells] at hcs
      obtain ⟨rfl, rfl, rfl⟩ := hcs
      exact ⟨[], ⟨by decide, .inl ⟨rfl, rfl, rfl, rfl⟩⟩, by simp⟩
    · simp [Value.cells] at hcs
      obtain ⟨rfl, rfl, rfl⟩ := hcs
      have hd := congrArg Prod.fst hx
      simp only at hd
      have hzc : ss.length = cap0 := by simpa using hz
      have hs := sized_slice hsz (j := 0) (t := 29) (e := 9) rfl (by rw [hd]; rfl) Try.underlying29
      rw [show Try.prog.bytesOf 9 = 16 from by kernel_rfl] at hs
      simp only [strs, List.length_map, List.length_take, List.length_drop, reachBytes] at hs
      exact ⟨ss, ⟨by omega, .inr ⟨_, rfl, hl, hzc, hcell⟩⟩, hws⟩
  obtain ⟨a1, rfl, rfl, rfl, w1⟩ := open_int Try.underlying3 (hval 1 3 v1 rfl rfl) h1
  clear hA0 hval0 hsz0 hsz
  refine (walk_each a0 len0 cap0 z0 a1 W w0 w1).mono fun e W' ⟨he, bel⟩ => ?_
  subst he
  exact ⟨_, rfl, _, _, _, [], _, [], hW', trodAll_mk1 (shut_bool Try.underlying4 _), (trodAll_cons_mk (Below.trod laidOut (by kernel_rfl) (of_decide_eq_true (by kernel_rfl)) k0 bel lt0) (trodAll_cons_mk (shut_int Try.underlying3 w1) trodAll_mk0)), rfl, bel.frame _, fun h => by cases h⟩

theorem proved : Rows.FnvEachSaid :=
  OpenClaim.holds_of_wide 5 Try.f5 rfl rfl rfl rfl rfl rfl rfl ⟨rfl, rfl, rfl, rfl, rfl⟩ rfl rfl rfl rfl rfl (by kernel_rfl) Try.func5 (by kernel_rfl)
    (of_decide_eq_true (by kernel_rfl)) (by unfold Func.isWrapper; first | (rw [if_pos (by decide +kernel)]; kernel_rfl) | (rw [if_neg (by decide +kernel)]; exact ⟨rfl, rfl⟩))
    (fun os started H enc _ => lifted os started H enc)
end Go.Proofs.Ytllipocbaknkpaa.fnvEach
