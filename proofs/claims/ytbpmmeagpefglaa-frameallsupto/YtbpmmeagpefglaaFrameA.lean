/-
  What slices.Clone, slices.Equal and frame.sumBytes come to at bytes: contracts, for every world.
  Conditions: the slices show their bytes; there is room for a copy.
-/
import Derived.Test.YtbpmmeagpefglaaFrameK
import Derived.Test.YtbpmmeagpefglaaVintH
import Derived.Laws.AppendOwnNone
import Derived.Lib.SliceRun
import Derived.Deep.LoopGhost
import Derived.Deep.Draws
import Derived.Shelf.RegionOpenPlain
namespace Go.Proofs.Ytbpmmeagpefglaa
open Go.RowKit Go.Shelf

theorem eql_nil (w : World) (a : Option Addr) (n c n' c' : Nat) : (binOp .eql 25 (.slice a n c) (.slice none n' c')).run Try.prog w = .ok (.bool a.isNone) w :=
  Lib.run_eql_slice_nil w _ _ a n c n' c' Try.underlying25

set_option maxHeartbeats 400000 in
theorem clone_any (a : Option Addr) (n cap : Nat) (zs : List Int) (w : World) (hr : Row .u8 w a n zs) (hn : n ≤ 140737488355328) :
    Calls Try.prog 29 #[.slice a n cap] w fun e w' => ∃ a' cap', e = .returned (.slice a' n cap') ∧ Mine w' w.heap.size a' n cap' zs ∧ Below w.heap.size w w' := by
  obtain ⟨i0, hi, hz0, hz1, hz2⟩ := info_parts Try.info5
  have hq := eql_nil
  have hl := hr.1
  cases a with
  | none =>
    have h0 := hr.nz rfl
    subst h0
    have hz : zs = [] := List.length_eq_zero_iff.1 hl
    subst hz
    go_enter Try.func29, Try.ntmps29
    go_wp2
    go_ret
    exact ⟨none, 0, rfl, own_nil _ _ _ _, Below.refl _ _⟩
  | some ad =>
    have HR := hide (fun o => (hr.alloc o).cells)
    clear hr
    go_enter Try.func29, Try.ntmps29
    go_wp2_with (at_builtin; refine wpList_append_own _ rfl _ _ 25 rfl w.heap.size 5 i0 (.int .u8 0) 1 1 Try.underlying25 hi hz0 hz1 hz2 rfl (by decide) _ _ _ rfl (World.ownsRow_made w #[] 0 (Nat.le_refl _) (Nat.zero_le _) rfl) ad n cap (zs.map (Value.int .u8)) rfl (by simp [hl]) (HR.out _) (one_cell .u8 zs) (by unfold maxLen; omega) (by omega) (by simp) ?_)
    intro v' w' h1 h2 _
    obtain ⟨a', cap', rfl, h3⟩ := own_form h1
    have H3 := hide h3
    have H4 : Hid (Below w.heap.size w w') := ((Below.refl _ w).alloc (Nat.le_refl _) _).grown h2 (by simp) (by intro k hk; simp [Value.ownBlock] at hk; omega)
    clear h1 h2 h3 HR
    go_wp2
    go_ret
    exact ⟨a', cap', rfl, H3, H4⟩

theorem ends_list {xs ys : List Int} {n : Nat} (hx : xs.length = n) (hy : ys.length = n) (h : ∀ j, j < n → xs.getD j 0 = ys.getD j 0) : xs = ys := by
  refine List.ext_getElem (by omega) fun i h1 h2 => ?_
  have := h i (by omega)
  rw [List.getD_eq_getElem?_getD, List.getD_eq_getElem?_getD, List.getElem?_eq_getElem h1, List.getElem?_eq_getElem h2] at this
  simpa using this

set_option maxHeartbeats 2000000 in
set_option maxRecDepth 100000 in
theorem equal_any (a : Option Addr) (n cap : Nat) (xs : List Int) (b : Option Addr) (capb : Nat) (ys : List Int) (w : World) (hr : Row .u8 w a n xs) (hs : Row .u8 w b n ys) :
    Calls Try.prog 42 #[.slice a n cap, .slice b n capb] w fun e w' => e = .returned (.bool (decide (xs = ys))) ∧ ∃ q, w' = w.drewN q := by
  have mixed : Try.prog.follows .mixedOrders = true := by kernel_rfl
  have hn := hr.2.1
  have HX := hide hr
  have HY := hide hs
  clear hr hs
  go_enter Try.func42, Try.ntmps42
  go_wp2
  go_loopg [13] n (fun g s13 wr => ∃ k q : Nat, k ≤ n ∧ n - k ≤ g ∧ s13 = .int .i64 k ∧ wr = w.drewN q ∧ Hid (∀ j, j < k → xs.getD j 0 = ys.getD j 0))
  case atStart => exact ⟨0, 0, Nat.zero_le _, by omega, rfl, rfl, fun j hj => absurd hj (Nat.not_lt_zero _)⟩
  case round =>
    obtain ⟨k, q, hk, hg, rfl, rfl, A⟩ := hrel
    by_cases hlt : k < n
    · obtain ⟨_, _, _, h0 | ⟨b1, o1, rfl, hc1⟩⟩ := HX.out
      · omega
      obtain ⟨_, _, _, h0 | ⟨b2, o2, rfl, hc2⟩⟩ := HY.out
      · omega
      have g1 := hc1 k hlt
      have g2 := hc2 k hlt
      clear hc1 hc2
      generalize hxk : xs.getD k 0 = x at g1
      generalize hyk : ys.getD k 0 = y at g2
      have B : Hid (xs.getD k 0 = x ∧ ys.getD k 0 = y) := ⟨hxk, hyk⟩
      clear hxk hyk
      by_cases hxy : x = y
      · subst hxy
        go_wp2_with fail
        go_region_o
        go_wp2
        go_roundg (n - (k + 1))
        case measure => omega
        case rel =>
          refine ⟨k + 1, q + 1, by omega, by omega, by go_num, rfl, fun j hj => ?_⟩
          by_cases e : j = k
          · subst e
            rw [B.out.1, B.out.2]
          · exact A.out j (by omega)
      · go_wp2_with fail
        go_region_o
        go_wp2
        go_ret
        refine ⟨?_, q + 1, rfl⟩
        rw [decide_eq_false (fun e => hxy (by rw [← B.out.1, ← B.out.2, e]))]; rfl
    · have : k = n := by omega
      subst this
      go_wp2
      go_ret
      refine ⟨?_, q, rfl⟩
      rw [decide_eq_true (ends_list HX.out.1 HY.out.1 A.out)]; rfl

/-- The four bytes of a sum, in a block of their own. -/
def four_ (s : Int) : Obj := .cells #[.int .u8 (s % 256), .int .u8 (s / 256 % 256), .int .u8 (s / 65536 % 256), .int .u8 (s / 16777216 % 256)] 5
theorem four_row (w : World) (s : Int) : Row .u8 (w.alloc (four_ s)) (some ⟨w.heap.size, 0, none⟩) 4 (quad s) := by
  refine ⟨rfl, by omega, fun z hz => wf_of_u8 (quad_byte s z hz).1 (quad_byte s z hz).2, Or.inr ⟨w.heap.size, 0, rfl, fun i hi => ?_⟩⟩
  unfold four_
  rw [World.cell?_alloc_mark, Nat.zero_add]
  match i, hi with
  | 0, _ => rfl
  | 1, _ => rfl
  | 2, _ => rfl
  | 3, _ => rfl
  | n + 4, h => omega

set_option maxHeartbeats 400000 in
theorem sumbytes_any (a : Option Addr) (n cap : Nat) (zs : List Int) (w : World) (hr : Row .u8 w a n zs) :
    Calls Try.prog 31 #[.slice a n cap] w fun e w' => e = .returned (.slice (some ⟨w.heap.size + 1, 0, none⟩) 4 4) ∧ w' = (w.alloc tbl).alloc (four_ (moreS 0 zs)) := by
  have M := hide (of_any a n cap zs w hr)
  have hw := moreS_word (s := 0) (by decide) hr.bytes
  clear hr
  generalize moreS 0 zs = s at *
  obtain ⟨s0, s1⟩ := hw
  go_enter Try.func31, Try.ntmps31
  go_wp2_with fail
  refine M.out.mono ?_
  rintro e w' ⟨rfl, rfl⟩
  go_wp2
  go_ret
  exact ⟨rfl, by unfold four_; rw [show s / 16777216 % 256 = s / 16777216 from by omega]⟩
end Go.Proofs.Ytbpmmeagpefglaa
