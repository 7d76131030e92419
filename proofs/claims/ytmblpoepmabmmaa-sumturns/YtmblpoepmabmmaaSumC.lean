/-
  The document's examples of layer 3 (the law's own 'awake'), and the law's own copy of bytes in new memory: contracts, for every world.
  Conditions: the slice shows its bytes.
-/
import Derived.Test.YtmblpoepmabmmaaSumB
import Derived.Laws.AppendOwnNone
import Derived.Lib.SlBytesConst
import Derived.Laws.BytesArg
namespace Go.Proofs.Ytmblpoepmabmmaa
open Go.RowKit

def nine : Obj := .cells #[.int .u8 49, .int .u8 50, .int .u8 51, .int .u8 52, .int .u8 53, .int .u8 54, .int .u8 55, .int .u8 56, .int .u8 57] 5 (9, 10)
def nineL : List Int := [49, 50, 51, 52, 53, 54, 55, 56, 57]

theorem nine_row (w : World) : Row (w.alloc nine) (some ⟨w.heap.size, 0, none⟩) 9 nineL := by
  refine ⟨rfl, by omega, by decide, Or.inr ⟨w.heap.size, 0, rfl, fun i hi => ?_⟩⟩
  unfold nine
  rw [World.cell?_alloc_mark, Nat.zero_add]
  match i, hi with
  | 0, _ => rfl
  | 1, _ => rfl
  | 2, _ => rfl
  | 3, _ => rfl
  | 4, _ => rfl
  | 5, _ => rfl
  | 6, _ => rfl
  | 7, _ => rfl
  | 8, _ => rfl
  | n + 9, h => omega

theorem nil_row (w : World) : Row w none 0 [] := ⟨rfl, by omega, by simp, Or.inl rfl⟩

theorem nine_sum : moreS 0 nineL = 3808858755 := by decide +kernel
theorem nil_sum : moreS 0 [] = 0 := by decide +kernel

set_option maxHeartbeats 400000 in
theorem awake_any (w : World) :
    Calls Try.prog 11 #[] w fun e w' => e = .returned (.bool true) ∧ Below w.heap.size w w' := by
  have O9 := hide (fun w1 (h : Row w1 (some ⟨w.heap.size, 0, none⟩) 9 nineL) => of_any (some ⟨w.heap.size, 0, none⟩) 9 9 nineL w1 h)
  have O0 := hide (fun w1 => of_any none 0 0 [] w1 (nil_row w1))
  rw [nine_sum] at O9
  rw [nil_sum] at O0
  have hcv := Lib.run_convert_bytes_const (P := Try.prog) w 22 5 #[.int .u8 49, .int .u8 50, .int .u8 51, .int .u8 52, .int .u8 53, .int .u8 54, .int .u8 55, .int .u8 56, .int .u8 57] 9 9 Try.underlying22 Try.underlying5
  go_enter Try.func11, Try.ntmps11
  go_wp2_with fail
  refine (O9.out _ (nine_row w)).mono ?_
  rintro e w1 ⟨rfl, rfl⟩
  go_wp2_with fail
  refine (O0.out _).mono ?_
  rintro e w1 ⟨rfl, rfl⟩
  go_wp2
  go_ret
  exact ⟨rfl, (((Below.refl _ _).alloc (Nat.le_refl _) _).alloc (by simp) _).alloc (by simp; omega) _⟩

theorem Try.info5 : (Try.prog.info? 5).map (fun i => (i.zero, i.size, i.bytes)) = some (some (.int .u8 0), 1, 1) := by kernel_rfl

/-- A slice of bytes that lies in memory of the call's own (from block 'base' on). -/
def Own (w : World) (base : Nat) (a : Option Addr) (n cap : Nat) (zs : List Int) : Prop :=
  w.ownsRow base 5 1 (.slice a n cap) n (zs.map (Value.int .u8))

theorem own_form {w : World} {base n : Nat} {v : Value} {zs : List Int} (h : w.ownsRow base 5 1 v n (zs.map (Value.int .u8))) : ∃ a cap, v = .slice a n cap ∧ Own w base a n cap zs := by
  have h0 := h
  rcases h.2 with ⟨rfl, rfl⟩ | ⟨g, cap, cur, rfl, _⟩
  · exact ⟨none, 0, rfl, h0⟩
  · exact ⟨_, _, rfl, h0⟩

theorem Own.row {w : World} {base n cap : Nat} {a : Option Addr} {zs : List Int} (h : Own w base a n cap zs) (hn : n ≤ 140737488351232) (hz : ∀ z ∈ zs, 0 ≤ z ∧ z ≤ 255) : Row w a n zs := by
  unfold Own at h
  have hl : zs.length = n := by simpa using h.1
  refine ⟨hl, hn, hz, ?_⟩
  rcases h.2 with ⟨h1, h2⟩ | ⟨g, c, cur, h1, _⟩
  · exact Or.inl h2
  · right
    simp only [Value.slice.injEq, true_and] at h1
    obtain ⟨rfl, rfl⟩ := h1
    refine ⟨g, 0, rfl, fun i hi => ?_⟩
    rw [Nat.zero_add, h.cellAt i (by omega), List.getElem?_map, List.getElem?_eq_getElem (by omega), List.getD_eq_getElem?_getD, List.getElem?_eq_getElem (by omega)]
    rfl

theorem getD_map (zs : List Int) (j : Nat) (u : Value) (h : (zs.map (Value.int .u8))[j]? = some u) : j < zs.length ∧ u = .int .u8 (zs.getD j 0) := by
  rw [List.getElem?_map] at h
  by_cases hj : j < zs.length
  · rw [List.getElem?_eq_getElem hj] at h
    refine ⟨hj, ?_⟩
    rw [List.getD_eq_getElem?_getD, List.getElem?_eq_getElem hj]
    simpa using h.symm
  · rw [List.getElem?_eq_none (by omega)] at h
    simp at h

theorem one_cell (zs : List Int) : ∀ u ∈ zs.map (Value.int .u8), u.oneCell' = true := by
  intro u hu
  obtain ⟨z, _, rfl⟩ := List.mem_map.1 hu
  rfl

set_option maxHeartbeats 400000 in
theorem bytes_any (a : Option Addr) (n cap : Nat) (zs : List Int) (w : World) (hr : Row w a n zs) (hc : a = none → cap = 0) :
    Calls Try.prog 8 #[.slice a n cap] w fun e w' => ∃ a' cap', e = .returned (.slice a' n cap') ∧ Own w' w.heap.size a' n cap' zs ∧ Below w.heap.size w w' := by
  obtain ⟨i0, hi, hz0, hz1, hz2⟩ := info_parts Try.info5
  have hn := hr.2.1
  have hl := hr.1
  have HF : Hid (∀ (v' : Value) (w' : World), w'.ownsRow w.heap.size 5 1 v' n (zs.map (Value.int .u8)) → w.grownBy w' (Value.slice none 0 0).ownBlock →
      (∃ a' cap', v' = .slice a' n cap' ∧ Own w' w.heap.size a' n cap' zs ∧ Below w.heap.size w w')) := by
    intro v' w' h1 h2
    obtain ⟨a', cap', rfl, ho⟩ := own_form h1
    exact ⟨a', cap', rfl, ho, (Below.refl _ _).grown h2 (Nat.le_refl _) (fun k hk => by simp [Value.ownBlock] at hk)⟩
  cases a with
  | none =>
    obtain rfl := hc rfl
    obtain ⟨h1, _, _, rfl | ⟨_, _, h, _⟩⟩ := hr
    · have hz : zs = [] := List.length_eq_zero_iff.1 h1
      subst hz
      clear HF
      go_enter Try.func8, Try.ntmps8
      go_wp2_with (at_builtin; refine wpList_append_own_none rfl _ _ 22 rfl w.heap.size 5 i0 1 Try.underlying22 hi _ 0 [] rfl (World.ownsRow_nil _ _ _ _) rfl ?_)
      go_ret
      exact ⟨none, 0, rfl, World.ownsRow_nil _ _ _ _, Below.refl _ _⟩
    · simp at h
  | some ad =>
    have HN : Hid (∀ j u, (zs.map (Value.int .u8))[j]? = some u → w.cell? (ad.add j) = some u) := by
      intro j u hj
      obtain ⟨h1, rfl⟩ := getD_map zs j u hj
      obtain ⟨_, _, _, h0 | ⟨b, off, he, hcell⟩⟩ := hr
      · omega
      · simp only [Option.some.injEq] at he
        subst he
        rw [Addr.add_lit]
        exact hcell j (by omega)
    clear hr
    go_enter Try.func8, Try.ntmps8
    go_wp2_with (at_builtin; refine wpList_append_own _ rfl _ _ 22 rfl w.heap.size 5 i0 (.int .u8 0) 1 1 Try.underlying22 hi hz0 hz1 hz2 rfl (by decide) _ 0 [] rfl (World.ownsRow_nil _ _ _ _) ad n cap (zs.map (Value.int .u8)) rfl (by simp [hl]) HN.out (one_cell zs) (by unfold maxLen; omega) (by omega) (Nat.le_refl _) ?_)
    intro v' w' h1 h2 _
    obtain ⟨a', cap', rfl, h3, h4⟩ := HF.out v' w' h1 h2
    clear h1 h2 HF HN
    go_wp2
    go_ret
    exact ⟨a', cap', rfl, h3, h4⟩

/-- 'string(b)' of a slice that shows its bytes. -/
theorem row_string {w : World} {a : Option Addr} {n cap : Nat} {zs : List Int} (hr : Row w a n zs) :
    (convert 22 9 (.slice a n cap)).run Try.prog w = .ok (.string (strOfNums zs)) w := by
  obtain ⟨h1, _, _, rfl | ⟨b, off, rfl, hc⟩⟩ := hr
  · have hz : zs = [] := List.length_eq_zero_iff.1 h1
    subst hz
    rw [run_convert_bytes_string w _ _ 5 _ 0 cap Try.underlying22 Try.underlying5 Try.underlying9]
    cases a <;> simp [Conv.bytesToString, loadCells] <;> rfl
  · exact run_convert_bytes_arg w _ _ Try.underlying22 Try.underlying5 b off n cap zs h1 hc _ Try.underlying9

theorem slice_to (a : Option Addr) (n cap k : Nat) (hk : k ≤ cap) (w : World) :
    (Instr.slice 22 (.slice a n cap) none (some (.int .i64 (k : Int))) none).run Try.prog w = .ok (.slice a k cap) w := by
  rw [run_slice_h (P := Try.prog) w 22 a n cap Try.underlying22 .i64 (k : Int) (by omega) (by omega)]
  have hs : (sizeOf (Try.prog.elem 22)).run Try.prog w = .ok 1 w := by kernel_rfl
  rw [hs]
  simp only [Result.andThen, sliced, Int.toNat_natCast, Nat.zero_mul, Nat.sub_zero]
  cases a with
  | none => simp
  | some x => simp [Addr.add]

theorem slice_from (a : Option Addr) (n cap k : Nat) (hk : k ≤ n) (w : World) :
    (Instr.slice 22 (.slice a n cap) (some (.int .i64 (k : Int))) none none).run Try.prog w = .ok (.slice (if cap = k then a else a.map (·.add k)) (n - k) (cap - k)) w := by
  rw [run_slice_l (P := Try.prog) w 22 a n cap Try.underlying22 .i64 (k : Int) (by omega) (by omega)]
  have hs : (sizeOf (Try.prog.elem 22)).run Try.prog w = .ok 1 w := by kernel_rfl
  rw [hs]
  simp only [Result.andThen, sliced, Int.toNat_natCast, Nat.mul_one]

theorem Row.to {w : World} {a : Option Addr} {n : Nat} {zs : List Int} (h : Row w a n zs) (k : Nat) (hk : k ≤ n) : Row w a k (zs.take k) := by
  obtain ⟨h1, h2, h3, h4⟩ := h
  refine ⟨by rw [List.length_take]; omega, by omega, fun z hz => h3 z (List.mem_of_mem_take hz), ?_⟩
  rcases h4 with h4 | ⟨b, off, rfl, hc⟩
  · exact Or.inl (by omega)
  · refine Or.inr ⟨b, off, rfl, fun i hi => ?_⟩
    rw [hc i (by omega)]
    simp [hi]

theorem Row.from {w : World} {a : Option Addr} {n cap : Nat} {zs : List Int} (h : Row w a n zs) (k : Nat) (hk : k ≤ n) (hc : n ≤ cap) : Row w (if cap = k then a else a.map (·.add k)) (n - k) (zs.drop k) := by
  obtain ⟨h1, h2, h3, h4⟩ := h
  refine ⟨by rw [List.length_drop]; omega, by omega, fun z hz => h3 z (List.mem_of_mem_drop hz), ?_⟩
  by_cases e : k = n
  · exact Or.inl (by omega)
  rcases h4 with h4 | ⟨b, off, rfl, hcell⟩
  · exact Or.inl (by omega)
  · refine Or.inr ⟨b, off + k, ?_, fun i hi => ?_⟩
    · rw [if_neg (by omega)]
      simp [Addr.add_lit]
    · rw [Nat.add_assoc, hcell (k + i) (by omega)]
      simp
end Go.Proofs.Ytmblpoepmabmmaa
