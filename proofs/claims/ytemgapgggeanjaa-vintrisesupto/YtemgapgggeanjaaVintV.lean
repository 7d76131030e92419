/-
  What Get, GetInt, GetText and GetRise answer, each with letters for the answer (so that a walk need not part): contracts, for every world.
  Conditions: each number fits its kind; the slice shows its bytes; where a list is made, there is room for it.
-/
import Derived.Test.YtemgapgggeanjaaVintD
import Derived.Test.YtemgapgggeanjaaVintI
namespace Go.Proofs.Ytemgapgggeanjaa
open Go.RowKit

theorem get_var (at' : Int) (a : Option Addr) (n cap : Nat) (zs : List Int) (w : World) (ha : (Lit.int .i64 at').wf = true) (hc : n ≤ cap) (hr : Row .u8 w a n zs) :
    Calls Try.prog 11 #[.slice a n cap, .int .i64 at'] w fun e w' => ∃ v x ok, e = .returned (.tuple #[.int .u64 v, .int .i64 x, .bool ok]) ∧ w' = w ∧
      ((ok = true ∧ getS zs at' = some (v, x)) ∨ (ok = false ∧ getS zs at' = none)) := by
  refine (get_any at' a n cap zs w ha hc hr).mono ?_
  rintro e w' ⟨rfl, rfl⟩
  cases h : getS zs at' with
  | none => exact ⟨_, _, _, rfl, rfl, Or.inr ⟨rfl, rfl⟩⟩
  | some p => exact ⟨_, _, _, rfl, rfl, Or.inl ⟨rfl, rfl⟩⟩

theorem getint_var (at' : Int) (a : Option Addr) (n cap : Nat) (zs : List Int) (w : World) (ha : (Lit.int .i64 at').wf = true) (hc : n ≤ cap) (hr : Row .u8 w a n zs) :
    Calls Try.prog 16 #[.slice a n cap, .int .i64 at'] w fun e w' => ∃ v x ok, e = .returned (.tuple #[.int .i64 v, .int .i64 x, .bool ok]) ∧ w' = w ∧
      ((ok = true ∧ ∃ u, v = zag u ∧ getS zs at' = some (u, x)) ∨ (ok = false ∧ getS zs at' = none)) := by
  refine (getint_any at' a n cap zs w ha hc hr).mono ?_
  rintro e w' ⟨rfl, rfl⟩
  cases h : getS zs at' with
  | none => exact ⟨_, _, _, rfl, rfl, Or.inr ⟨rfl, rfl⟩⟩
  | some p => exact ⟨_, _, _, rfl, rfl, Or.inl ⟨rfl, _, rfl, rfl⟩⟩

theorem gettext_var (at' most : Int) (a : Option Addr) (n cap : Nat) (zs : List Int) (w : World) (ha : (Lit.int .i64 at').wf = true) (hm : (Lit.int .i64 most).wf = true) (hc : n ≤ cap) (hr : Row .u8 w a n zs) :
    Calls Try.prog 20 #[.slice a n cap, .int .i64 at', .int .i64 most] w fun e w' => ∃ s x ok, e = .returned (.tuple #[.string s, .int .i64 x, .bool ok]) ∧ w' = w ∧
      ((ok = true ∧ ∃ t, s = strOfNums t ∧ textS zs at' most = some (t, x)) ∨ (ok = false ∧ textS zs at' most = none)) := by
  refine (gettext_any at' most a n cap zs w ha hm hc hr).mono ?_
  rintro e w' ⟨rfl, rfl⟩
  cases h : textS zs at' most with
  | none => exact ⟨_, _, _, rfl, rfl, Or.inr ⟨rfl, rfl⟩⟩
  | some p => exact ⟨_, _, _, rfl, rfl, Or.inl ⟨rfl, _, rfl, rfl⟩⟩

theorem getrise_var (at' most : Int) (a : Option Addr) (n cap : Nat) (zs : List Int) (w : World) (ha : (Lit.int .i64 at').wf = true) (hm : (Lit.int .i64 most).wf = true) (hc : n ≤ cap) (hr : Row .u8 w a n zs)
    (h8 : most ≤ 35184372088832 ∨ n ≤ 35184372088832) :
    Calls Try.prog 26 #[.slice a n cap, .int .i64 at', .int .i64 most] w fun e w' => ∃ a' m' cap' x ok, e = .returned (.tuple #[.slice a' m' cap', .int .i64 x, .bool ok]) ∧ Below w.heap.size w w' ∧
      ((ok = true ∧ ∃ l, m' = l.length ∧ riseS zs at' most = some (l, x) ∧ MineL w' w.heap.size a' m' cap' l) ∨ (ok = false ∧ m' = 0 ∧ x = 0 ∧ riseS zs at' most = none)) := by
  refine (getrise_any at' most a n cap zs w ha hm hc hr h8).mono ?_
  rintro e w' ⟨h1, h2⟩
  cases h : riseS zs at' most with
  | none =>
    rw [h] at h1
    exact ⟨_, _, _, _, _, h1, h2, Or.inr ⟨rfl, rfl, rfl, rfl⟩⟩
  | some p =>
    rw [h] at h1
    obtain ⟨a', cap', h3, h4⟩ := h1
    exact ⟨_, _, _, _, _, h3, h2, Or.inl ⟨rfl, p.1, rfl, rfl, h4⟩⟩

/-- Put, PutInt, PutText, PutRise behind nil, and what is put as a text. -/
theorem put_str (v : Int) (w : World) (hv : W64 v) :
    Calls Try.prog 9 #[.slice none 0 0, .int .u64 v] w fun e w' => ∃ a' cap', e = .returned (.slice a' (putS v).length cap') ∧
      (convert 23 9 (.slice a' (putS v).length cap')).run Try.prog w' = .ok (.string (strOfNums (putS v))) w' ∧ Below w.heap.size w w' := by
  refine (put_any v none 0 0 [] w hv (by omega) (by omega) (nil_row .u8 w none)).mono ?_
  rintro e w' ⟨a', cap', rfl, h1, h2⟩
  rw [Nat.zero_add, List.nil_append] at h1
  have := (putS_len v).2
  rw [Nat.zero_add]
  exact ⟨a', cap', rfl, row_string (h1.row (by omega) (fun z hz => wf_of_u8 (putS_byte hv z hz).1 (putS_byte hv z hz).2)), h2⟩

theorem putint_str (v : Int) (w : World) (hv : (Lit.int .i64 v).wf = true) :
    Calls Try.prog 15 #[.slice none 0 0, .int .i64 v] w fun e w' => ∃ a' cap', e = .returned (.slice a' (putS (zig v)).length cap') ∧
      (convert 23 9 (.slice a' (putS (zig v)).length cap')).run Try.prog w' = .ok (.string (strOfNums (putS (zig v)))) w' ∧ Below w.heap.size w w' := by
  obtain ⟨v0, v1⟩ := i64_of_wf hv
  have hz := putS_byte (zig_word v0 v1)
  refine (putint_any v none 0 0 [] w hv (by omega) (by omega) (nil_row .u8 w none)).mono ?_
  rintro e w' ⟨a', cap', rfl, h1, h2⟩
  rw [Nat.zero_add, List.nil_append] at h1
  have := (putS_len (zig v)).2
  rw [Nat.zero_add]
  exact ⟨a', cap', rfl, row_string (h1.row (by omega) (fun z h => wf_of_u8 (hz z h).1 (hz z h).2)), h2⟩

theorem puttext_str (t : List Int) (w : World) (hl : t.length ≤ 140737488355318) (ht : Bytes8 t) :
    Calls Try.prog 19 #[.slice none 0 0, .string (strOfNums t)] w fun e w' => ∃ a' cap', e = .returned (.slice a' (putT t).length cap') ∧
      (convert 23 9 (.slice a' (putT t).length cap')).run Try.prog w' = .ok (.string (strOfNums (putT t))) w' ∧ Below w.heap.size w w' := by
  have hwf : ∀ z ∈ t, (Lit.int .u8 z).wf = true := fun z h => wf_of_u8 (ht z h).1 (ht z h).2
  have hn := nums_strOf hwf
  have hz : Bytes8 (putT t) := Bytes8.append (putS_byte (w64_len (by omega))) ht
  have hlen : (putT t).length ≤ t.length + 10 := by
    have := (putS_len (t.length : Int)).2
    unfold putT
    rw [List.length_append]; omega
  have h := puttext_any (strOfNums t) none 0 0 [] w (by rw [strOfNums_size]; omega) (by omega) (nil_row .u8 w none)
  rw [hn] at h
  refine h.mono ?_
  rintro e w' ⟨a', cap', rfl, h1, h2⟩
  rw [Nat.zero_add, List.nil_append] at h1
  rw [Nat.zero_add]
  exact ⟨a', cap', rfl, row_string (h1.row (by omega) (fun z h => wf_of_u8 (hz z h).1 (hz z h).2)), h2⟩

theorem putrise_str (b : Option Addr) (m capb : Nat) (ls : List Int) (w : World) (hm : 10 * m ≤ 211106232532960) (hl : Row .u64 w b m ls) :
    Calls Try.prog 23 #[.slice none 0 0, .slice b m capb] w fun e w' => ∃ a' cap', e = .returned (.slice a' (putR ls).length cap') ∧
      (convert 23 9 (.slice a' (putR ls).length cap')).run Try.prog w' = .ok (.string (strOfNums (putR ls))) w' ∧ Below w.heap.size w w' := by
  have hll := hl.1
  have hz : Bytes8 (putR ls) := putR_byte (by omega)
  have hlen : (putR ls).length ≤ 10 * m + 10 := by
    have h1 := (putS_len (ls.length : Int)).2
    have h2 := (riseB_len 18446744073709551615 ls).2
    unfold putR
    rw [List.length_append]; omega
  refine (putrise_any none 0 0 [] b m capb ls w (by omega) (by omega) (nil_row .u8 w none) hl).mono ?_
  rintro e w' ⟨a', cap', rfl, h1, h2⟩
  rw [Nat.zero_add, List.nil_append] at h1
  rw [Nat.zero_add]
  exact ⟨a', cap', rfl, row_string (h1.row (by omega) (fun z h => wf_of_u8 (hz z h).1 (hz z h).2)), h2⟩
end Go.Proofs.Ytemgapgggeanjaa
