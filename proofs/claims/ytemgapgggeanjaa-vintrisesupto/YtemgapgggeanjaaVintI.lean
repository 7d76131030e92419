/-
  What vint.PutInt and vint.GetInt come to: contracts, for every world; numbers with signs as numbers without.
  Conditions: each number fits its kind; the slice shows its bytes; where bytes are put, there is room for them.
-/
import Derived.Test.YtemgapgggeanjaaVintB
import Derived.Test.YtemgapgggeanjaaVintL
namespace Go.Proofs.Ytemgapgggeanjaa
open Go.RowKit

/-- A number with a sign as one without. -/
def zig (v : Int) : Int := if v < 0 then -2 * v - 1 else 2 * v
/-- And back. -/
def zag (v : Int) : Int := if v % 2 = 1 then -(v / 2) - 1 else v / 2
theorem zig_word {v : Int} (h0 : -9223372036854775808 ≤ v) (h1 : v ≤ 9223372036854775807) : W64 (zig v) := by
  unfold zig W64
  split <;> constructor <;> omega
theorem zag_zig (v : Int) : zag (zig v) = v := by
  unfold zag zig
  repeat' split
  all_goals omega
theorem zig_zag {v : Int} (h : 0 ≤ v) : zig (zag v) = v := by
  unfold zag zig
  repeat' split
  all_goals omega
theorem zag_int {v : Int} (h : W64 v) : -9223372036854775808 ≤ zag v ∧ zag v ≤ 9223372036854775807 := by
  unfold W64 at h
  unfold zag
  split <;> constructor <;> omega

set_option maxHeartbeats 400000 in
theorem putint_any (v : Int) (a : Option Addr) (n cap : Nat) (zs : List Int) (w : World) (hv : (Lit.int .i64 v).wf = true) (hn : n ≤ 211106232532980) (hc : n ≤ cap) (hr : Row .u8 w a n zs) :
    Calls Try.prog 15 #[.slice a n cap, .int .i64 v] w fun e w' => ∃ a' cap', e = .returned (.slice a' (n + (putS (zig v)).length) cap') ∧ Mine w' w.heap.size a' (n + (putS (zig v)).length) cap' (zs ++ putS (zig v)) ∧ Below w.heap.size w w' := by
  obtain ⟨v0, v1⟩ := i64_of_wf hv
  have B := hide (put_any (zig v) a n cap zs w (zig_word v0 v1) hn hc hr)
  clear hr hn hv
  by_cases h : v < 0
  · have e1 : zig v = (-v - 1) * 2 + 1 := by unfold zig; rw [if_pos h]; omega
    have hor := or1_u64 (y := -v - 1) (by omega) (by omega)
    have hx := not_i64 v0 v1
    rw [← e1] at hor
    clear e1
    have y0 : 0 ≤ -v - 1 := by omega
    have y1 : -v - 1 ≤ 9223372036854775807 := by omega
    generalize zig v = z at *
    generalize -v - 1 = y at *
    have hw1 : IntKind.u64.wrap y = y := by rw [IntKind.wrap_u64]; omega
    have hw2 : IntKind.u64.wrap (y * 2) = y * 2 := by rw [IntKind.wrap_u64]; omega
    go_enter Try.func15, Try.ntmps15
    go_wp2_with fail
    refine B.out.mono ?_
    rintro e w' ⟨a', cap', rfl, h1, h2⟩
    have H1 := hide h1
    clear h1
    go_wp2
    go_ret
    exact ⟨a', cap', rfl, H1, h2⟩
  · have e1 : zig v = v * 2 := by unfold zig; rw [if_neg h]; omega
    rw [e1] at B ⊢
    clear e1
    have hw1 : IntKind.u64.wrap v = v := by rw [IntKind.wrap_u64]; omega
    have hw2 : IntKind.u64.wrap (v * 2) = v * 2 := by rw [IntKind.wrap_u64]; omega
    go_enter Try.func15, Try.ntmps15
    go_wp2_with fail
    refine B.out.mono ?_
    rintro e w' ⟨a', cap', rfl, h1, h2⟩
    have H1 := hide h1
    clear h1
    go_wp2
    go_ret
    exact ⟨a', cap', rfl, H1, h2⟩

/-- What GetInt answers. -/
def gotI (r : Option (Int × Int)) : Ending :=
  match r with
  | none => .returned (.tuple #[.int .i64 0, .int .i64 0, .bool false])
  | some p => .returned (.tuple #[.int .i64 (zag p.1), .int .i64 p.2, .bool true])

theorem getint_any (at' : Int) (a : Option Addr) (n cap : Nat) (zs : List Int) (w : World) (ha : (Lit.int .i64 at').wf = true) (hc : n ≤ cap) (hr : Row .u8 w a n zs) :
    Calls Try.prog 16 #[.slice a n cap, .int .i64 at'] w fun e w' => e = gotI (getS zs at') ∧ w' = w := by
  have G := hide (get_any at' a n cap zs w ha hc hr)
  have HZ := hide hr.bytes
  clear hr
  cases hg : getS zs at' with
  | none =>
    rw [hg] at G
    simp only [gotE] at G
    simp only [gotI]
    clear hg
    have h1 := and1_u64 (a := 0) ⟨by decide, by decide⟩
    go_enter Try.func16, Try.ntmps16
    go_wp2_with fail
    refine G.out.mono ?_
    rintro e w' ⟨rfl, rfl⟩
    go_wp2
    go_ret3
    exact ⟨rfl, rfl⟩
  | some p =>
    obtain ⟨v, nx⟩ := p
    have hw := (getS_some HZ.out hg).1
    rw [hg] at G
    simp only [gotE] at G
    simp only [gotI]
    clear hg
    have h1 := and1_u64 hw
    have w0 := hw.1
    have w1 := hw.2
    clear hw
    by_cases ho : v % 2 = 1
    · have e1 : zag v = -(v / 2) - 1 := by unfold zag; rw [if_pos ho]
      have hx := not_i64 (v := v / 2) (by omega) (by omega)
      rw [← e1] at hx
      clear e1
      generalize zag v = z at *
      go_enter Try.func16, Try.ntmps16
      go_wp2_with fail
      refine G.out.mono ?_
      rintro e w' ⟨rfl, rfl⟩
      go_wp2
      go_ret3
      exact ⟨rfl, rfl⟩
    · have e1 : zag v = v / 2 := by unfold zag; rw [if_neg ho]
      rw [e1]
      have ho0 : v % 2 = 0 := by omega
      clear ho e1
      go_enter Try.func16, Try.ntmps16
      go_wp2_with fail
      refine G.out.mono ?_
      rintro e w' ⟨rfl, rfl⟩
      go_wp2
      go_ret3
      exact ⟨rfl, rfl⟩
end Go.Proofs.Ytemgapgggeanjaa
