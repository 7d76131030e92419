/-
  The document's own answers on numbers with signs: a number's bytes, and a number got by the reader: contracts, for every world.
  Conditions: the number is one of 64 bits with a sign; the reader's bytes lie in memory older than itself.
-/
import Derived.Test.YtemgapgggeanjaaVintY
namespace Go.Proofs.Ytemgapgggeanjaa
open Go.RowKit

set_option maxHeartbeats 400000 in
theorem refint_str (v : Int) (w : World) (hv : (Lit.int .i64 v).wf = true) :
    Calls Try.prog 17 #[.int .i64 v] w fun e w' => ∃ a' cap', e = .returned (.slice a' (putS (zig v)).length cap') ∧
      (convert 23 9 (.slice a' (putS (zig v)).length cap')).run Try.prog w' = .ok (.string (strOfNums (putS (zig v)))) w' ∧ Below w.heap.size w w' := by
  obtain ⟨v0, v1⟩ := i64_of_wf hv
  have B : Hid (∀ u, u = zig v → Calls Try.prog 10 #[.int .u64 u] w fun e w' => ∃ a' cap', e = .returned (.slice a' (putS (zig v)).length cap') ∧
      (convert 23 9 (.slice a' (putS (zig v)).length cap')).run Try.prog w' = .ok (.string (strOfNums (putS (zig v)))) w' ∧ Below w.heap.size w w') := by
    rintro u rfl
    exact refput_str (zig v) w (zig_word v0 v1)
  have E1 : Hid (zig v = if v < 0 then -2 * v - 1 else 2 * v) := rfl
  clear hv
  generalize zig v = Z at *
  generalize (putS Z).length = L at *
  generalize strOfNums (putS Z) = S at *
  by_cases h : v < 0
  · go_enter Try.func17, Try.ntmps17
    go_wp2_with fail
    refine (B.out _ (by rw [E1.out, if_pos (by omega)]; omega)).mono ?_
    rintro e w' ⟨a', cap', rfl, h1, h2⟩
    have H1 := hide h1
    clear h1
    go_wp2
    go_ret
    exact ⟨a', cap', rfl, H1, h2⟩
  · go_enter Try.func17, Try.ntmps17
    go_wp2_with fail
    refine (B.out _ (by rw [E1.out, if_neg (by omega)]; omega)).mono ?_
    rintro e w' ⟨a', cap', rfl, h1, h2⟩
    have H1 := hide h1
    clear h1
    go_wp2
    go_ret
    exact ⟨a', cap', rfl, H1, h2⟩

/-- What the reader's Int leaves. -/
def IntP (g : Nat) (a : Option Addr) (n cap : Nat) (r : Option (Int × Int)) (w w' : World) (e : Ending) : Prop :=
  Only g w w' ∧ match r with
  | none => e = .returned (.int .i64 0) ∧ ∃ p', RB w' g a n cap p' true
  | some q => e = .returned (.int .i64 (zag q.1)) ∧ RB w' g a n cap q.2 false

set_option maxHeartbeats 400000 in
theorem rint_any (p : Int) (g : Nat) (a : Option Addr) (n cap : Nat) (zs : List Int) (w0 w : World) (hp : (Lit.int .i64 p).wf = true) (hr : Row .u8 w0 a n zs) (hg : w0.heap.size ≤ g) (hb : Below w0.heap.size w0 w) (hrb : RB w g a n cap p false) :
    Calls Try.prog 18 #[.pointer (some ⟨g, 0, none⟩)] w fun e w' => IntP g a n cap (getS zs p) w w' e := by
  have N := hide (num_any p g a n cap zs w0 w hp hr hg hb hrb)
  have HZ := hide hr.bytes
  clear hp hr hg hb hrb
  cases h : getS zs p with
  | none =>
    rw [h] at N
    simp only [NumP] at N
    simp only [IntP]
    clear h
    go_enter Try.func18, Try.ntmps18
    go_wp2_with fail
    refine N.out.mono ?_
    rintro e w' ⟨k, rfl, p', hrb⟩
    have HK := hide (And.intro k hrb)
    clear k hrb N
    go_wp2
    go_ret
    exact ⟨HK.out.1, rfl, p', HK.out.2⟩
  | some q =>
    obtain ⟨u, nx⟩ := q
    have hw := (getS_some HZ.out h).1
    rw [h] at N
    simp only [NumP] at N
    simp only [IntP]
    clear h
    have w0' := hw.1
    have w1' := hw.2
    clear hw
    by_cases ho : u % 2 = 1
    · have e1 : zag u = -(u / 2) - 1 := by unfold zag; rw [if_pos ho]
      rw [e1]
      clear e1
      go_enter Try.func18, Try.ntmps18
      go_wp2_with fail
      refine N.out.mono ?_
      rintro e w' ⟨k, rfl, hrb⟩
      have HK := hide (And.intro k hrb)
      clear k hrb N
      go_wp2
      go_ret
      exact ⟨HK.out.1, rfl, HK.out.2⟩
    · have e1 : zag u = u / 2 := by unfold zag; rw [if_neg ho]
      rw [e1]
      have ho0 : u % 2 = 0 := by omega
      clear e1 ho
      go_enter Try.func18, Try.ntmps18
      go_wp2_with fail
      refine N.out.mono ?_
      rintro e w' ⟨k, rfl, hrb⟩
      have HK := hide (And.intro k hrb)
      clear k hrb N
      go_wp2
      go_ret
      exact ⟨HK.out.1, rfl, HK.out.2⟩
end Go.Proofs.Ytemgapgggeanjaa
