/-
  The document's Check of a matcher: a contract, for every world.
  Conditions: the matcher lies in memory.
-/
import Derived.Test.YthebcmkainplnaaMatLd
namespace Go.Proofs.Ythebcmkainplnaa
open Go.RowKit
set_option maxRecDepth 20000

theorem lookP_bad {m : Mt} {g : Nat} {w w' : World} {e : Ending} (h : LookP (lookF m 1 0 0) g w w' e) : e = .returned (.tuple #[]) ∧ Ch (fun k => k = g) w w' ∧ ∃ n b : Int, SZ w' g n b (!chkM m) := by
  obtain ⟨h1, h2, h3⟩ := h
  refine ⟨h1, h2, ?_⟩
  unfold chkM
  cases hf : lookF m 1 0 0 with
  | none => rw [hf] at h3; exact h3
  | some r => rw [hf] at h3; exact ⟨_, _, h3⟩
set_option maxHeartbeats 1000000 in
theorem refchkM_any (S : Nat → Prop) (m : Mt) (h : Hm) (w : World) (q : SeeM S w m h) :
    Calls Try.prog 13 #[.agg #[.int .i64 h.op, .string h.nm, .string h.vl, .slice h.va h.vn h.vc, .slice h.ka h.kn h.kc]] w fun e w' => e = .returned (.bool (chkM m)) ∧ Below w.heap.size w w' := by
  have BA := hide ((Below.refl w.heap.size w).alloc (Nat.le_refl _) (.cells #[.int .i64 h.op, .string h.nm, .string h.vl, .slice h.va h.vn h.vc, .slice h.ka h.kn h.kc] 25))
  have T := hide (fun (W : World) (b : Below w.heap.size w W) => look_any m (fun k => k < w.heap.size) h 1 0 0 W.heap.size (W.alloc (.cells #[.int .i64 0, .int .i64 0, .bool false] 60)) (((q.mono (fun k hk _ => hk)).below b).alloc _) (fun k hk => by have := b.size; omega) (heap_alloc_new W _) (by omega) (by omega) (by omega))
  have T1 := hide (T.out _ BA.out)
  have SZ0 : Hid ((w.alloc (.cells #[.int .i64 h.op, .string h.nm, .string h.vl, .slice h.va h.vn h.vc, .slice h.ka h.kn h.kc] 25)).heap.size = w.heap.size + 1) := by show _ = _; simp
  rw [SZ0.out, show ((1 : Nat) : Int) = 1 from rfl] at T1
  clear T q
  go_enter Try.func13, Try.ntmps13
  go_wp2_with fail
  with_reducible refine T1.out.mono ?_
  intro e w2 p
  obtain ⟨rfl, c, n, b, s⟩ := lookP_bad p
  have B2 : Hid (Below w.heap.size w w2) := by
    have b := BA.out.alloc (by simp) (.cells #[.int .i64 0, .int .i64 0, .bool false] 60)
    exact b.trans (c.below (by simp; omega) (fun k hk e => by omega))
  obtain ⟨_, _, d2, _⟩ := s.cell
  clear c p s T1
  cases hc : chkM m with
  | true =>
    rw [hc] at d2
    go_wp2
    go_ret
    exact ⟨by rw [hc]; rfl, B2.out⟩
  | false =>
    rw [hc] at d2
    go_wp2
    go_ret
    exact ⟨by rw [hc]; rfl, B2.out⟩
end Go.Proofs.Ythebcmkainplnaa
