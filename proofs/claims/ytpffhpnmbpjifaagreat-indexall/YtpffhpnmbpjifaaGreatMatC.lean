/-
  The laws' own Matcher: a small matcher, copied: a contract, for every world.
  Conditions: the matcher is small.
-/
import Derived.Test.YtpffhpnmbpjifaaGreatMatX
namespace Go.Proofs.YtpffhpnmbpjifaaGreat
open Go.RowKit
set_option maxRecDepth 20000

set_option maxHeartbeats 2000000 in
theorem copyM_any (S : Nat → Prop) (m : Mt) (h : Hm) (w : World) (q : SeeM S w m h) (ht : tinyM m = true) :
    Calls Tryz.prog 9 #[.agg #[.int .i64 h.op, .string h.nm, .string h.vl, .slice h.va h.vn h.vc, .slice h.ka h.kn h.kc]] w fun e w' => CopyP m w w' e := by
  obtain ⟨op, nm, vl, va, vn, vc, ka, kn, kc⟩ := h
  dsimp only
  obtain ⟨n', hn'⟩ : ∃ n', tinyF m 0 0 = some n' := Option.isSome_iff_exists.1 ht
  obtain ⟨W0, hW⟩ : ∃ W0, Hid ((w.alloc (.cells #[.int .i64 op, .string nm, .string vl, .slice va vn vc, .slice ka kn kc] 26)).alloc (.cells #[.int .i64 0, .string ⟨#[]⟩, .string ⟨#[]⟩, .slice none 0 0, .slice none 0 0] 26) = W0) := ⟨_, rfl⟩
  have SZ0 : Hid (W0.heap.size = w.heap.size + 2) := by rw [← hW.out]; show _ = _; simp
  have B : Hid (BoxM W0 w.heap.size ⟨op, nm, vl, va, vn, vc, ka, kn, kc⟩) := by
    rw [← hW.out]
    exact (boxM_new w ⟨op, nm, vl, va, vn, vc, ka, kn, kc⟩).block (Below.heap_alloc _ _ _ (by simp))
  have A : Hid (BoxM W0 (w.heap.size + 1) hm0) := by
    rw [← hW.out]
    have := boxM_new (w.alloc (.cells #[.int .i64 op, .string nm, .string vl, .slice va vn vc, .slice ka kn kc] 26)) hm0
    rwa [show (w.alloc (.cells #[.int .i64 op, .string nm, .string vl, .slice va vn vc, .slice ka kn kc] 26)).heap.size = w.heap.size + 1 by simp] at this
  have L : Hid (Below w.heap.size w W0) := by rw [← hW.out]; exact ((Below.refl _ _).alloc (Nat.le_refl _) _).alloc (by simp) _
  have T := hide (matcher_any m S _ 0 0 n' W0 (q.below L.out) hn')
  rw [show ((0 : Nat) : Int) = 0 from rfl] at T
  dsimp only at T
  clear q ht hn'
  obtain ⟨b0, b1, b2, b3, b4, _⟩ := B.out.all
  dsimp only at b0 b1 b2 b3 b4
  go_enter Tryz.func9, Tryz.ntmps9
  go_upto_region 1 with fail
  rw [hW.out]
  clear hW
  go_wp2_with fail
  with_reducible refine T.out.mono ?_
  rintro e w2 ⟨⟨op2, nm2, vl2, va2, vn2, vc2, ka2, kn2, kc2⟩, rfl, s2, bw2⟩
  dsimp only
  have A5 := hide (A.out.block (bw2.block (w.heap.size + 1) (by rw [SZ0.out]; omega)))
  have DN : Hid (SeeM (fun b => w.heap.size ≤ b) (put5 w2 (w.heap.size + 1) ⟨op2, nm2, vl2, va2, vn2, vc2, ka2, kn2, kc2⟩) m ⟨op2, nm2, vl2, va2, vn2, vc2, ka2, kn2, kc2⟩ ∧ Below w.heap.size w (put5 w2 (w.heap.size + 1) ⟨op2, nm2, vl2, va2, vn2, vc2, ka2, kn2, kc2⟩)) := by
    have e := SZ0.out
    refine ⟨(s2.ch (ch_put5 w2 (w.heap.size + 1) _) (fun k hk e' => by rw [e] at hk; omega)).mono (fun b _ hb => by rw [e] at hb; omega), ?_⟩
    have c := ch_put5 w2 (w.heap.size + 1) ⟨op2, nm2, vl2, va2, vn2, vc2, ka2, kn2, kc2⟩
    have l2 : Below w.heap.size w w2 := bel_to L.out (Nat.le_refl _) bw2
    exact l2.trans (c.below l2.size (fun k hk e' => by omega))
  clear s2 bw2 T b0 b1 b2 b3 b4
  obtain ⟨d0, d1, d2, d3, d4, df⟩ := A5.out.all
  have f0 := df 0
  have f1 := df 1
  have f2 := df 2
  have f3 := df 3
  have f4 := df 4
  dsimp only [hm0] at d0 d1 d2 d3 d4
  have F := hide (A5.out.put ⟨op2, nm2, vl2, va2, vn2, vc2, ka2, kn2, kc2⟩)
  clear df
  go_wp2
  obtain ⟨e0, e1, e2, e3, e4, _⟩ := F.out.all
  unfold put5 at e0 e1 e2 e3 e4
  dsimp only at e0 e1 e2 e3 e4
  exact bodyPost_ret (v := .agg #[.int .i64 op2, .string nm2, .string vl2, .slice va2 vn2 vc2, .slice ka2 kn2 kc2]) (by simp [results, Tryz.results9, go_sem, e0, e1, e2, e3, e4]) rfl ⟨⟨op2, nm2, vl2, va2, vn2, vc2, ka2, kn2, kc2⟩, rfl, DN.out⟩
end Go.Proofs.YtpffhpnmbpjifaaGreat
