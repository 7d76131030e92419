/-
  The landed file system: a file is cut: a contract, for every world (written by gen/vfsdi.gen.py).
  Conditions: the file lies in memory; the cut is within it.
-/
import Derived.Test.YthlkmjaflomflaaVfsDh
namespace Go.Proofs.Ythlkmjaflomflaa
open Go.RowKit Go.Maps
set_option maxRecDepth 20000
set_option linter.unusedVariables false

theorem slice_from8 (a : Option Addr) (n cap k : Nat) (hk : k ≤ n) (hc : n ≤ cap) (w : World) :
    (Instr.slice 22 (.slice a n cap) (some (.int .i64 (k : Int))) none none).run Try.prog w = .ok (.slice (if cap = k then a else a.map (·.add k)) (n - k) (cap - k)) w := by
  rw [run_slice_l (P := Try.prog) w 22 a n cap Try.underlying22 .i64 (k : Int) (by omega) (by omega)]
  have hs : (sizeOf (Try.prog.elem 22)).run Try.prog w = .ok 1 w := by kernel_rfl
  rw [hs]
  simp only [Result.andThen, sliced, Int.toNat_natCast, Nat.mul_one]
/-- A group more: a cut. -/
theorem FlP.pushCut {w u : World} {h : Fh} {k : Nat} {b su : List Int} {us : List Un} (m : FlP w h k b su us) (hb : b = unsB su us) {n : Nat} (hn : n ≤ b.length) {x : H3} {P g' c' : Nat} (gr : Ch (fun j => (h3V h.p).ownBlock = some j) w u) (ox : OwnB u 0 x.1 x.2.1 x.2.2 (b.drop n)) (hx : ∀ j, (h3V x).ownBlock = some j → w.heap.size ≤ j) (o : OwnP u 0 (some ⟨g', 0, none⟩) (P + 1) c' (h.hp ++ [(0, x)])) (lies : (h3V h.p).ownBlock = some g' ∨ w.heap.size ≤ g') :
    FlP (u.setCell ⟨h.b, 2, none⟩ (.slice (some ⟨g', 0, none⟩) (P + 1) c')) { h with p := (some ⟨g', 0, none⟩, P + 1, c'), ps := h.ps ++ [(0, b.drop n)], hp := h.hp ++ [(0, x)] } k b su (us ++ [⟨0, true, (n : Int)⟩]) ∧ (∀ j, SFh { h with p := (some ⟨g', 0, none⟩, P + 1, c'), ps := h.ps ++ [(0, b.drop n)], hp := h.hp ++ [(0, x)] } j → SFh h j ∨ w.heap.size ≤ j) ∧ Ch (SFh h) w (u.setCell ⟨h.b, 2, none⟩ (.slice (some ⟨g', 0, none⟩) (P + 1) c')) := by
  have q := m.putPend gr (p' := (some ⟨g', 0, none⟩, P + 1, c')) (ps' := h.ps ++ [(0, b.drop n)]) (hp' := h.hp ++ [(0, x)]) (su' := su) (us' := us ++ [⟨0, true, (n : Int)⟩]) o (by rw [hb]; exact Pd.cut us h.ps n m.pd (by rw [← hb]; exact hn)) (by rw [List.length_append, List.length_append, m.len]; rfl) (fun i q r h1 h2 => by
    by_cases e : i < h.hp.length
    · rw [List.getElem?_append_left e] at h1
      rw [List.getElem?_append_left (by rw [← m.len]; exact e)] at h2
      obtain ⟨e1, e2, e3⟩ := m.each i q r h1 h2
      exact ⟨e1, OwnG.ch e2 gr (fun j hj e => (OwnG.cellsT m.pend j e).1.ne (OwnG.cellsT e2 j hj).1 (by decide) rfl), e3⟩
    · rw [List.getElem?_append_right (by omega), List.getElem?_singleton] at h1
      rw [List.getElem?_append_right (by rw [← m.len]; omega), List.getElem?_singleton] at h2
      split at h1
      · rename_i e4
        rw [if_pos (by rw [← m.len]; exact e4)] at h2
        obtain rfl := Option.some.inj h1
        obtain rfl := Option.some.inj h2
        exact ⟨rfl, ox, fun j hj e => by
          have := hx j hj
          have := (OwnG.cellsT m.data j e).1.lt
          omega⟩
      · cases h1)
  refine ⟨q, fun j hj => ?_, (gr.more (fun j _ e => Or.inr (Or.inr (Or.inl e)))).trans ((ch_set u h.b 2 _).more (fun j _ e => Or.inl e))⟩
  rcases hj with e | e | e | ⟨q', e, e2⟩
  · exact Or.inl (Or.inl e)
  · exact Or.inl (Or.inr (Or.inl e))
  · have : g' = j := by simpa [h3V, Value.ownBlock] using e
    subst this
    rcases lies with e | e
    · exact Or.inl (Or.inr (Or.inr (Or.inl e)))
    · exact Or.inr e
  · rcases List.mem_append.1 e with e | e
    · exact Or.inl (Or.inr (Or.inr (Or.inr ⟨q', e, e2⟩)))
    · obtain rfl := List.mem_singleton.1 e
      exact Or.inr (hx j e2)

end Go.Proofs.Ythlkmjaflomflaa
