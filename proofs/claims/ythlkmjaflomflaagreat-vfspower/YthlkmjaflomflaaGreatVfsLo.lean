/-
  What the laws of layer 16 share: the calls that turn names, what goes wrong, and a copy of numbers: contracts, for every world.
  Conditions: as each theorem says.
-/
import Derived.Test.YthlkmjaflomflaaGreatVfsLa
import Derived.Test.YthlkmjaflomflaaGreatVfsDq
import Derived.Test.YthlkmjaflomflaaGreatVfsDr
import Derived.Test.YthlkmjaflomflaaGreatVfsDs
namespace Go.Proofs.YthlkmjaflomflaaGreat
open Go.RowKit Go.Maps
set_option maxRecDepth 20000
set_option linter.unusedVariables false

section
variable {base : Nat} {w u : World} {g : Nat} {F : Fs} {m : Nat}
theorem on_rename (h : OnL base w u g F) (hL : LimB m F) (hm : m < 1073741824) (s t : ByteArray) (hs : s.size ≤ 9223372036854775807) (ht : t.size ≤ 9223372036854775807) : Calls Tryz.prog 31 #[.pointer (some ⟨g, 0, none⟩), .string s, .string t] u fun e u' => e = .returned (.int .i64 (renameF F s t).2) ∧ OnL base w u' g (renameF F s t).1 := by
  obtain ⟨S, q1, q2, q3, q4⟩ := h
  exact (lrename_any g S F s t m u q1 hL.lim hm hs ht).mono (fun e u' ⟨he, st⟩ => ⟨he, onL_step q2 q3 q4 st⟩)
theorem on_remove (h : OnL base w u g F) (hL : LimB m F) (hm : m < 1073741824) (s : ByteArray) (hs : s.size ≤ 9223372036854775807) : Calls Tryz.prog 20 #[.pointer (some ⟨g, 0, none⟩), .string s] u fun e u' => e = .returned (.int .i64 (removeF F s).2) ∧ OnL base w u' g (removeF F s).1 := by
  obtain ⟨S, q1, q2, q3, q4⟩ := h
  exact (lremove_any g S F s m u q1 hL.lim hm hs).mono (fun e u' ⟨he, st⟩ => ⟨he, onL_step q2 q3 q4 st⟩)
theorem on_syncdir (h : OnL base w u g F) (hL : LimB m F) (hm : m < 1073741824) : Calls Tryz.prog 15 #[.pointer (some ⟨g, 0, none⟩)] u fun e u' => e = .returned (.int .i64 (syncdirF F).2) ∧ OnL base w u' g (syncdirF F).1 := by
  obtain ⟨S, q1, q2, q3, q4⟩ := h
  exact (lsyncdir_any g S F m u q1 hL.lim hm).mono (fun e u' ⟨he, st⟩ => ⟨he, onL_step q2 q3 q4 st⟩)
theorem on_arm (h : OnL base w u g F) (k a : Int) (hk : (Lit.int .i64 k).wf = true) (ha : (Lit.int .i64 a).wf = true) : Calls Tryz.prog 14 #[.pointer (some ⟨g, 0, none⟩), .int .i64 k, .int .i64 a] u fun e u' => e = .returned (.int .i64 (armF F k a).2) ∧ OnL base w u' g (armF F k a).1 := by
  obtain ⟨S, q1, q2, q3, q4⟩ := h
  exact (larm_any g S F k a u q1 hk ha).mono (fun e u' ⟨he, st⟩ => ⟨he, onL_step q2 q3 q4 st⟩)
end
theorem onL_from' {w v u : World} {g : Nat} {F : Fs} (b : Below w.heap.size w v) (h : MadeV LAt v u g F) : OnL w.heap.size w u g F := by
  obtain ⟨S, q1, q2, q3⟩ := h
  exact ⟨S, q1, fun k hk => Nat.le_trans b.size (q2 k hk), b.trans (q3.mono b.size), Nat.le_trans b.size q3.size⟩
theorem two_name (v : World) (s t : ByteArray) (e : TypeId) : RowX (v.alloc (.cells #[.string s, .string t] e)) (some ⟨v.heap.size, 0, none⟩) 2 [s, t] :=
  ⟨rfl, by decide, Or.inr ⟨v.heap.size, 0, rfl, fun i hi => by
    have hi2 : i = 0 ∨ i = 1 := by omega
    rcases hi2 with rfl | rfl <;> rw [World.cell?_alloc_mark] <;> rfl⟩⟩
theorem two_data (v : World) (x y : H3) (d r : List Int) (e : TypeId) (hr : Row .u8 v x.1 x.2.1 d) (h1 : x.2.1 ≤ x.2.2) (h2 : x.1 = none → x.2.2 = 0) (kr : Row .u8 v y.1 y.2.1 r) (k1 : y.2.1 ≤ y.2.2) (k2 : y.1 = none → y.2.2 = 0) :
    RowBB (v.alloc (.cells #[.slice x.1 x.2.1 x.2.2, .slice y.1 y.2.1 y.2.2] e)) (some ⟨v.heap.size, 0, none⟩) 2 [x, y] [d, r] :=
  ⟨rfl, rfl, Or.inr ⟨v.heap.size, 0, rfl, fun i h hi => by
    match i, hi with
    | 0, hi =>
      obtain rfl := Option.some.inj hi
      rw [World.cell?_alloc_mark]; rfl
    | 1, hi =>
      obtain rfl := Option.some.inj hi
      rw [World.cell?_alloc_mark]; rfl
    | i + 2, hi => simp at hi⟩, fun i h z hi hz => by
    match i, hi, hz with
    | 0, hi, hz =>
      obtain rfl := Option.some.inj hi
      obtain rfl := Option.some.inj hz
      exact ⟨hr.alloc _, h1, h2⟩
    | 1, hi, hz =>
      obtain rfl := Option.some.inj hi
      obtain rfl := Option.some.inj hz
      exact ⟨kr.alloc _, k1, k2⟩
    | i + 2, hi, hz => simp at hi⟩
end Go.Proofs.YthlkmjaflomflaaGreat
