/-
  Windows told: what the laws' own collector does (windows), and what it takes of an iterator that goes on as long as it asks: contracts, for every world.
  Conditions: there is room for one more of 16 bytes.
-/
import Derived.Test.YtejflcfcbjadhaaDoorCalI
import Derived.Test.YtejflcfcbjadhaaDoorCalT
import Derived.Deep.Cut
namespace Go.Proofs.YtejflcfcbjadhaaDoor
open Go.RowKit
set_option maxRecDepth 20000

theorem Tryd.infoW : (Tryd.prog.info? 40).map (fun i => (i.zero, i.size, i.bytes)) = some (some (.agg #[.int .i64 0, .int .i64 0]), 2, 16) := by kernel_rfl
/-- Windows in a row. -/
def flatW (l : List (Int × Int)) : List Value := l.flatMap fun x => [.int .i64 x.1, .int .i64 x.2]
theorem flatW_len (l : List (Int × Int)) : (flatW l).length = l.length * 2 := by
  induction l with
  | nil => rfl
  | cons x t ih =>
    unfold flatW at ih ⊢
    rw [List.flatMap_cons, List.length_append, ih, List.length_cons]
    simp
    omega
theorem flatW_append (l m : List (Int × Int)) : flatW (l ++ m) = flatW l ++ flatW m := by unfold flatW; rw [List.flatMap_append]
theorem flatW_one (l : List (Int × Int)) : ∀ u ∈ flatW l, u.oneCell' = true := by
  intro u hu
  unfold flatW at hu
  rw [List.mem_flatMap] at hu
  obtain ⟨x, -, hx⟩ := hu
  simp at hx
  rcases hx with rfl | rfl <;> rfl
theorem flatW_at {l : List (Int × Int)} {k : Nat} {x : Int × Int} (h : l[k]? = some x) : (flatW l)[k * 2]? = some (.int .i64 x.1) ∧ (flatW l)[k * 2 + 1]? = some (.int .i64 x.2) := by
  induction l generalizing k with
  | nil => simp at h
  | cons y t ih =>
    cases k with
    | zero =>
      simp at h
      subst h
      exact ⟨rfl, rfl⟩
    | succ k =>
      simp at h
      obtain ⟨h1, h2⟩ := ih h
      have e : flatW (y :: t) = .int .i64 y.1 :: .int .i64 y.2 :: flatW t := rfl
      rw [e, show (k + 1) * 2 = k * 2 + 1 + 1 by omega, show k * 2 + 1 + 1 + 1 = (k * 2 + 1) + 1 + 1 by omega]
      simp only [List.getElem?_cons_succ]
      exact ⟨h1, h2⟩
def OwnW (w : World) (base : Nat) (a : Option Addr) (n cap : Nat) (l : List (Int × Int)) : Prop := w.ownsRow base 40 2 (.slice a n cap) n (flatW l)
/-- An iterator that tells these to the laws' collector. -/
def TellsW (F : Value) (w : World) (l : List (Int × Int)) : Prop := ∀ u, Below w.heap.size w u → ∀ most : Int, 1 ≤ most → most ≤ 1000 → Calls Tryd.prog 25 #[F, .int .i64 most] u fun e u' => ∃ a n c, e = .returned (.slice a n c) ∧ n = (l.take most.toNat).length ∧ OwnW u' u.heap.size a n c (l.take most.toNat) ∧ Below u.heap.size u u'
/-- What is asked of Windows. -/
structure CaWin : Prop where
  win : ∀ (s t n : Int) (w : World), (Lit.int .i64 s).wf = true → (Lit.int .i64 t).wf = true → (Lit.int .i64 n).wf = true → Calls Tryd.prog 23 #[.int .i64 s, .int .i64 t, .int .i64 n] w fun e w' => ∃ F, e = .returned F ∧ TellsW F w' (winL s t (winC s t n).toNat) ∧ Below w.heap.size w w'
theorem row_formW {w : World} {base : Nat} {e : TypeId} {size : Nat} {v : Value} {n : Nat} {xs : List Value} (h : w.ownsRow base e size v n xs) : ∃ a cap, v = .slice a n cap := by
  rcases h.2 with ⟨rfl, h2⟩ | ⟨g, c, cur, h1, _⟩
  · rw [h2]; exact ⟨_, _, rfl⟩
  · exact ⟨_, _, h1⟩
/-- The collector's two boxes and its list. -/
structure CollW (w : World) (n0 Bl Bm : Nat) (ks : List (Int × Int)) (most : Int) (v : Value) : Prop where
  bl : Boxed w Bl 38 v
  bm : Boxed w Bm 3 (.int .i64 most)
  rl : w.ownsRow n0 40 2 v ks.length (flatW ks)
  nl : n0 ≤ Bl
theorem win_cells (w : World) (x : Int × Int) (e : TypeId) : ∀ j u, (flatW [x])[j]? = some u → (w.alloc (.cells #[.int .i64 x.1, .int .i64 x.2] e)).cell? ((⟨w.heap.size, 0, none⟩ : Addr).add j) = some u := by
  intro j u h
  match j, h with
  | 0, h => simp [flatW] at h; subst h; rw [Addr.add_lit, World.cell?_alloc_mark]; rfl
  | 1, h => simp [flatW] at h; subst h; rw [Addr.add_lit, World.cell?_alloc_mark]; rfl

set_option maxHeartbeats 2000000 in
theorem wpush_any (x y : Int) (w : World) (n0 Bl Bm L : Nat) (ks : List (Int × Int)) (most : Int) (v : Value) (hC : CollW w n0 Bl Bm ks most v) (hks : ks.length = L) (hlen : (L + 1) * 16 ≤ 140737488355328) :
    Calls Tryd.prog 29 #[.int .i64 x, .int .i64 y, .pointer (some ⟨Bl, 0, none⟩), .pointer (some ⟨Bm, 0, none⟩)] w fun e w' =>
      e = .returned (.bool (decide ((L : Int) + 1 < most))) ∧ ∃ v', CollW w' n0 Bl Bm (ks ++ [(x, y)]) most v' ∧ Below n0 w w' := by
  obtain ⟨i1, hi1, hz10, hz11, hz12⟩ := info_parts Tryd.infoW
  have rl := hC.rl
  rw [hks] at rl
  obtain ⟨al, cl, rfl⟩ := row_formW rl
  have HC := hide hC
  have cbl := hC.bl.cell
  have RL := hide rl
  have HKS := hide hks
  have h0 : n0 ≤ w.heap.size := by have := hC.nl; have := hC.bl.lt; omega
  have NC := hide (win_cells w (x, y) 40)
  dsimp only at NC
  clear hC rl hks
  go_enter Tryd.func29, Tryd.ntmps29
  go_wp2_with (at_builtin; refine wpList_append_own _ rfl _ _ 38 rfl n0 40 i1 (.agg #[.int .i64 0, .int .i64 0]) 2 16 Tryd.underlying38 hi1 hz10 hz11 hz12 rfl (by decide) _ L (flatW ks) rfl (RL.out.alloc _) ⟨w.heap.size, 0, none⟩ 1 1 (flatW [(x, y)]) rfl rfl NC.out (flatW_one _) (by unfold maxLen; omega) (by omega) (by simp; omega) ?_)
  intro v1 w1 o1 g1 _
  rw [← flatW_append] at o1
  obtain ⟨a1, c1, rfl⟩ := row_formW o1
  have O1 := hide o1
  have C1 : Hid (Ch (fun g => (Value.slice al L cl).ownBlock = some g) w w1) := ((Ch.refl (fun g => (Value.slice al L cl).ownBlock = some g) w).alloc _).trans (Ch.grown g1)
  have BL1 := hide (boxed_ch HC.out.bl C1.out (fun h => (row_cells RL.out h).1.ne (boxed_cells HC.out.bl) (by decide) rfl))
  have BM1 := hide (boxed_ch HC.out.bm C1.out (fun h => (row_cells RL.out h).1.ne (boxed_cells HC.out.bm) (by decide) rfl))
  have hbl1 := BL1.out.cell
  have hfl1 := BL1.out.frozen
  have D2 : Hid (Ch (fun g => g = Bl) w1 (w1.setCell ⟨Bl, 0, none⟩ (.slice a1 (L + 1) c1))) := Ch.set w1 Bl _
  have hBM : Hid (Bm ≠ Bl) := (boxed_cells HC.out.bm).ne (boxed_cells HC.out.bl) (by decide)
  have BL2 := hide (BL1.out.set (.slice a1 (L + 1) c1))
  have BM2 := hide (boxed_ch BM1.out D2.out hBM.out)
  have RL2 := hide (row_ch O1.out D2.out (fun g h => (row_cells O1.out h).1.ne (boxed_cells BL1.out) (by decide)))
  have HB : Hid (Below n0 w (w1.setCell ⟨Bl, 0, none⟩ (.slice a1 (L + 1) c1))) :=
    (C1.out.below h0 (fun g hg h => by have := (row_cells RL.out h).2; omega)).trans (D2.out.below (by have := C1.out.size; omega) (fun g hg h => by have := HC.out.nl; omega))
  have NL := hide HC.out.nl
  clear o1 g1 cbl O1 BL1 BM1 RL HC C1 D2 NC
  go_upto_region 2 with fail
  obtain ⟨W2, hW2⟩ : ∃ W2, w1.setCell ⟨Bl, 0, none⟩ (.slice a1 (L + 1) c1) = W2 := ⟨_, rfl⟩
  rw [hW2] at BL2 BM2 RL2 HB ⊢
  clear hW2 hbl1 hfl1
  have hl2 := BL2.out.cell
  have hm2 := BM2.out.cell
  have HF : Hid (CollW W2 n0 Bl Bm (ks ++ [(x, y)]) most (.slice a1 (L + 1) c1)) := by
    refine ⟨BL2.out, BM2.out, ?_, NL.out⟩
    rw [List.length_append, HKS.out]; exact RL2.out
  clear BL2 BM2 RL2
  go_wp2
  go_ret
  exact ⟨rfl, _, HF, HB.out⟩

/-- An iterator (function f, with what it holds) that tells these to the laws' collector. -/
def GoesW (f : Nat) (caps : Array Value) (w : World) (l : List (Int × Int)) : Prop := ∀ (W0 : World) (n0 Bl Bm : Nat) (most : Int) (v : Value), Below w.heap.size w W0 → w.heap.size ≤ n0 → CollW W0 n0 Bl Bm [] most v → 1 ≤ most → most ≤ 1000 →
    Calls Tryd.prog f (#[.func (.func 29) #[] #[.pointer (some ⟨Bl, 0, none⟩), .pointer (some ⟨Bm, 0, none⟩)]] ++ caps) W0 fun e W' =>
      e = .returned (.tuple #[]) ∧ (∃ v', CollW W' n0 Bl Bm (l.take most.toNat) most v') ∧ Below n0 W0 W'
end Go.Proofs.YtejflcfcbjadhaaDoor
