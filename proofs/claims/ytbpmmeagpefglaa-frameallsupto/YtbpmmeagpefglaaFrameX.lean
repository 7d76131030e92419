/-
  The document's own answer of layer 5 (the laws' reference): all frames of bytes: a contract, for every world.
  Conditions: the slice shows at most 1048576 bytes.
-/
import Derived.Test.YtbpmmeagpefglaaFrameS
import Derived.Test.YtbpmmeagpefglaaFrameO
import Derived.Test.YtbpmmeagpefglaaFrameL
namespace Go.Proofs.Ytbpmmeagpefglaa
open Go.RowKit

/-- A frame as the reference tells it: where it begins, its body's place and length, the body's slice. -/
abbrev It : Type := Int × (Nat × Nat) × Option Addr × Nat
def flat (l : List It) : List Value := l.flatMap fun x => [.int .i64 x.1, .slice x.2.2.1 x.2.1.2 x.2.2.2, .int .i64 ((x.2.1.1 : Int) + x.2.1.2)]
/-- What the reference's list shows. -/
structure Items (w : World) (base : Nat) (zs : List Int) (fr : List (Nat × Nat)) (l : List It) : Prop where
  fr' : l.map (·.2.1) = fr
  at' : l.map (·.1) = startsOf fr
  body : ∀ x ∈ l, Mine w base x.2.2.1 x.2.1.2 x.2.2.2 ((zs.drop x.2.1.1).take x.2.1.2)

theorem Items.ch {S : Nat → Prop} {w w' : World} {base : Nat} {zs : List Int} {fr : List (Nat × Nat)} {l : List It} (h : Items w base zs fr l) (c : Ch S w w') (hs : ∀ g, CellsT w g 5 → ¬ S g) : Items w' base zs fr l :=
  ⟨h.fr', h.at', fun x hx => row_ch (h.body x hx) c (fun _ hg => hs _ (row_cells (h.body x hx) hg).1)⟩
theorem Items.below {w w' : World} {base : Nat} {zs : List Int} {fr : List (Nat × Nat)} {l : List It} (h : Items w base zs fr l) (k : Below w.heap.size w w') : Items w' base zs fr l := h.ch (Ch.of_below k) (fun _ _ => id)
theorem Items.snoc {w : World} {base : Nat} {zs : List Int} {fr : List (Nat × Nat)} {l : List It} (h : Items w base zs fr l) {st v c : Nat} {a : Option Addr} (hm : Mine w base a v c ((zs.drop st).take v)) :
    Items w base zs (fr ++ [(st, v)]) (l ++ [((endOf fr : Int), (st, v), a, c)]) := by
  refine ⟨by rw [List.map_append, h.fr']; rfl, by rw [List.map_append, h.at', startsOf_snoc]; rfl, fun x hx => ?_⟩
  rcases List.mem_append.1 hx with h1 | h1
  · exact h.body x h1
  · simp at h1
    subst h1
    exact hm
theorem Items.len {w : World} {base : Nat} {zs : List Int} {fr : List (Nat × Nat)} {l : List It} (h : Items w base zs fr l) : l.length = fr.length := by rw [← h.fr', List.length_map]
theorem flat_snoc (l : List It) (x : It) : flat (l ++ [x]) = flat l ++ [.int .i64 x.1, .slice x.2.2.1 x.2.1.2 x.2.2.2, .int .i64 ((x.2.1.1 : Int) + x.2.1.2)] := by simp [flat]
theorem flat_len (l : List It) : (flat l).length = l.length * 3 := by
  induction l with
  | nil => rfl
  | cons x t ih => simp only [flat, List.flatMap_cons, List.length_append, List.length_cons, List.length_nil] at ih ⊢; omega

theorem Try.infoF : (Try.prog.info? 52).map (fun i => (i.zero, i.size, i.bytes)) = some (some (.agg #[.int .i64 0, .slice none 0 0, .int .i64 0]), 3, 40) := by kernel_rfl

theorem three_cells (w : World) (x y z : Value) (e : TypeId) (j : Nat) (u : Value) (h : [x, y, z][j]? = some u) : (w.alloc (.cells #[x, y, z] e)).cell? ((⟨w.heap.size, 0, none⟩ : Addr).add j) = some u := by
  rw [Addr.add_lit, World.cell?_alloc_mark]
  match j, h with
  | 0, h => simpa using h
  | 1, h => simpa using h
  | 2, h => simpa using h

/-- What the reference's All answers. -/
def RefAll (zs : List Int) (w w' : World) (e : Ending) : Prop := ∃ al cl l, e = .returned (.tuple #[.slice al (framesS zs).length cl, .int .i64 (endS zs)]) ∧
  w'.ownsRow w.heap.size 52 3 (.slice al (framesS zs).length cl) (framesS zs).length (flat l) ∧ Items w' w.heap.size zs (framesS zs) l ∧ Below w.heap.size w w'

set_option maxHeartbeats 4000000 in
set_option maxRecDepth 100000 in
theorem refall_any (a : Option Addr) (n cap : Nat) (zs : List Int) (w : World) (hc : n ≤ cap) (hn0 : a = none → cap = 0) (hn : n ≤ 1048576) (hr : Row .u8 w a n zs) :
    Calls Try.prog 20 #[.slice a n cap] w fun e w' => RefAll zs w w' e := by
  obtain ⟨i0, hi, hz0, hz1, hz2⟩ := info_parts Try.infoF
  have hl := hr.1
  have HZ : Hid (Bytes8 zs) := hr.bytes
  have HR := hide hr
  have HO := hide (fun (k : Nat) (wr : World) (hk : k ≤ n) (hb : Below w.heap.size w wr) => one_any (k : Int) a n cap zs wr (i64_wf (by omega) (by omega)) hc hn0 (hr.below hb (Nat.le_refl _)))
  unfold oneP at HO
  clear hr
  go_enter Try.func20, Try.ntmps20
  go_wp2
  go_loopw [4, 5] (fun x y wr => ∃ (al : Option Addr) (L cl k f : Nat) (fr : List (Nat × Nat)) (l : List It), x = .slice al L cl ∧ y = .int .i64 k ∧ k ≤ n ∧ L ≤ k ∧ n - k < f ∧ Hid (fr ++ walkS zs f k = framesS zs ∧ fr.length = L ∧ endOf fr = k) ∧
    Hid (wr.ownsRow w.heap.size 52 3 (.slice al L cl) L (flat l)) ∧ Hid (Items wr w.heap.size zs fr l) ∧ Hid (Below w.heap.size w wr)) (fun _ y _ => n - (intOf y).toNat)
  case atStart => exact ⟨none, 0, 0, 0, n + 1, [], [], rfl, rfl, by omega, by omega, by omega, ⟨by rw [← hl]; rfl, rfl, rfl⟩, World.ownsRow_nil _ _ _ _, ⟨rfl, rfl, by simp⟩, Below.refl _ _⟩
  case round =>
    obtain ⟨al, L, cl, k, f, fr, l, rfl, rfl, hk, hL, hf, HF, HW, HI, HB⟩ := hrel
    have HEND : Hid (findS zs k = none → ∀ e : Ending, e = .returned (.tuple #[.slice al L cl, .int .i64 (k : Int)]) → ∀ w', Below wr.heap.size wr w' → RefAll zs w w' e) := by
      rintro hnone e rfl w' hb
      obtain ⟨q1, q2, q3⟩ := HF.out
      rw [walk_end hnone, List.append_nil] at q1
      subst q1
      refine ⟨al, cl, l, ?_, ?_, HI.out.below hb, bel_to HB.out (Nat.le_refl _) hb⟩
      · rw [q2]; unfold endS; rw [q3]
      · rw [q2]; exact row_ch HW.out (Ch.of_below hb) (fun _ _ => id)
    by_cases hlt : k < n
    · have hlt' : (k : Int) < n := by omega
      have O := hide (HO.out k wr hk HB.out)
      cases hfd : findS zs k with
      | none =>
        rw [hfd] at O
        simp only at O
        have HE := hide (HEND.out hfd)
        clear HEND hfd HO
        go_wp2_with fail
        refine O.out.mono ?_
        rintro e w1 ⟨rfl, k1⟩
        have K1 := hide (bel_al k1 (Nat.le_refl _) (.cells #[.int .i64 0, .slice none 0 0, .int .i64 0] 52))
        clear k1 O
        go_wp2
        go_ret2
        exact HE.out _ rfl _ K1.out
      | some p =>
        obtain ⟨st, v⟩ := p
        rw [hfd] at O
        simp only at O
        obtain ⟨h1, h2, h3, k', hk', hst, _⟩ := findS_some HZ.out hfd
        rw [hl] at h3
        have hkk : k = k' := by omega
        subst hkk
        have hq := (putS_len (v : Int)).1
        obtain ⟨f, rfl⟩ : ∃ g, f = g + 1 := ⟨f - 1, by omega⟩
        have HF2 : Hid ((fr ++ [(st, v)]) ++ walkS zs f (st + v) = framesS zs ∧ (fr ++ [(st, v)]).length = L + 1 ∧ endOf (fr ++ [(st, v)]) = st + v) := by
          obtain ⟨q1, q2, q3⟩ := HF.out
          rw [walk_step hfd] at q1
          exact ⟨by rw [← q1]; simp, by rw [List.length_append, q2]; rfl, endOf_snoc _ _⟩
        have HEK : Hid (endOf fr = k) := HF.out.2.2
        have hlt2 : k < st + v := by omega
        have hf2 : n - (st + v) < f := by omega
        have hL2 : L + 1 ≤ st + v := by omega
        clear hfd hk' hst hq HEND HO HF
        go_wp2_with fail
        refine O.out.mono ?_
        rintro e w1 ⟨⟨a1, c1, rfl, o1⟩, k1⟩
        have HWs : Hid (w.heap.size ≤ wr.heap.size) := HB.out.size
        have FB1 := hide (fb_new w1 (k : Int) (.slice a1 v c1) ((st : Int) + v))
        have O1 := hide ((o1.mono HWs.out).alloc (.cells #[.int .i64 (k : Int), .slice a1 v c1, .int .i64 ((st : Int) + v)] 52))
        have K1 : Hid (Below w.heap.size w (w1.alloc (.cells #[.int .i64 (k : Int), .slice a1 v c1, .int .i64 ((st : Int) + v)] 52))) := bel_al (bel_to HB.out (Nat.le_refl _) k1) (Nat.le_refl _) _
        have KW := hide (bel_al k1 (Nat.le_refl _) (.cells #[.int .i64 (k : Int), .slice a1 v c1, .int .i64 ((st : Int) + v)] 52))
        have HW1 := hide (row_ch HW.out (Ch.of_below KW.out) (fun _ _ => id))
        have HI1 := hide (HI.out.below KW.out)
        have HLT : Hid (∀ g, (Value.slice al L cl).ownBlock = some g → g < w1.heap.size) := fun g hg => Nat.lt_of_lt_of_le (row_cells HW.out hg).1.lt k1.size
        clear o1 k1 O HW HI KW
        go_upto_region 6 with fail
        obtain ⟨W, hW⟩ : ∃ W, w1.alloc (.cells #[.int .i64 (k : Int), .slice a1 v c1, .int .i64 ((st : Int) + v)] 52) = W := ⟨_, rfl⟩
        obtain ⟨g, hg⟩ : ∃ g, w1.heap.size = g := ⟨_, rfl⟩
        rw [hW] at FB1 O1 K1 HW1 HI1 ⊢
        rw [hg] at FB1 HLT ⊢
        clear hW hg
        obtain ⟨d0, d1, d2, _⟩ := FB1.out.cell
        have hsz : w.heap.size ≤ W.heap.size := K1.out.size
        go_wp2_with (at_builtin; refine wpList_append_own _ rfl _ _ 42 rfl w.heap.size 52 i0 (.agg #[.int .i64 0, .slice none 0 0, .int .i64 0]) 3 40 Try.underlying42 hi hz0 hz1 hz2 rfl (by decide) _ L (flat l) rfl (HW1.out.alloc _) ⟨W.heap.size, 0, none⟩ 1 1 [.int .i64 (k : Int), .slice a1 v c1, .int .i64 ((st : Int) + v)] rfl rfl (three_cells W _ _ _ _) (by simp [Value.oneCell']) (by unfold maxLen; omega) (by omega) (by simp; omega) ?_)
        intro v3 w3 o3 g3 _
        obtain ⟨gg, cc, rfl⟩ := ownsRow_succ o3
        have C3 : Hid (Ch (fun g => (Value.slice al L cl).ownBlock = some g) W w3) := ((Ch.refl (fun g => (Value.slice al L cl).ownBlock = some g) W).alloc (.cells #[.int .i64 (k : Int), .slice a1 v c1, .int .i64 ((st : Int) + v)] 52)).trans (Ch.grown g3)
        have FB3 : Hid (FB w3 g (k : Int) (.slice a1 v c1) ((st : Int) + v)) := (C3.out.block g (World.block_lt_of_cell? W _ d0) (fun h => by have := HLT.out g h; omega)).trans FB1.out
        have O3 : Hid (Mine w3 w.heap.size a1 v c1 ((zs.drop st).take v)) := row_ch O1.out C3.out (fun _ h h' => (row_cells HW1.out h').1.ne (row_cells O1.out h).1 (by decide) rfl)
        have HI3 := hide ((HI1.out.ch C3.out (fun _ h h' => (row_cells HW1.out h').1.ne h (by decide) rfl)).snoc O3.out)
        rw [HEK.out] at HI3
        have W3 : Hid (w3.ownsRow w.heap.size 52 3 (.slice (some ⟨gg, 0, none⟩) (L + 1) cc) (L + 1) (flat (l ++ [((k : Int), (st, v), a1, c1)]))) := by
          show w3.ownsRow _ _ _ _ _ _
          rw [flat_snoc]
          exact o3
        have K3 : Hid (Below w.heap.size w w3) := K1.out.trans (C3.out.below hsz (fun _ hg h => by have := (row_cells HW1.out h).2; omega))
        obtain ⟨_, _, e2, _⟩ := FB3.out.cell
        clear o3 g3 C3 FB1 FB3 O1 O3 HI1 HW1 K1 d0 d1 d2 HLT HEK
        go_wp2
        go_roundw
        case rel => exact ⟨some ⟨gg, 0, none⟩, L + 1, cc, st + v, f, _, _, rfl, rfl, by omega, hL2, hf2, HF2, W3, HI3, K3⟩
        case measure => simp [intOf]; omega
    · have : k = n := by omega
      subst this
      have hlt' : ¬ ((k : Int) < k) := by omega
      have HE := hide (HEND.out (by rw [← hl]; exact findS_end zs))
      clear HEND HO
      go_wp2
      go_ret2
      exact HE.out _ rfl _ (Below.refl _ _)
end Go.Proofs.Ytbpmmeagpefglaa
