/-
  Numbers of sets as rising lists, plainly: all of them, those that a test takes, those left over; which values there are. No function is named. What all, list and rest of the index come to, and a map's slices collected (maps.Values, slices.Collect): contracts, for every world. What Post of the index comes to: a contract, for every world.
  Conditions: as each theorem says; the index lies in memory; the map tells slices; the index lies in memory.
-/
import Derived.Test.YtpffhpnmbpjifaaGreatIdxQ
import Derived.Test.YtpffhpnmbpjifaaGreatPosZa
import Derived.Test.YtpffhpnmbpjifaaGreatIdxDz
import Derived.Test.YtpffhpnmbpjifaaGreatPosDz
import Derived.Maps.RangeWalk
import Derived.Sort.MapsRangeIn
import Derived.Laws.IdiomRangeMap
import Derived.RangeFuncSeq
import Derived.RangeFuncNested
import Derived.RangeFuncBound
import Derived.RangeFuncCalls
import Derived.RangeFuncLeaves
import Derived.RangeFuncBox
import Derived.Shelf.AbstractIn
import Derived.OwnWalkIn
import Derived.TacticsInMore
import Derived.RegionIn
import Derived.LoopNIn
import Derived.LoopIn
import Derived.Maps.AppendAt
namespace Go.Proofs.YtpffhpnmbpjifaaGreat

/-- The numbers from 0 on. -/
def uptoI (m : Nat) : List Int := (List.range m).map (fun (k : Nat) => (k : Int))
theorem upto_len (m : Nat) : (uptoI m).length = m := by simp [uptoI]
theorem mem_upto {m : Nat} {x : Int} : x ∈ uptoI m ↔ 0 ≤ x ∧ x < m := by
  unfold uptoI
  rw [List.mem_map]
  constructor
  · rintro ⟨k, hk, rfl⟩
    rw [List.mem_range] at hk
    omega
  · intro h
    exact ⟨x.toNat, List.mem_range.2 (by omega), by omega⟩
theorem up_upto (m : Nat) : upI (uptoI m) := by
  unfold upI uptoI
  rw [List.pairwise_map]
  exact List.pairwise_lt_range.imp (fun h => by omega)
/-- The first k of them, noughts behind. -/
def sofI (k m : Nat) : List Int := (List.range m).map (fun (i : Nat) => if i < k then (i : Int) else 0)
theorem sof_start (m : Nat) : sofI 0 m = List.replicate m 0 := by
  unfold sofI
  rw [List.eq_replicate_iff]
  refine ⟨by simp, fun b hb => ?_⟩
  rw [List.mem_map] at hb
  obtain ⟨i, -, rfl⟩ := hb
  simp
theorem sof_end (m : Nat) : sofI m m = uptoI m := by
  unfold sofI uptoI
  apply List.map_congr_left
  intro i hi
  rw [List.mem_range] at hi
  rw [if_pos hi]
theorem sof_set (k m : Nat) : (sofI k m).set k (k : Int) = sofI (k + 1) m := by
  unfold sofI
  apply List.ext_getElem
  · simp
  · intro i h1 h2
    simp at h1
    rw [List.getElem_set]
    simp
    by_cases e : k = i
    · subst e
      simp
    · rw [if_neg e]
      by_cases q : i < k
      · rw [if_pos q, if_pos (by omega)]
      · rw [if_neg q, if_neg (by omega)]
theorem up_idxs (p : List Lb → Bool) (L : Lx) : ∀ k, upI (idxs p k L) ∧ ∀ x ∈ idxs p k L, (k : Int) ≤ x := by
  induction L with
  | nil => intro k; exact ⟨upI_nil, fun x h => by cases h⟩
  | cons y t ih =>
    intro k
    obtain ⟨h1, h2⟩ := ih (k + 1)
    unfold idxs
    split
    · refine ⟨List.pairwise_cons.2 ⟨fun x hx => by have := h2 x hx; omega, h1⟩, fun x hx => ?_⟩
      rcases List.mem_cons.1 hx with e | e
      · omega
      · have := h2 x e
        omega
    · exact ⟨h1, fun x hx => by have := h2 x hx; omega⟩
/-- A rising list of just those that a test takes. -/
theorem idxs_ext {p : List Lb → Bool} {L : Lx} {xs : List Int} (h : upI xs) (hm : ∀ (i : Nat) (l : List Lb), L[i]? = some l → ((i : Int) ∈ xs ↔ p l = true)) (hb : ∀ x ∈ xs, 0 ≤ x ∧ x < L.length) : xs = idxs p 0 L := by
  refine upI_ext h (up_idxs p L 0).1 (fun x => ?_)
  rw [mem_idxs]
  constructor
  · intro hx
    obtain ⟨h1, h2⟩ := hb x hx
    have hl : L[x.toNat]? = some (L[x.toNat]'(by omega)) := List.getElem?_eq_getElem _
    have e : ((x.toNat : Nat) : Int) = x := by omega
    exact ⟨x.toNat, _, hl, (hm _ _ hl).1 (by rw [e]; exact hx), by omega⟩
  · rintro ⟨i, l, h1, h2, rfl⟩
    have := (hm i l h1).2 h2
    rw [Nat.zero_add]
    exact this
theorem mem_idxs0 {p : List Lb → Bool} {L : Lx} {i : Nat} {l : List Lb} (h : L[i]? = some l) : (i : Int) ∈ idxs p 0 L ↔ p l = true := by
  rw [mem_idxs]
  constructor
  · rintro ⟨j, l', h1, h2, h3⟩
    have e : j = i := by omega
    subst e
    rw [h] at h1
    cases h1
    exact h2
  · intro hp
    exact ⟨i, l, h, hp, by omega⟩
/-- Those left over. -/
theorem less_idxs (p : List Lb → Bool) (L : Lx) : lessS (uptoI L.length) (idxs p 0 L) = idxs (fun l => !p l) 0 L := by
  refine idxs_ext (upI_less _ _) (fun i l hl => ?_) (fun x hx => ?_)
  · have hi := (List.getElem?_eq_some_iff.1 hl).1
    rw [mem_less, mem_upto, mem_idxs0 hl]
    constructor
    · rintro ⟨-, -, h⟩
      simpa using h
    · intro h
      exact ⟨⟨up_upto _, (up_idxs p L 0).1⟩, ⟨by omega, by omega⟩, by simpa using h⟩
  · rw [mem_less, mem_upto] at hx
    exact hx.2.1
theorem upto_idxs (L : Lx) : uptoI L.length = idxs (fun _ => true) 0 L := by
  refine idxs_ext (up_upto _) (fun i l hl => ?_) (fun x hx => ?_)
  · have hi := (List.getElem?_eq_some_iff.1 hl).1
    rw [mem_upto]
    simp
    exact hi
  · rw [mem_upto] at hx
    exact hx
/-- Those that one of the tests takes. -/
theorem most_idxs {L : Lx} {ps : List (List Lb → Bool)} {p : List Lb → Bool} (h : ∀ l ∈ L, p l = ps.any (fun f => f l)) : mostS (ps.map (fun f => idxs f 0 L)) 1 = idxs p 0 L := by
  refine idxs_ext (upI_most _ _) (fun i l hl => ?_) (fun x hx => ?_)
  · rw [mem_most, h l (List.mem_of_getElem? hl), List.any_eq_true]
    have e : (1 : Int) ≤ (cntI (ps.map (fun f => idxs f 0 L)) (i : Int) : Int) ↔ 1 ≤ cntI (ps.map (fun f => idxs f 0 L)) (i : Int) := by omega
    rw [e, cntI_pos]
    constructor
    · rintro ⟨-, -, m, hm, hx⟩
      rw [List.mem_map] at hm
      obtain ⟨f, hf, rfl⟩ := hm
      exact ⟨f, hf, (mem_idxs0 hl).1 hx⟩
    · rintro ⟨f, hf, hfl⟩
      refine ⟨by omega, fun m hm => ?_, idxs f 0 L, List.mem_map.2 ⟨f, hf, rfl⟩, (mem_idxs0 hl).2 hfl⟩
      rw [List.mem_map] at hm
      obtain ⟨f', -, rfl⟩ := hm
      exact (up_idxs f' L 0).1
  · rw [mem_most] at hx
    have h1 : 1 ≤ cntI (ps.map (fun f => idxs f 0 L)) x := by omega
    obtain ⟨m, hm, hxm⟩ := cntI_pos.1 h1
    rw [List.mem_map] at hm
    obtain ⟨f, -, rfl⟩ := hm
    exact idxs_wf f L x hxm
/-- Those that both tests take. -/
theorem and_idxs (p q : List Lb → Bool) (L : Lx) : mostS [idxs p 0 L, idxs q 0 L] 2 = idxs (fun l => p l && q l) 0 L := by
  refine idxs_ext (upI_most _ _) (fun i l hl => ?_) (fun x hx => ?_)
  · rw [show mostS [idxs p 0 L, idxs q 0 L] 2 = andS (idxs p 0 L) (idxs q 0 L) from rfl, mem_and, mem_idxs0 hl, mem_idxs0 hl, Bool.and_eq_true]
    exact ⟨fun h => h.2, fun h => ⟨⟨(up_idxs p L 0).1, (up_idxs q L 0).1⟩, h⟩⟩
  · rw [show mostS [idxs p 0 L, idxs q 0 L] 2 = andS (idxs p 0 L) (idxs q 0 L) from rfl, mem_and] at hx
    exact idxs_wf p L x hx.2.1
theorem post_ne {L : Lx} {nm v : ByteArray} : postX L nm v ≠ [] ↔ ∃ l ∈ L, valL l nm = v := by
  constructor
  · intro h
    obtain ⟨x, hx⟩ := List.exists_mem_of_ne_nil _ h
    obtain ⟨i, l, h1, h2, -⟩ := mem_idxs.1 hx
    exact ⟨l, List.mem_of_getElem? h1, by simpa [valP] using h2⟩
  · rintro ⟨l, hl, e⟩ h
    obtain ⟨i, hi, rfl⟩ := List.mem_iff_getElem.1 hl
    have hm : (i : Int) ∈ postX L nm v := (mem_idxs0 (p := valP nm v) (List.getElem?_eq_getElem hi)).2 (by simp [valP, e])
    rw [h] at hm
    cases hm
/-- The values that there are. -/
theorem mem_vals {L : Lx} {nm v : ByteArray} : v ∈ (valsX L nm).map (·.1) ↔ v ≠ .empty ∧ postX L nm v ≠ [] := by
  constructor
  · intro h
    rw [List.mem_map] at h
    obtain ⟨y, hy, rfl⟩ := h
    refine ⟨vals_ne L nm y hy, post_ne.2 ?_⟩
    exact vals_all nm (fun v => ∃ l ∈ L, valL l nm = v) L [] (fun y h => by cases h) (fun l hl _ => ⟨l, hl, rfl⟩) y hy
  · rintro ⟨h1, h2⟩
    have h3 := (valsX_laws L nm).2 v h1
    have h4 : 0 < (postX L nm v).length := List.length_pos_iff.2 h2
    unfold cntV at h3
    cases hf : (valsX L nm).find? (fun x => decide (x.1 = v)) with
    | none =>
      rw [hf] at h3
      simp at h3
      omega
    | some y =>
      have h5 := List.find?_some hf
      have h6 := List.mem_of_find?_eq_some hf
      rw [List.mem_map]
      exact ⟨y, h6, by simpa using h5⟩
theorem nodup_vals (L : Lx) (nm : ByteArray) : ((valsX L nm).map (·.1)).Nodup := by
  show List.Pairwise _ _
  rw [List.pairwise_map]
  exact (valsX_laws L nm).1.imp (fun h e => by rw [e, less_irrefl] at h; cases h)
/-- As many texts as there are values. -/
theorem vals_many {L : Lx} {nm : ByteArray} {ss : List ByteArray} (hn : ss.Nodup) (hm : ∀ s, s ∈ ss ↔ s ≠ .empty ∧ postX L nm s ≠ []) : ss.Perm ((valsX L nm).map (·.1)) :=
  (List.perm_ext_iff_of_nodup hn (nodup_vals L nm)).2 (fun s => by rw [hm, mem_vals])
/-- Those that have one of the values that there are. -/
theorem most_vals {L : Lx} {nm : ByteArray} {ss : List ByteArray} (hm : ∀ s, s ∈ ss ↔ s ≠ .empty ∧ postX L nm s ≠ []) : mostS (ss.map (fun s => postX L nm s)) 1 = idxs (fun l => !valP nm .empty l) 0 L := by
  have := most_idxs (L := L) (ps := ss.map (fun s => valP nm s)) (p := fun l => !valP nm .empty l) (fun l hl => by
    rw [Bool.eq_iff_iff, List.any_map, List.any_eq_true]
    simp only [Bool.not_eq_true', Function.comp, valP, decide_eq_true_eq, decide_eq_false_iff_not]
    constructor
    · intro h
      exact ⟨valL l nm, (hm _).2 ⟨h, post_ne.2 ⟨l, hl, rfl⟩⟩, rfl⟩
    · rintro ⟨s, hs, e⟩
      rw [e]
      exact ((hm s).1 hs).1)
  rw [List.map_map] at this
  exact this
theorem post_empty {L : Lx} {nm : ByteArray} {ss : List ByteArray} (hm : ∀ s, s ∈ ss ↔ s ≠ .empty ∧ postX L nm s ≠ []) : lessS (uptoI L.length) (mostS (ss.map (fun s => postX L nm s)) 1) = postX L nm .empty := by
  rw [most_vals hm, less_idxs]
  unfold postX
  congr 1
  funext l
  simp
end Go.Proofs.YtpffhpnmbpjifaaGreat

namespace Go.Proofs.YtpffhpnmbpjifaaGreat
open Go.RowKit Go.Maps Go.Shelf
set_option maxRecDepth 20000

set_option maxHeartbeats 1000000 in
theorem all_any (g : Nat) (S : Nat → Prop) (L1 L2 L3 : Lx) (a : Option Addr) (c : Nat) (hs : List Hl) (bn bp nb : Nat) (p : ByteArray → Option Nat) (q : ByteArray → ByteArray → Option Hl) (w : World) (h : IB w g S L1 L2 L3 a c hs bn bp nb p q) (hL : L1.length ≤ 4096) :
    Calls Tryz.prog 42 #[.pointer (some ⟨g, 0, none⟩)] w fun e w' => ∃ x d, e = .returned (.slice x L1.length d) ∧ MineI w' w.heap.size x L1.length d (uptoI L1.length) ∧ Below w.heap.size w w' := by
  obtain ⟨i0, hi, hz0, hz1, hz2⟩ := info_parts Tryz.infoI
  have LE := hide (len_any g S L1 L2 L3 a c hs bn bp nb p q w h)
  generalize L1.length = m at *
  clear h
  obtain ⟨gs, hgs⟩ : ∃ gs, Hid (w.heap.size = gs) := ⟨_, rfl⟩
  go_enter Tryz.func42, Tryz.ntmps42
  go_wp2_with fail
  with_reducible refine LE.out.mono ?_
  rintro e u1 ⟨rfl, hw⟩
  rw [hw]
  clear hw LE
  go_wp2_with (at_make; refine wpList_make_full _ rfl _ _ 33 rfl w.heap.size 3 i0 (.int .i64 0) 1 Tryz.underlying33 hi hz0 hz1 .i64 .i64 (m : Int) (m : Int) m rfl rfl rfl rfl (by rw [hz2]; omega) (by unfold maxLen; omega) (Nat.le_refl _) ?_)
  intro u3 o3 g3
  have B3 : Hid (Below w.heap.size w u3) := (Below.refl _ _).grown g3 (Nat.le_refl _) (fun k hk => by simp at hk)
  have O3 : Hid (MineI u3 w.heap.size (some ⟨gs, 0, none⟩) m m (sofI 0 m)) := by
    show u3.ownsRow _ _ _ _ _ _
    rw [sof_start, List.map_replicate, ← hgs.out, ← toList_madeCells_one]
    exact o3
  rw [hgs.out]
  clear o3 g3 hi hz0 hz1 hz2
  go_wp2
  go_loopw [10] (fun i wr => ∃ k : Nat, k ≤ m ∧ i = .int .i64 k ∧ Hid (MineI wr w.heap.size (some ⟨gs, 0, none⟩) m m (sofI k m)) ∧ Hid (Below w.heap.size w wr)) (fun i _ => m - (intOf i).toNat)
  case atStart => exact ⟨0, by omega, rfl, O3, B3⟩
  case round =>
    clear O3 B3
    obtain ⟨k, hk, rfl, HO, HW⟩ := hrel
    by_cases hlt : k < m
    · have ho := HO.out
      unfold MineI Own at ho
      obtain ⟨old, hold⟩ : ∃ old, wr.cell? ⟨gs, k, none⟩ = some old := by
        have := ho.cellAt k (by omega)
        have hl := ho.1
        rw [List.getElem?_eq_getElem (by omega)] at this
        exact ⟨_, this⟩
      have hfr := ho.frozenAt k
      have i1 : (0 : Int) ≤ (k : Int) := by omega
      have i5 : (k : Int) < (m : Int) := by omega
      have HS : Hid (MineI (wr.setCell ⟨gs, k, none⟩ (.int .i64 (k : Int))) w.heap.size (some ⟨gs, 0, none⟩) m m (sofI (k + 1) m)) := by
        have := (ho.stored k (.int .i64 (k : Int))).1
        rw [← List.map_set, sof_set] at this
        exact this
      have HB2 : Hid (Below w.heap.size w (wr.setCell ⟨gs, k, none⟩ (.int .i64 (k : Int)))) := HW.out.setCell (p := ⟨gs, k, none⟩) (by rw [← hgs.out]; exact Nat.le_refl _) _
      clear ho
      go_wp2
      go_roundw
      case rel => exact ⟨k + 1, by omega, by go_num, HS, HB2⟩
      case measure => simp [intOf]; omega
    · have i5 : ¬ (k : Int) < (m : Int) := by omega
      obtain rfl : k = m := by omega
      have HO2 := HO
      rw [sof_end] at HO2
      clear HO
      go_wp2
      go_ret
      exact ⟨_, _, rfl, HO2.out, HW.out⟩

theorem ilist_any (F : Value) (l : List Int) (w : World) (hF : Tells F w l) (hl : l.length ≤ 4096) :
    Calls Tryz.prog 38 #[F] w fun e w' => ToldM l w e w' := by
  have T := hide (hF.own w (Below.refl _ _) 4096 (by decide))
  rw [show (4096 : Int).toNat = 4096 by rfl, List.take_of_length_le hl] at T
  clear hF hl
  go_enter Tryz.func38, Tryz.ntmps38
  go_wp2_with fail
  with_reducible refine T.out.mono ?_
  intro e u1 h
  have H := hide h
  obtain ⟨a, n, c, rfl, -⟩ := h
  clear T
  go_wp2
  go_ret
  exact H.out
theorem ToldM.from' {l : List Int} {w u : World} {e : Ending} {w' : World} (h : ToldM l u e w') (hb : Below w.heap.size w u) : ToldM l w e w' := by
  obtain ⟨a, n, c, h1, h2, h3, h4⟩ := h
  exact ⟨a, n, c, h1, h2, Own.mono h3 hb.size, bel_to hb (Nat.le_refl _) h4⟩

set_option maxHeartbeats 1000000 in
theorem rest_any (g : Nat) (S : Nat → Prop) (L1 L2 L3 : Lx) (a : Option Addr) (c : Nat) (hs : List Hl) (bn bp nb : Nat) (p : ByteArray → Option Nat) (q : ByteArray → ByteArray → Option Hl) (b : Option Addr) (m d : Nat) (ys : List Int) (w : World) (h : IB w g S L1 L2 L3 a c hs bn bp nb p q) (hL : L1.length ≤ 4096) (hy : SlI w b m d ys) :
    Calls Tryz.prog 37 #[.pointer (some ⟨g, 0, none⟩), .slice b m d] w fun e w' => ToldM (lessS (uptoI L1.length) ys) w e w' := by
  have AL := hide (all_any g S L1 L2 L3 a c hs bn bp nb p q w h hL)
  have HY := hide hy
  have HLS : Hid ((lessS (uptoI L1.length) ys).length ≤ 4096) := by
    have := len_less (uptoI L1.length) ys
    rw [upto_len] at this
    exact Nat.le_trans this hL
  have HU : Hid (∀ z ∈ uptoI L1.length, (Lit.int .i64 z).wf = true) := fun z hz => by
    have := mem_upto.1 hz
    exact wfI (by omega) (by omega)
  obtain ⟨X, hX⟩ : ∃ X, Hid (lessS (uptoI L1.length) ys = X) := ⟨_, rfl⟩
  rw [hX.out] at HLS
  rw [hX.out]
  generalize L1.length = N at *
  clear h hy
  go_enter Tryz.func37, Tryz.ntmps37
  go_wp2_with fail
  with_reducible refine AL.out.mono ?_
  rintro e u1 ⟨x1, d1, rfl, o1, b1⟩
  have B1 := hide b1
  have LS := hide (less_any x1 N d1 (uptoI N) b m d ys u1 (MineI.sl o1 (by omega) HU.out) (HY.out.below b1 (Nat.le_refl _)) (by omega))
  rw [hX.out] at LS
  clear b1 o1 AL
  go_wp2_with fail
  with_reducible refine LS.out.mono ?_
  rintro e u2 ⟨F, rfl, tF, b2⟩
  have B2 := hide (bel_to B1.out (Nat.le_refl _) b2)
  have IL := hide (ilist_any F X u2 tF HLS.out)
  clear b2 tF LS B1
  go_wp2_with fail
  with_reducible refine IL.out.mono ?_
  intro e u3 h3
  have H3 := hide (h3.from' B2.out)
  obtain ⟨a3, n3, c3, rfl, -⟩ := h3
  clear IL
  go_wp2
  go_ret
  exact H3.out

/-- The slices of a map, in some order. -/
def ValsD (D : DataW Value) (zs : List Hl) : Prop := ∃ ss : List (List UInt8), ss.Perm (strKeys D) ∧ ss.map (fun x => D.atKey (.string x) .nil) = zs.map (fun h => DataW.held (hlV h))
theorem mvals_any (mb : Option Nat) (w : World) :
    Calls Tryz.prog 36 #[.map mb] w fun e w' => e = .returned (.func (.func 60) #[] #[.pointer (some ⟨w.heap.size, 0, none⟩)]) ∧ w' = w.alloc (.cells #[.map mb] 76) := by
  go_enter Tryz.func36, Tryz.ntmps36
  go_wp2
  go_ret
  exact ⟨rfl, rfl⟩

set_option maxHeartbeats 2000000 in
set_option maxRecDepth 100000 in
theorem mvals_stops (m : Nat) (hm1 : 1 ≤ m) (w0 : World) (Bm b nn : Nat) (D : DataW Value) (hbox : Boxed w0 Bm 76 (.map (some b))) (hown0 : MapD w0 b nn D) (hsl : ∀ x v, (∀ z, D.atKey (.string x) z = .held v) → ∃ h : Hl, v = hlV h) :
    SeqStopsK Fence.wide m Tryz.prog 60 #[.pointer (some ⟨Bm, 0, none⟩)] (fun x : Hl => #[hlV x]) KeepsWalks (ValsD D) (fun _ => True) (Maps.size D) w0 := fun l J Jx W hW hJ hJx hY h0 => by
  have hm := (boxed_below hbox hW).cell
  have hown : MapD W b nn D := hown0.kept (below_grown hW) (by simp)
  refine callsIn_of_wp Tryz.func60 rfl trivial ?_ rfl
  simp only [Tryz.ntmps60, List.size_toArray, List.length_cons, List.length_nil, Nat.reduceAdd, Nat.reduceSub, Array.replicate_succ, Array.replicate_zero, List.push_toArray, List.append_toArray, List.nil_append, List.cons_append]
  gi_wp2_with (first
    | (gi_at_range; refine wpListIn_range_own _ rfl _ 76 rfl 9 33 keyS Tryz.underlying76 _ b nn _ rfl hown ?_; intro w1 hrg0 hg0 hs0)
    | gi_in)
  try go_frame
  gi_loopw [4] (fun _ wr => ∃ (left : Lit → Bool) (cnt : Nat) (ss : List (List UInt8)) (zs : List Hl), wr.ranges Tryz.prog 9 heldE b W.heap.size nn D left cnt ∧ zs.length + cnt ≤ Maps.size D ∧ Collected D left ss ∧ ss.map (fun x => D.atKey (.string x) .nil) = zs.map (fun h => DataW.held (hlV h)) ∧ J zs wr)
    (fun _ wr => wr.rangeLeft b W.heap.size)
  case atStart =>
    exact ⟨_, _, [], [], hrg0, by simp, Collected.start D, rfl, hJ [] W w1 none h0 hg0 (fun r e => by cases e)⟩
  case round =>
    obtain ⟨left, cnt, ss, zs, hrg, hcs, hC, hZ, hJs⟩ := hrel
    gi_wp2_with (first
      | (gi_at_next; refine wpListIn_next_ranges _ rfl _ rfl 9 keyS heldE encStr id (fun key kl hk => by obtain ⟨x, hx, _⟩ := Maps.keyOf_str Tryz.underlying9 hk; exact ⟨x, hx⟩) (fun v _ _ => ⟨v, rfl⟩) b W.heap.size nn _ _ _ rfl hrg ?_ ?_)
      | gi_in)
    · intro hc0 hl0
      gi_wp2
      go_end0
      exact ⟨⟨_, rfl⟩, .inl ⟨zs, ⟨ss, hC.perm hown keyS Tryz.underlying9 hl0, hZ⟩, hJs⟩⟩
    · intro x c kl yd yp w2 cnt2 hkey hlk hv hat hrg2 hlt hg2 hs2 hen
      obtain ⟨x', ex, rfl, hwx⟩ := Maps.keyOf_str Tryz.underlying9 hkey
      obtain rfl := encStr_inj ex
      obtain rfl : DataW.held c = yd := by
        unfold heldE at hv
        simp at hv
        exact hv.1
      obtain ⟨h, rfl⟩ := hsl x c hat
      have hJ2 : J zs w2 := hJ zs wr w2 (some W.heap.size) hJs hg2 (fun r e => by cases e; exact ⟨Nat.le_refl _, hrg.iter_walk⟩)
      obtain ⟨fn, tmps, assign, body, hy, hR⟩ := hY zs h w2 hJ2 (by omega)
      clear hs2
      gi_wp2
      refine hR.mono ?_
      have hC2 := hC.step hlk hat
      have hZ2 : (ss ++ [x]).map (fun x => D.atKey (.string x) .nil) = (zs ++ [h]).map (fun h => DataW.held (hlV h)) := by
        rw [List.map_append, List.map_append, hZ]
        simp [hat]
      rintro e W3 (⟨rfl, hJ3, hk3⟩ | ⟨rfl, hJx3⟩)
      · gi_wp2
        have hrg3 := hrg2.of_walks hk3
        go_roundw
        case rel => exact ⟨_, cnt2, ss ++ [x], zs ++ [h], hrg3, by simp; omega, hC2, hZ2, hJ3⟩
        case measure => rw [hrg3.left_eq, hrg.left_eq]; exact hlt
      · gi_wp2
        refine bodyPost_ret (results_none rfl _ _ _) rfl ?_
        exact ⟨⟨_, rfl⟩, .inr ⟨_, trivial, hJx3⟩⟩

set_option maxHeartbeats 2000000 in
set_option maxRecDepth 100000 in
theorem mvals_none (m : Nat) (w0 : World) (Bm : Nat) (hbox : Boxed w0 Bm 76 (.map none)) :
    SeqStopsK Fence.wide m Tryz.prog 60 #[.pointer (some ⟨Bm, 0, none⟩)] (fun x : Hl => #[hlV x]) KeepsWalks (fun zs => zs = []) (fun _ => True) 0 w0 := fun l J Jx W hW hJ hJx hY h0 => by
  have hm := (boxed_below hbox hW).cell
  have hrg := run_range_nilMap (P := Tryz.prog) W 76 9 33 Tryz.underlying76
  have hnx : ∀ ty, (Instr.next (.pointer (some ⟨W.heap.size, 0, none⟩)) false ty).run Tryz.prog (W.alloc (.mapIter none 0 #[] 0)) = _ := fun ty => run_next_nilMap _ ty 0 0 #[]
  refine callsIn_of_wp Tryz.func60 rfl trivial ?_ rfl
  simp only [Tryz.ntmps60, List.size_toArray, List.length_cons, List.length_nil, Nat.reduceAdd, Nat.reduceSub, Array.replicate_succ, Array.replicate_zero, List.push_toArray, List.append_toArray, List.nil_append, List.cons_append]
  gi_wp2
  refine wpIn_loop_rounds 1 ?_
  rw [roundsIn_succ]
  gi_wp2
  go_end0
  exact ⟨⟨_, rfl⟩, .inl ⟨[], rfl, hJ [] W _ none h0 (World.grownBy_alloc W _ none) (fun r e => by cases e)⟩⟩

section
attribute [local go_sem] Oper.semAt_some
/-- What lies in s's box while the slices come. -/
def BoxH (n0 B : Nat) (pre : List Hl) (W : World) : Prop := ∃ v, Boxed W B 71 v ∧ W.ownsRow n0 33 1 v pre.length (pre.map hlV) ∧ True
theorem Tryz.infoSl : (Tryz.prog.info? 33).map (fun i => (i.zero, i.size, i.bytes)) = some (some (.slice none 0 0), 1, 24) := by kernel_rfl
/-- A row of slices of the call's own. -/
abbrev OwnH (w : World) (base : Nat) (a : Option Addr) (n cap : Nat) (zs : List Hl) : Prop := w.ownsRow base 33 1 (.slice a n cap) n (zs.map hlV)

set_option maxHeartbeats 2000000 in
set_option maxRecDepth 100000 in
theorem appendseq_of (Bm : Nat) (P : List Hl → Prop) (N : Nat) (w : World) (hN : N ≤ 1048576)
    (hS : ∀ W, Below w.heap.size w W → SeqStopsK Fence.wide 8 Tryz.prog 60 #[.pointer (some ⟨Bm, 0, none⟩)] (fun x : Hl => #[hlV x]) KeepsWalks P (fun _ => True) N W) :
    Calls Tryz.prog 59 #[.slice none 0 0, .func (.func 60) #[] #[.pointer (some ⟨Bm, 0, none⟩)]] w fun e w' => ∃ a n cap zs, e = .returned (.slice a n cap) ∧ OwnH w' w.heap.size a n cap zs ∧ P zs ∧ Below w.heap.size w w' := by
  have HSeq := hide hS
  obtain ⟨i0, hi0⟩ := info_parts Tryz.infoSl
  have HI := hide hi0
  clear hS hi0
  refine (callsIn_wide (n := 9)).1 ?_
  refine callsIn_of_wp_marks Tryz.func59 rfl trivial ?_ rfl
  simp only [Tryz.ntmps59, List.size_toArray, List.length_cons, List.length_nil, Nat.reduceAdd, Nat.reduceSub, Array.replicate_succ, Array.replicate_zero, List.push_toArray, List.append_toArray, List.nil_append, List.cons_append]
  gi_wp2_with fail
  have hmx : Tryz.prog.follows .mixedOrders = true := by kernel_rfl
  have hb1 : Boxed (w.alloc (.cells #[.slice none 0 0] 71)) w.heap.size 71 (.slice none 0 0) := Boxed.new w _ _
  have hB0 : Below w.heap.size w (w.alloc (.cells #[.slice none 0 0] 71)) := (Below.refl _ w).alloc (Nat.le_refl _) _
  have hsz : (w.alloc (.cells #[.slice none 0 0] 71)).heap.size = w.heap.size + 1 := by simp
  obtain ⟨W0, hW0⟩ : ∃ W0, w.alloc (.cells #[.slice none 0 0] 71) = W0 := ⟨_, rfl⟩
  rw [hW0] at hb1 hB0 hsz ⊢
  clear hW0
  refine wpIn_rangeFunc_ownF rfl (by omega) (gf := 60) (lb := #[.pointer (some ⟨Bm, 0, none⟩)]) rfl trivial (enters_of Tryz.func60 (by kernel_rfl) rfl)
    (HSeq.out W0 hB0) walksK_t (walksK_b (w := W0)) (Below.refl _ _) (fun _ => rfl)
    (fun pre W => BoxH w.heap.size w.heap.size pre W ∧ Below w.heap.size w W)
    (fun _ _ _ => False)
    (OwnFrom.and (Go.Own.from (holdsRow_own _ _ _ _ _ _ _ _) _) (ownFrom_below (Nat.le_refl _) (by omega)))
    (fun _ _ _ _ _ hs _ _ => hs)
    ⟨⟨_, hb1, World.ownsRow_nil _ _ _ _, trivial⟩, hB0⟩
    (fun x => { tmps := #[.slice none 0 0, .func (.func 60) #[] #[.pointer (some ⟨Bm, 0, none⟩)], .pointer (some ⟨w.heap.size, 0, none⟩), undef, .slice none 0 0, hlV x, .func (.func 60) #[] #[.pointer (some ⟨Bm, 0, none⟩)], hlV x, undef, undef, undef, undef, undef], defers := [] }) ?assign ?body ?done ?stop
  case assign =>
    intro l x W K hK
    gi_wp2
    exact hK
  case body =>
    rintro l pre ⟨xa, xn, xc⟩ W ⟨⟨v, hv, hrow, -⟩, hB⟩ hpre
    dsimp only [hlV]
    have hcell := hv.cell
    have hs1 : w.heap.size ≤ W.heap.size := hB.size
    gi_wp2_with (gi_at_builtin; refine wpListIn_append_own _ rfl _ _ 71 rfl w.heap.size 33 i0 (.slice none 0 0) 1 24 Tryz.underlying71 HI.out.1 HI.out.2.1 HI.out.2.2.1 HI.out.2.2.2 rfl (by decide) _ _ _ rfl (hrow.alloc _) ⟨W.heap.size, 0, none⟩ 1 1 [.slice xa xn xc] rfl rfl (cell_one_new _ _ _) (by simp [Value.oneCell']) (by unfold maxLen; omega) (by omega) (by simp; omega) ?_; intro v' w1 hown' hgrow _; obtain ⟨g', cap', rfl⟩ := ownsRow_succ hown'; obtain ⟨hv1, hv2, hr2, hk2, hb2⟩ := hv.appended (by decide) hrow hs1 (Nat.le_refl _) hown' hgrow; have hc1 := hv1.cell; have hf1 := hv1.frozen)
    refine ⟨hk2, hk2.walks, ⟨_, hv2, ?_, trivial⟩, hB.trans hb2⟩
    rw [List.length_append, List.map_append]
    exact hr2
  case done =>
    rintro Dd xs W hD hS ⟨⟨v, hv, hrow, -⟩, hB⟩ hK
    have hcell := hv.cell
    obtain ⟨ao, cap, rfl⟩ := row_form hrow
    gi_wp2
    refine ⟨by simp, .inl ⟨_, _, rfl, run_takeDeferred hK, ?_⟩⟩
    refine ⟨_, results_tmp rfl _ _ _, ao, xs.length, cap, xs, rfl, ?_, hS, ?_⟩
    · exact ownsRow_putObj hrow _ hK rfl
    · exact hB.trans (belowK_b (w := w) (Nat.le_refl _) _ Dd _ _ (by omega) hK rfl rfl)
  case stop =>
    rintro D c pre W _ _ h _
    exact h.elim
end
theorem collecth_of (Bm : Nat) (P : List Hl → Prop) (N : Nat) (w : World) (hN : N ≤ 1048576)
    (hS : ∀ W, Below w.heap.size w W → SeqStopsK Fence.wide 8 Tryz.prog 60 #[.pointer (some ⟨Bm, 0, none⟩)] (fun x : Hl => #[hlV x]) KeepsWalks P (fun _ => True) N W) :
    Calls Tryz.prog 35 #[.func (.func 60) #[] #[.pointer (some ⟨Bm, 0, none⟩)]] w fun e w' => ∃ a n cap zs, e = .returned (.slice a n cap) ∧ OwnH w' w.heap.size a n cap zs ∧ P zs ∧ Below w.heap.size w w' := by
  have A := hide (appendseq_of Bm P N w hN hS)
  clear hS
  go_enter Tryz.func35, Tryz.ntmps35
  go_wp2_with fail
  refine A.out.mono ?_
  rintro e w1 ⟨a, n, cap, zs, rfl, h1, h2, h3⟩
  have H1 := hide h1
  have H2 := hide h2
  have H3 := hide h3
  clear h1 h2 h3 A
  go_wp2
  go_ret
  exact ⟨a, n, cap, zs, rfl, H1.out, H2.out, H3.out⟩
end Go.Proofs.YtpffhpnmbpjifaaGreat

namespace Go.Proofs.YtpffhpnmbpjifaaGreat
open Go.RowKit Go.Maps
set_option maxRecDepth 20000

theorem hlV_inj {x y : Hl} (h : hlV x = hlV y) : x = y := by
  obtain ⟨a, b, c⟩ := x
  obtain ⟨a', b', c'⟩ := y
  unfold hlV at h
  simp only [Value.slice.injEq] at h
  obtain ⟨rfl, rfl, rfl⟩ := h
  rfl
theorem ba_of (x : List UInt8) : kS ⟨x.toArray⟩ = .string x := by simp [kS]
/-- What came of a map, by its texts. -/
theorem vals_texts {w : World} {b n : Nat} {D : DataW Value} {f : ByteArray → Option Value} (hD : MapD w b n D) (hR : ReadsS D f) {zs : List Hl} (h : ValsD D zs) :
    ∃ ss : List ByteArray, ss.Nodup ∧ (∀ s, s ∈ ss ↔ (f s).isSome = true) ∧ ss.map f = zs.map (fun h => some (hlV h)) := by
  obtain ⟨s0, hp, hz⟩ := h
  obtain ⟨hn, hm⟩ := keys_mem hD
  have hmem : ∀ x, x ∈ s0 ↔ (f ⟨x.toArray⟩).isSome = true := fun x => by rw [hp.mem_iff, hm, ← ba_of, hR.has]
  refine ⟨s0.map (fun x => ⟨x.toArray⟩), ?_, fun s => ?_, ?_⟩
  · show List.Pairwise _ _
    rw [List.pairwise_map]
    refine (hp.nodup_iff.2 hn).imp (fun hne e => hne ?_)
    have := congrArg kS e
    rw [ba_of, ba_of] at this
    simpa using this
  · rw [List.mem_map]
    constructor
    · rintro ⟨x, hx, rfl⟩
      exact (hmem x).1 hx
    · intro hs
      refine ⟨s.data.toList, (hmem _).2 ?_, ?_⟩
      · rw [show (⟨s.data.toList.toArray⟩ : ByteArray) = s by cases s; simp]
        exact hs
      · cases s; simp
  · rw [List.map_map]
    have e : ∀ x ∈ s0, D.atKey (.string x) .nil = DataW.held ((f ⟨x.toArray⟩).getD undef) := fun x hx => by
      have h1 := (hmem x).1 hx
      obtain ⟨v, hv⟩ := Option.isSome_iff_exists.1 h1
      rw [← ba_of, hR.at' _ v hv, hv]
      rfl
    have e2 : s0.map (fun x => DataW.held ((f ⟨x.toArray⟩).getD undef)) = zs.map (fun h => DataW.held (hlV h)) := by
      rw [← hz]
      exact List.map_congr_left (fun x hx => (e x hx).symm)
    have e3 : s0.map (fun x => (f ⟨x.toArray⟩).getD undef) = zs.map hlV := by
      have := congrArg (List.map (fun d : DataW Value => match d with | .held v => v | _ => undef)) e2
      rw [List.map_map, List.map_map] at this
      exact this
    have e4 : zs.map (fun h => some (hlV h)) = (zs.map hlV).map some := by rw [List.map_map]; rfl
    rw [e4, ← e3, List.map_map]
    refine List.map_congr_left (fun x hx => ?_)
    have h1 := (hmem x).1 hx
    obtain ⟨v, hv⟩ := Option.isSome_iff_exists.1 h1
    simp [hv]
theorem map_slices {D : DataW Value} {q : ByteArray → Option Hl} (hR : ReadsS D (fun v => (q v).map hlV)) : ∀ x v, (∀ z, D.atKey (.string x) z = .held v) → ∃ h : Hl, v = hlV h := fun x v hx => by
  have h1 : Maps.has D (kS ⟨x.toArray⟩) = true := by rw [ba_of]; exact has_true_of_atKey hx
  rw [hR.has] at h1
  cases hq : q ⟨x.toArray⟩ with
  | none => rw [hq] at h1; cases h1
  | some h =>
    have h2 := hR.at' ⟨x.toArray⟩ (hlV h) (by simp [hq]) .nil
    rw [ba_of, hx] at h2
    exact ⟨h, DataW.held.inj h2⟩
/-- The lists of a name's values, in some order. -/
def HavP (L : Lx) (nm : ByteArray) (w : World) (e : Ending) (w' : World) : Prop := ∃ (a : Option Addr) (n cap : Nat) (ss : List ByteArray), e = .returned (.slice a n cap) ∧ RowII w' a n (ss.map (fun s => postX L nm s)) ∧ (∀ s, s ∈ ss ↔ s ≠ .empty ∧ postX L nm s ≠ []) ∧ n ≤ 4096 ∧ Below w.heap.size w w'
section
variable {g : Nat} {S : Nat → Prop} {L : Lx} {ax : Option Addr} {cx : Nat} {hs : List Hl} {bn bp nb : Nat} {p : ByteArray → Option Nat} {q : ByteArray → ByteArray → Option Hl} {w : World}
theorem texts_are (h : PostsM w bp S L nb p q) (nm : ByteArray) {ss : List ByteArray} (hm : ∀ s, s ∈ ss ↔ ((q nm s).map hlV).isSome = true) : ∀ s, s ∈ ss ↔ s ≠ .empty ∧ postX L nm s ≠ [] := fun s => by
  rw [hm, Option.isSome_map]
  constructor
  · intro hq
    obtain ⟨x, hx⟩ := Option.isSome_iff_exists.1 hq
    exact ⟨(h.rows nm s x hx).1, (h.rows nm s x hx).2.1⟩
  · rintro ⟨h1, h2⟩
    cases hq : q nm s with
    | some x => rfl
    | none => exact absurd (h.has nm s h1 hq) h2
theorem row_lists {w' : World} (h : PostsM w' bp S L nb p q) (nm : ByteArray) {a : Option Addr} {n cap base : Nat} {zs : List Hl} {ss : List ByteArray} (ho : OwnH w' base a n cap zs) (hz : ss.map (fun v => (q nm v).map hlV) = zs.map (fun h => some (hlV h))) (hn : n ≤ 4096) (hL : L.length ≤ 4096) :
    RowII w' a n (ss.map (fun s => postX L nm s)) := by
  have hl1 : zs.length = n := by have := ho.1; simpa using this
  have hl2 : ss.length = n := by have := congrArg List.length hz; simp at this; omega
  refine ⟨by simpa using hl2, by omega, ?_⟩
  rcases id ho.2 with ⟨-, e2⟩ | ⟨b, c, cur, e1, _⟩
  · exact Or.inl e2
  · simp only [Value.slice.injEq, true_and] at e1
    obtain ⟨rfl, rfl⟩ := e1
    refine Or.inr ⟨b, 0, rfl, fun i hi => ?_⟩
    have hc := ho.cellAt i (by omega)
    have hzi : zs[i]? = some (zs[i]'(by omega)) := List.getElem?_eq_getElem _
    have hsi : ss[i]? = some (ss[i]'(by omega)) := List.getElem?_eq_getElem _
    rw [List.getElem?_map, hzi] at hc
    have he := congrArg (fun l => l[i]?) hz
    simp only [List.getElem?_map, hzi, hsi, Option.map_some, Option.some.injEq] at he
    cases hq : q nm (ss[i]'(by omega)) with
    | none => rw [hq] at he; cases he
    | some x =>
      rw [hq] at he
      simp only [Option.map_some, Option.some.injEq] at he
      have e := hlV_inj he
      obtain ⟨r1, r2, r3, r4⟩ := h.rows nm _ x hq
      refine ⟨x.1, x.2.1, x.2.2, ?_, ?_⟩
      · rw [Nat.zero_add, hc, ← e]
        rfl
      · rw [List.getD_eq_getElem?_getD, List.getElem?_map, hsi]
        exact MineI.sl r3 (by
          have h1 := r3.len
          have h2 := postX_len L nm (ss[i]'(by omega))
          omega) (postX_wf L nm _ (by omega))
theorem keys_few {ss : List ByteArray} {nm : ByteArray} (hn : ss.Nodup) (hm : ∀ s, s ∈ ss ↔ s ≠ .empty ∧ postX L nm s ≠ []) (hL : L.length ≤ 4096) : ss.length ≤ 4096 := by
  have h1 := (vals_many hn hm).length_eq
  rw [List.length_map] at h1
  have h2 := len_valsX L nm
  omega
end

theorem having_any (g : Nat) (S : Nat → Prop) (L : Lx) (ax : Option Addr) (cx : Nat) (hs : List Hl) (bn bp nb : Nat) (p : ByteArray → Option Nat) (q : ByteArray → ByteArray → Option Hl) (nm : ByteArray) (w : World) (hB : IB w g S L L L ax cx hs bn bp nb p q) (hL : L.length ≤ 4096) (hnb : nb ≤ 65536) :
    Calls Tryz.prog 35 #[.func (.func 60) #[] #[.pointer (some ⟨w.heap.size, 0, none⟩)]] (w.alloc (.cells #[.map (p nm)] 76)) fun e w' => HavP L nm w e w' := by
  have b1 : Below w.heap.size w (w.alloc (.cells #[.map (p nm)] 76)) := (Below.refl _ _).alloc (Nat.le_refl _) _
  have hbox : Boxed (w.alloc (.cells #[.map (p nm)] 76)) w.heap.size 76 (.map (p nm)) := Boxed.new w _ _
  have hB1 := hB.below b1
  generalize w.alloc (.cells #[.map (p nm)] 76) = W at *
  cases hp : p nm with
  | none =>
    rw [hp] at hbox
    refine (collecth_of w.heap.size (fun zs => zs = []) 0 W (by omega) (fun V hV => mvals_none 8 V w.heap.size (boxed_below hbox hV))).mono ?_
    rintro e w' ⟨a, n, cap, zs, rfl, ho, rfl, hb⟩
    have hn : n = 0 := by have := ho.1; simpa using this.symm
    subst hn
    refine ⟨a, 0, cap, [], rfl, ⟨rfl, by omega, Or.inl rfl⟩, texts_are hB.posts nm (fun s => ?_), by omega, bel_to b1 (Nat.le_refl _) hb⟩
    rw [hB.posts.no nm hp s]
    simp
  | some b =>
    rw [hp] at hbox
    obtain ⟨D, hD, hR⟩ := (hB1.posts.ins nm b hp).2.2
    have hsz := hD.size_le
    refine (collecth_of w.heap.size (ValsD D) (Maps.size D) W (by omega) (fun V hV => mvals_stops 8 (by omega) V w.heap.size b nb D (boxed_below hbox hV) (hD.kept (below_grown hV) (by simp)) (map_slices hR))).mono ?_
    rintro e w' ⟨a, n, cap, zs, rfl, ho, hV, hb⟩
    obtain ⟨ss, h1, h2, h3⟩ := vals_texts hD hR hV
    have hB2 := hB1.below hb
    have ht := texts_are hB1.posts nm h2
    have hk := keys_few h1 ht hL
    have hn : n = ss.length := by
      have e1 := congrArg List.length h3
      have e2 : zs.length = n := by have := ho.1; simpa using this
      simp at e1
      omega
    exact ⟨a, n, cap, ss, rfl, row_lists hB2.posts nm ho h3 (by omega) hL, ht, by omega, bel_to b1 (Nat.le_refl _) hb⟩

set_option maxHeartbeats 1000000 in
theorem clonem_any (a : Option Addr) (n cap : Nat) (zs : List Int) (w : World) (hr : SlI w a n cap zs) (hn : n ≤ 1000000) :
    Calls Tryz.prog 40 #[.slice a n cap] w fun e w' => ∃ a' cap', e = .returned (.slice a' n cap') ∧ MineI w' w.heap.size a' n cap' zs ∧ Below w.heap.size w w' := by
  obtain ⟨i0, hi, hz0, hz1, hz2⟩ := info_parts Tryz.infoI
  have hq := eqln
  have hl := hr.1.1
  cases a with
  | none =>
    have h0 := hr.1.nz rfl
    subst h0
    have hz : zs = [] := List.length_eq_zero_iff.1 hl
    subst hz
    go_enter Tryz.func40, Tryz.ntmps40
    go_wp2
    go_ret
    exact ⟨none, 0, rfl, own_nil _ _ _ _, Below.refl _ _⟩
  | some ad =>
    have HR := hide (fun o => (hr.1.alloc o).cells)
    clear hr
    go_enter Tryz.func40, Tryz.ntmps40
    go_wp2_with (at_builtin; refine wpList_append_own _ rfl _ _ 33 rfl w.heap.size 3 i0 (.int .i64 0) 1 8 Tryz.underlying33 hi hz0 hz1 hz2 rfl (by decide) _ _ _ rfl (World.ownsRow_made w #[] 0 (Nat.le_refl _) (Nat.zero_le _) rfl) ad n cap (zs.map (Value.int .i64)) rfl (by simp [hl]) (HR.out _) (one_cell .i64 zs) (by unfold maxLen; omega) (by omega) (by simp) ?_)
    intro v' w' h1 h2 _
    obtain ⟨a', cap', rfl, h3⟩ := own_form h1
    have H3 : Hid (MineI w' w.heap.size a' n cap' zs) := by simpa using hide h3
    have H4 : Hid (Below w.heap.size w w') := ((Below.refl _ w).alloc (Nat.le_refl _) _).grown h2 (by simp) (by intro k hk; simp [Value.ownBlock] at hk; omega)
    clear h1 h2 h3 HR
    go_wp2
    go_ret
    exact ⟨a', cap', by simp, H3.out, H4.out⟩
/-- What Post tells. -/
def PosP (l : List Int) (w : World) (e : Ending) (w' : World) : Prop := ∃ a n c, e = .returned (.slice a n c) ∧ MineI w' w.heap.size a n c l ∧ Below w.heap.size w w'
theorem ToldM.posP {l : List Int} {w : World} {e : Ending} {w' : World} (h : ToldM l w e w') : PosP l w e w' := by
  obtain ⟨a, n, c, h1, -, h3, h4⟩ := h
  exact ⟨a, n, c, h1, h3, h4⟩

set_option maxHeartbeats 2000000 in
theorem post_any (g : Nat) (S : Nat → Prop) (L : Lx) (nm v : ByteArray) (w : World) (h : IAt w g S L) (hnm : nm.size ≤ 9223372036854775807) (hv : v.size ≤ 9223372036854775807) :
    Calls Tryz.prog 22 #[.pointer (some ⟨g, 0, none⟩), .string nm, .string v] w fun e w' => PosP (postX L nm v) w e w' := by
  obtain ⟨hG, hL, ax, cx, hs, bn, bp, nb, p, q, hnb, hB⟩ := h
  have hnb2 : nb ≤ 65536 := by have := cntX_le hG; omega
  have c2 := hB.c2
  have HB := hide hB
  have lk0 : (Instr.lookup 64 (.map (some bp)) (.string nm) false).run Tryz.prog w = .ok (.map (p nm)) w := by
    have := hB.posts.map.look Tryz.underlying64 (zeroMp w) (s := nm) (by unfold maxLen; omega)
    rw [this]
    cases p nm <;> rfl
  by_cases hve : v = .empty
  · have t1 : v.toList = [] := by rw [hve]; decide +kernel
    have t2 : v.toList.isEmpty = true := by rw [t1]; rfl
    have t3 : (v.toList == (⟨#[]⟩ : ByteArray).toList) = true := by rw [t1]; decide +kernel
    have HA := hide (having_any g S L ax cx hs bn bp nb p q nm w hB hL hnb2)
    have MV := hide (mvals_any (p nm) w)
    rw [hve]
    obtain ⟨X, hX⟩ : ∃ X, Hid (postX L nm .empty = X) := ⟨_, rfl⟩
    rw [hX.out]
    generalize p nm = mb at *
    clear hB hve
    go_enter Tryz.func22, Tryz.ntmps22
    go_wp2_with fail
    with_reducible refine MV.out.mono ?_
    rintro e u1 ⟨rfl, hw⟩
    rw [hw]
    clear hw MV
    go_wp2_with fail
    with_reducible refine HA.out.mono ?_
    rintro e u2 ⟨a2, n2, d2, ss, rfl, r2, hm2, hn2, b2⟩
    have B2 := hide b2
    have HM := hide hm2
    have OR := hide (or_any a2 n2 d2 _ u2 r2 (by omega) (fun l hl => by
      rw [List.mem_map] at hl
      obtain ⟨s, -, rfl⟩ := hl
      have := postX_len L nm s
      omega))
    have HLE : Hid ((mostS (ss.map (fun s => postX L nm s)) 1).length ≤ 4096) := by
      show _ ≤ _
      rw [most_vals hm2]
      exact Nat.le_trans (idxs_len _ _ _) hL
    have HE := hide (post_empty hm2)
    rw [hX.out] at HE
    obtain ⟨Y, hY⟩ : ∃ Y, Hid (mostS (ss.map (fun s => postX L nm s)) 1 = Y) := ⟨_, rfl⟩
    rw [hY.out] at OR HLE HE
    clear b2 r2 hm2 HA
    go_wp2_with fail
    with_reducible refine OR.out.mono ?_
    rintro e u3 ⟨F, rfl, tF, b3⟩
    have B3 := hide (bel_to B2.out (Nat.le_refl _) b3)
    have IL := hide (ilist_any F Y u3 tF HLE.out)
    clear b3 tF OR B2
    go_wp2_with fail
    with_reducible refine IL.out.mono ?_
    rintro e u4 ⟨a4, n4, d4, rfl, s4, -, b4⟩
    have B4 := hide (bel_to B3.out (Nat.le_refl _) b4)
    have RS := hide (rest_any g S L L L ax cx hs bn bp nb p q a4 n4 d4 Y u4 (HB.out.below B4.out) hL s4)
    rw [HE.out] at RS
    clear b4 s4 IL B3
    go_wp2_with fail
    with_reducible refine RS.out.mono ?_
    intro e u5 h5
    have H5 := hide (h5.from' B4.out).posP
    obtain ⟨a5, n5, d5, rfl, -⟩ := h5
    clear RS
    go_wp2
    go_ret
    exact H5.out
  · have t1 : ¬ v.toList = [] := fun e => hve (ba_ext (e.trans (show (ByteArray.empty).toList = [] by decide +kernel).symm))
    have t2 : v.toList.isEmpty = false := by
      cases hq : v.toList with
      | nil => exact absurd hq t1
      | cons _ _ => rfl
    have t3 : (v.toList == (⟨#[]⟩ : ByteArray).toList) = false := by
      rw [ba_eq]
      exact decide_eq_false hve
    obtain ⟨q1, -⟩ := hB.posts.at' nm v hve
    have lk1 : (Instr.lookup 76 (.map (p nm)) (.string v) false).run Tryz.prog w = .ok (hlV (atQ q nm v)) w := by
      cases hp : p nm with
      | none =>
        rw [look_none Tryz.underlying76 (zeroSi w) (s := v) (by unfold maxLen; omega)]
        unfold atQ
        rw [hB.posts.no nm hp v]
        rfl
      | some b =>
        rw [(hB.posts.ins nm b hp).2.2.look Tryz.underlying76 (zeroSi w) (s := v) (by unfold maxLen; omega), atQ_val]
    obtain ⟨⟨ad, nd, cd⟩, hhd⟩ : ∃ hd, atQ q nm v = hd := ⟨_, rfl⟩
    rw [hhd] at q1 lk1
    dsimp only [hlV] at lk1
    have hnd : nd ≤ 4096 := by
      have h1 : (postX L nm v).length = nd := q1.len
      have h2 := postX_len L nm v
      omega
    have CL := hide (clonem_any ad nd cd (postX L nm v) w (MineI.sl q1 (by omega) (postX_wf L nm v (by omega))) (by omega))
    obtain ⟨X, hX⟩ : ∃ X, Hid (postX L nm v = X) := ⟨_, rfl⟩
    rw [hX.out] at CL
    rw [hX.out]
    generalize p nm = mb at *
    clear hB hve q1 hhd
    go_enter Tryz.func22, Tryz.ntmps22
    go_wp2_with fail
    with_reducible refine CL.out.mono ?_
    rintro e u1 ⟨a1, d1, rfl, o1, b1⟩
    have H1 : Hid (PosP X w (.returned (.slice a1 nd d1)) u1) := ⟨a1, nd, d1, rfl, o1, b1⟩
    clear o1 b1 CL
    go_wp2
    go_ret
    exact H1.out
end Go.Proofs.YtpffhpnmbpjifaaGreat
