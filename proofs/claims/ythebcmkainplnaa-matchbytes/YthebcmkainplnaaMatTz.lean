/-
  The program's reader of matchers' texts (need, more, took, value): contracts, for every world: the reader's block alone turns; what may not be leaves by a panic of the reader's own kind. The program's reader of matchers' texts (name: the longest name that begins here): a contract, for every world: the reader's block alone turns. The program's reader of matchers' texts (list of values, named): contracts, for every world: the reader's block alone turns, and what is read lies in new blocks; what may not be leaves by a panic of the reader's own kind. The program's reader of matchers' texts (named): a contract, for every world: the reader's block alone turns, and what is read lies in new blocks; what may not be leaves by a panic of the reader's own kind (written by gen/mattd.gen.py). The program's reader of matchers' texts (list of matchers, over what matcher tells): contracts, for every world: the reader's block alone turns, and what is read lies in new blocks; what may not be leaves by a panic of the reader's own kind. The program's reader of matchers' texts (matcher, whole): contracts, for every world: the reader's block alone turns, and what is read lies in new blocks; what may not be leaves by a panic of the reader's own kind (written by gen/mattf.gen.py). How reading is tried (attempt, its deferred function, that recovers): contracts, for every world. How reading is tried (attempt, of a text's reader): a contract, for every world: what is read, if it may be; else none. How deep a text's brackets are open, in plain words, and that a matcher that may be has a text that is not too deep; the program's isDeep and Parse: contracts, for every world; what was there before stays. The program's isDeep and Parse of a matcher's text: contracts, for every world; what was there before stays (written by gen/mattj.gen.py).
  Conditions: the reader lies in a block of its own; its place is within the text, of at most 20,000 bytes; as each theorem says; the reader lies in a block of its own; a text of at most 20,000 bytes; texts of at most 20,000 bytes.
-/
import Derived.Test.YthebcmkainplnaaMatE
import Derived.Test.YthebcmkainplnaaLabDq
import Derived.Test.YthebcmkainplnaaWldK
import Derived.WalkLawsBesides
import Derived.Test.YthebcmkainplnaaMatX
import Derived.Deep.RegionWith
import Derived.Defers
import Derived.Recover
namespace Go.Proofs.Ythebcmkainplnaa
open Go.RowKit
set_option maxRecDepth 20000

/-- How reading is left. -/
abbrev refE : Ending := .panicked [{ v := .iface 120 (.agg #[]), recovered := false }]
theorem need_yes (w : World) : Calls Try.prog 61 #[.bool true] w fun e w' => e = .returned (.tuple #[]) ∧ w' = w := by
  go_enter Try.func61, Try.ntmps61
  go_wp2
  go_end0
  exact ⟨rfl, rfl⟩
theorem need_no (w : World) : Calls Try.prog 61 #[.bool false] w fun e w' => e = refE ∧ w' = w := by
  go_enter Try.func61, Try.ntmps61
  go_wp2
  exact ⟨rfl, rfl, rfl⟩

/-- The reader, as a block of memory. -/
def TB (w : World) (g n : Nat) (s : ByteArray) (k : Nat) : Prop :=
  w.heap[g]? = some (.cells #[.int .i64 (n : Int), .string s, .int .i64 (k : Int)] 66 (0, 0))
section
variable {w w' : World} {g n k : Nat} {s : ByteArray}
theorem TB.cell (h : TB w g n s k) : w.cell? ⟨g, 0, none⟩ = some (.int .i64 (n : Int)) ∧ w.cell? ⟨g, 1, none⟩ = some (.string s) ∧ w.cell? ⟨g, 2, none⟩ = some (.int .i64 (k : Int)) ∧ ∀ o, w.frozen? ⟨g, o, none⟩ = false := by
  unfold TB at h
  refine ⟨?_, ?_, ?_, fun o => ?_⟩
  · simp [World.cell?, h]
  · simp [World.cell?, h]
  · simp [World.cell?, h]
  · simp [World.frozen?, h]
theorem TB.lt (h : TB w g n s k) : g < w.heap.size := (Array.getElem?_eq_some_iff.1 h).1
theorem TB.block (h : TB w g n s k) (e : w'.heap[g]? = w.heap[g]?) : TB w' g n s k := e.trans h
theorem TB.drewN (h : TB w g n s k) (q : Nat) : TB (w.drewN q) g n s k := h
theorem TB.drew (h : TB w g n s k) : TB w.drew g n s k := h
theorem TB.place (h : TB w g n s k) (j : Nat) : TB (w.setCell ⟨g, 2, none⟩ (.int .i64 (j : Int))) g n s j := by
  unfold TB at *
  simp [World.setCell, Array.getElem?_modify, h]
theorem TB.count (h : TB w g n s k) (j : Nat) : TB (w.setCell ⟨g, 0, none⟩ (.int .i64 (j : Int))) g j s k := by
  unfold TB at *
  simp [World.setCell, Array.getElem?_modify, h]
theorem TB.below (h : TB w g n s k) (b : Below w.heap.size w w') : TB w' g n s k := h.block (b.block g h.lt)
end
theorem ch_too {g : Nat} {u v w : World} (h : Ch (fun k => k = g) u v) (b : Below v.heap.size v w) : Ch (fun k => k = g) u w := h.trans ((Ch.of_below b).more (fun _ _ => False.elim))

set_option maxHeartbeats 1000000 in
theorem more_yes (g n : Nat) (s : ByteArray) (k : Nat) (w : World) (h : TB w g n s k) (hn : n < 64) :
    Calls Try.prog 71 #[.pointer (some ⟨g, 0, none⟩)] w fun e w' => e = .returned (.tuple #[]) ∧ TB w' g (n + 1) s k ∧ Ch (fun b => b = g) w w' := by
  obtain ⟨f0, f1, f2, f3⟩ := h.cell
  have H := hide (h.count (n + 1))
  rw [show ((n + 1 : Nat) : Int) = (n : Int) + 1 from rfl] at H
  obtain ⟨c0, _, _, _⟩ := H.out.cell
  rw [show ((n + 1 : Nat) : Int) = (n : Int) + 1 from rfl] at c0
  have CH := hide (ch_set w g 0 (.int .i64 ((n : Int) + 1)))
  have NY := hide need_yes
  have z : (n : Int) + 1 ≤ 64 := by omega
  have ff := f3 0
  clear h f3
  go_enter Try.func71, Try.ntmps71
  go_upto_region 1 with fail
  generalize w.setCell ⟨g, 0, none⟩ (.int .i64 ((n : Int) + 1)) = W at *
  clear f0 f1 f2 ff
  go_wp2_with fail
  with_reducible refine (NY.out _).mono ?_
  rintro e w' ⟨rfl, hw⟩
  rw [hw]
  go_wp2
  go_end0
  exact ⟨rfl, H.out, CH.out⟩
set_option maxHeartbeats 1000000 in
theorem more_no (g n : Nat) (s : ByteArray) (k : Nat) (w : World) (h : TB w g n s k) (hn : 64 ≤ n) (hn2 : n ≤ 64) :
    Calls Try.prog 71 #[.pointer (some ⟨g, 0, none⟩)] w fun e w' => e = refE ∧ Ch (fun b => b = g) w w' := by
  obtain ⟨f0, f1, f2, f3⟩ := h.cell
  have H := hide (h.count (n + 1))
  rw [show ((n + 1 : Nat) : Int) = (n : Int) + 1 from rfl] at H
  obtain ⟨c0, _, _, _⟩ := H.out.cell
  rw [show ((n + 1 : Nat) : Int) = (n : Int) + 1 from rfl] at c0
  have CH := hide (ch_set w g 0 (.int .i64 ((n : Int) + 1)))
  have NN := hide need_no
  have z : ¬ (n : Int) + 1 ≤ 64 := by omega
  have ff := f3 0
  clear h f3
  go_enter Try.func71, Try.ntmps71
  go_upto_region 1 with fail
  generalize w.setCell ⟨g, 0, none⟩ (.int .i64 ((n : Int) + 1)) = W at *
  clear f0 f1 f2 ff
  go_wp2_with fail
  with_reducible refine (NN.out _).mono ?_
  rintro e w' ⟨rfl, hw⟩
  rw [hw]
  go_wp2
  exact ⟨rfl, rfl, CH.out⟩
/-- Do these signs stand at place k? -/
def tookB (s : ByteArray) (k : Nat) (p : ByteArray) : Bool := p.toList.isPrefixOf (s.toList.drop k)
theorem tookB_yes {s : ByteArray} {k : Nat} {p : ByteArray} (h : tookB s k p = true) : tks p.toList (s.toList.drop k) = some (s.toList.drop (k + p.size)) ∧ k + p.size ≤ s.size ∨ p.size = 0 := by
  unfold tookB at h
  by_cases h0 : p.size = 0
  · exact Or.inr h0
  · left
    have hl := (List.isPrefixOf_iff_prefix.1 h).length_le
    rw [List.length_drop, ba_len, ba_len] at hl
    refine ⟨?_, by omega⟩
    unfold tks
    rw [if_pos h, List.drop_drop, ba_len]
theorem tookB_no {s : ByteArray} {k : Nat} {p : ByteArray} (h : tookB s k p = false) : tks p.toList (s.toList.drop k) = none := by
  unfold tookB at h
  unfold tks
  rw [if_neg (by rw [h]; decide)]
/-- What is held through the reader's own reads. -/
theorem keepT {w v v' : World} {g n k : Nat} {s : ByteArray} (hb : Below v.heap.size v v')
    (h : v.cell? ⟨g, 1, none⟩ = some (.string s) ∧ v.cell? ⟨g, 2, none⟩ = some (.int .i64 (k : Int)) ∧ Hid (TB v g n s k ∧ Ch (fun b => b = g) w v)) : v'.cell? ⟨g, 1, none⟩ = some (.string s) ∧ v'.cell? ⟨g, 2, none⟩ = some (.int .i64 (k : Int)) ∧ Hid (TB v' g n s k ∧ Ch (fun b => b = g) w v') := by
  obtain ⟨c1, c2, t, c⟩ := h
  have t' := t.below hb
  exact ⟨t'.cell.2.1, t'.cell.2.2.1, t', ch_too c hb⟩

set_option maxHeartbeats 2000000 in
theorem took_any (g n : Nat) (s : ByteArray) (k : Nat) (p : ByteArray) (w : World) (h : TB w g n s k) (hk : k ≤ s.size) (hs : s.size ≤ 20000) (hp : p.size ≤ 2) :
    Calls Try.prog 90 #[.pointer (some ⟨g, 0, none⟩), .string p] w fun e w' => e = .returned (.bool (tookB s k p)) ∧ TB w' g n s (if tookB s k p then k + p.size else k) ∧ Ch (fun b => b = g) w w' := by
  obtain ⟨f0, f1, f2, f3⟩ := h.cell
  have E : Hid (p.toList.isPrefixOf (s.extract k s.size).toList = tookB s k p) := by
    show _ = _
    unfold tookB
    rw [ext_from]
  have T : Hid (∀ u, Calls Try.prog 53 #[.string (s.extract k s.size), .string p] u fun e w' => e = .returned (.bool (tookB s k p)) ∧ Below u.heap.size u w') := fun u => (haspre_any _ _ u).mono fun e w' ⟨he, hw⟩ => ⟨by rw [he, E.out], by rw [hw]; exact Below.refl _ _⟩
  generalize tookB s k p = ans at *
  clear E
  have S0 : Hid (w.drew.cell? ⟨g, 1, none⟩ = some (.string s) ∧ w.drew.cell? ⟨g, 2, none⟩ = some (.int .i64 (k : Int)) ∧ Hid (TB w.drew g n s k ∧ Ch (fun b => b = g) w w.drew)) := ⟨f1, f2, h, ch_drewS (Ch.refl _ _) 1⟩
  have i1 : (0 : Int) ≤ (k : Int) := by omega
  have i2 : (k : Int) ≤ (s.size : Int) := by omega
  clear h f0 f3
  go_enter Try.func90, Try.ntmps90
  go_upto_region 1 with fail
  clear f1 f2
  go_region_held3 (fun w' => w'.cell? ⟨g, 1, none⟩ = some (.string s) ∧ w'.cell? ⟨g, 2, none⟩ = some (.int .i64 (k : Int)) ∧ Hid (TB w' g n s k ∧ Ch (fun b => b = g) w w')) (first | with_reducible exact S0.out | with_reducible exact keepT (by assumption) (by assumption)) (first
    | (go_at_call 53; (with_reducible refine (T.out _).mono ?_); rintro e v2 ⟨rfl, bv2⟩))
  rename_i hh
  have F := hide hh.2.2.out
  clear hh S0 T
  obtain ⟨c0, c1, c2, c3⟩ := F.out.1.cell
  cases ans with
  | false =>
    go_wp2
    go_ret
    exact ⟨rfl, F.out.1, F.out.2⟩
  | true =>
    have c32 := c3 2
    have G := hide (F.out.1.place (k + p.size))
    rw [show ((k + p.size : Nat) : Int) = (k : Int) + (p.size : Int) from by omega] at G
    have C := hide (F.out.2.trans (ch_set _ g 2 (.int .i64 ((k : Int) + (p.size : Int)))))
    clear c3
    go_wp2
    go_ret
    exact ⟨rfl, G.out, C.out⟩
/-- What value tells of what was read. -/
def VaP (res : Option (List UInt8 × List UInt8)) (g n : Nat) (s : ByteArray) (w : World) (e : Ending) (w' : World) : Prop :=
  Ch (fun b => b = g) w w' ∧ match res with
  | none => e = refE
  | some (v, r) => e = .returned (.string (bar v)) ∧ ∃ k', k' ≤ s.size ∧ s.toList.drop k' = r ∧ TB w' g n s k'
theorem unqO_place {s : ByteArray} {k : Nat} {v r : List UInt8} (h : unqO (s.toList.drop k) = some (v, r)) : s.size - r.length ≤ s.size ∧ s.toList.drop (s.size - r.length) = r ∧ k < s.size - r.length := by
  have e := unqO_fwd h
  have hl : (s.toList.drop k).length = (quoB v).length + r.length := by rw [e, List.length_append]
  rw [List.length_drop, ba_len] at hl
  have hq : 2 ≤ (quoB v).length := by unfold quoB; simp
  refine ⟨by omega, ?_, by omega⟩
  rw [show s.size - r.length = k + (quoB v).length by omega, ← List.drop_drop, e, List.drop_left]
set_option maxHeartbeats 2000000 in
theorem valueT_any (g n : Nat) (s : ByteArray) (k : Nat) (w : World) (h : TB w g n s k) (hk : k ≤ s.size) (hs : s.size ≤ 20000) :
    Calls Try.prog 100 #[.pointer (some ⟨g, 0, none⟩)] w fun e w' => VaP (unqO (s.toList.drop k)) g n s w e w' := by
  obtain ⟨f0, f1, f2, f3⟩ := h.cell
  have T := hide (fun u => unquoted_any s k u hs (by omega))
  unfold unqV at T
  have S0 : Hid (w.drew.cell? ⟨g, 1, none⟩ = some (.string s) ∧ w.drew.cell? ⟨g, 2, none⟩ = some (.int .i64 (k : Int)) ∧ Hid (TB w.drew g n s k ∧ Ch (fun b => b = g) w w.drew)) := ⟨f1, f2, h, ch_drewS (Ch.refl _ _) 1⟩
  have NY := hide need_yes
  have NN := hide need_no
  cases hu : unqO (s.toList.drop k) with
  | none =>
    rw [hu] at T
    simp only [ansU, noneU] at T
    clear h f0 f3 hu
    go_enter Try.func100, Try.ntmps100
    go_upto_region 1 with fail
    clear f1 f2
    go_region_held3 (fun w' => w'.cell? ⟨g, 1, none⟩ = some (.string s) ∧ w'.cell? ⟨g, 2, none⟩ = some (.int .i64 (k : Int)) ∧ Hid (TB w' g n s k ∧ Ch (fun b => b = g) w w')) (first | with_reducible exact S0.out | with_reducible exact keepT (by assumption) (by assumption)) (first
      | (go_at_call 105; (with_reducible refine (T.out _).mono ?_); rintro e v2 ⟨rfl, bv2⟩))
    rename_i hh
    have F := hide hh.2.2.out
    clear hh S0 T
    go_wp2_with fail
    with_reducible refine (NN.out _).mono ?_
    rintro e w' ⟨rfl, hw⟩
    rw [hw]
    go_wp2
    exact ⟨rfl, F.out.2, rfl⟩
  | some q =>
    obtain ⟨v, r⟩ := q
    obtain ⟨p1, p2, -⟩ := unqO_place hu
    rw [hu] at T
    simp only [ansU] at T
    have HP := hide (And.intro p1 p2)
    have HB : Hid ((⟨v.toArray⟩ : ByteArray) = bar v) := rfl
    rw [HB.out] at T
    generalize s.size - r.length = k' at *
    have hk' : k' ≤ 20000 := by omega
    clear h f0 f3 hu p1 p2
    go_enter Try.func100, Try.ntmps100
    go_upto_region 1 with fail
    clear f1 f2
    go_region_held3 (fun w' => w'.cell? ⟨g, 1, none⟩ = some (.string s) ∧ w'.cell? ⟨g, 2, none⟩ = some (.int .i64 (k : Int)) ∧ Hid (TB w' g n s k ∧ Ch (fun b => b = g) w w')) (first | with_reducible exact S0.out | with_reducible exact keepT (by assumption) (by assumption)) (first
      | (go_at_call 105; (with_reducible refine (T.out _).mono ?_); rintro e v2 ⟨rfl, bv2⟩))
    rename_i hh
    have F := hide hh.2.2.out
    clear hh S0 T
    obtain ⟨c0, c1, c2, c3⟩ := F.out.1.cell
    have c32 := c3 2
    have G := hide (F.out.1.place k')
    have C := hide (F.out.2.trans (ch_set _ g 2 (.int .i64 (k' : Int))))
    clear c3
    go_wp2_with fail
    with_reducible refine (NY.out _).mono ?_
    rintro e w' ⟨rfl, hw⟩
    rw [hw]
    go_wp2
    go_ret
    exact ⟨C.out, rfl, k', HP.out.1, HP.out.2, G.out⟩
end Go.Proofs.Ythebcmkainplnaa

namespace Go.Proofs.Ythebcmkainplnaa
open Go.RowKit
set_option maxRecDepth 20000

theorem ext_mid (s : ByteArray) (i j : Nat) : (s.extract i j).toList = (s.toList.drop i).take (j - i) := by
  rw [ByteArray.toList_eq, ByteArray.data_extract, Array.toList_extract, List.extract_eq_take_drop, ByteArray.toList_eq]
/-- How far a name has been read. -/
structure NmS (s : ByteArray) (k0 k : Nat) : Prop where
  le : k0 ≤ k
  len : k - k0 ≤ 32
  in' : k ≤ s.size
  ok : nmF 0 ((s.toList.drop k0).take (k - k0)) = true
  eq : nmT 0 (s.toList.drop k0) = (s.toList.drop k0).take (k - k0) ++ nmT (k - k0) (s.toList.drop k)
theorem NmS.start {s : ByteArray} {k0 : Nat} (h : k0 ≤ s.size) : NmS s k0 k0 := by
  refine ⟨Nat.le_refl _, by omega, h, ?_, ?_⟩
  · rw [Nat.sub_self]; rfl
  · rw [Nat.sub_self]; rfl
theorem NmS.byte {s : ByteArray} {k0 k : Nat} (h : NmS s k0 k) (hk : k < s.size) : (s.toList.drop k0)[k - k0]? = some (s[k]'hk) := by
  rw [List.getElem?_drop, show k0 + (k - k0) = k by have := h.le; omega]
  exact byteAt s k hk
theorem NmS.test {s : ByteArray} {k0 k : Nat} (h : NmS s k0 k) (hk : k < s.size) : nameB (s.extract k0 (k + 1)) = (decide (k - k0 < 32) && nmC (k - k0) (s[k]'hk)) := by
  have hle := h.le
  have hsz : (s.extract k0 (k + 1)).size = k + 1 - k0 := by rw [ByteArray.size_extract]; omega
  unfold nameB
  rw [ext_mid, hsz, show k + 1 - k0 = (k - k0) + 1 by omega, nmF_step (h.byte hk), h.ok, Bool.true_and, decide_eq_true (show 1 ≤ k - k0 + 1 by omega), Bool.true_and, Bool.and_comm]
  congr 1
theorem NmS.next {s : ByteArray} {k0 k : Nat} (h : NmS s k0 k) (hk : k < s.size) (ht : nameB (s.extract k0 (k + 1)) = true) : NmS s k0 (k + 1) := by
  rw [h.test hk, Bool.and_eq_true, decide_eq_true_eq] at ht
  have hle := h.le
  refine ⟨by omega, by omega, by omega, ?_, ?_⟩
  · rw [show k + 1 - k0 = (k - k0) + 1 by omega, nmF_step (h.byte hk), h.ok, ht.2]
    rfl
  · rw [h.eq, drop_byte s k hk, nmT, if_pos ht, show k + 1 - k0 = (k - k0) + 1 by omega, List.take_add_one, h.byte hk]
    simp
theorem NmS.stop {s : ByteArray} {k0 k : Nat} (h : NmS s k0 k) (hk : k < s.size) (ht : nameB (s.extract k0 (k + 1)) = false) : nmT 0 (s.toList.drop k0) = (s.toList.drop k0).take (k - k0) := by
  rw [h.test hk] at ht
  rw [h.eq, drop_byte s k hk, nmT, if_neg, List.append_nil]
  rintro ⟨h1, h2⟩
  rw [decide_eq_true h1, h2] at ht
  cases ht
theorem NmS.ends {s : ByteArray} {k0 k : Nat} (h : NmS s k0 k) (hk : s.size ≤ k) : nmT 0 (s.toList.drop k0) = (s.toList.drop k0).take (k - k0) := by
  have e : s.toList.drop k = [] := List.drop_eq_nil_of_le (by rw [ba_len]; exact hk)
  have e2 : nmT (k - k0) [] = [] := by cases k - k0 <;> rfl
  rw [h.eq, e, e2, List.append_nil]
theorem NmS.fin {s : ByteArray} {k0 k : Nat} (h : NmS s k0 k) (e : nmT 0 (s.toList.drop k0) = (s.toList.drop k0).take (k - k0)) : s.extract k0 k = bar (nmT 0 (s.toList.drop k0)) ∧ (s.toList.drop k0).drop (nmT 0 (s.toList.drop k0)).length = s.toList.drop k ∧ (nmT 0 (s.toList.drop k0)).length ≤ 32 := by
  have hl : (nmT 0 (s.toList.drop k0)).length = k - k0 := by
    rw [e, List.length_take, List.length_drop, ba_len]
    have h1 := h.le
    have h2 := h.in'
    omega
  refine ⟨ba_ext (by rw [bar_list, e, ext_mid]), ?_, by rw [hl]; exact h.len⟩
  rw [hl, List.drop_drop, show k0 + (k - k0) = k by have := h.le; omega]

set_option maxHeartbeats 4000000 in
theorem nameT_any (g n : Nat) (s : ByteArray) (k : Nat) (w : World) (h : TB w g n s k) (hk : k ≤ s.size) (hs : s.size ≤ 20000) :
    Calls Try.prog 99 #[.pointer (some ⟨g, 0, none⟩)] w fun e w' => e = .returned (.string (bar (nmT 0 (s.toList.drop k)))) ∧ Ch (fun b => b = g) w w' ∧ ∃ k', k' ≤ s.size ∧ s.toList.drop k' = (s.toList.drop k).drop (nmT 0 (s.toList.drop k)).length ∧ TB w' g n s k' := by
  obtain ⟨f0, f1, f2, f3⟩ := h.cell
  have H := hide h
  obtain ⟨k0, HK⟩ : ∃ k0, k0 = k := ⟨k, rfl⟩
  subst HK
  clear h
  go_enter Try.func99, Try.ntmps99
  go_wp2
  clear f0 f1 f2 f3
  go_loopg [] s.size (fun gh wr => ∃ k : Nat, k ≤ s.size ∧ s.size - k ≤ gh ∧ Hid (NmS s k0 k) ∧ Hid (TB wr g n s k) ∧ Hid (Ch (fun b => b = g) w wr))
  case atStart => exact ⟨k0, hk, by omega, NmS.start hk, H, Ch.refl _ _⟩
  case round =>
    obtain ⟨k, hk2, hg, A, T, C⟩ := hrel
    obtain ⟨u, rfl⟩ : ∃ u, u = wr := ⟨wr, rfl⟩
    clear H
    obtain ⟨f0, f1, f2, f3⟩ := T.out.cell
    have i0 : (0 : Int) ≤ (k0 : Int) := by omega
    have hle := A.out.le
    by_cases hlt : k < s.size
    · have d1 : decide ((k : Int) < (s.size : Int)) = true := decide_eq_true (by omega)
      have i1 : (k : Int) < (s.size : Int) := by omega
      have i2 : (k0 : Int) ≤ (k : Int) + 1 := by omega
      have i3 : (k : Int) + 1 ≤ (s.size : Int) := by omega
      have hxs : (s.extract k0 (k + 1)).size ≤ 9223372036854775807 := by rw [ByteArray.size_extract]; omega
      have NC := hide (fun u => name_any (s.extract k0 (k + 1)) u hxs)
      clear hxs
      cases ht : nameB (s.extract k0 (k + 1)) with
      | true =>
        have A2 := hide (A.out.next hlt ht)
        rw [ht] at NC
        have f32 := f3 2
        have T2 := hide (fun q => (T.out.drewN q).place (k + 1))
        simp only [show ((k + 1 : Nat) : Int) = (k : Int) + 1 from rfl] at T2
        have C2 := hide (fun q => (ch_drewS C.out q).trans (ch_set _ g 2 (.int .i64 ((k : Int) + 1))))
        clear ht f3
        go_wp2
        go_quiet ((go_at_call 81; exact quiet_w NC.out))
        go_wp2
        go_roundg (s.size - (k + 1))
        case measure => omega
        case rel => exact ⟨k + 1, by omega, by omega, A2, T2.out _, C2.out _⟩
      | false =>
        have A2 := hide (A.out.fin (A.out.stop hlt ht))
        rw [ht] at NC
        have i4 : (k0 : Int) ≤ (k : Int) := by omega
        have i5 : (k : Int) ≤ (s.size : Int) := by omega
        clear ht f3
        go_wp2
        go_quiet ((go_at_call 81; exact quiet_w NC.out))
        go_wp2
        go_quiet (fail)
        go_wp2
        go_ret
        exact ⟨by rw [← A2.out.1]; rfl, ch_drewS (ch_drewS C.out _) _, k, hk2, A2.out.2.1.symm, (T.out.drewN _).drewN _⟩
    · have d1 : decide ((k : Int) < (s.size : Int)) = false := decide_eq_false (by omega)
      have d2 : decide (k < s.size) = false := decide_eq_false hlt
      have A2 := hide (A.out.fin (A.out.ends (by omega)))
      have i4 : (k0 : Int) ≤ (k : Int) := by omega
      have i5 : (k : Int) ≤ (s.size : Int) := by omega
      clear f3
      go_wp2
      go_quiet (fail)
      go_wp2
      go_quiet (fail)
      go_wp2
      go_ret
      exact ⟨by rw [← A2.out.1]; rfl, ch_drewS (ch_drewS C.out _) _, k, hk2, A2.out.2.1.symm, (T.out.drewN _).drewN _⟩
end Go.Proofs.Ythebcmkainplnaa

namespace Go.Proofs.Ythebcmkainplnaa
open Go.RowKit
set_option maxRecDepth 20000

/-- Behind a value: a comma and more, or the end. -/
def rdVC (f : Nat) (l : List UInt8) : Option (List ByteArray × List UInt8) := match tks [44] l with
  | some r => rdV f r
  | none => (tks [41] l).map (fun r => ([], r))
theorem rdV_step (f : Nat) (l : List UInt8) : rdV (f + 1) l = match unqO l with
    | none => none
    | some q => (rdVC f q.2).map (fun z => (bar q.1 :: z.1, z.2)) := by
  rw [rdV]
  cases unqO l with
  | none => rfl
  | some q =>
    simp only
    unfold rdVC
    cases tks [44] q.2 with
    | some r => rfl
    | none =>
      simp only
      cases tks [41] q.2 <;> rfl
/-- Values read so far, and the reader. -/
structure LsS (w wr : World) (g n : Nat) (s : ByteArray) (k : Nat) (a : Option Addr) (j c : Nat) (ss : List ByteArray) : Prop where
  tb : TB wr g n s k
  ch : Ch (fun b => b = g) w wr
  own : wr.ownsRow w.heap.size 9 1 (.slice a j c) j (ss.map Value.string)
  fit : ∀ x ∈ ss, x.size ≤ 20000
  lt : g < w.heap.size
  few : j ≤ s.size
  le : j ≤ k
theorem LsS.to {w wr v : World} {g n k k' j c : Nat} {s : ByteArray} {a : Option Addr} {ss : List ByteArray} (h : LsS w wr g n s k a j c ss) (t : TB v g n s k') (hc : Ch (fun b => b = g) wr v) (hk : k ≤ k') : LsS w v g n s k' a j c ss := by
  refine ⟨t, h.ch.trans hc, row_ch h.own hc (fun b hb e => ?_), h.fit, h.lt, h.few, by have := h.le; omega⟩
  have := (row_cells h.own hb).2
  have := h.lt
  omega
theorem LsS.txt {w wr : World} {g n k j c : Nat} {s : ByteArray} {a : Option Addr} {ss : List ByteArray} (h : LsS w wr g n s k a j c ss) (hs : s.size ≤ 20000) : TxR (fun b => w.heap.size ≤ b) wr a j ss ∧ j ≤ c ∧ (a = none → c = 0) := by
  have hl : ss.length = j := by have := h.own.1; simpa using this
  have hf := h.few
  have h3 : ∀ x ∈ ss, x.size ≤ 9223372036854775807 := fun x hx => by have := h.fit x hx; omega
  rcases id h.own.2 with ⟨h1, h2⟩ | ⟨b, c', cur, h1, h2, _, h4, _⟩
  · simp only [Value.slice.injEq] at h1
    exact ⟨⟨hl, by omega, h3, Or.inl h2⟩, by omega, fun _ => h1.2.2⟩
  · simp only [Value.slice.injEq, true_and] at h1
    obtain ⟨rfl, rfl⟩ := h1
    refine ⟨⟨hl, by omega, h3, Or.inr ⟨b, 0, rfl, h2, fun i hi => ?_⟩⟩, h4, fun e => by cases e⟩
    rw [Nat.zero_add, h.own.cellAt i (by omega), List.getElem?_map, List.getD_eq_getElem?_getD, List.getElem?_eq_getElem (by omega)]
    rfl
theorem ownS_one (w : World) (x : ByteArray) (B : Nat) (hB : B ≤ w.heap.size) : (w.alloc (.cells #[.string x] 9)).ownsRow B 9 1 (.slice (some ⟨w.heap.size, 0, none⟩) 1 1) 1 ([x].map Value.string) :=
  ⟨rfl, Or.inr ⟨w.heap.size, 1, #[.string x], rfl, hB, heap_alloc_new w _, Nat.le_refl _, by decide, rfl, rfl⟩⟩
/-- One more. -/
theorem LsS.push {w wr v v4 : World} {g n k k' j c g' c' : Nat} {s x : ByteArray} {a : Option Addr} {ss : List ByteArray} (h : LsS w wr g n s k a j c ss) (t : TB v g n s k') (hc : Ch (fun b => b = g) wr v) (hk : k < k') (hk' : k' ≤ s.size) (hx : x.size ≤ 20000)
    (o : v4.ownsRow w.heap.size 9 1 (.slice (some ⟨g', 0, none⟩) (j + 1) c') (j + 1) (ss.map Value.string ++ [Value.string x])) (gr : (v.alloc (.cells #[.string x] 9)).grownBy v4 (Value.slice a j c).ownBlock) : LsS w v4 g n s k' (some ⟨g', 0, none⟩) (j + 1) c' (ss ++ [x]) := by
  have h0 := h.to t hc (Nat.le_of_lt hk)
  have hne : ∀ b, (Value.slice a j c).ownBlock = some b → w.heap.size ≤ b := fun b hb => (row_cells h0.own hb).2
  have c4 : Ch (fun b => (Value.slice a j c).ownBlock = some b) (v.alloc (.cells #[.string x] 9)) v4 := Ch.grown gr
  have hlt := h.lt
  have hl := h.le
  refine ⟨(t.block (Below.heap_alloc _ _ _ t.lt)).block (c4.block g (by simp; have := t.lt; omega) (fun e => by have := hne g e; omega)), ?_, ?_, ?_, hlt, by omega, by omega⟩
  · have cv := h0.ch.alloc (.cells #[.string x] 9)
    refine ⟨c4.os.trans cv.os, c4.tape.trans cv.tape, c4.output.trans cv.output, Nat.le_trans cv.size c4.size, fun b hb hn => ?_⟩
    rw [c4.block b (Nat.lt_of_lt_of_le hb cv.size) (fun e => by have := hne b e; omega)]
    exact cv.block b hb hn
  · rw [List.map_append]
    exact o
  · intro y hy
    rcases List.mem_append.1 hy with hy | hy
    · exact h.fit y hy
    · obtain rfl := List.mem_singleton.1 hy
      exact hx
/-- What the list tells. -/
def LsP (res : Option (List ByteArray × List UInt8)) (g n : Nat) (s : ByteArray) (w : World) (e : Ending) (w' : World) : Prop :=
  Ch (fun b => b = g) w w' ∧ match res with
  | none => e = refE
  | some (vs, r) => ∃ (a : Option Addr) (j c k' : Nat), e = .returned (.slice a j c) ∧ TxR (fun b => w.heap.size ≤ b) w' a j vs ∧ j ≤ c ∧ (a = none → c = 0) ∧ k' ≤ s.size ∧ s.toList.drop k' = r ∧ TB w' g n s k'
theorem unq_len {l v r : List UInt8} (h : unqO l = some (v, r)) : v.length ≤ l.length := by
  rw [unqO_fwd h, List.length_append]
  have : v.length ≤ (quoB v).length := by
    unfold quoB
    have h2 : v.length ≤ (v.flatMap qb).length := by
      clear h
      induction v with
      | nil => simp
      | cons c t ih =>
        rw [List.flatMap_cons, List.length_append, List.length_cons]
        have : 1 ≤ (qb c).length := by
          unfold qb
          split
          · simp
          · split <;> simp
        omega
    simp only [List.length_cons, List.length_append, List.length_nil]
    omega
  omega
theorem lit_list (l : List UInt8) : (⟨l.toArray⟩ : ByteArray).toList = l := ByteArray.toList_mk l
/-- A sign of one byte: what stands behind it. -/
theorem took_one {s : ByteArray} {k : Nat} {c : UInt8} (h : tookB s k ⟨#[c]⟩ = true) : tks [c] (s.toList.drop k) = some (s.toList.drop (k + 1)) ∧ k + 1 ≤ s.size := by
  rcases tookB_yes h with ⟨h1, h2⟩ | h1
  · rw [show (⟨#[c]⟩ : ByteArray).toList = [c] from lit_list [c]] at h1
    exact ⟨h1, h2⟩
  · cases h1
theorem took_one0 {s : ByteArray} {k : Nat} {c : UInt8} (h : tookB s k ⟨#[c]⟩ = false) : tks [c] (s.toList.drop k) = none := by
  have := tookB_no h
  rwa [show (⟨#[c]⟩ : ByteArray).toList = [c] from lit_list [c]] at this
theorem took_two {s : ByteArray} {k : Nat} {c d : UInt8} (h : tookB s k ⟨#[c, d]⟩ = true) : tks [c, d] (s.toList.drop k) = some (s.toList.drop (k + 2)) ∧ k + 2 ≤ s.size := by
  rcases tookB_yes h with ⟨h1, h2⟩ | h1
  · rw [show (⟨#[c, d]⟩ : ByteArray).toList = [c, d] from lit_list [c, d]] at h1
    exact ⟨h1, h2⟩
  · cases h1
theorem took_two0 {s : ByteArray} {k : Nat} {c d : UInt8} (h : tookB s k ⟨#[c, d]⟩ = false) : tks [c, d] (s.toList.drop k) = none := by
  have := tookB_no h
  rwa [show (⟨#[c, d]⟩ : ByteArray).toList = [c, d] from lit_list [c, d]] at this
/-- took, at a sign of one byte. -/
theorem took1 (g n : Nat) (s : ByteArray) (k : Nat) (c : UInt8) (w : World) (h : TB w g n s k) (hk : k ≤ s.size) (hs : s.size ≤ 20000) :
    Calls Try.prog 90 #[.pointer (some ⟨g, 0, none⟩), .string ⟨#[c]⟩] w fun e w' => e = .returned (.bool (tookB s k ⟨#[c]⟩)) ∧ TB w' g n s (if tookB s k ⟨#[c]⟩ then k + 1 else k) ∧ Ch (fun b => b = g) w w' :=
  took_any g n s k ⟨#[c]⟩ w h hk hs (by show 1 ≤ 2; decide)
theorem took2 (g n : Nat) (s : ByteArray) (k : Nat) (c d : UInt8) (w : World) (h : TB w g n s k) (hk : k ≤ s.size) (hs : s.size ≤ 20000) :
    Calls Try.prog 90 #[.pointer (some ⟨g, 0, none⟩), .string ⟨#[c, d]⟩] w fun e w' => e = .returned (.bool (tookB s k ⟨#[c, d]⟩)) ∧ TB w' g n s (if tookB s k ⟨#[c, d]⟩ then k + 2 else k) ∧ Ch (fun b => b = g) w w' :=
  took_any g n s k ⟨#[c, d]⟩ w h hk hs (by show 2 ≤ 2; decide)

set_option maxHeartbeats 4000000 in
theorem listV_any (g n : Nat) (s : ByteArray) (k : Nat) (w : World) (h : TB w g n s k) (hk : k ≤ s.size) (hs : s.size ≤ 20000) :
    Calls Try.prog 101 #[.pointer (some ⟨g, 0, none⟩), .func (.func 100) #[.pointer (some ⟨g, 0, none⟩)] #[]] w fun e w' => LsP (rdB (s.toList.drop k)) g n s w e w' := by
  have NY := hide need_yes
  have NN := hide need_no
  have hg := h.lt
  have T1 := hide (took1 g n s k 40 w h hk hs)
  have TK := hide (fun k c u (q : TB u g n s k) (hk : k ≤ s.size) => took1 g n s k c u q hk hs)
  have VL := hide (fun k u (q : TB u g n s k) (hk : k ≤ s.size) => valueT_any g n s k u q hk hs)
  obtain ⟨i1, hj, hy0, hy1, hy2⟩ := info_parts Try.infoS
  obtain ⟨ans, HA⟩ : ∃ ans, Hid (rdB (s.toList.drop k) = ans) := ⟨_, rfl⟩
  rw [HA.out]
  clear h
  go_enter Try.func101, Try.ntmps101
  go_wp2_with fail
  with_reducible refine T1.out.mono ?_
  cases h1 : tookB s k ⟨#[40]⟩ with
  | false =>
    have F : Hid (none = ans) := by
      rw [← HA.out]
      unfold rdB
      rw [took_one0 h1]
      rfl
    clear T1 h1
    rintro e u1 ⟨rfl, t1, c1⟩
    have C1 := hide c1
    clear c1 t1
    go_wp2_with fail
    with_reducible refine (NN.out _).mono ?_
    rintro e w' ⟨rfl, hw⟩
    rw [hw]
    go_wp2
    exact ⟨rfl, C1.out, by rw [← F.out]⟩
  | true =>
    obtain ⟨q1, q2⟩ := took_one h1
    have HA2 : Hid ((match tks [41] (s.toList.drop (k + 1)) with | some r' => some ([], r') | none => rdV (s.toList.drop (k + 1)).length (s.toList.drop (k + 1))) = ans) := by
      rw [← HA.out]
      show _ = rdB _
      unfold rdB
      rw [q1]
      rfl
    clear T1 h1 q1 HA
    rintro e u1 ⟨rfl, t1, c1⟩
    rw [if_pos rfl] at t1
    have C1 := hide c1
    have TB1 := hide t1
    have K2 := hide (TK.out (k + 1) 41 u1 t1 q2)
    clear c1 t1
    go_wp2_with fail
    with_reducible refine (NY.out _).mono ?_
    rintro e w' ⟨rfl, hw⟩
    rw [hw]
    clear hw
    go_wp2_with fail
    with_reducible refine K2.out.mono ?_
    cases h2 : tookB s (k + 1) ⟨#[41]⟩ with
    | true =>
      obtain ⟨q3, q4⟩ := took_one h2
      rw [q3] at HA2
      simp only at HA2
      clear K2 h2 q3
      rintro e u2 ⟨rfl, t2, c2⟩
      rw [if_pos rfl] at t2
      have C2 := hide (C1.out.trans c2)
      have T2 := hide t2
      clear c2 t2 TB1 C1
      go_wp2
      go_ret
      rw [← HA2.out]
      exact ⟨C2.out, none, 0, 0, _, rfl, ⟨rfl, by decide, fun x hx => (by cases hx), Or.inl rfl⟩, Nat.le_refl _, fun _ => rfl, q4, rfl, T2.out⟩
    | false =>
      rw [took_one0 h2] at HA2
      simp only at HA2
      clear K2 h2
      rintro e u2 ⟨rfl, t2, c2⟩
      rw [if_neg (by decide)] at t2
      have C2 := hide (C1.out.trans c2)
      have V1 := hide (VL.out (k + 1) u2 t2 q2)
      clear c2 t2 TB1 C1
      obtain ⟨F0, hF0⟩ : ∃ F0, (s.toList.drop (k + 1)).length = F0 := ⟨_, rfl⟩
      have hF0' : F0 = s.size - (k + 1) := by rw [← hF0, List.length_drop, ba_len]
      rw [hF0] at HA2
      clear hF0
      cases hu : unqO (s.toList.drop (k + 1)) with
      | none =>
        rw [hu] at V1
        have F : Hid (none = ans) := by
          rw [← HA2.out]
          cases F0 with
          | zero => rfl
          | succ f => rw [rdV_step, hu]; rfl
        go_wp2_with fail
        with_reducible refine V1.out.mono ?_
        rintro e u3 ⟨c3, p3⟩
        obtain rfl : e = refE := p3
        have C3 := hide (C2.out.trans c3)
        clear c3 V1 hu
        go_wp2
        exact ⟨rfl, C3.out, by rw [← F.out]⟩
      | some q =>
        obtain ⟨v, r⟩ := q
        rw [hu] at V1
        have hvl := unq_len hu
        rw [List.length_drop, ba_len] at hvl
        obtain ⟨-, -, hpl⟩ := unqO_place hu
        obtain ⟨f, rfl⟩ : ∃ f, F0 = f + 1 := ⟨F0 - 1, by omega⟩
        rw [rdV_step, hu] at HA2
        simp only at HA2
        go_wp2_with fail
        with_reducible refine V1.out.mono ?_
        rintro e u3 ⟨c3, p3⟩
        obtain ⟨rfl, k1, hk1, hd1, t3⟩ : e = .returned (.string (bar v)) ∧ ∃ k', k' ≤ s.size ∧ s.toList.drop k' = r ∧ TB u3 g n s k' := p3
        have hk1b : k + 1 < k1 ∨ k1 = s.size := by
          by_cases e0 : k1 = s.size
          · exact Or.inr e0
          · left
            have h1 : (s.toList.drop k1).length = r.length := by rw [hd1]
            rw [List.length_drop, ba_len] at h1
            omega
        have hkk : k + 1 < k1 := by
          rcases hk1b with h | h
          · exact h
          · omega
        have LS : Hid (LsS w (u3.alloc (.cells #[.string (bar v)] 9)) g n s k1 (some ⟨u3.heap.size, 0, none⟩) 1 1 [bar v]) := by
          have hcw := C2.out.trans c3
          refine ⟨t3.block (Below.heap_alloc _ _ _ t3.lt), (hcw.alloc _), ownS_one u3 (bar v) _ hcw.size, fun x hx => ?_, hg, by omega, by omega⟩
          obtain rfl := List.mem_singleton.1 hx
          rw [bar_size]
          omega
        have HI : Hid (ans = (rdVC f (s.toList.drop k1)).map (fun z => ([bar v] ++ z.1, z.2))) := by
          rw [← HA2.out, hd1]
          rfl
        have hf : s.size - k1 ≤ f := by omega
        clear c3 t3 V1 hu C2 HA2 hk1b hd1 hvl hpl
        generalize hxg : bar v = x0 at *
        clear hxg
        generalize hgb : u3.heap.size = gb at *
        go_upto_region 5 with fail
        generalize u3.alloc (.cells #[.string x0] 9) = u4 at LS ⊢
        clear hgb
        go_loopg [5] s.size (fun gh x wr => ∃ (k : Nat) (a : Option Addr) (j c : Nat) (ss : List ByteArray) (F : Nat), x = .slice a j c ∧ k ≤ s.size ∧ s.size - k ≤ gh ∧ s.size - k ≤ F ∧ Hid (LsS w wr g n s k a j c ss) ∧ Hid (ans = (rdVC F (s.toList.drop k)).map (fun z => (ss ++ z.1, z.2))))
        case atStart => exact ⟨k1, _, 1, 1, [x0], f, rfl, hk1, by omega, hf, LS, HI⟩
        case round =>
          clear LS HI hf hk1 hkk q2 hk
          obtain ⟨k, a, j, c, ss, F, rfl, hk, hg1, hF, LS, HI⟩ := hrel
          obtain ⟨u, rfl⟩ : ∃ u, u = wr := ⟨wr, rfl⟩
          have K5 := hide (TK.out k 44 u LS.out.tb hk)
          go_wp2_with fail
          with_reducible refine K5.out.mono ?_
          cases h5 : tookB s k ⟨#[44]⟩ with
          | true =>
            obtain ⟨q5, q6⟩ := took_one h5
            have hF1 : 1 ≤ F := by omega
            obtain ⟨F, rfl⟩ : ∃ F', F = F' + 1 := ⟨F - 1, by omega⟩
            have HI2 : Hid (ans = (rdV (F + 1) (s.toList.drop (k + 1))).map (fun z => (ss ++ z.1, z.2))) := by
              have := HI.out
              unfold rdVC at this
              rw [q5] at this
              exact this
            clear K5 h5 q5 HI hF1
            rintro e u5 ⟨rfl, t5, c5⟩
            rw [if_pos rfl] at t5
            have C5 := hide c5
            have V5 := hide (VL.out (k + 1) u5 t5 q6)
            clear c5 t5
            cases hu : unqO (s.toList.drop (k + 1)) with
            | none =>
              rw [hu] at V5
              have FN : Hid (none = ans) := by rw [HI2.out, rdV_step, hu]; exact rfl
              go_wp2_with fail
              with_reducible refine V5.out.mono ?_
              rintro e u6 ⟨c6, p6⟩
              obtain rfl : e = refE := p6
              have C6 := hide ((LS.out.ch.trans C5.out).trans c6)
              clear c6 V5 hu
              go_wp2
              exact ⟨rfl, C6.out, by rw [← FN.out]⟩
            | some q =>
              obtain ⟨v, r⟩ := q
              rw [hu] at V5
              have hvl := unq_len hu
              rw [List.length_drop, ba_len] at hvl
              obtain ⟨-, -, hpl⟩ := unqO_place hu
              rw [rdV_step, hu] at HI2
              simp only at HI2
              go_wp2_with fail
              with_reducible refine V5.out.mono ?_
              rintro e u6 ⟨c6, p6⟩
              obtain ⟨rfl, k6, hk6, hd6, t6⟩ : e = .returned (.string (bar v)) ∧ ∃ k', k' ≤ s.size ∧ s.toList.drop k' = r ∧ TB u6 g n s k' := p6
              have hk6b : k + 1 < k6 := by
                by_cases e0 : k6 = s.size
                · omega
                · have h1 : (s.toList.drop k6).length = r.length := by rw [hd6]
                  rw [List.length_drop, ba_len] at h1
                  omega
              have HI3 : Hid (ans = (rdVC F (s.toList.drop k6)).map (fun z => (ss ++ [bar v] ++ z.1, z.2))) := by
                rw [HI2.out, hd6, Option.map_map]
                show _ = _
                congr 1
                funext z
                simp
              have hxs : (bar v).size ≤ 20000 := by rw [bar_size]; omega
              have T6 := hide t6
              have C6 := hide (C5.out.trans c6)
              have hjs : j + 1 ≤ 20001 := by have := LS.out.few; omega
              clear c6 t6 V5 hu HI2 hd6 hvl hpl C5
              generalize bar v = x at *
              have L6 := hide (LS.out.to T6.out C6.out (by omega : k ≤ k6))
              have O6 : Hid ((u6.alloc (.cells #[.string x] 9)).ownsRow w.heap.size 9 1 (.slice a j c) j (ss.map Value.string)) := row_ch L6.out.own ((Ch.refl (fun _ => False) u6).alloc _) (fun _ _ => id)
              have HBS : Hid (w.heap.size ≤ (u6.alloc (.cells #[.string x] 9)).heap.size) := by
                have := L6.out.ch.size
                show _ ≤ _
                simp
                omega
              go_wp2_with (at_builtin; refine wpList_push _ rfl _ _ 22 rfl w.heap.size 9 i1 (.string .empty) 16 Try.underlying22 hj hy0 hy1 hy2 rfl a j c (ss.map Value.string) rfl O6.out ⟨u6.heap.size, 0, none⟩ 1 (.string x) rfl (one_strcell u6 x _) rfl (by unfold maxLen; omega) (by omega) HBS.out ?_)
              intro g' c' w4 o4 gr4 _
              have L7 := hide (LS.out.push T6.out C6.out (by omega) hk6 hxs o4 gr4)
              clear o4 gr4 O6 HBS L6 LS T6 C6
              go_wp2
              go_roundg (s.size - k6)
              case measure => omega
              case rel => exact ⟨k6, _, j + 1, c', ss ++ [x], F, rfl, hk6, by omega, by omega, L7, HI3⟩
          | false =>
            have q5 := took_one0 h5
            have HI2 : Hid (ans = ((tks [41] (s.toList.drop k)).map (fun r => (([] : List ByteArray), r))).map (fun z => (ss ++ z.1, z.2))) := by
              have := HI.out
              unfold rdVC at this
              rw [q5] at this
              exact this
            clear K5 h5 q5 HI
            rintro e u5 ⟨rfl, t5, c5⟩
            rw [if_neg (by decide)] at t5
            have L5 := hide (LS.out.to t5 c5 (Nat.le_refl _))
            have K6 := hide (TK.out k 41 u5 t5 hk)
            clear c5 t5 LS
            go_wp2_with fail
            with_reducible refine K6.out.mono ?_
            cases h6 : tookB s k ⟨#[41]⟩ with
            | true =>
              obtain ⟨q7, q8⟩ := took_one h6
              rw [q7] at HI2
              simp only [Option.map_some, List.append_nil] at HI2
              clear K6 h6 q7
              rintro e u6 ⟨rfl, t6, c6⟩
              rw [if_pos rfl] at t6
              have L6 := hide (L5.out.to t6 c6 (Nat.le_succ _))
              clear c6 t6 L5
              go_wp2_with fail
              with_reducible refine (NY.out _).mono ?_
              rintro e w' ⟨rfl, hw⟩
              rw [hw]
              clear hw
              go_wp2
              go_ret
              obtain ⟨x1, x2, x3⟩ := L6.out.txt hs
              rw [HI2.out]
              exact ⟨L6.out.ch, a, j, c, k + 1, rfl, x1, x2, x3, q8, rfl, L6.out.tb⟩
            | false =>
              rw [took_one0 h6] at HI2
              clear K6 h6
              rintro e u6 ⟨rfl, t6, c6⟩
              have C6 := hide (L5.out.ch.trans c6)
              clear c6 t6
              go_wp2_with fail
              with_reducible refine (NN.out _).mono ?_
              rintro e w' ⟨rfl, hw⟩
              rw [hw]
              clear hw
              go_wp2
              exact ⟨rfl, C6.out, by rw [HI2.out]; rfl⟩
end Go.Proofs.Ythebcmkainplnaa

namespace Go.Proofs.Ythebcmkainplnaa
open Go.RowKit
set_option maxRecDepth 20000

/-- What a reader of a matcher tells. -/
def RdP (res : Option (Mt × List UInt8)) (g n : Nat) (s : ByteArray) (w : World) (e : Ending) (w' : World) : Prop :=
  Ch (fun b => b = g) w w' ∧ match res with
  | none => e = refE
  | some (m, r) => ∃ (h : Hm) (k' : Nat), e = .returned (.agg #[.int .i64 h.op, .string h.nm, .string h.vl, .slice h.va h.vn h.vc, .slice h.ka h.kn h.kc]) ∧ SeeM (fun b => w.heap.size ≤ b) w' m h ∧ k' ≤ s.size ∧ s.toList.drop k' = r ∧ TB w' g n s k'
theorem leaf_see (S : Nat → Prop) (w : World) {op : Int} {nm vl : ByteArray} (ho : (Lit.int .i64 op).wf = true) (h1 : nm.size ≤ 9223372036854775807) (h2 : vl.size ≤ 9223372036854775807) : SeeM S w (.mk op nm vl [] []) ⟨op, nm, vl, none, 0, 0, none, 0, 0⟩ := by
  rw [seeM_iff]
  refine ⟨rfl, rfl, rfl, ⟨ho, h1, h2, Nat.le_refl _, fun _ => rfl, by show (0 : Nat) * 88 ≤ _; decide, Nat.le_refl _, fun _ => rfl⟩, ⟨rfl, by show (0 : Nat) * 16 ≤ _; omega, ?_, Or.inl rfl⟩, rfl, Or.inl rfl⟩
  intro s hs
  cases hs
theorem vals_see {S : Nat → Prop} {w : World} {op : Int} {nm vl : ByteArray} {a : Option Addr} {j c : Nat} {vs : List ByteArray} (ho : (Lit.int .i64 op).wf = true) (h1 : nm.size ≤ 9223372036854775807) (h2 : vl.size ≤ 9223372036854775807) (t : TxR S w a j vs) (hj : j ≤ c) (ha : a = none → c = 0) : SeeM S w (.mk op nm vl vs []) ⟨op, nm, vl, a, j, c, none, 0, 0⟩ := by
  rw [seeM_iff]
  exact ⟨rfl, rfl, rfl, ⟨ho, h1, h2, hj, ha, by show (0 : Nat) * 88 ≤ _; decide, Nat.le_refl _, fun _ => rfl⟩, t, rfl, Or.inl rfl⟩
theorem BoxM.zero (w : World) : BoxM (w.alloc (.cells #[.int .i64 0, .string ⟨#[]⟩, .string ⟨#[]⟩, .slice none 0 0, .slice none 0 0] 25)) w.heap.size hm0 := boxM_new w hm0
/-- What is written into a box of the call's own leaves the rest. -/
theorem ch_box {g B : Nat} {w v : World} {h : Hm} (c : Ch (fun b => b = g) w v) (hB : w.heap.size ≤ B) : Ch (fun b => b = g) w (put5 v B h) := by
  have c5 := ch_put5 v B h
  refine ⟨c5.os.trans c.os, c5.tape.trans c.tape, c5.output.trans c.output, Nat.le_trans c.size c5.size, fun b hb hn => ?_⟩
  rw [c5.block b (Nat.lt_of_lt_of_le hb c.size) (by omega)]
  exact c.block b hb hn
theorem see_box {B : Nat} {w v : World} {m : Mt} {h h' : Hm} (q : SeeM (fun b => w.heap.size + 1 ≤ b) v m h) (hB : B = w.heap.size) : SeeM (fun b => w.heap.size ≤ b) (put5 v B h') m h :=
  (q.ch (ch_put5 v B h') (fun b hb e => by omega)).mono (fun b _ hb => by omega)
theorem tb_box {g n k B : Nat} {v : World} {s : ByteArray} {h' : Hm} (t : TB v g n s k) (hB : g ≠ B) : TB (put5 v B h') g n s k := t.block ((ch_put5 v B h').block g t.lt hB)

set_option maxHeartbeats 8000000 in
theorem named_any (g n : Nat) (s : ByteArray) (k : Nat) (w : World) (h : TB w g n s k) (hk : k ≤ s.size) (hs : s.size ≤ 20000) :
    Calls Try.prog 92 #[.pointer (some ⟨g, 0, none⟩)] w fun e w' => RdP (rdN (s.toList.drop k)) g n s w e w' := by
  have NY := hide need_yes
  have NN := hide need_no
  have hg := h.lt
  have TK1 := hide (fun k c u (q : TB u g n s k) (hk : k ≤ s.size) => took1 g n s k c u q hk hs)
  have TK2 := hide (fun k c d u (q : TB u g n s k) (hk : k ≤ s.size) => took2 g n s k c d u q hk hs)
  have VL := hide (fun k u (q : TB u g n s k) (hk : k ≤ s.size) => valueT_any g n s k u q hk hs)
  have LV := hide (fun k u (q : TB u g n s k) (hk : k ≤ s.size) => listV_any g n s k u q hk hs)
  obtain ⟨W, hW⟩ : ∃ W, Hid (w.alloc (.cells #[.int .i64 0, .string ⟨#[]⟩, .string ⟨#[]⟩, .slice none 0 0, .slice none 0 0] 25) = W) := ⟨_, rfl⟩
  have LW : Hid (Below w.heap.size w W) := by rw [← hW.out]; exact (Below.refl _ _).alloc (Nat.le_refl _) _
  have B0 : Hid (BoxM W w.heap.size hm0) := by rw [← hW.out]; exact BoxM.zero w
  have SZ : Hid (W.heap.size = w.heap.size + 1) := by rw [← hW.out]; show _ = _; simp
  have HG : Hid (w.heap.size ≠ g) := by show _ ≠ _; omega
  have HG' : Hid (g ≠ w.heap.size) := by show _ ≠ _; omega
  have NM := hide (nameT_any g n s k W (h.below LW.out) hk hs)
  obtain ⟨ans, HA⟩ : ∃ ans, Hid (rdN (s.toList.drop k) = ans) := ⟨_, rfl⟩
  rw [HA.out]
  unfold rdN at HA
  have hnl : (nmT 0 (s.toList.drop k)).length ≤ 20000 := by
    have h1 := nmT_pre 0 (s.toList.drop k)
    have h2 : (s.toList.drop k).length = (nmT 0 (s.toList.drop k)).length + ((s.toList.drop k).drop (nmT 0 (s.toList.drop k)).length).length := by
      rw [← List.length_append, ← h1]
    rw [List.length_drop, ba_len] at h2
    omega
  obtain ⟨nm, hnm⟩ : ∃ nm, bar (nmT 0 (s.toList.drop k)) = nm := ⟨_, rfl⟩
  have hns : nm.size ≤ 20000 := by rw [← hnm, bar_size]; exact hnl
  rw [hnm] at HA NM
  clear h hnm
  go_enter Try.func92, Try.ntmps92
  go_upto_region 1 with fail
  rw [hW.out]
  clear hW
  go_wp2_with fail
  with_reducible refine NM.out.mono ?_
  rintro e u1 ⟨rfl, c1, k1, hk1, hd1, t1⟩
  rw [← hd1] at HA
  have C1 : Hid (Ch (fun b => b = g) w u1) := ((Ch.of_below LW.out).more (fun _ _ => False.elim)).trans c1
  have B1 := hide (B0.out.block (c1.block _ B0.out.lt HG.out))
  have S1 : Hid (w.heap.size + 1 ≤ u1.heap.size) := by rw [← SZ.out]; exact c1.size
  have T1 := hide t1
  clear c1 t1 NM LW B0 SZ hd1 hnl
  unfold rdA at HA

  have K1 := hide (TK1.out k1 61 u1 T1.out hk1)
  go_wp2_with fail
  with_reducible refine K1.out.mono ?_
  cases h1 : tookB s k1 ⟨#[61]⟩ with
  | true =>
    obtain ⟨q1, q2⟩ := took_one h1
    rw [q1] at HA
    simp only at HA
    clear K1 h1 q1
    rintro e u2 ⟨rfl, t2, c2⟩
    rw [if_pos rfl] at t2
    have C2 := hide (C1.out.trans c2)
    have B2 := hide (B1.out.block (c2.block _ B1.out.lt HG.out))
    have T2 := hide t2
    clear c2 t2 T1 B1
    have V := hide (VL.out (k1 + 1) u2 T2.out q2)
    cases hu : unqO (s.toList.drop (k1 + 1)) with
    | none =>
      rw [hu] at V HA
      have FN : Hid (none = ans) := HA.out
      go_wp2_with fail
      with_reducible refine V.out.mono ?_
      rintro e u3 ⟨c3, p3⟩
      obtain rfl : e = refE := p3
      have C3 := hide (C2.out.trans c3)
      clear c3 V hu
      go_wp2
      exact ⟨rfl, C3.out, by rw [← FN.out]⟩
    | some q =>
      obtain ⟨v, r⟩ := q
      rw [hu] at V HA
      have hvl := unq_len hu
      rw [List.length_drop, ba_len] at hvl
      simp only [Option.map_some] at HA
      go_wp2_with fail
      with_reducible refine V.out.mono ?_
      rintro e u3 ⟨c3, p3⟩
      obtain ⟨rfl, kz, hkz, hdz, tz⟩ : e = .returned (.string (bar v)) ∧ ∃ k', k' ≤ s.size ∧ s.toList.drop k' = r ∧ TB u3 g n s k' := p3
      have hvs : (bar v).size ≤ 20000 := by rw [bar_size]; omega
      generalize bar v = vl at *
      have DN : Hid (RdP ans g n s w (.returned (.agg #[.int .i64 1, .string nm, .string vl, .slice none 0 0, .slice none 0 0])) (put5 u3 w.heap.size ⟨1, nm, vl, none, 0, 0, none, 0, 0⟩)) := by
        rw [← HA.out]
        exact ⟨ch_box (C2.out.trans c3) (Nat.le_refl _), ⟨1, nm, vl, none, 0, 0, none, 0, 0⟩, kz, rfl, see_box (leaf_see _ _ (by decide) (by omega) (by omega)) rfl, hkz, hdz, tb_box tz HG'.out⟩
      have B3 := hide (B2.out.block (c3.block _ B2.out.lt HG.out))
      clear c3 tz V hu hdz hvl HA
      obtain ⟨d0, d1, d2, d3, d4, df⟩ := B3.out.all
      have f0 := df 0
      have f1 := df 1
      have f2 := df 2
      have f3 := df 3
      have f4 := df 4
      dsimp only [hm0] at d0 d1 d2 d3 d4
      have FP := hide (B3.out.put ⟨1, nm, vl, none, 0, 0, none, 0, 0⟩)
      clear df
      go_wp2
      obtain ⟨e0, e1, e2, e3, e4, _⟩ := FP.out.all
      unfold put5 at e0 e1 e2 e3 e4
      dsimp only at e0 e1 e2 e3 e4
      exact bodyPost_ret (v := .agg #[.int .i64 1, .string nm, .string vl, .slice none 0 0, .slice none 0 0]) (by simp [results, Try.results92, go_sem, e0, e1, e2, e3, e4]) rfl DN.out
  | false =>
    rw [took_one0 h1] at HA
    simp only at HA
    clear K1 h1
    rintro e u2 ⟨rfl, t2, c2⟩
    rw [if_neg (by decide)] at t2
    have C2 := hide (C1.out.trans c2)
    have B2 := hide (B1.out.block (c2.block _ B1.out.lt HG.out))
    have S2 : Hid (w.heap.size + 1 ≤ u2.heap.size) := Nat.le_trans S1.out c2.size
    have T2 := hide t2
    clear c2 t2 T1 B1 S1
    have K2 := hide (TK2.out k1 33 61 u2 T2.out hk1)
    go_wp2_with fail
    with_reducible refine K2.out.mono ?_
    cases h2 : tookB s k1 ⟨#[33, 61]⟩ with
    | true =>
      obtain ⟨q1, q2⟩ := took_two h2
      rw [q1] at HA
      simp only at HA
      clear K2 h2 q1
      rintro e u3 ⟨rfl, t3, c3⟩
      rw [if_pos rfl] at t3
      have C3 := hide (C2.out.trans c3)
      have B3 := hide (B2.out.block (c3.block _ B2.out.lt HG.out))
      have T3 := hide t3
      clear c3 t3 T2 B2
      have V := hide (VL.out (k1 + 2) u3 T3.out q2)
      cases hu : unqO (s.toList.drop (k1 + 2)) with
      | none =>
        rw [hu] at V HA
        have FN : Hid (none = ans) := HA.out
        go_wp2_with fail
        with_reducible refine V.out.mono ?_
        rintro e u4 ⟨c4, p4⟩
        obtain rfl : e = refE := p4
        have C4 := hide (C3.out.trans c4)
        clear c4 V hu
        go_wp2
        exact ⟨rfl, C4.out, by rw [← FN.out]⟩
      | some q =>
        obtain ⟨v, r⟩ := q
        rw [hu] at V HA
        have hvl := unq_len hu
        rw [List.length_drop, ba_len] at hvl
        simp only [Option.map_some] at HA
        go_wp2_with fail
        with_reducible refine V.out.mono ?_
        rintro e u4 ⟨c4, p4⟩
        obtain ⟨rfl, kz, hkz, hdz, tz⟩ : e = .returned (.string (bar v)) ∧ ∃ k', k' ≤ s.size ∧ s.toList.drop k' = r ∧ TB u4 g n s k' := p4
        have hvs : (bar v).size ≤ 20000 := by rw [bar_size]; omega
        generalize bar v = vl at *
        have DN : Hid (RdP ans g n s w (.returned (.agg #[.int .i64 2, .string nm, .string vl, .slice none 0 0, .slice none 0 0])) (put5 u4 w.heap.size ⟨2, nm, vl, none, 0, 0, none, 0, 0⟩)) := by
          rw [← HA.out]
          exact ⟨ch_box (C3.out.trans c4) (Nat.le_refl _), ⟨2, nm, vl, none, 0, 0, none, 0, 0⟩, kz, rfl, see_box (leaf_see _ _ (by decide) (by omega) (by omega)) rfl, hkz, hdz, tb_box tz HG'.out⟩
        have B4 := hide (B3.out.block (c4.block _ B3.out.lt HG.out))
        clear c4 tz V hu hdz hvl HA
        obtain ⟨d0, d1, d2, d3, d4, df⟩ := B4.out.all
        have f0 := df 0
        have f1 := df 1
        have f2 := df 2
        have f3 := df 3
        have f4 := df 4
        dsimp only [hm0] at d0 d1 d2 d3 d4
        have FP := hide (B4.out.put ⟨2, nm, vl, none, 0, 0, none, 0, 0⟩)
        clear df
        go_wp2
        obtain ⟨e0, e1, e2, e3, e4, _⟩ := FP.out.all
        unfold put5 at e0 e1 e2 e3 e4
        dsimp only at e0 e1 e2 e3 e4
        exact bodyPost_ret (v := .agg #[.int .i64 2, .string nm, .string vl, .slice none 0 0, .slice none 0 0]) (by simp [results, Try.results92, go_sem, e0, e1, e2, e3, e4]) rfl DN.out
    | false =>
      rw [took_two0 h2] at HA
      simp only at HA
      clear K2 h2
      rintro e u3 ⟨rfl, t3, c3⟩
      rw [if_neg (by decide)] at t3
      have C3 := hide (C2.out.trans c3)
      have B3 := hide (B2.out.block (c3.block _ B2.out.lt HG.out))
      have S3 : Hid (w.heap.size + 1 ≤ u3.heap.size) := Nat.le_trans S2.out c3.size
      have T3 := hide t3
      clear c3 t3 T2 B2 S2
      have K3 := hide (TK2.out k1 94 61 u3 T3.out hk1)
      go_wp2_with fail
      with_reducible refine K3.out.mono ?_
      cases h3 : tookB s k1 ⟨#[94, 61]⟩ with
      | true =>
        obtain ⟨q1, q2⟩ := took_two h3
        rw [q1] at HA
        simp only at HA
        clear K3 h3 q1
        rintro e u4 ⟨rfl, t4, c4⟩
        rw [if_pos rfl] at t4
        have C4 := hide (C3.out.trans c4)
        have B4 := hide (B3.out.block (c4.block _ B3.out.lt HG.out))
        have T4 := hide t4
        clear c4 t4 T3 B3
        have V := hide (VL.out (k1 + 2) u4 T4.out q2)
        cases hu : unqO (s.toList.drop (k1 + 2)) with
        | none =>
          rw [hu] at V HA
          have FN : Hid (none = ans) := HA.out
          go_wp2_with fail
          with_reducible refine V.out.mono ?_
          rintro e u5 ⟨c5, p5⟩
          obtain rfl : e = refE := p5
          have C5 := hide (C4.out.trans c5)
          clear c5 V hu
          go_wp2
          exact ⟨rfl, C5.out, by rw [← FN.out]⟩
        | some q =>
          obtain ⟨v, r⟩ := q
          rw [hu] at V HA
          have hvl := unq_len hu
          rw [List.length_drop, ba_len] at hvl
          simp only [Option.map_some] at HA
          go_wp2_with fail
          with_reducible refine V.out.mono ?_
          rintro e u5 ⟨c5, p5⟩
          obtain ⟨rfl, kz, hkz, hdz, tz⟩ : e = .returned (.string (bar v)) ∧ ∃ k', k' ≤ s.size ∧ s.toList.drop k' = r ∧ TB u5 g n s k' := p5
          have hvs : (bar v).size ≤ 20000 := by rw [bar_size]; omega
          generalize bar v = vl at *
          have DN : Hid (RdP ans g n s w (.returned (.agg #[.int .i64 3, .string nm, .string vl, .slice none 0 0, .slice none 0 0])) (put5 u5 w.heap.size ⟨3, nm, vl, none, 0, 0, none, 0, 0⟩)) := by
            rw [← HA.out]
            exact ⟨ch_box (C4.out.trans c5) (Nat.le_refl _), ⟨3, nm, vl, none, 0, 0, none, 0, 0⟩, kz, rfl, see_box (leaf_see _ _ (by decide) (by omega) (by omega)) rfl, hkz, hdz, tb_box tz HG'.out⟩
          have B5 := hide (B4.out.block (c5.block _ B4.out.lt HG.out))
          clear c5 tz V hu hdz hvl HA
          obtain ⟨d0, d1, d2, d3, d4, df⟩ := B5.out.all
          have f0 := df 0
          have f1 := df 1
          have f2 := df 2
          have f3 := df 3
          have f4 := df 4
          dsimp only [hm0] at d0 d1 d2 d3 d4
          have FP := hide (B5.out.put ⟨3, nm, vl, none, 0, 0, none, 0, 0⟩)
          clear df
          go_wp2
          obtain ⟨e0, e1, e2, e3, e4, _⟩ := FP.out.all
          unfold put5 at e0 e1 e2 e3 e4
          dsimp only at e0 e1 e2 e3 e4
          exact bodyPost_ret (v := .agg #[.int .i64 3, .string nm, .string vl, .slice none 0 0, .slice none 0 0]) (by simp [results, Try.results92, go_sem, e0, e1, e2, e3, e4]) rfl DN.out
      | false =>
        rw [took_two0 h3] at HA
        simp only at HA
        clear K3 h3
        rintro e u4 ⟨rfl, t4, c4⟩
        rw [if_neg (by decide)] at t4
        have C4 := hide (C3.out.trans c4)
        have B4 := hide (B3.out.block (c4.block _ B3.out.lt HG.out))
        have S4 : Hid (w.heap.size + 1 ≤ u4.heap.size) := Nat.le_trans S3.out c4.size
        have T4 := hide t4
        clear c4 t4 T3 B3 S3
        have K4 := hide (TK1.out k1 64 u4 T4.out hk1)
        go_wp2_with fail
        with_reducible refine K4.out.mono ?_
        cases h4 : tookB s k1 ⟨#[64]⟩ with
        | false =>
          rw [took_one0 h4] at HA
          simp only at HA
          have FN : Hid (none = ans) := HA.out
          clear K4 h4
          rintro e u5 ⟨rfl, t5, c5⟩
          have C5 := hide (C4.out.trans c5)
          clear c5 t5
          go_wp2_with fail
          with_reducible refine (NN.out _).mono ?_
          rintro e w' ⟨rfl, hw⟩
          rw [hw]
          clear hw
          go_wp2
          exact ⟨rfl, C5.out, by rw [← FN.out]⟩
        | true =>
          obtain ⟨q1, q2⟩ := took_one h4
          rw [q1] at HA
          simp only at HA
          clear K4 h4 q1
          rintro e u5 ⟨rfl, t5, c5⟩
          rw [if_pos rfl] at t5
          have C5 := hide (C4.out.trans c5)
          have B5 := hide (B4.out.block (c5.block _ B4.out.lt HG.out))
          have S5 : Hid (w.heap.size + 1 ≤ u5.heap.size) := Nat.le_trans S4.out c5.size
          have LL := hide (LV.out (k1 + 1) u5 t5 q2)
          clear c5 t5 T4 B4 S4
          go_wp2_with fail
          with_reducible refine (NY.out _).mono ?_
          rintro e w' ⟨rfl, hw⟩
          rw [hw]
          clear hw
          cases hu : rdB (s.toList.drop (k1 + 1)) with
          | none =>
            rw [hu] at LL HA
            have FN : Hid (none = ans) := HA.out
            go_wp2_with fail
            with_reducible refine LL.out.mono ?_
            rintro e u6 ⟨c6, p6⟩
            obtain rfl : e = refE := p6
            have C6 := hide (C5.out.trans c6)
            clear c6 LL hu
            go_wp2
            exact ⟨rfl, C6.out, by rw [← FN.out]⟩
          | some q =>
            obtain ⟨vs, r⟩ := q
            rw [hu] at LL HA
            simp only [Option.map_some] at HA
            go_wp2_with fail
            with_reducible refine LL.out.mono ?_
            rintro e u6 ⟨c6, p6⟩
            obtain ⟨va, vn, vc, kz, rfl, x1, x2, x3, hkz, hdz, tz⟩ : ∃ (a : Option Addr) (j c k' : Nat), e = .returned (.slice a j c) ∧ TxR (fun b => u5.heap.size ≤ b) u6 a j vs ∧ j ≤ c ∧ (a = none → c = 0) ∧ k' ≤ s.size ∧ s.toList.drop k' = r ∧ TB u6 g n s k' := p6
            have DN : Hid (RdP ans g n s w (.returned (.agg #[.int .i64 4, .string nm, .string ⟨#[]⟩, .slice va vn vc, .slice none 0 0])) (put5 u6 w.heap.size ⟨4, nm, ⟨#[]⟩, va, vn, vc, none, 0, 0⟩)) := by
              rw [← HA.out]
              exact ⟨ch_box (C5.out.trans c6) (Nat.le_refl _), ⟨4, nm, ⟨#[]⟩, va, vn, vc, none, 0, 0⟩, kz, rfl, see_box (vals_see (by decide) (by omega) (by decide) (x1.mono (fun b _ hb => Nat.le_trans S5.out hb)) x2 x3) rfl, hkz, hdz, tb_box tz HG'.out⟩
            have B6 := hide (B5.out.block (c6.block _ B5.out.lt HG.out))
            clear c6 tz LL hu hdz HA x1 x2 x3
            obtain ⟨d0, d1, d2, d3, d4, df⟩ := B6.out.all
            have f0 := df 0
            have f1 := df 1
            have f2 := df 2
            have f3 := df 3
            have f4 := df 4
            dsimp only [hm0] at d0 d1 d2 d3 d4
            have FP := hide (B6.out.put ⟨4, nm, ⟨#[]⟩, va, vn, vc, none, 0, 0⟩)
            clear df
            go_wp2
            obtain ⟨e0, e1, e2, e3, e4, _⟩ := FP.out.all
            unfold put5 at e0 e1 e2 e3 e4
            dsimp only at e0 e1 e2 e3 e4
            exact bodyPost_ret (v := .agg #[.int .i64 4, .string nm, .string ⟨#[]⟩, .slice va vn vc, .slice none 0 0]) (by simp [results, Try.results92, go_sem, e0, e1, e2, e3, e4]) rfl DN.out
end Go.Proofs.Ythebcmkainplnaa

namespace Go.Proofs.Ythebcmkainplnaa
open Go.RowKit
set_option maxRecDepth 20000

/-- Behind a matcher: a comma and more, or the end. -/
def rdC (f left : Nat) (l : List UInt8) : Option (List Mt × List UInt8 × Nat) := match tks [44] l with
  | some r => rdT f left r
  | none => (tks [41] l).map (fun r => ([], r, left))
theorem rdT_step (f left : Nat) (l : List UInt8) : rdT (f + 1) left l = match rdM f left l with
    | none => none
    | some q => (rdC f q.2.2 q.2.1).map (fun z => (q.1 :: z.1, z.2)) := by
  rw [rdT]
  cases rdM f left l with
  | none => rfl
  | some q =>
    simp only
    unfold rdC
    cases tks [44] q.2.1 with
    | some r => rfl
    | none =>
      simp only
      cases tks [41] q.2.1 <;> rfl
/-- What matcher tells. -/
def RmP (res : Option (Mt × List UInt8 × Nat)) (g n : Nat) (s : ByteArray) (w : World) (e : Ending) (w' : World) : Prop :=
  Ch (fun b => b = g) w w' ∧ match res with
  | none => e = refE
  | some (m, r, left) => ∃ (h : Hm) (k' n' : Nat), e = .returned (.agg #[.int .i64 h.op, .string h.nm, .string h.vl, .slice h.va h.vn h.vc, .slice h.ka h.kn h.kc]) ∧ SeeM (fun b => w.heap.size ≤ b) w' m h ∧ k' ≤ s.size ∧ s.toList.drop k' = r ∧ n' ≤ 64 ∧ 64 - n' = left ∧ n < n' ∧ TB w' g n' s k'
def MtC (f : Nat) : Prop := ∀ (g n : Nat) (s : ByteArray) (k : Nat) (w : World), TB w g n s k → k ≤ s.size → s.size ≤ 20000 → n ≤ 64 → 3 * (64 - n) + 1 ≤ f →
    Calls Try.prog 62 #[.pointer (some ⟨g, 0, none⟩)] w fun e w' => RmP (rdM f (64 - n) (s.toList.drop k)) g n s w e w'
/-- Matchers read so far, and the reader. -/
structure KdS (w wr : World) (g n : Nat) (s : ByteArray) (k : Nat) (a : Option Addr) (j c : Nat) (ks : List Mt) (hs : List Hm) : Prop where
  tb : TB wr g n s k
  ch : Ch (fun b => b = g) w wr
  own : OwnM wr w.heap.size a j c hs
  see : ∀ (i : Nat) (kd : Mt) (hd : Hm), ks[i]? = some kd → hs[i]? = some hd → SeeM (fun b => w.heap.size ≤ b ∧ (Value.slice a j c).ownBlock ≠ some b) wr kd hd
  len : ks.length = j
  lt : g < w.heap.size
  few : j ≤ n
theorem KdS.ne {w wr : World} {g n k j c : Nat} {s : ByteArray} {a : Option Addr} {ks : List Mt} {hs : List Hm} (h : KdS w wr g n s k a j c ks hs) : ∀ b, (Value.slice a j c).ownBlock = some b → w.heap.size ≤ b := fun b hb => (h.own.block b hb).1
theorem KdS.to {w wr v : World} {g n k n' k' j c : Nat} {s : ByteArray} {a : Option Addr} {ks : List Mt} {hs : List Hm} (h : KdS w wr g n s k a j c ks hs) (t : TB v g n' s k') (hc : Ch (fun b => b = g) wr v) (hn : n ≤ n') : KdS w v g n' s k' a j c ks hs := by
  have hlt := h.lt
  refine ⟨t, h.ch.trans hc, h.own.ch hc (fun b hb e => by have := h.ne b hb; omega), fun i kd hd h1 h2 => (h.see i kd hd h1 h2).ch hc (fun b hb e => by omega), h.len, hlt, by have := h.few; omega⟩
theorem ownM_one (w : World) (h : Hm) (B : Nat) (hB : B ≤ w.heap.size) : OwnM (w.alloc (.cells #[.int .i64 h.op, .string h.nm, .string h.vl, .slice h.va h.vn h.vc, .slice h.ka h.kn h.kc] 25)) B (some ⟨w.heap.size, 0, none⟩) 1 1 [h] :=
  ⟨rfl, Or.inr ⟨w.heap.size, 1, #[.int .i64 h.op, .string h.nm, .string h.vl, .slice h.va h.vn h.vc, .slice h.ka h.kn h.kc], rfl, hB, heap_alloc_new w _, Nat.le_refl _, by decide, rfl, rfl⟩⟩
/-- The first. -/
theorem KdS.one {w v : World} {g n k : Nat} {s : ByteArray} {kd : Mt} {h' : Hm} (hc : Ch (fun b => b = g) w v) (hg : g < w.heap.size) (t : TB v g n s k) (q : SeeM (fun b => w.heap.size ≤ b) v kd h') (hn : 1 ≤ n) :
    KdS w (v.alloc (.cells #[.int .i64 h'.op, .string h'.nm, .string h'.vl, .slice h'.va h'.vn h'.vc, .slice h'.ka h'.kn h'.kc] 25)) g n s k (some ⟨v.heap.size, 0, none⟩) 1 1 [kd] [h'] := by
  refine ⟨t.block (Below.heap_alloc _ _ _ t.lt), hc.alloc _, ownM_one v h' _ hc.size, fun i kd' hd h1 h2 => ?_, rfl, hg, hn⟩
  match i, h1, h2 with
  | 0, h1, h2 =>
    simp only [List.getElem?_cons_zero, Option.some.injEq] at h1 h2
    subst h1 h2
    have q1 : SeeM (fun b => w.heap.size ≤ b ∧ b < v.heap.size) v kd h' := q.mono (fun b hb h => ⟨h, hb⟩)
    exact (q1.alloc _).mono (fun b _ hb => ⟨hb.1, fun e => by
      simp only [Value.ownBlock, Option.some.injEq] at e
      omega⟩)
  | i + 1, h1, h2 => simp at h1
/-- One more. -/
theorem KdS.push {w wr v v4 : World} {g n k n' k' j c g' c' : Nat} {s : ByteArray} {a : Option Addr} {ks : List Mt} {hs : List Hm} {kd : Mt} {h' : Hm} (h : KdS w wr g n s k a j c ks hs) (t : TB v g n' s k') (hc : Ch (fun b => b = g) wr v) (hn : n < n') (q : SeeM (fun b => wr.heap.size ≤ b) v kd h')
    (o : OwnM v4 w.heap.size (some ⟨g', 0, none⟩) (j + 1) c' (hs ++ [h'])) (c4 : Ch (fun b => (Value.slice a j c).ownBlock = some b) (v.alloc (.cells #[.int .i64 h'.op, .string h'.nm, .string h'.vl, .slice h'.va h'.vn h'.vc, .slice h'.ka h'.kn h'.kc] 25)) v4)
    (hg : (Value.slice a j c).ownBlock = some g' ∨ (v.alloc (.cells #[.int .i64 h'.op, .string h'.nm, .string h'.vl, .slice h'.va h'.vn h'.vc, .slice h'.ka h'.kn h'.kc] 25)).heap.size ≤ g') : KdS w v4 g n' s k' (some ⟨g', 0, none⟩) (j + 1) c' (ks ++ [kd]) (hs ++ [h']) := by
  have h0 := h.to t hc (Nat.le_of_lt hn)
  have hne := h0.ne
  have hlt := h.lt
  have hl := h.own.len
  have hkl := h.len
  have hfew := h.few
  have hwr := h.ch.size
  refine ⟨(t.block (Below.heap_alloc _ _ _ t.lt)).block (c4.block g (by simp; have := t.lt; omega) (fun e => by have := hne g e; omega)), ?_, o, fun i kd' hd h1 h2 => ?_, by simp [hkl], hlt, by omega⟩
  · have cv := h0.ch.alloc (.cells #[.int .i64 h'.op, .string h'.nm, .string h'.vl, .slice h'.va h'.vn h'.vc, .slice h'.ka h'.kn h'.kc] 25)
    refine ⟨c4.os.trans cv.os, c4.tape.trans cv.tape, c4.output.trans cv.output, Nat.le_trans cv.size c4.size, fun b hb hn => ?_⟩
    rw [c4.block b (Nat.lt_of_lt_of_le hb cv.size) (fun e => by have := hne b e; omega)]
    exact cv.block b hb hn
  · by_cases hi : i < j
    · rw [List.getElem?_append_left (by omega)] at h1 h2
      exact see_pushed ((h0.see i kd' hd h1 h2).alloc _) (fun b _ hb => hb) c4 hg
    · have hi2 : i < (hs ++ [h']).length := (List.getElem?_eq_some_iff.1 h2).1
      simp only [List.length_append, List.length_cons, List.length_nil] at hi2
      have : i = j := by omega
      subst this
      rw [List.getElem?_append_right (by omega), hl] at h2
      rw [List.getElem?_append_right (by omega), hkl] at h1
      simp at h1 h2
      subst h1 h2
      refine see_pushed (q.alloc _) (fun b _ hb => ⟨by omega, fun e => ?_⟩) c4 hg
      have := (h.own.block b e).2
      omega
/-- They are a matcher's kids. -/
theorem KdS.fin {w wr : World} {g n k j c : Nat} {s : ByteArray} {a : Option Addr} {ks : List Mt} {hs : List Hm} (h : KdS w wr g n s k a j c ks hs) (hn : n ≤ 64) {op : Int} (ho : (Lit.int .i64 op).wf = true) : SeeM (fun b => w.heap.size ≤ b) wr (.mk op .empty .empty [] ks) ⟨op, ⟨#[]⟩, ⟨#[]⟩, none, 0, 0, a, j, c⟩ := by
  have hf := h.few
  have hcap := h.own.capped
  rw [seeM_iff]
  refine ⟨rfl, rfl, rfl, ⟨ho, by show (0 : Nat) ≤ _; decide, by show (0 : Nat) ≤ _; decide, Nat.le_refl _, fun _ => rfl, by show j * 88 ≤ _; omega, hcap.1, fun e => (hcap.2 e).2⟩, ⟨rfl, by show (0 : Nat) * 16 ≤ _; omega, fun x hx => (by cases hx), Or.inl rfl⟩, h.len, ?_⟩
  by_cases h0 : j = 0
  · exact Or.inl h0
  · right
    have hl := h.own.len
    have hkl := h.len
    have hx : hs[0]? = some hs[0] := List.getElem?_eq_getElem (by omega)
    obtain ⟨b, hb, hob, -⟩ := h.own.kid hx
    refine ⟨b, 0, hb, h.ne b hob, fun i kd hi => ?_⟩
    have hlt : i < ks.length := (List.getElem?_eq_some_iff.1 hi).1
    have hy : hs[i]? = some hs[i] := List.getElem?_eq_getElem (by omega)
    obtain ⟨b2, hb2, -, f2⟩ := h.own.kid hy
    rw [hb] at hb2
    simp only [Option.some.injEq, Addr.mk.injEq, and_true] at hb2
    subst hb2
    exact ⟨hs[i], f2, (h.see i kd _ hi hy).mono (fun b _ hb => hb.1)⟩
/-- What the list tells. -/
def LkP (res : Option (List Mt × List UInt8 × Nat)) (g n : Nat) (s : ByteArray) (w : World) (e : Ending) (w' : World) : Prop :=
  Ch (fun b => b = g) w w' ∧ match res with
  | none => e = refE
  | some (ks, r, left) => ∃ (a : Option Addr) (j c k' n' : Nat), e = .returned (.slice a j c) ∧ (∀ op : Int, (Lit.int .i64 op).wf = true → SeeM (fun b => w.heap.size ≤ b) w' (.mk op .empty .empty [] ks) ⟨op, ⟨#[]⟩, ⟨#[]⟩, none, 0, 0, a, j, c⟩) ∧ k' ≤ s.size ∧ s.toList.drop k' = r ∧ n' ≤ 64 ∧ 64 - n' = left ∧ n ≤ n' ∧ TB w' g n' s k'

set_option maxHeartbeats 8000000 in
theorem listM_of_text (F0 : Nat) (IH : ∀ F, F < F0 → MtC F) (g n : Nat) (s : ByteArray) (k : Nat) (w : World) (h : TB w g n s k) (hk : k ≤ s.size) (hs : s.size ≤ 20000) (hn : n ≤ 64) (hF0 : 3 * (64 - n) + 3 ≤ F0) :
    Calls Try.prog 91 #[.pointer (some ⟨g, 0, none⟩), .func (.func 62) #[.pointer (some ⟨g, 0, none⟩)] #[]] w fun e w' => LkP (rdK F0 (64 - n) (s.toList.drop k)) g n s w e w' := by
  have NY := hide need_yes
  have NN := hide need_no
  have hg := h.lt
  have T1 := hide (took1 g n s k 40 w h hk hs)
  have TK := hide (fun n k c u (q : TB u g n s k) (hk : k ≤ s.size) => took1 g n s k c u q hk hs)
  have MT := hide (fun F (hF : F < F0) n k u (q : TB u g n s k) (hk : k ≤ s.size) (hn : n ≤ 64) (h3 : 3 * (64 - n) + 1 ≤ F) => IH F hF g n s k u q hk hs hn h3)
  obtain ⟨i0, hi, hz0, hz1, hz2⟩ := info_parts Try.infoM
  obtain ⟨ans, HA⟩ : ∃ ans, Hid (rdK F0 (64 - n) (s.toList.drop k) = ans) := ⟨_, rfl⟩
  rw [HA.out]
  obtain ⟨F1, hF1⟩ : ∃ F1, F0 = F1 + 2 := ⟨F0 - 2, by omega⟩
  rw [hF1, rdK] at HA
  clear h IH
  go_enter Try.func91, Try.ntmps91
  go_wp2_with fail
  with_reducible refine T1.out.mono ?_
  cases h1 : tookB s k ⟨#[40]⟩ with
  | false =>
    rw [took_one0 h1] at HA
    have F : Hid (none = ans) := HA.out
    clear T1 h1
    rintro e u1 ⟨rfl, t1, c1⟩
    have C1 := hide c1
    clear c1 t1
    go_wp2_with fail
    with_reducible refine (NN.out _).mono ?_
    rintro e w' ⟨rfl, hw⟩
    rw [hw]
    go_wp2
    exact ⟨rfl, C1.out, by rw [← F.out]⟩
  | true =>
    obtain ⟨q1, q2⟩ := took_one h1
    rw [q1] at HA
    simp only at HA
    clear T1 h1 q1
    rintro e u1 ⟨rfl, t1, c1⟩
    rw [if_pos rfl] at t1
    have C1 := hide c1
    have K2 := hide (TK.out n (k + 1) 41 u1 t1 q2)
    clear c1 t1
    go_wp2_with fail
    with_reducible refine (NY.out _).mono ?_
    rintro e w' ⟨rfl, hw⟩
    rw [hw]
    clear hw
    go_wp2_with fail
    with_reducible refine K2.out.mono ?_
    cases h2 : tookB s (k + 1) ⟨#[41]⟩ with
    | true =>
      obtain ⟨q3, q4⟩ := took_one h2
      rw [q3] at HA
      simp only at HA
      clear K2 h2 q3
      rintro e u2 ⟨rfl, t2, c2⟩
      rw [if_pos rfl] at t2
      have C2 := hide (C1.out.trans c2)
      have T2 := hide t2
      clear c2 t2 C1
      go_wp2
      go_ret
      rw [← HA.out]
      refine ⟨C2.out, none, 0, 0, _, n, rfl, fun op ho => ?_, q4, rfl, hn, rfl, Nat.le_refl _, T2.out⟩
      exact leaf_see _ _ ho (by decide) (by decide)
    | false =>
      rw [took_one0 h2] at HA
      simp only at HA
      clear K2 h2
      rintro e u2 ⟨rfl, t2, c2⟩
      rw [if_neg (by decide)] at t2
      have C2 := hide (C1.out.trans c2)
      have V1 := hide (MT.out F1 (by omega) n (k + 1) u2 t2 q2 hn (by omega))
      clear c2 t2 C1
      rw [rdT_step] at HA
      cases hu : rdM F1 (64 - n) (s.toList.drop (k + 1)) with
      | none =>
        rw [hu] at V1 HA
        have F : Hid (none = ans) := HA.out
        go_wp2_with fail
        with_reducible refine V1.out.mono ?_
        rintro e u3 ⟨c3, p3⟩
        obtain rfl : e = refE := p3
        have C3 := hide (C2.out.trans c3)
        clear c3 V1 hu
        go_wp2
        exact ⟨rfl, C3.out, by rw [← F.out]⟩
      | some q =>
        obtain ⟨m1, r, left1⟩ := q
        rw [hu] at V1 HA
        simp only at HA
        go_wp2_with fail
        with_reducible refine V1.out.mono ?_
        rintro e u3 ⟨c3, p3⟩
        obtain ⟨⟨op1, nm1, vl1, va1, vn1, vc1, ka1, kn1, kc1⟩, k1, n1, rfl, s3, hk1, hd1, hn1, hl1, hnn, t3⟩ : ∃ (h : Hm) (k' n' : Nat), e = .returned (.agg #[.int .i64 h.op, .string h.nm, .string h.vl, .slice h.va h.vn h.vc, .slice h.ka h.kn h.kc]) ∧ SeeM (fun b => u2.heap.size ≤ b) u3 m1 h ∧ k' ≤ s.size ∧ s.toList.drop k' = r ∧ n' ≤ 64 ∧ 64 - n' = left1 ∧ n < n' ∧ TB u3 g n' s k' := p3
        dsimp only
        have LS := hide (KdS.one (C2.out.trans c3) hg t3 (s3.mono (fun b _ hb => Nat.le_trans C2.out.size hb)) (by omega))
        dsimp only at LS
        have HI : Hid (ans = (rdC F1 (64 - n1) (s.toList.drop k1)).map (fun z => ([m1] ++ z.1, z.2))) := by
          rw [← HA.out, hd1, hl1]
          rfl
        clear c3 t3 V1 hu C2 HA hd1 hl1 s3
        generalize hgb : u3.heap.size = gb at *
        go_upto_region 5 with fail
        generalize u3.alloc (.cells #[.int .i64 op1, .string nm1, .string vl1, .slice va1 vn1 vc1, .slice ka1 kn1 kc1] 25) = u4 at LS ⊢
        clear hgb
        have hF2 : 3 * (64 - n1) + 2 ≤ F1 := by omega
        have hFF : F1 < F0 := by omega
        go_loopg [5] 64 (fun gh x wr => ∃ (n k : Nat) (a : Option Addr) (j c : Nat) (ks : List Mt) (hs' : List Hm) (F : Nat), x = .slice a j c ∧ k ≤ s.size ∧ n ≤ 64 ∧ n1 ≤ n ∧ 64 - n ≤ gh ∧ 3 * (64 - n) + 2 ≤ F ∧ F < F0 ∧ Hid (KdS w wr g n s k a j c ks hs') ∧ Hid (ans = (rdC F (64 - n) (s.toList.drop k)).map (fun z => (ks ++ z.1, z.2))))
        case atStart => exact ⟨n1, k1, _, 1, 1, [m1], _, F1, rfl, hk1, hn1, Nat.le_refl _, by omega, hF2, hFF, LS, HI⟩
        case round =>
          clear LS HI hF2 hFF hk1 q2 hk hF1
          obtain ⟨n2, k, a, j, c, ks, hs', F, rfl, hk, hn2, hn12, hg1, hF, hFF, LS, HI⟩ := hrel
          obtain ⟨u, rfl⟩ : ∃ u, u = wr := ⟨wr, rfl⟩
          have K5 := hide (TK.out n2 k 44 u LS.out.tb hk)
          go_wp2_with fail
          with_reducible refine K5.out.mono ?_
          cases h5 : tookB s k ⟨#[44]⟩ with
          | true =>
            obtain ⟨q5, q6⟩ := took_one h5
            obtain ⟨F, rfl⟩ : ∃ F', F = F' + 1 := ⟨F - 1, by omega⟩
            have HI2 : Hid (ans = (rdT (F + 1) (64 - n2) (s.toList.drop (k + 1))).map (fun z => (ks ++ z.1, z.2))) := by
              have := HI.out
              unfold rdC at this
              rw [q5] at this
              exact this
            clear K5 h5 q5 HI
            rintro e u5 ⟨rfl, t5, c5⟩
            rw [if_pos rfl] at t5
            have L5 := hide (LS.out.to t5 c5 (Nat.le_refl _))
            have V5 := hide (MT.out F (by omega) n2 (k + 1) u5 t5 q6 hn2 (by omega))
            clear c5 t5 LS
            cases hu : rdM F (64 - n2) (s.toList.drop (k + 1)) with
            | none =>
              rw [hu] at V5
              have FN : Hid (none = ans) := by rw [HI2.out, rdT_step, hu]; exact rfl
              go_wp2_with fail
              with_reducible refine V5.out.mono ?_
              rintro e u6 ⟨c6, p6⟩
              obtain rfl : e = refE := p6
              have C6 := hide (L5.out.ch.trans c6)
              clear c6 V5 hu
              go_wp2
              exact ⟨rfl, C6.out, by rw [← FN.out]⟩
            | some q =>
              obtain ⟨m2, r, left2⟩ := q
              rw [hu] at V5
              rw [rdT_step, hu] at HI2
              simp only at HI2
              go_wp2_with fail
              with_reducible refine V5.out.mono ?_
              rintro e u6 ⟨c6, p6⟩
              obtain ⟨⟨op2, nm2, vl2, va2, vn2, vc2, ka2, kn2, kc2⟩, k6, n6, rfl, s6, hk6, hd6, hn6, hl6, hnn6, t6⟩ : ∃ (h : Hm) (k' n' : Nat), e = .returned (.agg #[.int .i64 h.op, .string h.nm, .string h.vl, .slice h.va h.vn h.vc, .slice h.ka h.kn h.kc]) ∧ SeeM (fun b => u5.heap.size ≤ b) u6 m2 h ∧ k' ≤ s.size ∧ s.toList.drop k' = r ∧ n' ≤ 64 ∧ 64 - n' = left2 ∧ n2 < n' ∧ TB u6 g n' s k' := p6
              dsimp only
              have HI3 : Hid (ans = (rdC F (64 - n6) (s.toList.drop k6)).map (fun z => (ks ++ [m2] ++ z.1, z.2))) := by
                rw [HI2.out, hd6, hl6, Option.map_map]
                show _ = _
                congr 1
                funext z
                simp
              have T6 := hide t6
              have C6 := hide c6
              have S6 := hide s6
              have hjs : j ≤ 64 := by have := L5.out.few; omega
              have O6 : Hid (OwnM (u6.alloc (.cells #[.int .i64 op2, .string nm2, .string vl2, .slice va2 vn2 vc2, .slice ka2 kn2 kc2] 25)) w.heap.size a j c hs') := (L5.out.to t6 c6 (Nat.le_of_lt hnn6)).own.alloc _
              have HBS : Hid (w.heap.size ≤ (u6.alloc (.cells #[.int .i64 op2, .string nm2, .string vl2, .slice va2 vn2 vc2, .slice ka2 kn2 kc2] 25)).heap.size) := by
                have := (L5.out.ch.trans c6).size
                show _ ≤ _
                simp
                omega
              have HCC : Hid (∀ jj v, (Hm.cells ⟨op2, nm2, vl2, va2, vn2, vc2, ka2, kn2, kc2⟩)[jj]? = some v → (u6.alloc (.cells #[.int .i64 op2, .string nm2, .string vl2, .slice va2 vn2 vc2, .slice ka2 kn2 kc2] 25)).cell? ((⟨u6.heap.size, 0, none⟩ : Addr).add jj) = some v) := by
                intro jj v hv
                rw [Addr.add_lit]
                exact five_new u6 ⟨op2, nm2, vl2, va2, vn2, vc2, ka2, kn2, kc2⟩ _ jj v hv
              clear c6 t6 s6 V5 hu HI2 hd6 hl6
              go_wp2_with (at_builtin; refine wpList_pushM _ rfl _ _ 23 rfl w.heap.size i0 Try.underlying23 hi hz0 hz1 hz2 a j c hs' rfl O6.out ⟨u6.heap.size, 0, none⟩ 1 ⟨op2, nm2, vl2, va2, vn2, vc2, ka2, kn2, kc2⟩ rfl HCC.out (by omega) HBS.out ?_)
              intro g' c' w4 o4 ch4 _ wh4
              have L7 := hide (L5.out.push T6.out C6.out hnn6 S6.out o4 ch4 (wh4.imp id (fun hh => by simp; omega)))
              clear o4 ch4 wh4 O6 HBS HCC L5 T6 C6 S6
              go_wp2
              go_roundg (64 - n6)
              case measure => omega
              case rel => exact ⟨n6, k6, _, j + 1, c', ks ++ [m2], _, F, rfl, hk6, hn6, by omega, Nat.le_refl _, by omega, by omega, L7, HI3⟩
          | false =>
            have q5 := took_one0 h5
            have HI2 : Hid (ans = ((tks [41] (s.toList.drop k)).map (fun r => (([] : List Mt), r, 64 - n2))).map (fun z => (ks ++ z.1, z.2))) := by
              have := HI.out
              unfold rdC at this
              rw [q5] at this
              exact this
            clear K5 h5 q5 HI
            rintro e u5 ⟨rfl, t5, c5⟩
            rw [if_neg (by decide)] at t5
            have L5 := hide (LS.out.to t5 c5 (Nat.le_refl _))
            have K6 := hide (TK.out n2 k 41 u5 t5 hk)
            clear c5 t5 LS
            go_wp2_with fail
            with_reducible refine K6.out.mono ?_
            cases h6 : tookB s k ⟨#[41]⟩ with
            | true =>
              obtain ⟨q7, q8⟩ := took_one h6
              rw [q7] at HI2
              simp only [Option.map_some, List.append_nil] at HI2
              clear K6 h6 q7
              rintro e u6 ⟨rfl, t6, c6⟩
              rw [if_pos rfl] at t6
              have L6 := hide (L5.out.to t6 c6 (Nat.le_refl _))
              clear c6 t6 L5
              go_wp2_with fail
              with_reducible refine (NY.out _).mono ?_
              rintro e w' ⟨rfl, hw⟩
              rw [hw]
              clear hw
              go_wp2
              go_ret
              rw [HI2.out]
              exact ⟨L6.out.ch, a, j, c, k + 1, n2, rfl, fun op ho => L6.out.fin hn2 ho, q8, rfl, hn2, rfl, by omega, L6.out.tb⟩
            | false =>
              rw [took_one0 h6] at HI2
              clear K6 h6
              rintro e u6 ⟨rfl, t6, c6⟩
              have C6 := hide (L5.out.ch.trans c6)
              clear c6 t6
              go_wp2_with fail
              with_reducible refine (NN.out _).mono ?_
              rintro e w' ⟨rfl, hw⟩
              rw [hw]
              clear hw
              go_wp2
              exact ⟨rfl, C6.out, by rw [HI2.out]; rfl⟩
end Go.Proofs.Ythebcmkainplnaa

namespace Go.Proofs.Ythebcmkainplnaa
open Go.RowKit
set_option maxRecDepth 20000

set_option maxHeartbeats 8000000 in
theorem matcher_of (f : Nat) (IH : ∀ F, F < f → MtC F) : MtC f := by
  intro g n s k w h hk hs hn hf
  have hg := h.lt
  obtain ⟨f, rfl⟩ : ∃ f', f = f' + 1 := ⟨f - 1, by omega⟩
  have TK := hide (fun n k c u (q : TB u g n s k) (hk : k ≤ s.size) => took1 g n s k c u q hk hs)
  have LM := hide (fun n k u (q : TB u g n s k) (hk : k ≤ s.size) (hn : n ≤ 64) (h3 : 3 * (64 - n) + 3 ≤ f) => listM_of_text f (fun F hF => IH F (by omega)) g n s k u q hk hs hn h3)
  have ND := hide (fun n k u (q : TB u g n s k) (hk : k ≤ s.size) => named_any g n s k u q hk hs)
  obtain ⟨W, hW⟩ : ∃ W, Hid (w.alloc (.cells #[.int .i64 0, .string ⟨#[]⟩, .string ⟨#[]⟩, .slice none 0 0, .slice none 0 0] 25) = W) := ⟨_, rfl⟩
  have LW : Hid (Below w.heap.size w W) := by rw [← hW.out]; exact (Below.refl _ _).alloc (Nat.le_refl _) _
  have B0 : Hid (BoxM W w.heap.size hm0) := by rw [← hW.out]; exact BoxM.zero w
  have SZ : Hid (W.heap.size = w.heap.size + 1) := by rw [← hW.out]; show _ = _; simp
  have HG : Hid (w.heap.size ≠ g) := by show _ ≠ _; omega
  have HG' : Hid (g ≠ w.heap.size) := by show _ ≠ _; omega
  have TW := hide (h.below LW.out)
  have CW : Hid (Ch (fun b => b = g) w W) := (Ch.of_below LW.out).more (fun _ _ => False.elim)
  obtain ⟨ans, HA⟩ : ∃ ans, Hid (rdM (f + 1) (64 - n) (s.toList.drop k) = ans) := ⟨_, rfl⟩
  rw [HA.out]
  clear h IH
  by_cases h64 : 64 ≤ n
  · have FN : Hid (none = ans) := by
      rw [← HA.out, show 64 - n = 0 by omega, rdM]
      exact rfl
    have MN := hide (more_no g n s k W TW.out h64 hn)
    clear TW hf
    go_enter Try.func62, Try.ntmps62
    go_upto_region 1 with fail
    rw [hW.out]
    clear hW
    go_wp2_with fail
    with_reducible refine MN.out.mono ?_
    rintro e u1 ⟨rfl, c1⟩
    have C1 := hide (CW.out.trans c1)
    clear c1
    go_wp2
    exact ⟨rfl, C1.out, by rw [← FN.out]⟩
  · have MY := hide (more_yes g n s k W TW.out (by omega))
    obtain ⟨left, hleft⟩ : ∃ left, 64 - n = left + 1 := ⟨64 - n - 1, by omega⟩
    have hl2 : 64 - (n + 1) = left := by omega
    rw [hleft, rdM] at HA
    clear TW
    go_enter Try.func62, Try.ntmps62
    go_upto_region 1 with fail
    rw [hW.out]
    clear hW
    go_wp2_with fail
    with_reducible refine MY.out.mono ?_
    rintro e u1 ⟨rfl, t1, c1⟩
    have C1 := hide (CW.out.trans c1)
    have B1 := hide (B0.out.block (c1.block _ B0.out.lt HG.out))
    have S1 : Hid (w.heap.size + 1 ≤ u1.heap.size) := by rw [← SZ.out]; exact c1.size
    have T1 := hide t1
    clear c1 t1 MY LW B0 SZ CW
    have K1 := hide (TK.out (n + 1) k 42 u1 T1.out hk)
    go_wp2_with fail
    with_reducible refine K1.out.mono ?_
    cases h1 : tookB s k ⟨#[42]⟩ with
    | true =>
      obtain ⟨q1, q2⟩ := took_one h1
      rw [q1] at HA
      simp only at HA
      clear K1 h1 q1
      rintro e u2 ⟨rfl, t2, c2⟩
      rw [if_pos rfl] at t2
      have C2 := hide (C1.out.trans c2)
      have B2 := hide (B1.out.block (c2.block _ B1.out.lt HG.out))
      have S2 : Hid (w.heap.size + 1 ≤ u2.heap.size) := Nat.le_trans S1.out c2.size
      have T2 := hide t2
      clear c2 t2 T1 B1 S1
      have DN : Hid (RmP ans g n s w (.returned (.agg #[.int .i64 0, .string ⟨#[]⟩, .string ⟨#[]⟩, .slice none 0 0, .slice none 0 0])) (put5 u2 w.heap.size ⟨0, ⟨#[]⟩, ⟨#[]⟩, none, 0, 0, none, 0, 0⟩)) := by
        rw [← HA.out]
        exact ⟨ch_box C2.out (Nat.le_refl _), ⟨0, ⟨#[]⟩, ⟨#[]⟩, none, 0, 0, none, 0, 0⟩, k + 1, n + 1, rfl, see_box (leaf_see _ _ (by decide) (by decide) (by decide)) rfl, q2, rfl, by omega, hl2, by omega, tb_box T2.out HG'.out⟩
      clear HA
      obtain ⟨d0, d1, d2, d3, d4, df⟩ := B2.out.all
      have f0 := df 0
      have f1 := df 1
      have f2 := df 2
      have f3 := df 3
      have f4 := df 4
      dsimp only [hm0] at d0 d1 d2 d3 d4
      have FP := hide (B2.out.put ⟨0, ⟨#[]⟩, ⟨#[]⟩, none, 0, 0, none, 0, 0⟩)
      clear df
      go_wp2
      obtain ⟨e0, e1, e2, e3, e4, _⟩ := FP.out.all
      unfold put5 at e0 e1 e2 e3 e4
      dsimp only at e0 e1 e2 e3 e4
      exact bodyPost_ret (v := .agg #[.int .i64 0, .string ⟨#[]⟩, .string ⟨#[]⟩, .slice none 0 0, .slice none 0 0]) (by simp [results, Try.results62, go_sem, e0, e1, e2, e3, e4]) rfl DN.out
    | false =>
      rw [took_one0 h1] at HA
      simp only at HA
      clear K1 h1
      rintro e u2 ⟨rfl, t2, c2⟩
      rw [if_neg (by decide)] at t2
      have C2 := hide (C1.out.trans c2)
      have B2 := hide (B1.out.block (c2.block _ B1.out.lt HG.out))
      have S2 : Hid (w.heap.size + 1 ≤ u2.heap.size) := Nat.le_trans S1.out c2.size
      have T2 := hide t2
      clear c2 t2 T1 B1 S1
      have K2 := hide (TK.out (n + 1) k 38 u2 T2.out hk)
      go_wp2_with fail
      with_reducible refine K2.out.mono ?_
      cases h2 : tookB s k ⟨#[38]⟩ with
      | true =>
        obtain ⟨q1, q2⟩ := took_one h2
        rw [q1] at HA
        simp only at HA
        clear K2 h2 q1
        rintro e u3 ⟨rfl, t3, c3⟩
        rw [if_pos rfl] at t3
        have C3 := hide (C2.out.trans c3)
        have B3 := hide (B2.out.block (c3.block _ B2.out.lt HG.out))
        have S3 : Hid (w.heap.size + 1 ≤ u3.heap.size) := Nat.le_trans S2.out c3.size
        have T3 := hide t3
        clear c3 t3 T2 B2 S2
        have LL := hide (LM.out (n + 1) (k + 1) u3 T3.out q2 (by omega) (by omega))
        rw [hl2] at LL
        cases hu : rdK f left (s.toList.drop (k + 1)) with
        | none =>
          rw [hu] at LL HA
          have FN : Hid (none = ans) := HA.out
          go_wp2_with fail
          with_reducible refine LL.out.mono ?_
          rintro e u4 ⟨c4, p4⟩
          obtain rfl : e = refE := p4
          have C4 := hide (C3.out.trans c4)
          clear c4 LL hu
          go_wp2
          exact ⟨rfl, C4.out, by rw [← FN.out]⟩
        | some q =>
          obtain ⟨ks, r, lf⟩ := q
          rw [hu] at LL HA
          simp only [Option.map_some] at HA
          go_wp2_with fail
          with_reducible refine LL.out.mono ?_
          rintro e u4 ⟨c4, p4⟩
          obtain ⟨ka, kn, kc, kz, nz, rfl, sz, hkz, hdz, hnz, hlz, hnn, tz⟩ : ∃ (a : Option Addr) (j c k' n' : Nat), e = .returned (.slice a j c) ∧ (∀ op : Int, (Lit.int .i64 op).wf = true → SeeM (fun b => u3.heap.size ≤ b) u4 (.mk op .empty .empty [] ks) ⟨op, ⟨#[]⟩, ⟨#[]⟩, none, 0, 0, a, j, c⟩) ∧ k' ≤ s.size ∧ s.toList.drop k' = r ∧ n' ≤ 64 ∧ 64 - n' = lf ∧ n + 1 ≤ n' ∧ TB u4 g n' s k' := p4
          have DN : Hid (RmP ans g n s w (.returned (.agg #[.int .i64 5, .string ⟨#[]⟩, .string ⟨#[]⟩, .slice none 0 0, .slice ka kn kc])) (put5 u4 w.heap.size ⟨5, ⟨#[]⟩, ⟨#[]⟩, none, 0, 0, ka, kn, kc⟩)) := by
            rw [← HA.out]
            exact ⟨ch_box (C3.out.trans c4) (Nat.le_refl _), ⟨5, ⟨#[]⟩, ⟨#[]⟩, none, 0, 0, ka, kn, kc⟩, kz, nz, rfl, see_box ((sz 5 (by decide)).mono (fun b _ hb => Nat.le_trans S3.out hb)) rfl, hkz, hdz, hnz, hlz, by omega, tb_box tz HG'.out⟩
          have B4 := hide (B3.out.block (c4.block _ B3.out.lt HG.out))
          clear c4 tz sz LL hu hdz hlz HA
          obtain ⟨d0, d1, d2, d3, d4, df⟩ := B4.out.all
          have f0 := df 0
          have f1 := df 1
          have f2 := df 2
          have f3 := df 3
          have f4 := df 4
          dsimp only [hm0] at d0 d1 d2 d3 d4
          have FP := hide (B4.out.put ⟨5, ⟨#[]⟩, ⟨#[]⟩, none, 0, 0, ka, kn, kc⟩)
          clear df
          go_wp2
          obtain ⟨e0, e1, e2, e3, e4, _⟩ := FP.out.all
          unfold put5 at e0 e1 e2 e3 e4
          dsimp only at e0 e1 e2 e3 e4
          exact bodyPost_ret (v := .agg #[.int .i64 5, .string ⟨#[]⟩, .string ⟨#[]⟩, .slice none 0 0, .slice ka kn kc]) (by simp [results, Try.results62, go_sem, e0, e1, e2, e3, e4]) rfl DN.out
      | false =>
        rw [took_one0 h2] at HA
        simp only at HA
        clear K2 h2
        rintro e u3 ⟨rfl, t3, c3⟩
        rw [if_neg (by decide)] at t3
        have C3 := hide (C2.out.trans c3)
        have B3 := hide (B2.out.block (c3.block _ B2.out.lt HG.out))
        have S3 : Hid (w.heap.size + 1 ≤ u3.heap.size) := Nat.le_trans S2.out c3.size
        have T3 := hide t3
        clear c3 t3 T2 B2 S2
        have K3 := hide (TK.out (n + 1) k 124 u3 T3.out hk)
        go_wp2_with fail
        with_reducible refine K3.out.mono ?_
        cases h3 : tookB s k ⟨#[124]⟩ with
        | true =>
          obtain ⟨q1, q2⟩ := took_one h3
          rw [q1] at HA
          simp only at HA
          clear K3 h3 q1
          rintro e u4 ⟨rfl, t4, c4⟩
          rw [if_pos rfl] at t4
          have C4 := hide (C3.out.trans c4)
          have B4 := hide (B3.out.block (c4.block _ B3.out.lt HG.out))
          have S4 : Hid (w.heap.size + 1 ≤ u4.heap.size) := Nat.le_trans S3.out c4.size
          have T4 := hide t4
          clear c4 t4 T3 B3 S3
          have LL := hide (LM.out (n + 1) (k + 1) u4 T4.out q2 (by omega) (by omega))
          rw [hl2] at LL
          cases hu : rdK f left (s.toList.drop (k + 1)) with
          | none =>
            rw [hu] at LL HA
            have FN : Hid (none = ans) := HA.out
            go_wp2_with fail
            with_reducible refine LL.out.mono ?_
            rintro e u5 ⟨c5, p5⟩
            obtain rfl : e = refE := p5
            have C5 := hide (C4.out.trans c5)
            clear c5 LL hu
            go_wp2
            exact ⟨rfl, C5.out, by rw [← FN.out]⟩
          | some q =>
            obtain ⟨ks, r, lf⟩ := q
            rw [hu] at LL HA
            simp only [Option.map_some] at HA
            go_wp2_with fail
            with_reducible refine LL.out.mono ?_
            rintro e u5 ⟨c5, p5⟩
            obtain ⟨ka, kn, kc, kz, nz, rfl, sz, hkz, hdz, hnz, hlz, hnn, tz⟩ : ∃ (a : Option Addr) (j c k' n' : Nat), e = .returned (.slice a j c) ∧ (∀ op : Int, (Lit.int .i64 op).wf = true → SeeM (fun b => u4.heap.size ≤ b) u5 (.mk op .empty .empty [] ks) ⟨op, ⟨#[]⟩, ⟨#[]⟩, none, 0, 0, a, j, c⟩) ∧ k' ≤ s.size ∧ s.toList.drop k' = r ∧ n' ≤ 64 ∧ 64 - n' = lf ∧ n + 1 ≤ n' ∧ TB u5 g n' s k' := p5
            have DN : Hid (RmP ans g n s w (.returned (.agg #[.int .i64 6, .string ⟨#[]⟩, .string ⟨#[]⟩, .slice none 0 0, .slice ka kn kc])) (put5 u5 w.heap.size ⟨6, ⟨#[]⟩, ⟨#[]⟩, none, 0, 0, ka, kn, kc⟩)) := by
              rw [← HA.out]
              exact ⟨ch_box (C4.out.trans c5) (Nat.le_refl _), ⟨6, ⟨#[]⟩, ⟨#[]⟩, none, 0, 0, ka, kn, kc⟩, kz, nz, rfl, see_box ((sz 6 (by decide)).mono (fun b _ hb => Nat.le_trans S4.out hb)) rfl, hkz, hdz, hnz, hlz, by omega, tb_box tz HG'.out⟩
            have B5 := hide (B4.out.block (c5.block _ B4.out.lt HG.out))
            clear c5 tz sz LL hu hdz hlz HA
            obtain ⟨d0, d1, d2, d3, d4, df⟩ := B5.out.all
            have f0 := df 0
            have f1 := df 1
            have f2 := df 2
            have f3 := df 3
            have f4 := df 4
            dsimp only [hm0] at d0 d1 d2 d3 d4
            have FP := hide (B5.out.put ⟨6, ⟨#[]⟩, ⟨#[]⟩, none, 0, 0, ka, kn, kc⟩)
            clear df
            go_wp2
            obtain ⟨e0, e1, e2, e3, e4, _⟩ := FP.out.all
            unfold put5 at e0 e1 e2 e3 e4
            dsimp only at e0 e1 e2 e3 e4
            exact bodyPost_ret (v := .agg #[.int .i64 6, .string ⟨#[]⟩, .string ⟨#[]⟩, .slice none 0 0, .slice ka kn kc]) (by simp [results, Try.results62, go_sem, e0, e1, e2, e3, e4]) rfl DN.out
        | false =>
          rw [took_one0 h3] at HA
          simp only at HA
          clear K3 h3
          rintro e u4 ⟨rfl, t4, c4⟩
          rw [if_neg (by decide)] at t4
          have C4 := hide (C3.out.trans c4)
          have B4 := hide (B3.out.block (c4.block _ B3.out.lt HG.out))
          have S4 : Hid (w.heap.size + 1 ≤ u4.heap.size) := Nat.le_trans S3.out c4.size
          have T4 := hide t4
          clear c4 t4 T3 B3 S3
          have K4 := hide (TK.out (n + 1) k 33 u4 T4.out hk)
          go_wp2_with fail
          with_reducible refine K4.out.mono ?_
          cases h4 : tookB s k ⟨#[33]⟩ with
          | true =>
            obtain ⟨q1, q2⟩ := took_one h4
            rw [q1] at HA
            simp only at HA
            clear K4 h4 q1
            rintro e u5 ⟨rfl, t5, c5⟩
            rw [if_pos rfl] at t5
            have C5 := hide (C4.out.trans c5)
            have B5 := hide (B4.out.block (c5.block _ B4.out.lt HG.out))
            have S5 : Hid (w.heap.size + 1 ≤ u5.heap.size) := Nat.le_trans S4.out c5.size
            have T5 := hide t5
            clear c5 t5 T4 B4 S4
            have LL := hide (LM.out (n + 1) (k + 1) u5 T5.out q2 (by omega) (by omega))
            rw [hl2] at LL
            cases hu : rdK f left (s.toList.drop (k + 1)) with
            | none =>
              rw [hu] at LL HA
              have FN : Hid (none = ans) := HA.out
              go_wp2_with fail
              with_reducible refine LL.out.mono ?_
              rintro e u6 ⟨c6, p6⟩
              obtain rfl : e = refE := p6
              have C6 := hide (C5.out.trans c6)
              clear c6 LL hu
              go_wp2
              exact ⟨rfl, C6.out, by rw [← FN.out]⟩
            | some q =>
              obtain ⟨ks, r, lf⟩ := q
              rw [hu] at LL HA
              simp only [Option.map_some] at HA
              go_wp2_with fail
              with_reducible refine LL.out.mono ?_
              rintro e u6 ⟨c6, p6⟩
              obtain ⟨ka, kn, kc, kz, nz, rfl, sz, hkz, hdz, hnz, hlz, hnn, tz⟩ : ∃ (a : Option Addr) (j c k' n' : Nat), e = .returned (.slice a j c) ∧ (∀ op : Int, (Lit.int .i64 op).wf = true → SeeM (fun b => u5.heap.size ≤ b) u6 (.mk op .empty .empty [] ks) ⟨op, ⟨#[]⟩, ⟨#[]⟩, none, 0, 0, a, j, c⟩) ∧ k' ≤ s.size ∧ s.toList.drop k' = r ∧ n' ≤ 64 ∧ 64 - n' = lf ∧ n + 1 ≤ n' ∧ TB u6 g n' s k' := p6
              have DN : Hid (RmP ans g n s w (.returned (.agg #[.int .i64 7, .string ⟨#[]⟩, .string ⟨#[]⟩, .slice none 0 0, .slice ka kn kc])) (put5 u6 w.heap.size ⟨7, ⟨#[]⟩, ⟨#[]⟩, none, 0, 0, ka, kn, kc⟩)) := by
                rw [← HA.out]
                exact ⟨ch_box (C5.out.trans c6) (Nat.le_refl _), ⟨7, ⟨#[]⟩, ⟨#[]⟩, none, 0, 0, ka, kn, kc⟩, kz, nz, rfl, see_box ((sz 7 (by decide)).mono (fun b _ hb => Nat.le_trans S5.out hb)) rfl, hkz, hdz, hnz, hlz, by omega, tb_box tz HG'.out⟩
              have B6 := hide (B5.out.block (c6.block _ B5.out.lt HG.out))
              clear c6 tz sz LL hu hdz hlz HA
              obtain ⟨d0, d1, d2, d3, d4, df⟩ := B6.out.all
              have f0 := df 0
              have f1 := df 1
              have f2 := df 2
              have f3 := df 3
              have f4 := df 4
              dsimp only [hm0] at d0 d1 d2 d3 d4
              have FP := hide (B6.out.put ⟨7, ⟨#[]⟩, ⟨#[]⟩, none, 0, 0, ka, kn, kc⟩)
              clear df
              go_wp2
              obtain ⟨e0, e1, e2, e3, e4, _⟩ := FP.out.all
              unfold put5 at e0 e1 e2 e3 e4
              dsimp only at e0 e1 e2 e3 e4
              exact bodyPost_ret (v := .agg #[.int .i64 7, .string ⟨#[]⟩, .string ⟨#[]⟩, .slice none 0 0, .slice ka kn kc]) (by simp [results, Try.results62, go_sem, e0, e1, e2, e3, e4]) rfl DN.out
          | false =>
            rw [took_one0 h4] at HA
            simp only at HA
            clear K4 h4
            rintro e u5 ⟨rfl, t5, c5⟩
            rw [if_neg (by decide)] at t5
            have C5 := hide (C4.out.trans c5)
            have B5 := hide (B4.out.block (c5.block _ B4.out.lt HG.out))
            have S5 : Hid (w.heap.size + 1 ≤ u5.heap.size) := Nat.le_trans S4.out c5.size
            have T5 := hide t5
            clear c5 t5 T4 B4 S4
            have LL := hide (ND.out (n + 1) k u5 T5.out hk)
            cases hu : rdN (s.toList.drop k) with
            | none =>
              rw [hu] at LL HA
              have FN : Hid (none = ans) := HA.out
              go_wp2_with fail
              with_reducible refine LL.out.mono ?_
              rintro e u6 ⟨c6, p6⟩
              obtain rfl : e = refE := p6
              have C6 := hide (C5.out.trans c6)
              clear c6 LL hu
              go_wp2
              exact ⟨rfl, C6.out, by rw [← FN.out]⟩
            | some q =>
              obtain ⟨m1, r⟩ := q
              rw [hu] at LL HA
              simp only [Option.map_some] at HA
              go_wp2_with fail
              with_reducible refine LL.out.mono ?_
              rintro e u6 ⟨c6, p6⟩
              obtain ⟨⟨op1, nm1, vl1, va1, vn1, vc1, ka1, kn1, kc1⟩, kz, rfl, sz, hkz, hdz, tz⟩ : ∃ (h : Hm) (k' : Nat), e = .returned (.agg #[.int .i64 h.op, .string h.nm, .string h.vl, .slice h.va h.vn h.vc, .slice h.ka h.kn h.kc]) ∧ SeeM (fun b => u5.heap.size ≤ b) u6 m1 h ∧ k' ≤ s.size ∧ s.toList.drop k' = r ∧ TB u6 g (n + 1) s k' := p6
              dsimp only
              have DN : Hid (RmP ans g n s w (.returned (.agg #[.int .i64 op1, .string nm1, .string vl1, .slice va1 vn1 vc1, .slice ka1 kn1 kc1])) (put5 u6 w.heap.size ⟨op1, nm1, vl1, va1, vn1, vc1, ka1, kn1, kc1⟩)) := by
                rw [← HA.out]
                exact ⟨ch_box (C5.out.trans c6) (Nat.le_refl _), ⟨op1, nm1, vl1, va1, vn1, vc1, ka1, kn1, kc1⟩, kz, n + 1, rfl, see_box (sz.mono (fun b _ hb => Nat.le_trans S5.out hb)) rfl, hkz, hdz, by omega, hl2, by omega, tb_box tz HG'.out⟩
              have B6 := hide (B5.out.block (c6.block _ B5.out.lt HG.out))
              clear c6 tz sz LL hu hdz HA
              obtain ⟨d0, d1, d2, d3, d4, df⟩ := B6.out.all
              have f0 := df 0
              have f1 := df 1
              have f2 := df 2
              have f3 := df 3
              have f4 := df 4
              dsimp only [hm0] at d0 d1 d2 d3 d4
              have FP := hide (B6.out.put ⟨op1, nm1, vl1, va1, vn1, vc1, ka1, kn1, kc1⟩)
              clear df
              go_wp2
              obtain ⟨e0, e1, e2, e3, e4, _⟩ := FP.out.all
              unfold put5 at e0 e1 e2 e3 e4
              dsimp only at e0 e1 e2 e3 e4
              exact bodyPost_ret (v := .agg #[.int .i64 op1, .string nm1, .string vl1, .slice va1 vn1 vc1, .slice ka1 kn1 kc1]) (by simp [results, Try.results62, go_sem, e0, e1, e2, e3, e4]) rfl DN.out

theorem matcherT_any (f : Nat) : MtC f := Nat.strongRecOn f (fun f ih => matcher_of f (fun F hF => ih F hF))
/-- What whole tells. -/
def WhP (res : Option Mt) (g : Nat) (w : World) (e : Ending) (w' : World) : Prop :=
  Ch (fun b => b = g) w w' ∧ match res with
  | none => e = refE
  | some m => ∃ h : Hm, e = .returned (.agg #[.int .i64 h.op, .string h.nm, .string h.vl, .slice h.va h.vn h.vc, .slice h.ka h.kn h.kc]) ∧ SeeM (fun b => w.heap.size ≤ b) w' m h
/-- What is read, if nothing stands behind it. -/
def whM (l : List UInt8) : Option Mt := match rdM 300 64 l with
  | none => none
  | some q => if q.2.1 = [] then some q.1 else none
theorem drop_end {s : ByteArray} {k : Nat} (hk : k ≤ s.size) : s.toList.drop k = [] ↔ k = s.size := by
  rw [List.drop_eq_nil_iff, ba_len]
  omega
set_option maxHeartbeats 4000000 in
theorem whole_any (g : Nat) (s : ByteArray) (w : World) (h : TB w g 0 s 0) (hs : s.size ≤ 20000) :
    Calls Try.prog 36 #[.pointer (some ⟨g, 0, none⟩)] w fun e w' => WhP (whM s.toList) g w e w' := by
  have NY := hide need_yes
  have NN := hide need_no
  have hg := h.lt
  obtain ⟨W, hW⟩ : ∃ W, Hid (w.alloc (.cells #[.int .i64 0, .string ⟨#[]⟩, .string ⟨#[]⟩, .slice none 0 0, .slice none 0 0] 25) = W) := ⟨_, rfl⟩
  have LW : Hid (Below w.heap.size w W) := by rw [← hW.out]; exact (Below.refl _ _).alloc (Nat.le_refl _) _
  have B0 : Hid (BoxM W w.heap.size hm0) := by rw [← hW.out]; exact BoxM.zero w
  have SZ : Hid (W.heap.size = w.heap.size + 1) := by rw [← hW.out]; show _ = _; simp
  have HG : Hid (w.heap.size ≠ g) := by show _ ≠ _; omega
  have MT := hide (matcherT_any 300 g 0 s 0 W (h.below LW.out) (Nat.zero_le _) hs (by decide) (by decide))
  rw [Nat.sub_zero, List.drop_zero] at MT
  have CW : Hid (Ch (fun b => b = g) w W) := (Ch.of_below LW.out).more (fun _ _ => False.elim)
  obtain ⟨ans, HA⟩ : ∃ ans, Hid (whM s.toList = ans) := ⟨_, rfl⟩
  rw [HA.out]
  unfold whM at HA
  clear h
  cases hu : rdM 300 64 s.toList with
  | none =>
    rw [hu] at MT HA
    have FN : Hid (none = ans) := HA.out
    go_enter Try.func36, Try.ntmps36
    go_upto_region 1 with fail
    rw [hW.out]
    clear hW
    go_wp2_with fail
    with_reducible refine MT.out.mono ?_
    rintro e u1 ⟨c1, p1⟩
    obtain rfl : e = refE := p1
    have C1 := hide (CW.out.trans c1)
    clear c1 MT hu
    go_wp2
    exact ⟨rfl, C1.out, by rw [← FN.out]⟩
  | some q =>
    obtain ⟨m, r, lf⟩ := q
    rw [hu] at MT HA
    simp only at HA
    go_enter Try.func36, Try.ntmps36
    go_upto_region 1 with fail
    rw [hW.out]
    clear hW
    go_wp2_with fail
    with_reducible refine MT.out.mono ?_
    rintro e u1 ⟨c1, p1⟩
    obtain ⟨⟨op1, nm1, vl1, va1, vn1, vc1, ka1, kn1, kc1⟩, kz, nz, rfl, sz, hkz, hdz, hnz, hlz, hnn, tz⟩ : ∃ (h : Hm) (k' n' : Nat), e = .returned (.agg #[.int .i64 h.op, .string h.nm, .string h.vl, .slice h.va h.vn h.vc, .slice h.ka h.kn h.kc]) ∧ SeeM (fun b => W.heap.size ≤ b) u1 m h ∧ k' ≤ s.size ∧ s.toList.drop k' = r ∧ n' ≤ 64 ∧ 64 - n' = lf ∧ 0 < n' ∧ TB u1 g n' s k' := p1
    dsimp only
    have C1 := hide (CW.out.trans c1)
    have B1 := hide (B0.out.block (c1.block _ B0.out.lt HG.out))
    have S1 : Hid (w.heap.size + 1 ≤ u1.heap.size) := by rw [← SZ.out]; exact c1.size
    have Q1 : Hid (SeeM (fun b => w.heap.size + 1 ≤ b) u1 m ⟨op1, nm1, vl1, va1, vn1, vc1, ka1, kn1, kc1⟩) := sz.mono (fun b _ hb => by rw [← SZ.out]; exact hb)
    obtain ⟨u2, hu2⟩ : ∃ u2, Hid (u1.alloc (.cells #[.int .i64 op1, .string nm1, .string vl1, .slice va1 vn1 vc1, .slice ka1 kn1 kc1] 25) = u2) := ⟨_, rfl⟩
    have A2 : Hid (Below u1.heap.size u1 u2) := by rw [← hu2.out]; exact (Below.refl _ _).alloc (Nat.le_refl _) _
    have X2 : Hid (BoxM u2 u1.heap.size ⟨op1, nm1, vl1, va1, vn1, vc1, ka1, kn1, kc1⟩) := by rw [← hu2.out]; exact boxM_new u1 ⟨op1, nm1, vl1, va1, vn1, vc1, ka1, kn1, kc1⟩
    have B2 := hide (B1.out.block (A2.out.block _ B1.out.lt))
    have C2 := hide (ch_too C1.out A2.out)
    have T2 := hide (tz.below A2.out)
    have Q2 := hide (Q1.out.below A2.out)
    have HNE : Hid (u1.heap.size ≠ w.heap.size) := by have := S1.out; show _ ≠ _; omega
    clear c1 tz sz MT hu hlz C1 B1 Q1 LW B0 SZ CW
    obtain ⟨f0, f1, f2, f3⟩ := T2.out.cell
    have HD : Hid ((r = []) = (kz = s.size)) := by rw [← hdz]; exact propext (drop_end hkz)
    clear hdz f3
    by_cases he : kz = s.size
    · have t1 : ((kz : Int) == (s.size : Int)) = true := by simp [he]
      have hr : r = [] := by rw [HD.out]; exact he
      rw [if_pos hr] at HA
      have HF : Hid (some m = ans) := HA.out
      clear HA HD hr he
      go_upto_region 2 with fail
      rw [hu2.out]
      clear hu2
      go_quiet ((go_at_call 61; exact quiet_w NY.out))
      go_upto_region 3 with fail
      clear f0 f1 f2
      refine wp_world (fun u => BoxM u u1.heap.size ⟨op1, nm1, vl1, va1, vn1, vc1, ka1, kn1, kc1⟩ ∧ BoxM u w.heap.size hm0 ∧ Ch (fun b => b = g) w u ∧ SeeM (fun b => w.heap.size + 1 ≤ b) u m ⟨op1, nm1, vl1, va1, vn1, vc1, ka1, kn1, kc1⟩) ⟨X2.out.drewN _, B2.out.drewN _, ch_drewS C2.out _, Q2.out.drewN _⟩ ?_
      rintro u3 ⟨x, bb, cc, qq⟩
      have B3 := hide bb
      obtain ⟨x0, x1, x2, x3, x4, _⟩ := x.all
      obtain ⟨d0, d1, d2, d3, d4, df⟩ := bb.all
      have f10 := df 0
      have f11 := df 1
      have f12 := df 2
      have f13 := df 3
      have f14 := df 4
      dsimp only at x0 x1 x2 x3 x4
      dsimp only [hm0] at d0 d1 d2 d3 d4
      have FP := hide (B3.out.put ⟨op1, nm1, vl1, va1, vn1, vc1, ka1, kn1, kc1⟩)
      have DN : Hid (WhP ans g w (.returned (.agg #[.int .i64 op1, .string nm1, .string vl1, .slice va1 vn1 vc1, .slice ka1 kn1 kc1])) (put5 u3 w.heap.size ⟨op1, nm1, vl1, va1, vn1, vc1, ka1, kn1, kc1⟩)) := by
        rw [← HF.out]
        exact ⟨ch_box cc (Nat.le_refl _), ⟨op1, nm1, vl1, va1, vn1, vc1, ka1, kn1, kc1⟩, rfl, see_box qq rfl⟩
      clear df X2 B2 x bb cc qq
      go_wp2
      obtain ⟨e0, e1, e2, e3, e4, _⟩ := FP.out.all
      unfold put5 at e0 e1 e2 e3 e4
      dsimp only at e0 e1 e2 e3 e4
      exact bodyPost_ret (v := .agg #[.int .i64 op1, .string nm1, .string vl1, .slice va1 vn1 vc1, .slice ka1 kn1 kc1]) (by simp [results, Try.results36, go_sem, e0, e1, e2, e3, e4]) rfl DN.out
    · have t1 : ((kz : Int) == (s.size : Int)) = false := by simp; omega
      have hr : ¬ r = [] := by rw [HD.out]; exact he
      rw [if_neg hr] at HA
      have FN : Hid (none = ans) := HA.out
      clear HA HD hr he
      go_upto_region 2 with fail
      rw [hu2.out]
      clear hu2
      have PN : Hid (WhP ans g w refE u2.drew) := ⟨ch_drewS C2.out 1, by rw [← FN.out]⟩
      have S0 : Hid (u2.drew.cell? ⟨g, 1, none⟩ = some (.string s) ∧ u2.drew.cell? ⟨g, 2, none⟩ = some (.int .i64 (kz : Int))) := ⟨f1, f2⟩
      clear f0 f1 f2
      refine wp_region_held_drew (S := fun w' => w'.cell? ⟨g, 1, none⟩ = some (.string s) ∧ w'.cell? ⟨g, 2, none⟩ = some (.int .i64 (kz : Int))) (by kernel_rfl) S0.out (fun hHeld => ?_)
      refine held_take (i := 0) (d := (some 6)) (v := ?_) rfl rfl (by kernel_rfl) (by kernel_rfl) (by kernel_rfl) (fun _ _ _ h => h) (Or.inl ⟨by rfl, ?_⟩) (by first | assumption | rfl | trivial) ?_
      rotate_left 1
      · (intro w hSw; (try dsimp only at hSw); (try subst hSw); go_simp; try with_reducible rfl)
      simp only [Act.put, List.setIfInBounds_toArray, List.set_cons_zero, List.set_cons_succ]
      refine held_take (i := 1) (d := (some 7)) (v := ?_) rfl rfl (by kernel_rfl) (by kernel_rfl) (by kernel_rfl) (fun _ _ _ h => h) (Or.inl ⟨by rfl, ?_⟩) (by first | assumption | rfl | trivial) ?_
      rotate_left 1
      · (intro w hSw; (try dsimp only at hSw); (try subst hSw); go_simp; try with_reducible rfl)
      simp only [Act.put, List.setIfInBounds_toArray, List.set_cons_zero, List.set_cons_succ]
      refine held_take (i := 2) (d := (some 8)) (v := ?_) rfl rfl (by kernel_rfl) (by kernel_rfl) (by kernel_rfl) (fun _ _ _ h => h) (Or.inl ⟨by rfl, ?_⟩) (by first | assumption | rfl | trivial) ?_
      rotate_left 1
      · (intro w hSw; (try dsimp only at hSw); (try subst hSw); go_simp; try with_reducible rfl)
      simp only [Act.put, List.setIfInBounds_toArray, List.set_cons_zero, List.set_cons_succ]
      refine held_take (i := 3) (d := (some 9)) (v := ?_) rfl rfl (by kernel_rfl) (by kernel_rfl) (by kernel_rfl) (fun _ _ _ h => h) (Or.inl ⟨by rfl, ?_⟩) (by first | assumption | rfl | trivial) ?_
      rotate_left 1
      · (intro w hSw; (try dsimp only at hSw); (try subst hSw); go_simp; try with_reducible rfl)
      simp only [Act.put, List.setIfInBounds_toArray, List.set_cons_zero, List.set_cons_succ]
      refine held_take (i := 4) (d := (some 10)) (v := ?_) rfl rfl (by kernel_rfl) (by kernel_rfl) (by kernel_rfl) (fun _ _ _ h => h) (Or.inl ⟨by rfl, ?_⟩) (by first | assumption | rfl | trivial) ?_
      rotate_left 1
      · (intro w hSw; (try dsimp only at hSw); (try subst hSw); go_simp; try with_reducible rfl)
      simp only [Act.put, List.setIfInBounds_toArray, List.set_cons_zero, List.set_cons_succ]
      refine held_take (i := 5) (d := (some 11)) (v := ?_) rfl rfl (by kernel_rfl) (by kernel_rfl) (by kernel_rfl) (fun _ _ _ h => h) (Or.inl ⟨by rfl, ?_⟩) (by first | assumption | rfl | trivial) ?_
      rotate_left 1
      · (intro w hSw; (try dsimp only at hSw); (try subst hSw); go_simp; try with_reducible rfl)
      simp only [Act.put, List.setIfInBounds_toArray, List.set_cons_zero, List.set_cons_succ]
      refine held_take (i := 6) (d := (some 12)) (v := ?_) rfl rfl (by kernel_rfl) (by kernel_rfl) (by kernel_rfl) (fun _ _ _ h => h) (Or.inl ⟨by rfl, ?_⟩) (by first | assumption | rfl | trivial) ?_
      rotate_left 1
      · (intro w hSw; (try dsimp only at hSw); (try subst hSw); go_simp; try with_reducible rfl)
      simp only [Act.put, List.setIfInBounds_toArray, List.set_cons_zero, List.set_cons_succ]
      refine held_take (i := 7) (d := (some 13)) (v := ?_) rfl rfl (by kernel_rfl) (by kernel_rfl) (by kernel_rfl) (fun _ _ _ h => h) (Or.inl ⟨by rfl, ?_⟩) (by first | assumption | rfl | trivial) ?_
      rotate_left 1
      · (intro w hSw; (try dsimp only at hSw); (try subst hSw); go_simp; try with_reducible rfl)
      simp only [Act.put, List.setIfInBounds_toArray, List.set_cons_zero, List.set_cons_succ]
      refine held_take (i := 8) (d := (some 14)) (v := ?_) rfl rfl (by kernel_rfl) (by kernel_rfl) (by kernel_rfl) (fun _ _ _ h => h) (Or.inl ⟨by rfl, ?_⟩) (by first | assumption | rfl | trivial) ?_
      rotate_left 1
      · (intro w hSw; (try dsimp only at hSw); (try subst hSw); go_simp; try with_reducible rfl)
      simp only [Act.put, List.setIfInBounds_toArray, List.set_cons_zero, List.set_cons_succ]
      refine held_take (i := 9) (d := (some 15)) (v := ?_) rfl rfl (by kernel_rfl) (by kernel_rfl) (by kernel_rfl) (fun _ _ _ h => h) (Or.inl ⟨by rfl, ?_⟩) (by first | assumption | rfl | trivial) ?_
      rotate_left 1
      · (intro w hSw; (try dsimp only at hSw); (try subst hSw); go_simp; try with_reducible rfl)
      simp only [Act.put, List.setIfInBounds_toArray, List.set_cons_zero, List.set_cons_succ]
      refine held_next (i := 10) (by kernel_rfl) rfl (by rfl) (fun K hK => ?_)
      go_simp
      refine (NN.out _).mono ?_
      rintro e w' ⟨rfl, hw⟩
      rw [hw]
      exact ⟨rfl, PN.out⟩
end Go.Proofs.Ythebcmkainplnaa

namespace Go.Proofs.Ythebcmkainplnaa
open Go.RowKit
set_option maxRecDepth 20000

/-- A yes or no in memory. -/
def BB (w : World) (g : Nat) (b : Bool) : Prop := w.heap[g]? = some (.cells #[.bool b] 4 (0, 0))
theorem BB.cell {w : World} {g : Nat} {b : Bool} (h : BB w g b) : w.cell? ⟨g, 0, none⟩ = some (.bool b) ∧ w.frozen? ⟨g, 0, none⟩ = false := by
  unfold BB at h
  exact ⟨by simp [World.cell?, h], by simp [World.frozen?, h]⟩
theorem BB.lt {w : World} {g : Nat} {b : Bool} (h : BB w g b) : g < w.heap.size := (Array.getElem?_eq_some_iff.1 h).1
theorem BB.set {w : World} {g : Nat} {b : Bool} (h : BB w g b) (v : Bool) : BB (w.setCell ⟨g, 0, none⟩ (.bool v)) g v := by
  unfold BB at *
  simp [World.setCell, Array.getElem?_modify, h]
theorem BB.block {w w' : World} {g : Nat} {b : Bool} (h : BB w g b) (e : w'.heap[g]? = w.heap[g]?) : BB w' g b := e.trans h

/-- The deferred function, where nothing panics. -/
theorem catch_idle (p q : Addr) (w : World) :
    CallsD Try.prog 60 #[.pointer (some p), .pointer (some q)] .returning w fun e u' w' => e = .returned (.tuple #[]) ∧ u' = .returning ∧ w' = w := by
  refine callsD_of_wpS Try.func60 rfl fun c₀ cs hu => ?_
  apply wpS_seq
  apply wpS_region
  simp [wpOpsS, go_sem, recoverD, hu, Try.ntmps60, Exit.thenS]
  refine wpS_cond (t := false) (by simp [Act.eval, Array.replicate]) ?_
  simp only [Bool.false_eq_true, if_false]
  refine wpS_of_wp (wp_skip ?_)
  cases c₀
  simp_all [bodyPostS, results, Try.results60]
set_option maxHeartbeats 2000000 in
/-- The deferred function, where reading was left. -/
theorem catch_panicking (g1 g2 : Nat) (h : Hm) (b : Bool) (u : TypeId) (pv : Value) (older : List PanicEntry) (w : World) (hb : BoxM w g1 h) (hz : BB w g2 b) (hne : g1 ≠ g2) :
    CallsD Try.prog 60 #[.pointer (some ⟨g1, 0, none⟩), .pointer (some ⟨g2, 0, none⟩)] (.panicking ({ v := .iface u pv, recovered := false } :: older)) w fun e u' w' =>
      e = .returned (.tuple #[]) ∧ u' = .panicking ({ v := .iface u pv, recovered := true } :: older) ∧ w' = (put5 w g1 hm0).setCell ⟨g2, 0, none⟩ (.bool false) := by
  obtain ⟨b0, b1, b2, b3, b4, bf⟩ := hb.all
  have f0 := bf 0
  have f1 := bf 1
  have f2 := bf 2
  have f3 := bf 3
  have f4 := bf 4
  have Z := (hz.block ((ch_put5 w g1 hm0).block g2 hz.lt hne.symm)).cell
  unfold put5 hm0 at Z
  dsimp only at Z
  refine callsD_of_wpS Try.func60 rfl fun c₀ cs hu => ?_
  apply wpS_seq
  apply wpS_region
  simp [wpOpsS, go_sem, recoverD, hu, Try.ntmps60, Exit.thenS]
  refine wpS_cond (t := true) (by simp [Act.eval, Array.replicate]) ?_
  simp only [if_true]
  apply wpS_region
  simp [wpOpsS, go_sem, b0, b1, b2, b3, b4, f0, f1, f2, f3, f4, Z.1, Z.2, bodyPostS, results, Try.results60, put5, hm0]
end Go.Proofs.Ythebcmkainplnaa

namespace Go.Proofs.Ythebcmkainplnaa
open Go.RowKit
set_option maxRecDepth 20000

/-- What attempt tells. -/
def AtP (res : Option Mt) (g : Nat) (w : World) (e : Ending) (w' : World) : Prop :=
  Ch (fun b => b = g) w w' ∧ match res with
  | none => e = .returned (.tuple #[.agg #[.int .i64 0, .string ⟨#[]⟩, .string ⟨#[]⟩, .slice none 0 0, .slice none 0 0], .bool false])
  | some m => ∃ h : Hm, e = .returned (.tuple #[.agg #[.int .i64 h.op, .string h.nm, .string h.vl, .slice h.va h.vn h.vc, .slice h.ka h.kn h.kc], .bool true]) ∧ SeeM (fun b => w.heap.size ≤ b) w' m h
def chkO : Option Mt → Option Mt
  | none => none
  | some m => if chkM m = true then some m else none
/-- The two boxes, and what was there before. -/
structure Two (w u : World) (g : Nat) (h : Hm) (b : Bool) : Prop where
  box : BoxM u w.heap.size h
  ok : BB u (w.heap.size + 1) b
  ch : Ch (fun k => k = g) w u
theorem Two.to {w u v : World} {g : Nat} {h : Hm} {b : Bool} (q : Two w u g h b) (hg : g < w.heap.size) (c : Ch (fun k => k = g) u v) : Two w v g h b :=
  ⟨q.box.block (c.block _ q.box.lt (by omega)), q.ok.block (c.block _ q.ok.lt (by omega)), q.ch.trans c⟩
theorem Two.put {w u : World} {g : Nat} {h : Hm} {b : Bool} (q : Two w u g h b) (h' : Hm) : Two w (put5 u w.heap.size h') g h' b :=
  ⟨q.box.put h', q.ok.block ((ch_put5 u w.heap.size h').block _ q.ok.lt (by omega)), ch_box q.ch (Nat.le_refl _)⟩
theorem Two.set {w u : World} {g : Nat} {h : Hm} {b : Bool} (q : Two w u g h b) (v : Bool) : Two w (u.setCell ⟨w.heap.size + 1, 0, none⟩ (.bool v)) g h v := by
  have c := ch_set u (w.heap.size + 1) 0 (.bool v)
  refine ⟨q.box.block (c.block _ q.box.lt (by omega)), q.ok.set v, ⟨c.os.trans q.ch.os, c.tape.trans q.ch.tape, c.output.trans q.ch.output, Nat.le_trans q.ch.size c.size, fun k hk hn => ?_⟩⟩
  rw [c.block k (Nat.lt_of_lt_of_le hk q.ch.size) (by omega)]
  exact q.ch.block k hk hn

set_option maxHeartbeats 8000000 in
theorem attemptT_any (g : Nat) (s : ByteArray) (w : World) (h : TB w g 0 s 0) (hs : s.size ≤ 20000) :
    Calls Try.prog 35 #[.func (.func 36) #[.pointer (some ⟨g, 0, none⟩)] #[]] w fun e w' => AtP (chkO (whM s.toList)) g w e w' := by
  have hmf : ∀ (fn : Fn) (first cap : Array Value) (w : World), (Instr.makeFunc fn first cap).run Try.prog w = .ok (.func fn first cap) w := fun _ _ _ _ => rfl
  have NY := hide need_yes
  have NN := hide need_no
  have hg := h.lt
  obtain ⟨W, hW⟩ : ∃ W, Hid ((w.alloc (.cells #[.int .i64 0, .string ⟨#[]⟩, .string ⟨#[]⟩, .slice none 0 0, .slice none 0 0] 25)).alloc (.cells #[.bool false] 4) = W) := ⟨_, rfl⟩
  have LW : Hid (Below w.heap.size w W) := by rw [← hW.out]; exact bel_al (bel_al (Below.refl _ _) (Nat.le_refl _) _) (Nat.le_refl _) _
  have TW : Hid (Two w W g hm0 false) := by
    refine ⟨?_, ?_, (Ch.of_below LW.out).more (fun _ _ => False.elim)⟩
    · rw [← hW.out]
      exact (BoxM.zero w).block (Below.heap_alloc _ _ _ (by simp))
    · rw [← hW.out]
      have := heap_alloc_new (w.alloc (.cells #[.int .i64 0, .string ⟨#[]⟩, .string ⟨#[]⟩, .slice none 0 0, .slice none 0 0] 25)) (.cells #[.bool false] 4)
      rwa [show (w.alloc (.cells #[.int .i64 0, .string ⟨#[]⟩, .string ⟨#[]⟩, .slice none 0 0, .slice none 0 0] 25)).heap.size = w.heap.size + 1 by simp] at this
  have MT := hide (whole_any g s W (h.below LW.out) hs)
  obtain ⟨ans, HA⟩ : ∃ ans, Hid (chkO (whM s.toList) = ans) := ⟨_, rfl⟩
  rw [HA.out]
  generalize whM s.toList = res at *
  clear h hs
  cases res with
  | none =>
    have FN : Hid (none = ans) := HA.out
    go_enter_defers Try.func35, Try.ntmps35
    go_upto_region 2 with fail
    rw [hW.out]
    clear hW
    go_wp2_with fail
    with_reducible refine MT.out.mono ?_
    rintro e u1 ⟨c1, p1⟩
    obtain rfl : e = refE := p1
    have T1 := hide (TW.out.to hg c1)
    clear c1 MT
    go_wp2
    have TZ := hide ((T1.out.put hm0).set false)
    have TC := hide TZ.out.box.all
    have TD := hide TZ.out.ok.cell
    refine leaves_cons (f := 60) (args := #[.pointer (some ⟨w.heap.size, 0, none⟩), .pointer (some ⟨w.heap.size + 1, 0, none⟩)]) (by simp) (by simp [go_sem]) ?_
    refine (catch_panicking w.heap.size (w.heap.size + 1) _ false _ _ [] u1 T1.out.box T1.out.ok (by omega)).mono ?_
    rintro e u' w'' ⟨rfl, rfl, rfl⟩
    obtain ⟨e0, e1, e2, e3, e4, _⟩ := TC.out
    obtain ⟨e5, _⟩ := TD.out
    simp only [put5, hm0] at e0 e1 e2 e3 e4 e5
    have PF : Hid (AtP ans g w (.returned (.tuple #[.agg #[.int .i64 0, .string ⟨#[]⟩, .string ⟨#[]⟩, .slice none 0 0, .slice none 0 0], .bool false])) ((put5 u1 w.heap.size hm0).setCell ⟨w.heap.size + 1, 0, none⟩ (.bool false))) := by
      rw [← FN.out]
      exact ⟨TZ.out.ch, rfl⟩
    simp only [put5, hm0] at PF
    refine ⟨_, ?_, PF.out⟩
    simp [results, Try.results35, go_sem, e0, e1, e2, e3, e4, e5, put5, hm0]
  | some m =>
    go_enter_defers Try.func35, Try.ntmps35
    go_upto_region 2 with fail
    rw [hW.out]
    clear hW
    go_wp2_with fail
    with_reducible refine MT.out.mono ?_
    rintro e u1 ⟨c1, p1⟩
    obtain ⟨⟨op1, nm1, vl1, va1, vn1, vc1, ka1, kn1, kc1⟩, rfl, q1⟩ : ∃ h : Hm, e = .returned (.agg #[.int .i64 h.op, .string h.nm, .string h.vl, .slice h.va h.vn h.vc, .slice h.ka h.kn h.kc]) ∧ SeeM (fun b => W.heap.size ≤ b) u1 m h := p1
    dsimp only
    have T1 := hide (TW.out.to hg c1)
    have SZ : Hid (w.heap.size + 2 ≤ W.heap.size) := by have := TW.out.ok.lt; show _ ≤ _; omega
    have T2 := hide (T1.out.put ⟨op1, nm1, vl1, va1, vn1, vc1, ka1, kn1, kc1⟩)
    have Q2 : Hid (SeeM (fun b => w.heap.size + 2 ≤ b) (put5 u1 w.heap.size ⟨op1, nm1, vl1, va1, vn1, vc1, ka1, kn1, kc1⟩) m ⟨op1, nm1, vl1, va1, vn1, vc1, ka1, kn1, kc1⟩) :=
      (q1.ch (ch_put5 u1 w.heap.size _) (fun b hb e => by have := SZ.out; omega)).mono (fun b _ hb => Nat.le_trans SZ.out hb)
    obtain ⟨d0, d1, d2, d3, d4, df⟩ := T1.out.box.all
    have f0 := df 0
    have f1 := df 1
    have f2 := df 2
    have f3 := df 3
    have f4 := df 4
    dsimp only [hm0] at d0 d1 d2 d3 d4
    clear c1 q1 df MT
    unfold put5 at T2 Q2
    dsimp only at T2 Q2
    go_upto_region 3 with fail
    generalize ((((u1.setCell ⟨w.heap.size, 0, none⟩ (.int .i64 op1)).setCell ⟨w.heap.size, 1, none⟩ (.string nm1)).setCell ⟨w.heap.size, 2, none⟩ (.string vl1)).setCell ⟨w.heap.size, 3, none⟩ (.slice va1 vn1 vc1)).setCell ⟨w.heap.size, 4, none⟩ (.slice ka1 kn1 kc1) = u2 at T2 Q2 ⊢
    clear T1 d0 d1 d2 d3 d4 f0 f1 f2 f3 f4
    obtain ⟨d0, d1, d2, d3, d4, _⟩ := T2.out.box.all
    dsimp only at d0 d1 d2 d3 d4
    have CK := hide (chkM_any _ m _ u2 Q2.out)
    dsimp only at CK
    cases hc : chkM m with
    | false =>
      have FN : Hid (none = ans) := by rw [← HA.out]; show _ = chkO (some m); simp [chkO, hc]
      rw [hc] at CK
      go_wp2_with fail
      with_reducible refine CK.out.mono ?_
      rintro e u3 ⟨rfl, bw⟩
      have T3 := hide (T2.out.to hg ((Ch.of_below bw).more (fun _ _ => False.elim)))
      clear bw CK T2 Q2 d0 d1 d2 d3 d4
      go_wp2_with fail
      with_reducible refine (NN.out _).mono ?_
      rintro e w' ⟨rfl, hw⟩
      rw [hw]
      clear hw
      go_wp2
      have TZ := hide ((T3.out.put hm0).set false)
      have TC := hide TZ.out.box.all
      have TD := hide TZ.out.ok.cell
      refine leaves_cons (f := 60) (args := #[.pointer (some ⟨w.heap.size, 0, none⟩), .pointer (some ⟨w.heap.size + 1, 0, none⟩)]) (by simp) (by simp [go_sem]) ?_
      refine (catch_panicking w.heap.size (w.heap.size + 1) _ false _ _ [] u3 T3.out.box T3.out.ok (by omega)).mono ?_
      rintro e u' w'' ⟨rfl, rfl, rfl⟩
      obtain ⟨e0, e1, e2, e3, e4, _⟩ := TC.out
      obtain ⟨e5, _⟩ := TD.out
      simp only [put5, hm0] at e0 e1 e2 e3 e4 e5
      have PF : Hid (AtP ans g w (.returned (.tuple #[.agg #[.int .i64 0, .string ⟨#[]⟩, .string ⟨#[]⟩, .slice none 0 0, .slice none 0 0], .bool false])) ((put5 u3 w.heap.size hm0).setCell ⟨w.heap.size + 1, 0, none⟩ (.bool false))) := by
        rw [← FN.out]
        exact ⟨TZ.out.ch, rfl⟩
      simp only [put5, hm0] at PF
      refine ⟨_, ?_, PF.out⟩
      simp [results, Try.results35, go_sem, e0, e1, e2, e3, e4, e5, put5, hm0]
    | true =>
      have HF : Hid (some m = ans) := by rw [← HA.out]; show _ = chkO (some m); simp [chkO, hc]
      rw [hc] at CK
      go_wp2_with fail
      with_reducible refine CK.out.mono ?_
      rintro e u3 ⟨rfl, bw⟩
      have T3 := hide (T2.out.to hg ((Ch.of_below bw).more (fun _ _ => False.elim)))
      have Q3 := hide (Q2.out.below bw)
      clear bw CK T2 Q2 d0 d1 d2 d3 d4
      go_wp2_with fail
      with_reducible refine (NY.out _).mono ?_
      rintro e w' ⟨rfl, hw⟩
      rw [hw]
      clear hw
      have T4 := hide (T3.out.put ⟨op1, nm1, vl1, va1, vn1, vc1, ka1, kn1, kc1⟩)
      have T5 := hide (T4.out.set true)
      have Q5 : Hid (SeeM (fun b => w.heap.size ≤ b) ((put5 u3 w.heap.size ⟨op1, nm1, vl1, va1, vn1, vc1, ka1, kn1, kc1⟩).setCell ⟨w.heap.size + 1, 0, none⟩ (.bool true)) m ⟨op1, nm1, vl1, va1, vn1, vc1, ka1, kn1, kc1⟩) :=
        ((Q3.out.ch (ch_put5 u3 w.heap.size _) (fun b hb e => by omega)).ch (ch_set _ (w.heap.size + 1) 0 _) (fun b hb e => by omega)).mono (fun b _ hb => by omega)
      obtain ⟨d0, d1, d2, d3, d4, df⟩ := T3.out.box.all
      have f0 := df 0
      have f1 := df 1
      have f2 := df 2
      have f3 := df 3
      have f4 := df 4
      dsimp only at d0 d1 d2 d3 d4
      have Z := T4.out.ok.cell
      have PF : Hid (AtP ans g w (.returned (.tuple #[.agg #[.int .i64 op1, .string nm1, .string vl1, .slice va1 vn1 vc1, .slice ka1 kn1 kc1], .bool true])) ((put5 u3 w.heap.size ⟨op1, nm1, vl1, va1, vn1, vc1, ka1, kn1, kc1⟩).setCell ⟨w.heap.size + 1, 0, none⟩ (.bool true))) := by
        rw [← HF.out]
        exact ⟨T5.out.ch, _, rfl, Q5.out⟩
      have TC := hide T5.out.box.all
      have TD := hide T5.out.ok.cell
      simp only [put5] at PF Z
      obtain ⟨z1, z2⟩ := Z
      clear df
      go_wp2
      refine leaves_cons (f := 60) (args := #[.pointer (some ⟨w.heap.size, 0, none⟩), .pointer (some ⟨w.heap.size + 1, 0, none⟩)]) (by simp) (by simp [go_sem]) ?_
      refine (catch_idle _ _ _).mono ?_
      rintro e u' w'' ⟨rfl, rfl, rfl⟩
      obtain ⟨e0, e1, e2, e3, e4, _⟩ := TC.out
      obtain ⟨e5, _⟩ := TD.out
      simp only [put5] at e0 e1 e2 e3 e4 e5
      refine ⟨_, ?_, PF.out⟩
      simp [results, Try.results35, go_sem, e0, e1, e2, e3, e4, e5]
end Go.Proofs.Ythebcmkainplnaa

namespace Go.Proofs.Ythebcmkainplnaa
open Go.RowKit
set_option maxRecDepth 20000

/-- Are more than eight brackets open at once? n: how many are; st: 0 outside of values, 1 within one, 2 behind its escape. -/
def dpS : Nat → Nat → List UInt8 → Bool
  | _, _, [] => false
  | n, st, c :: r => if st = 2 then dpS n 1 r else if c = 34 then dpS n (1 - st) r else if st = 1 then (if c = 92 then dpS n 2 r else dpS n 1 r)
    else if c = 40 then (if 8 < n + 1 then true else dpS (n + 1) 0 r) else if c = 41 then dpS (n - 1) 0 r else dpS n 0 r
theorem dpS_skip (n : Nat) (r : List UInt8) : dpS n 2 r = dpS n 1 (r.drop 1) := by
  cases r with
  | nil => rfl
  | cons c t => rw [dpS, if_pos rfl]; rfl
theorem dpS_in {n : Nat} {c : UInt8} (h1 : c ≠ 34) (h2 : c ≠ 92) (r : List UInt8) : dpS n 1 (c :: r) = dpS n 1 r := by
  rw [dpS, if_neg (by decide), if_neg h1, if_pos rfl, if_neg h2]
theorem dpS_esc {n : Nat} {c : UInt8} (r : List UInt8) : dpS n 1 (92 :: c :: r) = dpS n 1 r := by
  rw [dpS, if_neg (by decide), if_neg (by decide), if_pos rfl, if_pos rfl, dpS, if_pos rfl]
theorem dpS_plain {n : Nat} {c : UInt8} (h1 : c ≠ 34) (h2 : c ≠ 40) (h3 : c ≠ 41) (r : List UInt8) : dpS n 0 (c :: r) = dpS n 0 r := by
  rw [dpS, if_neg (by decide), if_neg h1, if_neg (by decide), if_neg h2, if_neg h3]
theorem dpS_open {n : Nat} (h : n + 1 ≤ 8) (r : List UInt8) : dpS n 0 (40 :: r) = dpS (n + 1) 0 r := by
  rw [dpS, if_neg (by decide), if_neg (by decide), if_neg (by decide), if_pos rfl, if_neg (by omega)]
theorem dpS_shut (n : Nat) (r : List UInt8) : dpS n 0 (41 :: r) = dpS (n - 1) 0 r := by
  rw [dpS, if_neg (by decide), if_neg (by decide), if_neg (by decide), if_neg (by decide), if_pos rfl]
theorem hxD_plain (k : Nat) (h : k < 16) : hxD k ≠ 34 ∧ hxD k ≠ 92 := by
  have : ∀ k, k < 16 → hxD k ≠ 34 ∧ hxD k ≠ 92 := by decide
  exact this k h
theorem dpS_byte (n : Nat) (c : UInt8) (r : List UInt8) : dpS n 1 (qb c ++ r) = dpS n 1 r := by
  unfold qb
  by_cases h1 : c = 34 ∨ c = 92
  · rw [if_pos h1]
    exact dpS_esc r
  · rw [if_neg h1]
    by_cases h2 : c < 32 ∨ 127 ≤ c
    · rw [if_pos h2]
      have hc := c.toNat_lt
      have a1 := hxD_plain (c.toNat / 16) (by omega)
      have a2 := hxD_plain (c.toNat % 16) (by omega)
      show dpS n 1 (92 :: 120 :: hxD (c.toNat / 16) :: hxD (c.toNat % 16) :: r) = _
      rw [dpS_esc, dpS_in a1.1 a1.2, dpS_in a2.1 a2.2]
    · rw [if_neg h2]
      exact dpS_in (fun e => h1 (Or.inl e)) (fun e => h1 (Or.inr e)) r
theorem dpS_quo (n : Nat) (v r : List UInt8) : dpS n 0 (quoB v ++ r) = dpS n 0 r := by
  have key : ∀ v : List UInt8, dpS n 1 (v.flatMap qb ++ 34 :: r) = dpS n 0 r := by
    intro v
    induction v with
    | nil => rw [List.flatMap_nil, List.nil_append, dpS, if_neg (by decide), if_pos rfl]
    | cons c t ih => rw [List.flatMap_cons, List.append_assoc, dpS_byte, ih]
  have e : quoB v ++ r = 34 :: (v.flatMap qb ++ 34 :: r) := by unfold quoB; simp
  rw [e, dpS, if_neg (by decide), if_pos rfl]
  exact key v
theorem dpS_name {n : Nat} {l : List UInt8} (h : ∀ c ∈ l, nmS c = true) (r : List UInt8) : dpS n 0 (l ++ r) = dpS n 0 r := by
  induction l with
  | nil => rfl
  | cons c t ih =>
    have hc := h c (by simp)
    rw [List.cons_append, dpS_plain (fun e => by subst e; revert hc; decide) (fun e => by subst e; revert hc; decide) (fun e => by subst e; revert hc; decide)]
    exact ih (fun x hx => h x (by simp [hx]))
theorem dpS_join {n : Nat} {l : List (List UInt8)} (h : ∀ x ∈ l, ∀ r, dpS n 0 (x ++ r) = dpS n 0 r) (r : List UInt8) : dpS n 0 (joinC l ++ r) = dpS n 0 r := by
  induction l with
  | nil => rfl
  | cons x t ih =>
    have hx := h x (by simp)
    have ht := ih (fun y hy => h y (by simp [hy]))
    by_cases h0 : t = []
    · subst h0
      rw [joinC_one]
      exact hx r
    · rw [joinC_cons _ _ h0, List.append_assoc, hx, List.cons_append, dpS_plain (by decide) (by decide) (by decide)]
      exact ht
/-- What may be is not too deep. -/
theorem dpS_text (m : Mt) : ∀ (d a b : Nat) (res : Nat × Nat) (r : List UInt8), lookF m (d + 1) a b = some res → dpS d 0 (textM m ++ r) = dpS d 0 r := by
  refine Mt.ind (P := fun m => ∀ (d a b : Nat) (res : Nat × Nat) (r : List UInt8), lookF m (d + 1) a b = some res → dpS d 0 (textM m ++ r) = dpS d 0 r) ?_ m
  intro m ih d a b res r h
  obtain ⟨h1, h2, hf, h3, h4⟩ := lookF_some h
  have nm : ∀ {x : ByteArray}, nameB x = true → ∀ c ∈ x.toList, nmS c = true := fun {x} hx => by
    unfold nameB at hx
    rw [Bool.and_eq_true] at hx
    exact nmF_all hx.1
  have kd : ∀ k ∈ m.ks, ∀ r, dpS (d + 1) 0 (textM k ++ r) = dpS (d + 1) 0 r := by
    intro k hk r
    have key : ∀ (ks : List Mt) (n b : Nat), k ∈ ks → lookKs ks (d + 1 + 1) n b = some res → ∃ n b r', lookF k (d + 1 + 1) n b = some r' := by
      intro ks
      induction ks with
      | nil => intro n b hk; cases hk
      | cons x t iht =>
        intro n b hk h
        obtain ⟨r', hx, ht⟩ := lookKs_cons h
        rcases List.mem_cons.1 hk with rfl | hk
        · exact ⟨_, _, _, hx⟩
        · exact iht _ _ hk ht
    obtain ⟨n', b', r', hl⟩ := key _ _ _ hk h4
    exact ih k hk (d + 1) n' b' r' r hl
  rw [textM_eq]
  rcases fit_names hf with ⟨ho, -⟩ | ⟨ho, hn, -, -⟩ | ⟨ho, hn, -, -, -⟩ | ⟨ho, -, -, -, -⟩
  · rw [if_pos ho]
    exact dpS_plain (by decide) (by decide) (by decide) r
  · rw [if_neg (by omega)]
    rcases ho with ho | ho | ho
    · rw [if_pos ho, List.append_assoc, dpS_name (nm hn), List.cons_append, dpS_plain (by decide) (by decide) (by decide), dpS_quo]
    · rw [if_neg (by omega), if_pos ho, List.append_assoc, dpS_name (nm hn), List.cons_append, List.cons_append, dpS_plain (by decide) (by decide) (by decide), dpS_plain (by decide) (by decide) (by decide), dpS_quo]
    · rw [if_neg (by omega), if_neg (by omega), if_pos ho, List.append_assoc, dpS_name (nm hn), List.cons_append, List.cons_append, dpS_plain (by decide) (by decide) (by decide), dpS_plain (by decide) (by decide) (by decide), dpS_quo]
  · rw [if_neg (by omega), if_neg (by omega), if_neg (by omega), if_neg (by omega), if_pos ho, List.append_assoc, dpS_name (nm hn), List.cons_append, List.cons_append, dpS_plain (by decide) (by decide) (by decide), dpS_open (by omega), List.append_assoc, dpS_join, List.singleton_append, dpS_shut, Nat.add_sub_cancel]
    intro x hx r
    obtain ⟨v, -, rfl⟩ := List.mem_map.1 hx
    exact dpS_quo _ _ _
  · rw [if_neg (by omega), if_neg (by omega), if_neg (by omega), if_neg (by omega), if_neg (by omega), List.cons_append, List.cons_append]
    have hs : ∀ c : UInt8, c = 38 ∨ c = 124 ∨ c = 33 → dpS d 0 (c :: 40 :: (joinC (textKs m.ks) ++ [41] ++ r)) = dpS d 0 r := by
      intro c hc
      rw [dpS_plain (by rcases hc with rfl | rfl | rfl <;> decide) (by rcases hc with rfl | rfl | rfl <;> decide) (by rcases hc with rfl | rfl | rfl <;> decide), dpS_open (by omega), List.append_assoc, dpS_join, List.singleton_append, dpS_shut, Nat.add_sub_cancel]
      intro x hx r
      rw [textKs_map] at hx
      obtain ⟨k, hk, rfl⟩ := List.mem_map.1 hx
      exact kd k hk r
    refine hs _ ?_
    rcases ho with ho | ho | ho
    · rw [if_neg (by omega), if_neg (by omega)]; exact Or.inl rfl
    · rw [if_pos ho]; exact Or.inr (Or.inl rfl)
    · rw [if_neg (by omega), if_pos ho]; exact Or.inr (Or.inr rfl)
theorem text_flat {m : Mt} (h : chkM m = true) : dpS 0 0 (textM m) = false := by
  obtain ⟨res, hres⟩ := Option.isSome_iff_exists.1 (show (lookF m 1 0 0).isSome = true from h)
  have := dpS_text m 0 0 0 res [] hres
  rw [List.append_nil] at this
  rw [this]
  rfl
theorem parse_chk (l : List UInt8) : chkO (whM l) = parseM l := by
  unfold whM parseM
  cases rdM 300 64 l with
  | none => rfl
  | some q =>
    simp only
    by_cases h1 : q.2.1 = []
    · rw [if_pos h1]
      by_cases h2 : chkM q.1 = true
      · rw [if_pos ⟨h1, h2⟩]
        simp [chkO, h2]
      · rw [if_neg (fun e => h2 e.2)]
        simp [chkO, h2]
    · rw [if_neg h1, if_neg (fun e => h1 e.1)]
      rfl
end Go.Proofs.Ythebcmkainplnaa

namespace Go.Proofs.Ythebcmkainplnaa
open Go.RowKit
set_option maxRecDepth 20000

theorem u8_ne {c d : UInt8} {z : Int} (h : ((c.toNat : Nat) : Int) = z) (e : z ≠ (d.toNat : Int)) : c ≠ d := fun x => e (by rw [← h, x])
theorem u8_eq {c d : UInt8} {z : Int} (h : ((c.toNat : Nat) : Int) = z) (e : z = (d.toNat : Int)) : c = d := UInt8.toNat_inj.1 (by omega)
set_option maxHeartbeats 8000000 in
theorem isdeep_any (s : ByteArray) (w : World) (hs : s.size ≤ 20000) :
    Calls Try.prog 34 #[.string s] w fun e w' => e = .returned (.bool (dpS 0 0 s.toList)) ∧ w' = w := by
  obtain ⟨ans, HA⟩ : ∃ ans, Hid (dpS 0 0 s.toList = ans) := ⟨_, rfl⟩
  rw [HA.out]
  go_enter Try.func34, Try.ntmps34
  go_wp2
  go_loopg [3, 4, 5] (s.size + 1) (fun gh o b i wr => ∃ (k n : Nat) (st : Bool), k ≤ s.size + 1 ∧ n ≤ 8 ∧ s.size + 1 - k ≤ gh ∧ o = .int .i64 (n : Int) ∧ b = .bool st ∧ i = .int .i64 (k : Int) ∧ wr = w ∧ Hid (ans = dpS n (if st then 1 else 0) (s.toList.drop k)))
  case atStart => exact ⟨0, 0, false, by omega, by omega, by omega, rfl, rfl, rfl, rfl, HA.out.symm⟩
  case round =>
    obtain ⟨k, n, st, hk, hn, hg, rfl, rfl, rfl, rfl, A⟩ := hrel
    clear HA
    by_cases hlt : k < s.size
    · have i1 : (0 : Int) ≤ (k : Int) := by omega
      have i2 : (k : Int) < (s.size : Int) := by omega
      obtain ⟨z, hz⟩ : ∃ z : Int, Hid (((s[k]'hlt).toNat : Int) = z) := ⟨_, rfl⟩
      have hb := hz.out
      have ST := hide (drop_byte s k hlt)
      cases st with
      | false =>
        simp only [Bool.false_eq_true, if_false] at A
        rw [ST.out] at A
        by_cases e34 : z = 34
        · have t34 : (z == 34) = true := by simp [e34]
          have c34 : s[k]'hlt = 34 := u8_eq hb e34
          clear e34
          have A2 : Hid (ans = dpS (n) 1 (s.toList.drop (k + 1))) := by
            rw [A.out, dpS, if_neg (by decide), if_pos c34]
            exact rfl
          clear A ST hz
          go_wp2
          go_roundg (s.size + 1 - (k + 1))
          case measure => omega
          case rel => exact ⟨k + 1, n, true, by omega, by omega, by omega, rfl, rfl, by go_num, rfl, A2⟩
        · have t34 : (z == 34) = false := by simp [e34]
          have c34 : s[k]'hlt ≠ 34 := u8_ne hb e34
          clear e34
          by_cases e40 : z = 40
          · have t40 : (z == 40) = true := by simp [e40]
            have c40 : s[k]'hlt = 40 := u8_eq hb e40
            clear e40
            by_cases hbig : 8 < n + 1
            · have t8 : (8 : Int) < (n : Int) + 1 := by omega
              have FT : Hid (true = ans) := by
                rw [A.out, dpS, if_neg (by decide), if_neg c34, if_neg (by decide), if_pos c40, if_pos hbig]
                exact rfl
              clear A ST hz hbig
              go_wp2
              go_ret
              exact ⟨by rw [← FT.out]; rfl, rfl⟩
            · have t8 : ¬ (8 : Int) < (n : Int) + 1 := by omega
              have A2 : Hid (ans = dpS (n + 1) 0 (s.toList.drop (k + 1))) := by
                rw [A.out, dpS, if_neg (by decide), if_neg c34, if_neg (by decide), if_pos c40, if_neg hbig]
                exact rfl
              clear A ST hz
              go_wp2
              go_roundg (s.size + 1 - (k + 1))
              case measure => omega
              case rel => exact ⟨k + 1, n + 1, false, by omega, by omega, by omega, by go_num, rfl, by go_num, rfl, A2⟩
          · have t40 : (z == 40) = false := by simp [e40]
            have c40 : s[k]'hlt ≠ 40 := u8_ne hb e40
            clear e40
            by_cases e41 : z = 41
            · have t41 : (z == 41) = true := by simp [e41]
              have c41 : s[k]'hlt = 41 := u8_eq hb e41
              clear e41
              by_cases h0 : 0 < n
              · have t0 : (0 : Int) < (n : Int) := by omega
                obtain ⟨n, rfl⟩ : ∃ n', n = n' + 1 := ⟨n - 1, by omega⟩
                have t8 : ¬ (8 : Int) < (n : Int) := by omega
                have A2 : Hid (ans = dpS (n) 0 (s.toList.drop (k + 1))) := by
                  rw [A.out, dpS, if_neg (by decide), if_neg c34, if_neg (by decide), if_neg c40, if_pos c41, Nat.add_sub_cancel]
                  exact rfl
                clear A ST hz
                go_wp2
                go_roundg (s.size + 1 - (k + 1))
                case measure => omega
                case rel => exact ⟨k + 1, n, false, by omega, by omega, by omega, rfl, rfl, by go_num, rfl, A2⟩
              · have t0 : ¬ (0 : Int) < (n : Int) := by omega
                have t8 : ¬ (8 : Int) < (n : Int) := by omega
                have A2 : Hid (ans = dpS (n) 0 (s.toList.drop (k + 1))) := by
                  rw [A.out, dpS, if_neg (by decide), if_neg c34, if_neg (by decide), if_neg c40, if_pos c41, show n - 1 = n by omega]
                  exact rfl
                clear A ST hz
                go_wp2
                go_roundg (s.size + 1 - (k + 1))
                case measure => omega
                case rel => exact ⟨k + 1, n, false, by omega, by omega, by omega, rfl, rfl, by go_num, rfl, A2⟩
            · have t41 : (z == 41) = false := by simp [e41]
              have c41 : s[k]'hlt ≠ 41 := u8_ne hb e41
              clear e41
              have t8 : ¬ (8 : Int) < (n : Int) := by omega
              have A2 : Hid (ans = dpS (n) 0 (s.toList.drop (k + 1))) := by
                rw [A.out, dpS_plain c34 c40 c41]
                exact rfl
              clear A ST hz
              go_wp2
              go_roundg (s.size + 1 - (k + 1))
              case measure => omega
              case rel => exact ⟨k + 1, n, false, by omega, by omega, by omega, rfl, rfl, by go_num, rfl, A2⟩
      | true =>
        simp only [if_true] at A
        rw [ST.out] at A
        by_cases e34 : z = 34
        · have t34 : (z == 34) = true := by simp [e34]
          have c34 : s[k]'hlt = 34 := u8_eq hb e34
          clear e34
          have A2 : Hid (ans = dpS (n) 0 (s.toList.drop (k + 1))) := by
            rw [A.out, dpS, if_neg (by decide), if_pos c34]
            exact rfl
          clear A ST hz
          go_wp2
          go_roundg (s.size + 1 - (k + 1))
          case measure => omega
          case rel => exact ⟨k + 1, n, false, by omega, by omega, by omega, rfl, rfl, by go_num, rfl, A2⟩
        · have t34 : (z == 34) = false := by simp [e34]
          have c34 : s[k]'hlt ≠ 34 := u8_ne hb e34
          clear e34
          by_cases e92 : z = 92
          · have t92 : (z == 92) = true := by simp [e92]
            have c92 : s[k]'hlt = 92 := u8_eq hb e92
            clear e92
            have A2 : Hid (ans = dpS (n) 1 (s.toList.drop (k + 1 + 1))) := by
              rw [A.out, dpS, if_neg (by decide), if_neg c34, if_pos rfl, if_pos c92, dpS_skip, List.drop_drop]
              exact rfl
            clear A ST hz
            go_wp2
            go_roundg (s.size + 1 - (k + 1 + 1))
            case measure => omega
            case rel => exact ⟨k + 1 + 1, n, true, by omega, by omega, by omega, rfl, rfl, by go_num, rfl, A2⟩
          · have t92 : (z == 92) = false := by simp [e92]
            have c92 : s[k]'hlt ≠ 92 := u8_ne hb e92
            clear e92
            have A2 : Hid (ans = dpS (n) 1 (s.toList.drop (k + 1))) := by
              rw [A.out, dpS_in c34 c92]
              exact rfl
            clear A ST hz
            go_wp2
            go_roundg (s.size + 1 - (k + 1))
            case measure => omega
            case rel => exact ⟨k + 1, n, true, by omega, by omega, by omega, rfl, rfl, by go_num, rfl, A2⟩
    · have FF : Hid (false = ans) := by
        have e : s.toList.drop k = [] := List.drop_eq_nil_of_le (by rw [ba_len]; omega)
        rw [A.out, e]
        exact rfl
      clear A
      have i2 : ¬ (k : Int) < (s.size : Int) := by omega
      go_wp2
      go_ret
      exact ⟨by rw [← FF.out]; rfl, rfl⟩

/-- What Parse tells. -/
def PsP (l : List UInt8) (w : World) (e : Ending) (w' : World) : Prop :=
  Below w.heap.size w w' ∧ ∃ (h : Hm) (m : Mt) (er : Int), e = .returned (.tuple #[.agg #[.int .i64 h.op, .string h.nm, .string h.vl, .slice h.va h.vn h.vc, .slice h.ka h.kn h.kc], .int .i64 er]) ∧ SeeM (fun b => w.heap.size ≤ b) w' m h ∧
    ((dpS 0 0 l = true ∧ m = zeroM ∧ er = 18) ∨ (dpS 0 0 l = false ∧ parseM l = none ∧ m = zeroM ∧ er = 17) ∨ (dpS 0 0 l = false ∧ parseM l = some m ∧ er = 0))
theorem ch_bel0 {w v u : World} (h : Below w.heap.size w v) (c : Ch (fun b => b = v.heap.size) v u) : Below w.heap.size w u := h.trans (c.below h.size (fun k hk e => by have := h.size; omega))

set_option maxHeartbeats 8000000 in
theorem parseT_any (s : ByteArray) (w : World) (hs : s.size ≤ 20000) :
    Calls Try.prog 18 #[.string s] w fun e w' => PsP s.toList w e w' := by
  have hmf : ∀ (fn : Fn) (first cap : Array Value) (w : World), (Instr.makeFunc fn first cap).run Try.prog w = .ok (.func fn first cap) w := fun _ _ _ _ => rfl
  obtain ⟨W, hW⟩ : ∃ W, Hid (w.alloc (.cells #[.int .i64 0, .string ⟨#[]⟩, .string ⟨#[]⟩, .slice none 0 0, .slice none 0 0] 25) = W) := ⟨_, rfl⟩
  have LW : Hid (Below w.heap.size w W) := by rw [← hW.out]; exact (Below.refl _ _).alloc (Nat.le_refl _) _
  have B0 : Hid (BoxM W w.heap.size hm0) := by rw [← hW.out]; exact BoxM.zero w
  have SZ : Hid (W.heap.size = w.heap.size + 1) := by rw [← hW.out]; show _ = _; simp
  have ID := hide (isdeep_any s W hs)
  have Z0 : Hid (∀ u h', Below w.heap.size w u → Below w.heap.size w (put5 u w.heap.size h')) := fun u h' hb => hb.trans ((ch_put5 u w.heap.size h').below hb.size (fun k hk e => by omega))
  cases hd : dpS 0 0 s.toList with
  | true =>
    rw [hd] at ID
    have DN : Hid (PsP s.toList w (.returned (.tuple #[.agg #[.int .i64 0, .string ⟨#[]⟩, .string ⟨#[]⟩, .slice none 0 0, .slice none 0 0], .int .i64 18])) (put5 W w.heap.size hm0)) :=
      ⟨Z0.out W hm0 LW.out, hm0, zeroM, 18, rfl, seeM_zero _ _, Or.inl ⟨hd, rfl, rfl⟩⟩
    clear hd
    go_enter Try.func18, Try.ntmps18
    go_upto_region 1 with fail
    rw [hW.out]
    clear hW
    go_wp2_with fail
    with_reducible refine ID.out.mono ?_
    rintro e w' ⟨rfl, hw⟩
    rw [hw]
    clear hw ID
    obtain ⟨d0, d1, d2, d3, d4, df⟩ := B0.out.all
    have f0 := df 0
    have f1 := df 1
    have f2 := df 2
    have f3 := df 3
    have f4 := df 4
    dsimp only [hm0] at d0 d1 d2 d3 d4
    have FP := hide (B0.out.put hm0)
    clear df
    go_wp2
    obtain ⟨e0, e1, e2, e3, e4, _⟩ := FP.out.all
    unfold put5 at e0 e1 e2 e3 e4
    dsimp only [hm0] at e0 e1 e2 e3 e4
    exact bodyPost_ret (v := .tuple #[.agg #[.int .i64 0, .string ⟨#[]⟩, .string ⟨#[]⟩, .slice none 0 0, .slice none 0 0], .int .i64 18]) (by simp [results, Try.results18, go_sem, e0, e1, e2, e3, e4]) rfl DN.out
  | false =>
    rw [hd] at ID
    obtain ⟨W2, hW2⟩ : ∃ W2, Hid (W.alloc (.cells #[.int .i64 0, .string s, .int .i64 0] 66) = W2) := ⟨_, rfl⟩
    have L2 : Hid (Below w.heap.size w W2) := by rw [← hW2.out]; exact bel_al LW.out (Nat.le_refl _) _
    have B2 : Hid (BoxM W2 w.heap.size hm0) := by rw [← hW2.out]; exact B0.out.block (Below.heap_alloc _ _ _ B0.out.lt)
    have T2 : Hid (TB W2 (w.heap.size + 1) 0 s 0) := by
      rw [← hW2.out]
      have := heap_alloc_new W (.cells #[.int .i64 0, .string s, .int .i64 0] 66)
      rwa [SZ.out] at this
    have AT := hide (attemptT_any (w.heap.size + 1) s W2 T2.out hs)
    rw [parse_chk] at AT
    obtain ⟨res, HP⟩ : ∃ res, Hid (parseM s.toList = res) := ⟨_, rfl⟩
    rw [HP.out] at AT
    go_enter Try.func18, Try.ntmps18
    go_upto_region 1 with fail
    rw [hW.out]
    clear hW
    go_wp2_with fail
    with_reducible refine ID.out.mono ?_
    rintro e w' ⟨rfl, hw⟩
    rw [hw]
    clear hw ID
    rw [← SZ.out] at AT
    go_upto_region 4 with fail
    rw [hW2.out]
    clear hW2
    go_wp2_with fail
    rw [SZ.out] at AT
    rw [SZ.out]
    with_reducible refine AT.out.mono ?_
    rintro e u1 ⟨c1, p1⟩
    have HB1 : Hid (Below w.heap.size w u1) := L2.out.trans (c1.below L2.out.size (fun k hk e => by omega))
    have BX1 := hide (B2.out.block (c1.block _ B2.out.lt (by omega)))
    have SU : Hid (w.heap.size + 1 ≤ u1.heap.size) := by have := BX1.out.lt; show _ ≤ _; omega
    cases res with
    | none =>
      obtain rfl : e = .returned (.tuple #[.agg #[.int .i64 0, .string ⟨#[]⟩, .string ⟨#[]⟩, .slice none 0 0, .slice none 0 0], .bool false]) := p1
      have A2 : Hid (Below u1.heap.size u1 (u1.alloc (.cells #[.int .i64 0, .string ⟨#[]⟩, .string ⟨#[]⟩, .slice none 0 0, .slice none 0 0] 25))) := (Below.refl _ _).alloc (Nat.le_refl _) _
      have BX2 := hide (BX1.out.block (A2.out.block _ BX1.out.lt))
      have DN : Hid (PsP s.toList w (.returned (.tuple #[.agg #[.int .i64 0, .string ⟨#[]⟩, .string ⟨#[]⟩, .slice none 0 0, .slice none 0 0], .int .i64 17])) (put5 (u1.alloc (.cells #[.int .i64 0, .string ⟨#[]⟩, .string ⟨#[]⟩, .slice none 0 0, .slice none 0 0] 25)) w.heap.size hm0)) :=
        ⟨Z0.out _ hm0 (bel_to HB1.out (Nat.le_refl _) A2.out), hm0, zeroM, 17, rfl, seeM_zero _ _, Or.inr (Or.inl ⟨hd, HP.out, rfl, rfl⟩)⟩
      clear c1 AT hd B2 T2 L2 B0 LW
      go_upto_region 5 with fail
      generalize u1.alloc (.cells #[.int .i64 0, .string ⟨#[]⟩, .string ⟨#[]⟩, .slice none 0 0, .slice none 0 0] 25) = u2 at BX2 DN A2 ⊢
      obtain ⟨d0, d1, d2, d3, d4, df⟩ := BX2.out.all
      have f0 := df 0
      have f1 := df 1
      have f2 := df 2
      have f3 := df 3
      have f4 := df 4
      dsimp only [hm0] at d0 d1 d2 d3 d4
      have FP := hide (BX2.out.put hm0)
      clear df
      go_wp2
      obtain ⟨e0, e1, e2, e3, e4, _⟩ := FP.out.all
      unfold put5 at e0 e1 e2 e3 e4
      dsimp only [hm0] at e0 e1 e2 e3 e4
      exact bodyPost_ret (v := .tuple #[.agg #[.int .i64 0, .string ⟨#[]⟩, .string ⟨#[]⟩, .slice none 0 0, .slice none 0 0], .int .i64 17]) (by simp [results, Try.results18, go_sem, e0, e1, e2, e3, e4]) rfl DN.out
    | some m =>
      obtain ⟨⟨op1, nm1, vl1, va1, vn1, vc1, ka1, kn1, kc1⟩, rfl, q1⟩ : ∃ h : Hm, e = .returned (.tuple #[.agg #[.int .i64 h.op, .string h.nm, .string h.vl, .slice h.va h.vn h.vc, .slice h.ka h.kn h.kc], .bool true]) ∧ SeeM (fun b => W2.heap.size ≤ b) u1 m h := p1
      dsimp only
      obtain ⟨u2, hu2⟩ : ∃ u2, Hid (u1.alloc (.cells #[.int .i64 op1, .string nm1, .string vl1, .slice va1 vn1 vc1, .slice ka1 kn1 kc1] 25) = u2) := ⟨_, rfl⟩
      have A2 : Hid (Below u1.heap.size u1 u2) := by rw [← hu2.out]; exact (Below.refl _ _).alloc (Nat.le_refl _) _
      have X2 : Hid (BoxM u2 u1.heap.size ⟨op1, nm1, vl1, va1, vn1, vc1, ka1, kn1, kc1⟩) := by rw [← hu2.out]; exact boxM_new u1 ⟨op1, nm1, vl1, va1, vn1, vc1, ka1, kn1, kc1⟩
      have BX2 := hide (BX1.out.block (A2.out.block _ BX1.out.lt))
      have S2 : Hid (w.heap.size + 1 ≤ W2.heap.size) := by have := B2.out.lt; show _ ≤ _; omega
      have DN : Hid (PsP s.toList w (.returned (.tuple #[.agg #[.int .i64 op1, .string nm1, .string vl1, .slice va1 vn1 vc1, .slice ka1 kn1 kc1], .int .i64 0])) (put5 u2 w.heap.size ⟨op1, nm1, vl1, va1, vn1, vc1, ka1, kn1, kc1⟩)) :=
        ⟨Z0.out _ _ (bel_to HB1.out (Nat.le_refl _) A2.out), ⟨op1, nm1, vl1, va1, vn1, vc1, ka1, kn1, kc1⟩, m, 0, rfl, see_box ((q1.below A2.out).mono (fun b _ hb => Nat.le_trans S2.out hb)) rfl, Or.inr (Or.inr ⟨hd, HP.out, rfl⟩)⟩
      obtain ⟨x0, x1, x2, x3, x4, _⟩ := X2.out.all
      dsimp only at x0 x1 x2 x3 x4
      clear c1 AT hd B2 T2 L2 B0 LW q1
      go_upto_region 5 with fail
      rw [hu2.out]
      clear hu2
      obtain ⟨d0, d1, d2, d3, d4, df⟩ := BX2.out.all
      have f0 := df 0
      have f1 := df 1
      have f2 := df 2
      have f3 := df 3
      have f4 := df 4
      dsimp only [hm0] at d0 d1 d2 d3 d4
      have FP := hide (BX2.out.put ⟨op1, nm1, vl1, va1, vn1, vc1, ka1, kn1, kc1⟩)
      clear df
      go_wp2
      obtain ⟨e0, e1, e2, e3, e4, _⟩ := FP.out.all
      unfold put5 at e0 e1 e2 e3 e4
      dsimp only [hm0] at e0 e1 e2 e3 e4
      exact bodyPost_ret (v := .tuple #[.agg #[.int .i64 op1, .string nm1, .string vl1, .slice va1 vn1 vc1, .slice ka1 kn1 kc1], .int .i64 0]) (by simp [results, Try.results18, go_sem, e0, e1, e2, e3, e4]) rfl DN.out
end Go.Proofs.Ythebcmkainplnaa
