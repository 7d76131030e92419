/-
  The least hashes of what came, as lists that rise: one more, two lists put together, the first n of them: plain laws. Rows of words: numbers of a row, of none too, behind numbers of the call's own; lists that rise told one by one. The document's own answer of layer 8 (the laws' reference): whether hashes may be, one more hash: contracts, for every world. The document's own answer of layer 8 (the laws' reference): plain facts of two lists put together. The document's own answer of layer 8 (the laws' reference): two lists put together, how many unlike things: contracts, for every world.
  Conditions: as each theorem says; the slice shows its numbers; one more hash: of a list that may be; the slices show their numbers; the lists may be.
-/
import Derived.Test.YtadcaonkmncgoaaGreatVintL
import Derived.Test.YtadcaonkmncgoaaGreatVintA
import Derived.Test.YtadcaonkmncgoaaGreatRows
import Derived.Laws.AppendOwnNone
import Derived.Test.YtadcaonkmncgoaaGreatChK
import Derived.Deep.QuietTactic
import Derived.BigQuiet
namespace Go.Proofs.YtadcaonkmncgoaaGreat

/-- Each above the one ahead. -/
def Up (l : List Int) : Prop := l.Pairwise (· < ·)
/-- One more. -/
def insK (h : Int) : List Int → List Int
  | [] => [h]
  | x :: t => if h < x then h :: x :: t else if h = x then x :: t else x :: insK h t
/-- Two lists put together. -/
def uni (a : List Int) : List Int → List Int
  | [] => a
  | h :: t => uni (insK h a) t

theorem mem_insK {h x : Int} {l : List Int} : x ∈ insK h l ↔ x = h ∨ x ∈ l := by
  induction l with
  | nil => simp [insK]
  | cons y t ih =>
    rw [insK]
    split
    · simp
    · split
      · rename_i e; subst e; simp
      · simp only [List.mem_cons, ih]
        constructor
        · rintro (h | h | h)
          · exact Or.inr (Or.inl h)
          · exact Or.inl h
          · exact Or.inr (Or.inr h)
        · rintro (h | h | h)
          · exact Or.inr (Or.inl h)
          · exact Or.inl h
          · exact Or.inr (Or.inr h)
theorem up_insK {h : Int} {l : List Int} (hl : Up l) : Up (insK h l) := by
  unfold Up at *
  induction l with
  | nil => simp [insK]
  | cons y t ih =>
    have h1 := List.pairwise_cons.1 hl
    rw [insK]
    split
    · rename_i hy
      refine List.pairwise_cons.2 ⟨fun z hz => ?_, hl⟩
      rcases List.mem_cons.1 hz with rfl | hz
      · exact hy
      · exact Int.lt_trans hy (h1.1 z hz)
    · split
      · exact hl
      · refine List.pairwise_cons.2 ⟨fun z hz => ?_, ih h1.2⟩
        rcases mem_insK.1 hz with rfl | hz
        · omega
        · exact h1.1 z hz
theorem mem_uni {x : Int} {a b : List Int} : x ∈ uni a b ↔ x ∈ a ∨ x ∈ b := by
  induction b generalizing a with
  | nil => simp [uni]
  | cons h t ih =>
    rw [uni, ih, mem_insK, List.mem_cons]
    constructor
    · rintro ((h | h) | h)
      · exact Or.inr (Or.inl h)
      · exact Or.inl h
      · exact Or.inr (Or.inr h)
    · rintro (h | h | h)
      · exact Or.inl (Or.inr h)
      · exact Or.inl (Or.inl h)
      · exact Or.inr h
theorem up_uni {a b : List Int} (ha : Up a) : Up (uni a b) := by
  induction b generalizing a with
  | nil => exact ha
  | cons h t ih => exact ih (up_insK ha)
/-- Two lists that rise and hold the same are one. -/
theorem up_ext {l m : List Int} (hl : Up l) (hm : Up m) (h : ∀ x, x ∈ l ↔ x ∈ m) : l = m := by
  unfold Up at *
  induction l generalizing m with
  | nil =>
    cases m with
    | nil => rfl
    | cons y t => exact absurd ((h y).2 (List.mem_cons_self ..)) (by simp)
  | cons x s ih =>
    cases m with
    | nil => exact absurd ((h x).1 (List.mem_cons_self ..)) (by simp)
    | cons y t =>
      have h1 := List.pairwise_cons.1 hl
      have h2 := List.pairwise_cons.1 hm
      have e : x = y := by
        rcases List.mem_cons.1 ((h x).1 (List.mem_cons_self ..)) with e | e
        · exact e
        · rcases List.mem_cons.1 ((h y).2 (List.mem_cons_self ..)) with e' | e'
          · exact e'.symm
          · have := h1.1 y e'
            have := h2.1 x e
            omega
      subst e
      congr 1
      refine ih h1.2 h2.2 (fun z => ?_)
      constructor
      · intro hz
        rcases List.mem_cons.1 ((h z).1 (List.mem_cons_of_mem _ hz)) with e | e
        · have := h1.1 z hz; omega
        · exact e
      · intro hz
        rcases List.mem_cons.1 ((h z).2 (List.mem_cons_of_mem _ hz)) with e | e
        · have := h2.1 z hz; omega
        · exact e
theorem up_take {l : List Int} (hl : Up l) (n : Nat) : Up (l.take n) := List.Pairwise.sublist (List.take_sublist n l) hl
theorem uni_comm {a b : List Int} (ha : Up a) (hb : Up b) : uni a b = uni b a := up_ext (up_uni ha) (up_uni hb) (fun x => by rw [mem_uni, mem_uni]; exact or_comm)
theorem uni_assoc {a b c : List Int} (ha : Up a) : uni (uni a b) c = uni a (uni b c) :=
  up_ext (up_uni (up_uni ha)) (up_uni ha) (fun x => by rw [mem_uni, mem_uni, mem_uni, mem_uni]; exact or_assoc)
theorem uni_same {a b : List Int} (ha : Up a) (h : ∀ x ∈ b, x ∈ a) : uni a b = a := up_ext (up_uni ha) ha (fun x => by rw [mem_uni]; exact ⟨fun h' => h'.elim id (h x), Or.inl⟩)
theorem insK_there {h : Int} {l : List Int} (hl : Up l) (hm : h ∈ l) : insK h l = l := up_ext (up_insK hl) hl (fun x => by rw [mem_insK]; exact ⟨fun h' => h'.elim (fun e => e ▸ hm) id, Or.inr⟩)

/-- The first n of a list with one more: what stands behind the first n plays no part. -/
theorem insK_take {h : Int} {l : List Int} (n : Nat) : (insK h (l.take n)).take n = (insK h l).take n := by
  induction l generalizing n with
  | nil => simp
  | cons x t ih =>
    cases n with
    | zero => simp
    | succ n =>
      rw [List.take_succ_cons, insK, insK]
      split
      · rw [List.take_succ_cons, List.take_succ_cons]
        cases n with
        | zero => simp
        | succ n => rw [List.take_succ_cons, List.take_succ_cons, List.take_take]; congr 3; omega
      · split
        · rw [List.take_succ_cons, List.take_succ_cons, List.take_take]; congr 2; omega
        · rw [List.take_succ_cons, List.take_succ_cons, ih]
theorem uni_take_left {a b : List Int} (n : Nat) : (uni (a.take n) b).take n = (uni a b).take n := by
  induction b generalizing a with
  | nil => rw [uni, uni, List.take_take]; congr 1; omega
  | cons h t ih =>
    rw [uni, uni, ← ih (a := insK h (a.take n)), insK_take, ih]

/-- A hash is taken; of more than n the greatest one is dropped. -/
def hashK (n : Nat) (l : List Int) (h : Int) : List Int := (insK h l).take n
/-- Hashes are taken one by one. -/
def hashAll (n : Nat) (l m : List Int) : List Int := m.foldl (hashK n) l
theorem hashAll_uni {n : Nat} {l m : List Int} (hl : l.length ≤ n) : hashAll n l m = (uni l m).take n := by
  unfold hashAll
  suffices h : ∀ l : List Int, m.foldl (hashK n) (l.take n) = (uni l m).take n by
    have := h l
    rwa [List.take_of_length_le hl] at this
  intro l
  induction m generalizing l with
  | nil => rfl
  | cons h t ih =>
    rw [List.foldl_cons, uni, ← ih (insK h l)]
    congr 1
    unfold hashK
    rw [insK_take]
theorem hashK_up {n : Nat} {l : List Int} {h : Int} (hl : Up l) : Up (hashK n l h) := up_take (up_insK hl) n
theorem hashK_len (n : Nat) (l : List Int) (h : Int) : (hashK n l h).length ≤ n := by unfold hashK; rw [List.length_take]; omega
theorem hashAll_up {n : Nat} {l m : List Int} (hl : Up l) : Up (hashAll n l m) := by
  unfold hashAll
  induction m generalizing l with
  | nil => exact hl
  | cons h t ih => exact ih (hashK_up hl)
theorem hashAll_len {n : Nat} {l m : List Int} (hl : l.length ≤ n) : (hashAll n l m).length ≤ n := by
  unfold hashAll
  induction m generalizing l with
  | nil => exact hl
  | cons h t ih => exact ih (hashK_len n l h)
/-- To merge may be turned round and grouped. -/
theorem merge_turn {n : Nat} {a b c : List Int} (ha : Up a) (hb : Up b) (hc : Up c) (la : a.length ≤ n) (lb : b.length ≤ n) (lc : c.length ≤ n) :
    hashAll n (hashAll n a b) c = hashAll n (hashAll n c b) a ∧ hashAll n (hashAll n a b) c = hashAll n a (hashAll n b c) := by
  have e1 : ∀ x y z : List Int, x.length ≤ n → hashAll n (hashAll n x y) z = (uni (uni x y) z).take n := by
    intro x y z hx
    rw [hashAll_uni (hashAll_len hx), hashAll_uni hx, uni_take_left]
  refine ⟨?_, ?_⟩
  · rw [e1 a b c la, e1 c b a lc]
    congr 1
    refine up_ext (up_uni (up_uni ha)) (up_uni (up_uni hc)) (fun x => ?_)
    simp only [mem_uni]
    constructor
    · rintro ((h | h) | h)
      · exact Or.inr h
      · exact Or.inl (Or.inr h)
      · exact Or.inl (Or.inl h)
    · rintro ((h | h) | h)
      · exact Or.inr h
      · exact Or.inl (Or.inr h)
      · exact Or.inl (Or.inl h)
  · rw [e1 a b c la, hashAll_uni la, uni_assoc ha]
    have e2 : (uni a (hashAll n b c)).take n = (uni (hashAll n b c) a).take n := by rw [uni_comm ha (hashAll_up hb)]
    rw [e2, hashAll_uni lb, uni_take_left, uni_comm (up_uni hb) ha]
/-- What is there already changes nothing. -/
theorem merge_there {n : Nat} {a b : List Int} (ha : Up a) (la : a.length ≤ n) : hashAll n (hashAll n a b) b = hashAll n a b := by
  rw [hashAll_uni (hashAll_len la), hashAll_uni la, uni_take_left]
  congr 1
  exact uni_same (up_uni ha) (fun x hx => mem_uni.2 (Or.inr hx))

/-- The dropped one: a list that rises, of one more than n, without its last. -/
theorem drop_last {l : List Int} {n : Nat} (h : l.length = n + 1) : l.take n = l.dropLast := by
  rw [List.dropLast_eq_take, h, Nat.add_sub_cancel]
theorem up_last {l : List Int} (hl : Up l) {x : Int} (hx : x ∈ l) : x ≤ l.getLastD 0 := by
  unfold Up at hl
  induction l generalizing x with
  | nil => simp at hx
  | cons y t ih =>
    have h1 := List.pairwise_cons.1 hl
    cases t with
    | nil => simp at hx; subst hx; simp
    | cons z t =>
      have e : (y :: z :: t).getLastD 0 = (z :: t).getLastD 0 := by simp [List.getLastD]
      rw [e]
      rcases List.mem_cons.1 hx with rfl | hx
      · have := ih h1.2 (x := z) (List.mem_cons_self ..)
        have := h1.1 z (List.mem_cons_self ..)
        omega
      · exact ih h1.2 hx
theorem insK_len {h : Int} {l : List Int} (hl : Up l) : (insK h l).length = if h ∈ l then l.length else l.length + 1 := by
  split
  · rename_i hm; rw [insK_there hl hm]
  · rename_i hm
    clear hl
    induction l with
    | nil => rfl
    | cons x t ih =>
      simp only [List.mem_cons, not_or] at hm
      rw [insK]
      split
      · simp
      · rw [if_neg hm.1, List.length_cons, ih hm.2, List.length_cons]
end Go.Proofs.YtadcaonkmncgoaaGreat

namespace Go.Proofs.YtadcaonkmncgoaaGreat
open Go.RowKit
set_option maxRecDepth 20000

theorem Tryz.infoU : (Tryz.prog.info? 24).map (fun i => (i.zero, i.size, i.bytes)) = some (some (.int .u64 0), 1, 8) := by kernel_rfl
/-- Words in memory of the call's own. -/
abbrev OwnU (w : World) (base : Nat) (a : Option Addr) (n cap : Nat) (zs : List Int) : Prop := Own 24 .u64 w base a n cap zs
theorem wfs_of {l : List Int} (h : ∀ x ∈ l, W64 x) : ∀ x ∈ l, (Lit.int .u64 x).wf = true := fun x hx => wf_of_u64 (h x hx)
theorem OwnU.rowU {w : World} {base n cap : Nat} {a : Option Addr} {zs : List Int} (h : OwnU w base a n cap zs) (hn : n ≤ 281474976710656) (hz : ∀ x ∈ zs, W64 x) : Row .u64 w a n zs := Own.row h hn (wfs_of hz)
theorem take_num {l : List Int} {k : Nat} (h : k < l.length) : l.take (k + 1) = l.take k ++ [l.getD k 0] := by
  rw [List.take_succ_eq_append_getElem h, List.getD_eq_getElem?_getD, List.getElem?_eq_getElem h]
  rfl
theorem drop_num {l : List Int} {k : Nat} (h : k < l.length) : l.drop k = l.getD k 0 :: l.drop (k + 1) := by
  rw [List.drop_eq_getElem_cons h, List.getD_eq_getElem?_getD, List.getElem?_eq_getElem h]
  rfl

/-- The append of a row's words, of none too, behind words of the call's own. -/
theorem wpList_append_words {P : Program} (w : World) {ops : Array Oper} {rest : List Oper} {o : Oper} {a : Act} {Q : Exit → Act → World → Prop} (hgd : o.guard = none) (s x : Operand) (t : TypeId)
    (ho : o.op = .call { callee := .builtin .append, args := #[s, x], argTypes := #[t, t] })
    (base : Nat) (e : TypeId) (i : TypeInfo) (ht : P.underlying t = some (.slice e)) (hi : P.info? e = some i) (hz : i.zero = some (.int .u64 0)) (hsize : i.size = 1) (hby : i.bytes = 8)
    (ao : Option Addr) (n cap : Nat) (zs : List Int) (hs : a.eval s = .slice ao n cap) (hown : Own e .u64 w base ao n cap zs)
    (bo : Option Addr) (m c : Nat) (news : List Int) (hx : a.eval x = .slice bo m c) (hrow : Row .u64 w bo m news) (hbo : bo = none → c = 0)
    (hbytes : (n + m) * 8 ≤ 140737488355328) (hbase : base ≤ w.heap.size)
    (h : ∀ a' cap' w', Own e .u64 w' base a' (n + m) cap' (zs ++ news) → Below base w w' → wpList P ops Q rest (a.put o.dst (.slice a' (n + m) cap')) w') : wpList P ops Q (o :: rest) a w := by
  cases bo with
  | none =>
    have h0 := hrow.nz rfl
    subst h0
    obtain rfl := hbo rfl
    have hz : news = [] := List.length_eq_zero_iff.1 hrow.1
    subst hz
    refine wpList_append_own_none hgd s x t ho base e i 1 ht hi _ n (zs.map (Value.int .u64)) hs hown hx ?_
    have := h ao cap w (by rw [List.append_nil]; exact hown) (Below.refl _ _)
    exact this
  | some ad =>
    refine wpList_append_own w hgd s x t ho base e i (.int .u64 0) 1 8 ht hi hz hsize hby rfl (by decide) _ n (zs.map (Value.int .u64)) hs hown ad m c (news.map (Value.int .u64)) hx (by simp [hrow.1]) hrow.cells (one_cell .u64 news) (by unfold maxLen; omega) (by omega) hbase ?_
    intro v' w' h1 h2 _
    rw [← List.map_append] at h1
    obtain ⟨a', cap', rfl, h3⟩ := own_form h1
    exact h a' cap' w' h3 ((Below.refl _ _).grown h2 hbase (own_block hown))

/-- Whether each is above the one ahead, behind p. -/
def upT : Int → List Int → Bool
  | _, [] => true
  | p, x :: t => decide (p < x) && upT x t
def chkK (l : List Int) : Bool := upT (-1) l && decide (l.length ≤ 1024)
def endK (p : Int) (l : List Int) : Int := l.foldl (fun _ x => x) p
theorem upT_snoc (p : Int) (l : List Int) (x : Int) : upT p (l ++ [x]) = (upT p l && decide (endK p l < x)) := by
  induction l generalizing p with
  | nil => show (decide (p < x) && true) = (true && decide (p < x)); rw [Bool.and_true, Bool.true_and]
  | cons y t ih => rw [List.cons_append, upT, upT, ih, Bool.and_assoc]; rfl
theorem endK_snoc (p : Int) (l : List Int) (x : Int) : endK p (l ++ [x]) = x := by unfold endK; rw [List.foldl_append]; rfl
theorem upT_append (p : Int) (l m : List Int) : upT p (l ++ m) = (upT p l && upT (endK p l) m) := by
  induction l generalizing p with
  | nil => simp [upT, endK]
  | cons y t ih => rw [List.cons_append, upT, upT, ih, Bool.and_assoc]; rfl
theorem upT_prefix {p : Int} {l : List Int} (k : Nat) (h : upT p (l.take k) = false) : upT p l = false := by
  rw [← List.take_append_drop k l, upT_append, h, Bool.false_and]
theorem upT_up {p : Int} {l : List Int} (h : upT p l = true) : Up l ∧ ∀ x ∈ l, p < x := by
  unfold Up
  induction l generalizing p with
  | nil => exact ⟨List.Pairwise.nil, by simp⟩
  | cons y t ih =>
    rw [upT, Bool.and_eq_true, decide_eq_true_eq] at h
    obtain ⟨h1, h2⟩ := ih h.2
    refine ⟨List.pairwise_cons.2 ⟨h2, h1⟩, fun x hx => ?_⟩
    rcases List.mem_cons.1 hx with rfl | hx
    · exact h.1
    · have := h2 x hx; omega
theorem up_upT {p : Int} {l : List Int} (h : Up l) (hp : ∀ x ∈ l, p < x) : upT p l = true := by
  unfold Up at h
  induction l generalizing p with
  | nil => rfl
  | cons y t ih =>
    have h1 := List.pairwise_cons.1 h
    rw [upT, Bool.and_eq_true, decide_eq_true_eq]
    exact ⟨hp y (List.mem_cons_self ..), ih h1.2 h1.1⟩
theorem chk_up {l : List Int} (h : chkK l = true) : Up l ∧ l.length ≤ 1024 := by
  unfold chkK at h
  rw [Bool.and_eq_true, decide_eq_true_eq] at h
  exact ⟨(upT_up h.1).1, h.2⟩
theorem up_chk {l : List Int} (h : Up l) (hl : l.length ≤ 1024) (hw : ∀ x ∈ l, W64 x) : chkK l = true := by
  unfold chkK
  rw [Bool.and_eq_true, decide_eq_true_eq]
  exact ⟨up_upT h (fun x hx => by have := (hw x hx).1; omega), hl⟩
theorem words_insK {h : Int} {l : List Int} (hh : W64 h) (hl : ∀ x ∈ l, W64 x) : ∀ x ∈ insK h l, W64 x := fun x hx => (mem_insK.1 hx).elim (fun e => e ▸ hh) (hl x)
theorem words_hashK {n : Nat} {h : Int} {l : List Int} (hh : W64 h) (hl : ∀ x ∈ l, W64 x) : ∀ x ∈ hashK n l h, W64 x := fun x hx => words_insK hh hl x (List.mem_of_mem_take hx)

/-- Where a hash would stand: so many are below it. -/
theorem insK_at {h : Int} {l : List Int} {k : Nat} (h1 : ∀ x ∈ l.take k, x < h) (h2 : k = l.length ∨ (k < l.length ∧ h < l.getD k 0)) : insK h l = l.take k ++ h :: l.drop k := by
  induction l generalizing k with
  | nil => simp [insK]
  | cons x t ih =>
    cases k with
    | zero =>
      rcases h2 with h2 | ⟨_, h2⟩
      · simp at h2
      · rw [insK, if_pos (by simpa using h2)]; rfl
    | succ k =>
      have hx := h1 x (by simp)
      rw [insK, if_neg (by omega), if_neg (by omega), ih (k := k) (fun z hz => h1 z (by simp [hz])) (by
        rcases h2 with h2 | ⟨h2, h3⟩
        · left; simpa using h2
        · right; exact ⟨by simpa using h2, by simpa using h3⟩)]
      rfl
end Go.Proofs.YtadcaonkmncgoaaGreat

namespace Go.Proofs.YtadcaonkmncgoaaGreat
open Go.RowKit
set_option maxRecDepth 20000

theorem row_at {k : IntKind} {w : World} {a : Option Addr} {n : Nat} {zs : List Int} (h : Row k w a n zs) {j : Nat} (hj : j < n) :
    ∃ b off, a = some ⟨b, off, none⟩ ∧ ∀ i, i < n → ∀ W, Below w.heap.size w W → W.cell? ⟨b, off + i, none⟩ = some (.int k (zs.getD i 0)) := by
  obtain ⟨-, -, -, h0 | ⟨b, off, rfl, hc⟩⟩ := id h
  · omega
  · refine ⟨b, off, rfl, fun i hi W hW => ?_⟩
    have hlt : b < w.heap.size := World.block_lt_of_cell? w _ (hc i hi)
    rw [hW.cell (p := ⟨b, off + i, none⟩) hlt]
    exact hc i hi

set_option maxHeartbeats 2000000 in
theorem refchk_any (a : Option Addr) (n cap : Nat) (l : List Int) (w : World) (hr : Row .u64 w a n l) :
    Calls Tryz.prog 14 #[.slice a n cap] w fun e w' => e = .returned (.bool (chkK l)) ∧ ∃ q, w' = w.drewN q := by
  have HR := hide hr
  have HL := hide hr.1
  have hn := hr.2.1
  have HWd := hide (fun i => hr.word i)
  clear hr
  have HU1 : Hid (upT (-1) (l.take 1) = true) := by
    show _ = _
    cases l with
    | nil => rfl
    | cons x t =>
      have := (HWd.out 0).1
      simp only [List.getD_cons_zero] at this
      simp only [List.take_succ_cons, List.take_zero, upT, Bool.and_true, decide_eq_true_eq]
      omega
  go_enter Tryz.func14, Tryz.ntmps14
  go_wp2
  go_loopw [3] (fun i wr => ∃ k : Nat, 1 ≤ k ∧ (k ≤ n ∨ k = 1) ∧ i = .int .i64 k ∧ Hid (upT (-1) (l.take k) = true) ∧ Hid (∃ q, wr = w.drewN q)) (fun i _ => n - (intOf i).toNat)
  case atStart => exact ⟨1, by omega, Or.inr rfl, rfl, HU1, ⟨0, rfl⟩⟩
  case round =>
    obtain ⟨k, k1, hk, rfl, HT, HW⟩ := hrel
    obtain ⟨q, hq⟩ := HW.out
    have HQ : Hid (∀ j, ∃ q, wr.drewN j = w.drewN q) := fun j => ⟨q + j, by rw [hq]; simp [World.drewN, Nat.add_assoc]⟩
    by_cases hlt : k < n
    · obtain ⟨j, rfl⟩ : ∃ j, k = j + 1 := ⟨k - 1, by omega⟩
      obtain ⟨b, off, rfl, hcc⟩ := row_at HR.out (j := j) (by omega)
      have hwr : Below w.heap.size w wr := by rw [hq]; exact ⟨rfl, rfl, rfl, Nat.le_refl _, fun _ _ => rfl⟩
      have f1 := hcc (j + 1) hlt wr hwr
      have f0 := hcc j (by omega) wr hwr
      have HTK : Hid (upT (-1) (l.take (j + 1 + 1)) = decide (l.getD j 0 < l.getD (j + 1) 0)) := by
        show _ = _
        rw [take_num (by rw [HL.out]; exact hlt), upT_snoc, HT.out, Bool.true_and, take_num (k := j) (by rw [HL.out]; omega), endK_snoc]
      clear hcc hwr hq
      generalize l.getD (j + 1) 0 = x at *
      generalize l.getD j 0 = y at *
      have i1 : (0 : Int) ≤ (j : Int) := by omega
      have i2 : (j : Int) < (n : Int) := by omega
      have i3 : (j : Int) + 1 < (n : Int) := by omega
      by_cases hxy : x ≤ y
      · have HF : Hid (chkK l = false) := by
          show _ = _
          unfold chkK
          rw [upT_prefix (j + 1 + 1) (by rw [HTK.out]; exact decide_eq_false (by omega)), Bool.false_and]
        have d1 : decide (x ≤ y) = true := decide_eq_true hxy
        clear HT HTK
        go_wp2
        go_quiet (fail)
        go_wp2
        go_ret
        rw [HF.out]
        exact ⟨rfl, HQ.out _⟩
      · have HN : Hid (upT (-1) (l.take (j + 1 + 1)) = true) := by
          show _ = _
          rw [HTK.out]; exact decide_eq_true (by omega)
        have d1 : decide (x ≤ y) = false := decide_eq_false hxy
        clear HT HTK
        go_wp2
        go_quiet (fail)
        go_wp2
        go_roundw
        case rel => exact ⟨j + 1 + 1, by omega, by omega, by go_num, HN, HQ.out _⟩
        case measure => simp [intOf]; omega
    · have HE : Hid (chkK l = decide ((n : Int) ≤ 1024)) := by
        show _ = _
        have h := HT.out
        rw [List.take_of_length_le (by rw [HL.out]; omega)] at h
        unfold chkK
        rw [h, Bool.true_and, HL.out]
        simp only [decide_eq_decide]
        omega
      have i3 : ¬ (k : Int) < (n : Int) := by omega
      clear hq
      go_wp2
      go_ret
      rw [HE.out]
      exact ⟨rfl, HW.out⟩

set_option maxRecDepth 20000 in
theorem slice_toU (a : Option Addr) (n cap k : Nat) (hk : k ≤ cap) (w : World) :
    (Instr.slice 23 (.slice a n cap) none (some (.int .i64 (k : Int))) none).run Tryz.prog w = .ok (.slice a k cap) w := by
  rw [run_slice_h (P := Tryz.prog) w 23 a n cap Tryz.underlying23 .i64 (k : Int) (by omega) (by omega)]
  have hs : (sizeOf (Tryz.prog.elem 23)).run Tryz.prog w = .ok 1 w := by kernel_rfl
  rw [hs]
  simp only [Result.andThen, sliced, Int.toNat_natCast, Nat.zero_mul, Nat.sub_zero]
  cases a with
  | none => simp
  | some x => simp [Addr.add]
set_option maxRecDepth 20000 in
theorem slice_fromU (a : Option Addr) (n cap k : Nat) (hk : k ≤ n) (w : World) :
    (Instr.slice 23 (.slice a n cap) (some (.int .i64 (k : Int))) none none).run Tryz.prog w = .ok (.slice (if cap = k then a else a.map (·.add k)) (n - k) (cap - k)) w := by
  rw [run_slice_l (P := Tryz.prog) w 23 a n cap Tryz.underlying23 .i64 (k : Int) (by omega) (by omega)]
  have hs : (sizeOf (Tryz.prog.elem 23)).run Tryz.prog w = .ok 1 w := by kernel_rfl
  rw [hs]
  simp only [Result.andThen, sliced, Int.toNat_natCast, Nat.mul_one]

/-- Where a row of the call's own lies. -/
theorem own_lies {e : TypeId} {k : IntKind} {w : World} {base n cap : Nat} {a : Option Addr} {zs : List Int} (h : Own e k w base a n cap zs) {x : Addr} (hx : a = some x) : base ≤ x.block ∧ x.block < w.heap.size := by
  have := row_cells h (g := x.block) (by rw [hx]; rfl)
  exact ⟨this.2, this.1.lt⟩
/-- A list of words that a call hands back: the one that it was given, or one in new memory. -/
def BackU (w w' : World) (e : Ending) (a : Option Addr) (l : List Int) : Prop := ∃ a' c', e = .returned (.slice a' l.length c') ∧ Row .u64 w' a' l.length l ∧ l.length ≤ c' ∧ (a' = none → c' = 0) ∧ Below w.heap.size w w' ∧ (a' = a ∨ ∀ x, a' = some x → w.heap.size ≤ x.block ∧ x.block < w'.heap.size)

end Go.Proofs.YtadcaonkmncgoaaGreat

namespace Go.Proofs.YtadcaonkmncgoaaGreat
open Go.RowKit
set_option maxRecDepth 20000

theorem up_nil : Up [] := List.Pairwise.nil
theorem up_drop {l : List Int} (hl : Up l) (n : Nat) : Up (l.drop n) := List.Pairwise.sublist (List.drop_sublist n l) hl
theorem uni_none {b : List Int} (hb : Up b) : uni [] b = b := up_ext (up_uni up_nil) hb (fun x => by rw [mem_uni]; simp)
theorem uni_lt {x y : Int} {a b : List Int} (ha : Up (x :: a)) (hb : Up (y :: b)) (h : x < y) : uni (x :: a) (y :: b) = x :: uni a (y :: b) := by
  have ha' := List.pairwise_cons.1 ha
  have hb' := List.pairwise_cons.1 hb
  refine up_ext (up_uni ha) (List.pairwise_cons.2 ⟨fun z hz => ?_, up_uni ha'.2⟩) (fun z => by rw [mem_uni, List.mem_cons (a := z) (b := x), List.mem_cons (a := z) (b := x), mem_uni, or_assoc])
  rcases mem_uni.1 hz with hz | hz
  · exact ha'.1 z hz
  · rcases List.mem_cons.1 hz with rfl | hz
    · exact h
    · have := hb'.1 z hz; omega
theorem uni_gt {x y : Int} {a b : List Int} (ha : Up (x :: a)) (hb : Up (y :: b)) (h : y < x) : uni (x :: a) (y :: b) = y :: uni (x :: a) b := by
  rw [uni_comm ha hb, uni_lt hb ha h, uni_comm (List.pairwise_cons.1 hb).2 ha]
theorem uni_eq {x : Int} {a b : List Int} (ha : Up (x :: a)) (hb : Up (x :: b)) : uni (x :: a) (x :: b) = x :: uni a b := by
  have ha' := List.pairwise_cons.1 ha
  have hb' := List.pairwise_cons.1 hb
  refine up_ext (up_uni ha) (List.pairwise_cons.2 ⟨fun z hz => ?_, up_uni ha'.2⟩) (fun z => by rw [mem_uni, List.mem_cons, List.mem_cons, List.mem_cons, mem_uni]; exact ⟨fun h => by rcases h with (h | h) | (h | h) <;> simp [h], fun h => by rcases h with h | h | h <;> simp [h]⟩)
  rcases mem_uni.1 hz with hz | hz
  · exact ha'.1 z hz
  · exact hb'.1 z hz
theorem mg_lt {l m zs : List Int} {i k : Nat} (hl : Up l) (hm : Up m) (h : uni l m = zs ++ uni (l.drop i) (m.drop k)) (hi : i < l.length) (hk : k < m.length) (hx : l.getD i 0 < m.getD k 0) :
    uni l m = (zs ++ [l.getD i 0]) ++ uni (l.drop (i + 1)) (m.drop k) := by
  have u1 := up_drop hl i
  have u2 := up_drop hm k
  rw [drop_num hi] at h u1
  rw [drop_num hk] at h u2 ⊢
  rw [h, uni_lt u1 u2 hx, List.append_assoc]; rfl
theorem mg_gt {l m zs : List Int} {i k : Nat} (hl : Up l) (hm : Up m) (h : uni l m = zs ++ uni (l.drop i) (m.drop k)) (hi : i < l.length) (hk : k < m.length) (hx : m.getD k 0 < l.getD i 0) :
    uni l m = (zs ++ [m.getD k 0]) ++ uni (l.drop i) (m.drop (k + 1)) := by
  have u1 := up_drop hl i
  have u2 := up_drop hm k
  rw [drop_num hi] at h u1 ⊢
  rw [drop_num hk] at h u2
  rw [h, uni_gt u1 u2 hx, List.append_assoc]; rfl
theorem mg_eq {l m zs : List Int} {i k : Nat} (hl : Up l) (hm : Up m) (h : uni l m = zs ++ uni (l.drop i) (m.drop k)) (hi : i < l.length) (hk : k < m.length) (hx : l.getD i 0 = m.getD k 0) :
    uni l m = (zs ++ [l.getD i 0]) ++ uni (l.drop (i + 1)) (m.drop (k + 1)) := by
  have u1 := up_drop hl i
  have u2 := up_drop hm k
  rw [drop_num hi] at h u1
  rw [drop_num hk] at h u2
  rw [← hx] at h u2
  rw [h, uni_eq u1 u2, List.append_assoc]; rfl
theorem mg_left {l m zs : List Int} {i k : Nat} (h : uni l m = zs ++ uni (l.drop i) (m.drop k)) (hi : i < l.length) (hk : m.length ≤ k) :
    uni l m = (zs ++ [l.getD i 0]) ++ uni (l.drop (i + 1)) (m.drop k) := by
  rw [List.drop_of_length_le hk] at h ⊢
  rw [drop_num hi] at h
  rw [h, List.append_assoc]; rfl
theorem mg_right {l m zs : List Int} {i k : Nat} (hm : Up m) (h : uni l m = zs ++ uni (l.drop i) (m.drop k)) (hi : l.length ≤ i) (hk : k < m.length) :
    uni l m = (zs ++ [m.getD k 0]) ++ uni (l.drop i) (m.drop (k + 1)) := by
  rw [List.drop_of_length_le hi] at h ⊢
  rw [uni_none (up_drop hm _)] at h ⊢
  rw [drop_num hk] at h
  rw [h, List.append_assoc]; rfl
theorem mg_end {l m zs : List Int} {i k : Nat} (h : uni l m = zs ++ uni (l.drop i) (m.drop k)) (hi : l.length ≤ i) (hk : m.length ≤ k) (hz : zs.length ≤ 1024) : (uni l m).take 1024 = zs := by
  rw [List.drop_of_length_le hi, List.drop_of_length_le hk] at h
  rw [h]
  show (zs ++ []).take 1024 = zs
  rw [List.append_nil, List.take_of_length_le hz]
theorem mg_full {l m zs r : List Int} (h : uni l m = zs ++ r) (hz : zs.length = 1024) : (uni l m).take 1024 = zs := by
  rw [h, ← hz, List.take_left']
  rfl
theorem words_getD {l : List Int} (h : ∀ x ∈ l, W64 x) (i : Nat) : W64 (l.getD i 0) := by
  rw [List.getD_eq_getElem?_getD]
  by_cases hi : i < l.length
  · rw [List.getElem?_eq_getElem hi]; exact h _ (List.getElem_mem _)
  · rw [List.getElem?_eq_none (by omega)]; exact ⟨by decide, by decide⟩
theorem own_drewN {e : TypeId} {k : IntKind} {w : World} {base n cap : Nat} {a : Option Addr} {zs : List Int} (h : Own e k w base a n cap zs) (q : Nat) : Own e k (w.drewN q) base a n cap zs :=
  h.below (B := w.heap.size) ⟨rfl, rfl, rfl, Nat.le_refl _, fun _ _ => rfl⟩ (Nat.le_refl _)
end Go.Proofs.YtadcaonkmncgoaaGreat

namespace Go.Proofs.YtadcaonkmncgoaaGreat
open Go.RowKit
set_option maxRecDepth 20000

/-- A list answered in new memory. -/
def BackO (w w' : World) (e : Ending) (l : List Int) : Prop := ∃ a' c', e = .returned (.slice a' l.length c') ∧ Row .u64 w' a' l.length l ∧ OwnU w' w.heap.size a' l.length c' l ∧ Below w.heap.size w w'

end Go.Proofs.YtadcaonkmncgoaaGreat
