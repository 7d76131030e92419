/-
  strings.Compare in this program's plain words, and slices.SortFunc of labels by their names: contracts: behind it the row holds the same labels, in order of their names; what lay below stays.
  Conditions: the row is one of the call's own.
-/
import Derived.Test.YtoepdgdagjckbabLabN
import Derived.Test.YtoepdgdagjckbabShelf
import Derived.Test.YtoepdgdagjckbabSort
namespace Go.Proofs.Ytoepdgdagjckbab
open Go.RowKit
set_option maxRecDepth 20000

theorem compareB (x y : List UInt8) : Lib.compareBytes x y = if Op.bytesLess x y then -1 else if Op.bytesLess y x then 1 else 0 := by
  induction x generalizing y with
  | nil => cases y <;> rfl
  | cons a x ih =>
    cases y with
    | nil => rfl
    | cons b y =>
      rw [Lib.compareBytes, ih]
      simp only [Op.bytesLess]
      rcases Nat.lt_trichotomy a.toNat b.toNat with h | h | h
      · have h1 : a < b := UInt8.lt_iff_toNat_lt.2 h
        simp [h1]
      · have h1 : a = b := UInt8.toNat_inj.1 h
        subst h1
        have h2 : ¬ a < a := fun q => Nat.lt_irrefl _ (UInt8.lt_iff_toNat_lt.1 q)
        simp [h2]
      · have h1 : b < a := UInt8.lt_iff_toNat_lt.2 h
        have h2 : ¬ a < b := fun q => by have := UInt8.lt_iff_toNat_lt.1 q; omega
        have h3 : (a == b) = false := by rw [beq_eq_false_iff_ne]; rintro rfl; omega
        simp [h1, h2, h3]
theorem compare_any (a b : ByteArray) (w : World) : Calls Try.prog 37 #[.string a, .string b] w fun e w' => e = .returned (.int .i64 (cmpT a b)) ∧ w' = w := by
  have h := Try.strings_Compare a b w
  rw [compareB, ← ByteArray.toList_eq, ← ByteArray.toList_eq] at h
  exact h

def encL (x : Lb) : List Value := [.string x.1, .string x.2]
def cmpN (x y : Lb) : Int := cmpT x.1 y.1
theorem ltN (x y : Lb) : ltOf cmpN x y = Op.bytesLess x.1.toList y.1.toList := by
  unfold ltOf cmpN cmpT
  cases h : Op.bytesLess x.1.toList y.1.toList with
  | true => rfl
  | false =>
    cases h2 : Op.bytesLess y.1.toList x.1.toList <;> rfl
theorem swoN : Go.Sort.SWO (ltOf cmpN) where
  irrefl x := by rw [ltN]; exact less_irrefl _
  trans x y z h1 h2 := by rw [ltN] at *; exact less_trans h1 h2
  ntrans x y z h1 h2 := by
    rw [ltN] at *
    exact notLess_trans (x := z) (y := y) (z := x) h2 h1

theorem clos_make (x y : Lb) (W : World) : Calls Try.prog 36 #[.agg #[.string x.1, .string x.2], .agg #[.string y.1, .string y.2]] W fun e w' => e = .returned (.int .i64 (cmpN x y)) ∧ ∃ q os', w' = Go.Sort.grow (W.drewN q) os' := by
  have hcon := hide (fun W' => compare_any x.1 y.1 W')
  unfold cmpN
  generalize cmpT x.1 y.1 = r at hcon ⊢
  go_enter Try.func36, Try.ntmps36
  go_wp2_with (go_at_call 37; refine (hcon.out _).mono ?_; rintro e w' ⟨rfl, rfl⟩)
  go_ret
  exact ⟨rfl, 0, _, by rw [Go.Sort.alloc_eq_grow, Go.Sort.alloc_eq_grow, Go.Sort.grow_grow]; rfl⟩

theorem flatK_L (l : List Lb) : Go.Sort.flatK encL 2 l.toArray = (flatL l).toArray := by
  refine Go.Sort.ext_get! (by simp [flatL_len]) fun t ht => ?_
  have ht' : t < l.length * 2 := by simpa using ht
  rw [Go.Sort.get_flatK _ _ _ _ (by simpa using ht')]
  have hx : l[t / 2]? = some (l[t / 2]'(by omega)) := List.getElem?_eq_getElem (by omega)
  obtain ⟨h1, h2⟩ := flatL_get l (t / 2) _ hx
  have e0 : l.toArray[t / 2]! = l[t / 2]'(by omega) := by
    rw [getElem!_pos _ _ (by simpa using (show t / 2 < l.length by omega))]
    simp
  have et : (flatL l).toArray[t]! = ((flatL l)[t]?).getD default := by
    rw [Array.getElem!_eq_getD, Array.getD_eq_getD_getElem?]
    simp
  rw [e0, et]
  have e : t % 2 = 0 ∨ t % 2 = 1 := by omega
  rcases e with e | e
  · rw [show t / 2 * 2 = t by omega] at h1
    rw [h1, e]
    rfl
  · rw [show t / 2 * 2 + 1 = t by omega] at h2
    rw [h2, e]
    rfl
theorem OwnL.holds {w : World} {base g n cap : Nat} {l : List Lb} (h : OwnL w base (some ⟨g, 0, none⟩) n cap l) : Go.Sort.HoldsK encL 2 w g 0 l.toArray := by
  unfold Go.Sort.HoldsK
  rw [flatK_L]
  intro j hj
  have hl := h.len
  have hj' : j < n * 2 := by simpa [flatL_len, hl] using hj
  unfold OwnL at h
  refine ⟨?_, ?_⟩
  · rw [Nat.zero_add, h.cellAt j hj']
    have hlt : j < (flatL l).length := by rw [flatL_len, hl]; exact hj'
    rw [List.getElem?_eq_getElem hlt, getElem!_pos (flatL l).toArray j hj]
    simp
  · rcases h.2 with ⟨h1, _⟩ | ⟨g', c, cur, h1, _, hg, _⟩
    · simp at h1
    · simp only [Value.slice.injEq, Option.some.injEq, Addr.mk.injEq, and_true, true_and] at h1
      obtain ⟨rfl, rfl⟩ := h1
      simp [World.frozen?, hg]
theorem sorted_below {w : World} {base g m : Nat} {d : Array Lb} {os : Array Obj} (hg : base ≤ g) (hB : base ≤ w.heap.size) : Below base w (sortWorldK encL 2 w g 0 m d os) := by
  refine ⟨rfl, rfl, rfl, ?_, fun k hk => ?_⟩
  · show w.heap.size ≤ (w.heap.modify g _ ++ os).size
    rw [Array.size_append, Array.size_modify]
    omega
  · show (w.heap.modify g _ ++ os)[k]? = w.heap[k]?
    rw [Array.getElem?_append_left (by rw [Array.size_modify]; omega), Array.getElem?_modify, if_neg (by omega)]
theorem sorted_row {w : World} {base g n cap m : Nat} {l : List Lb} {d : Array Lb} {os : Array Obj} (h : OwnL w base (some ⟨g, 0, none⟩) n cap l) (hn : n * 32 ≤ 140737488355328) (hs : d.size = l.toArray.size) (hf : ∀ x ∈ d.toList, LbW x) :
    RowL (sortWorldK encL 2 w g 0 m d os) (some ⟨g, 0, none⟩) n d.toList := by
  have hl := h.len
  have hlt : g < w.heap.size := by
    unfold OwnL at h
    rcases h.2 with ⟨h1, _⟩ | ⟨g', c, cur, h1, _, hg, _⟩
    · simp at h1
    · simp only [Value.slice.injEq, Option.some.injEq, Addr.mk.injEq, and_true, true_and] at h1
      obtain ⟨rfl, rfl⟩ := h1
      exact (Array.getElem?_eq_some_iff.1 hg).1
  have hd : d.size = n := by rw [hs]; simpa using hl
  have hh : Go.Sort.HoldsK encL 2 (sortWorldK encL 2 w g 0 m d os) g 0 d := by
    refine Go.Sort.holdsK_grow _ _ _ _ _ _ _ ?_ (Go.Sort.holdsK_putRowK _ _ _ _ _ l.toArray d (Go.Sort.holdsK_ahead _ _ _ _ _ _ _ h.holds) hs)
    show g < (w.heap.modify g _).size
    rw [Array.size_modify]; exact hlt
  refine ⟨by simpa using hd, hn, hf, Or.inr ⟨g, 0, rfl, fun i x hi => ?_⟩⟩
  have hi' : i < d.size := by
    have := (List.getElem?_eq_some_iff.1 hi).1
    simpa using this
  have e : d[i]! = x := by
    rw [getElem!_pos d i hi']
    rw [Array.getElem?_toList, Array.getElem?_eq_getElem hi'] at hi
    simpa using hi
  have h0 := (hh.cell hi' (c := 0) (by decide)).1
  have h1 := (hh.cell hi' (c := 1) (by decide)).1
  rw [e] at h0 h1
  exact ⟨h0, h1⟩

theorem sort_any (base : Nat) (a : Option Addr) (n cap : Nat) (l : List Lb) (w : World) (h : OwnL w base a n cap l) (hn : n * 32 ≤ 140737488355328) (hf : ∀ x ∈ l, LbW x) (hB : base ≤ w.heap.size) :
    Calls Try.prog 35 #[.slice a n cap, .func (.func 36) #[] #[]] w fun e w' => e = .returned (.tuple #[]) ∧ ∃ d : List Lb, d.Perm l ∧ d.Pairwise notLess ∧ RowL w' a n d ∧ Below base w w' := by
  have h0 := h
  unfold OwnL at h0
  rcases h0.2 with ⟨h1, rfl⟩ | ⟨g, c, cur, h1, hg, hgb, _⟩
  · have hl : l = [] := List.length_eq_zero_iff.1 h.len
    subst hl
    have hcon := AnyF.slices_SortFunc_none Try.sortL a cap (.func (.func 36) #[] #[]) w
    refine hcon.mono ?_
    rintro e w' ⟨rfl, rfl⟩
    exact ⟨rfl, [], List.Perm.refl _, List.Pairwise.nil, ⟨rfl, by omega, fun x hx => (by cases hx), Or.inl rfl⟩, Below.refl _ _⟩
  · simp only [Value.slice.injEq, true_and] at h1
    obtain ⟨rfl, rfl⟩ := h1
    have hl := h.len
    have eg : ∀ args w, (callFunc 36 args).run Try.prog w = .ok (.enter 36 args) w := enters_of Try.func36 (by kernel_rfl) rfl
    have hcon := AnyQ.slices_SortFunc Try.sortL 2 Try.isAgg40 Try.sizeOf40 encL (fun _ => rfl) (fun x v hv => by simp [encL] at hv; rcases hv with rfl | rfl <;> rfl) cmpN swoN 36 #[] g 0 cap l.toArray w eg (fun _ _ _ _ x y => clos_make x y _) h.holds (Array.getElem?_eq_some_iff.1 hgb).1 (by simp; omega)
    rw [show l.toArray.size = n by simpa using hl] at hcon
    refine hcon.mono ?_
    rintro e w' ⟨rfl, d, m, os, hp, hs, rfl⟩
    have hsz : d.size = l.toArray.size := hp.1
    have hdn : d.size = n := by rw [hsz]; simpa using hl
    have hpm : d.toList.Perm l := by
      have := hp.2.2
      rw [show n = d.size from hdn.symm, Array.extract_size, show d.size = l.toArray.size from hsz, Array.extract_size] at this
      exact this
    refine ⟨rfl, d.toList, hpm, ?_, sorted_row h hn hsz (fun x hx => hf x (hpm.mem_iff.1 hx)), sorted_below hg hB⟩
    refine List.pairwise_iff_getElem.2 fun i j hi hj hij => ?_
    have hi' : i < d.size := by simpa using hi
    have hj' : j < d.size := by simpa using hj
    have := hs i j (Nat.zero_le _) hij (by omega)
    rw [ltN, getElem!_pos d i hi', getElem!_pos d j hj'] at this
    exact this
end Go.Proofs.Ytoepdgdagjckbab
