/-
  Plain laws of lists of buckets: to merge may be turned round and grouped; how many there are; numbers in two parts; so often at once is so often one by one.
  Conditions: counts are words of 64 bits; the lists may be.
-/
import Derived.Test.YtjngpdhhkkambabHistK
import Derived.Test.YtjngpdhhkkambabHistM
namespace Go.Proofs.Ytjngpdhhkkambab

theorem mrg_words {a b : Bks} (ha : WordsB a) (hb : WordsB b) : WordsB (mrg a b) := by
  obtain ⟨n, hn⟩ : ∃ n, a.length + b.length ≤ n := ⟨_, Nat.le_refl _⟩
  induction n generalizing a b with
  | zero =>
    have : a = [] := List.length_eq_zero_iff.1 (by omega)
    subst this
    rw [nil_mrg]; exact hb
  | succ n ih =>
    cases a with
    | nil => rw [nil_mrg]; exact hb
    | cons x a =>
      cases b with
      | nil => rw [mrg_nil]; exact ha
      | cons y b =>
        obtain ⟨i, c⟩ := x
        obtain ⟨k, d⟩ := y
        simp only [List.length_cons] at hn
        have ha' : WordsB a := fun z hz => ha z (List.mem_cons_of_mem _ hz)
        have hb' : WordsB b := fun z hz => hb z (List.mem_cons_of_mem _ hz)
        have hc := ha _ (List.mem_cons_self ..)
        have hd := hb _ (List.mem_cons_self ..)
        rw [mrg_cons]
        intro z hz
        split at hz
        · rcases List.mem_cons.1 hz with rfl | hz
          · exact hc
          · exact ih ha' hb (by simp only [List.length_cons]; omega) z hz
        · split at hz
          · rcases List.mem_cons.1 hz with rfl | hz
            · exact hd
            · exact ih ha hb' (by simp only [List.length_cons]; omega) z hz
          · rcases List.mem_cons.1 hz with rfl | hz
            · exact satS_word hc hd
            · exact ih ha' hb' (by omega) z hz
theorem insS_words {k c : Int} (hc : 0 ≤ c ∧ c < 18446744073709551616) {l : Bks} (h : WordsB l) : WordsB (insS k c l) := by
  induction l with
  | nil => intro z hz; simp [insS] at hz; subst hz; exact hc
  | cons x t ih =>
    obtain ⟨j, d⟩ := x
    have ht : WordsB t := fun z hz => h z (List.mem_cons_of_mem _ hz)
    have hd := h _ (List.mem_cons_self ..)
    rw [insS]
    intro z hz
    split at hz
    · rcases List.mem_cons.1 hz with rfl | hz
      · exact satS_word hd hc
      · exact ht z hz
    · split at hz
      · rcases List.mem_cons.1 hz with rfl | hz
        · exact hc
        · exact h z hz
      · rcases List.mem_cons.1 hz with rfl | hz
        · exact hd
        · exact ih ht z hz
theorem addN_words {k c : Int} (hc : 0 ≤ c ∧ c < 18446744073709551616) {l : Bks} (h : WordsB l) : WordsB (addN l k c) := by
  unfold addN
  split
  · exact h
  · exact insS_words hc h

/-- A list of buckets that may be, with counts that are words. -/
structure Good (l : Bks) : Prop where
  check : checkS l = true
  words : WordsB l
theorem Good.ext {l m : Bks} (hl : Good l) (hm : Good m) (h : ∀ k, getN l k = getN m k) : l = m := bks_ext hl.check hm.check h
theorem Good.mrg {a b : Bks} (ha : Good a) (hb : Good b) : Good (mrg a b) := ⟨mrg_check ha.check hb.check, mrg_words ha.words hb.words⟩
theorem Good.get {a b : Bks} (ha : Good a) (hb : Good b) (j : Int) : getN (Go.Proofs.Ytjngpdhhkkambab.mrg a b) j = satS (getN a j) (getN b j) := mrg_get ha.words hb.words ha.check hb.check j
theorem Good.word {l : Bks} (h : Good l) (j : Int) : 0 ≤ getN l j ∧ getN l j < 18446744073709551616 := getN_word h.words j
theorem Good.nil : Good [] := ⟨rfl, fun x hx => by cases hx⟩
theorem Good.add {l : Bks} (h : Good l) {k c : Int} (h0 : 0 ≤ k) (h1 : k ≤ 7423) (hc : 0 ≤ c ∧ c < 18446744073709551616) : Good (addN l k c) := ⟨addN_check h0 h1 hc.1 h.check, addN_words hc h.words⟩
theorem good_spS {H : List Int} (hn : H.length = 7424) (hH : WordsH H) : Good (spS H) := ⟨spS_check hn, spS_words hH⟩

theorem mrg_comm {a b : Bks} (ha : Good a) (hb : Good b) : mrg a b = mrg b a := (ha.mrg hb).ext (hb.mrg ha) (fun k => by rw [ha.get hb, hb.get ha, satS_comm])
theorem mrg_assoc {a b c : Bks} (ha : Good a) (hb : Good b) (hc : Good c) : mrg (mrg a b) c = mrg a (mrg b c) :=
  ((ha.mrg hb).mrg hc).ext (ha.mrg (hb.mrg hc)) (fun k => by rw [(ha.mrg hb).get hc, ha.get hb, ha.get (hb.mrg hc), hb.get hc, satS_assoc (ha.word k).1 (hc.word k).1])
/-- The law's two roads, and its third. -/
theorem mrg_turn {a b c : Bks} (ha : Good a) (hb : Good b) (hc : Good c) : mrg (mrg a b) c = mrg (mrg c b) a ∧ mrg (mrg a b) c = mrg a (mrg b c) := by
  refine ⟨?_, mrg_assoc ha hb hc⟩
  rw [mrg_assoc ha hb hc, mrg_comm ha (hb.mrg hc), mrg_comm hb hc]

theorem satAll_nonneg {s : Int} {l : List Int} (hs : 0 ≤ s) (hl : ∀ c ∈ l, 0 ≤ c) : 0 ≤ satAll s l := by
  unfold satAll
  induction l generalizing s with
  | nil => exact hs
  | cons c t ih =>
    have hc := hl c (List.mem_cons_self ..)
    exact ih (by unfold satS; split <;> omega) (fun x hx => hl x (List.mem_cons_of_mem _ hx))
theorem satAll_from {s d : Int} {l : List Int} (hs : 0 ≤ s) (hd : 0 ≤ d) (hl : ∀ c ∈ l, 0 ≤ c) : satAll (satS s d) l = satS (satAll s l) d := by
  unfold satAll
  induction l generalizing s with
  | nil => rfl
  | cons c t ih =>
    have hc := hl c (List.mem_cons_self ..)
    rw [List.foldl_cons, List.foldl_cons]
    have e : satS (satS s d) c = satS (satS s c) d := by
      rw [satS_assoc hs hc, satS_comm d c, ← satS_assoc hs hd]
    rw [e]
    exact ih (by unfold satS; split <;> omega) (fun x hx => hl x (List.mem_cons_of_mem _ hx))
/-- How many there are of one more. -/
theorem insS_count {k c : Int} (hc : 0 ≤ c) {l : Bks} (hl : WordsB l) {s : Int} (hs : 0 ≤ s) : satAll s ((insS k c l).map (·.2)) = satS (satAll s (l.map (·.2))) c := by
  induction l generalizing s with
  | nil => simp [insS, satAll]
  | cons x t ih =>
    obtain ⟨j, d⟩ := x
    have hd := hl _ (List.mem_cons_self ..)
    have ht : WordsB t := fun z hz => hl z (List.mem_cons_of_mem _ hz)
    have ht' : ∀ y ∈ t.map (·.2), 0 ≤ y := fun y hy => by obtain ⟨z, hz, rfl⟩ := List.mem_map.1 hy; exact (ht z hz).1
    have hsd : 0 ≤ satS s d := by unfold satS; split <;> omega
    have cons : ∀ (s y : Int) (l : List Int), satAll s (y :: l) = satAll (satS s y) l := fun _ _ _ => rfl
    rw [insS]
    split
    · rw [List.map_cons, List.map_cons, cons, cons]
      have e : satS s (satS d c) = satS (satS s d) c := (satS_assoc hs hc).symm
      simp only
      rw [e, satAll_from hsd hc ht']
    · split
      · rw [List.map_cons, List.map_cons, cons, cons]
        simp only
        have e : satS (satS s c) d = satS (satS s d) c := by rw [satS_assoc hs hd.1, satS_comm c d, ← satS_assoc hs hc]
        rw [e, satAll_from hsd hc ht', cons]
      · rw [List.map_cons, List.map_cons, cons, cons]
        exact ih ht hsd
theorem addN_count {k c : Int} (hc : 0 ≤ c) {l : Bks} (hl : WordsB l) : satAll 0 ((addN l k c).map (·.2)) = satS (satAll 0 (l.map (·.2))) c := by
  unfold addN
  split
  · rename_i h
    have hw := wordsB_snd hl
    have h1 := satAll_sum (s := 0) ⟨by omega, by omega⟩ hw
    have h2 : satAll 0 (l.map (·.2)) < 18446744073709551616 := by rw [h1]; split <;> omega
    rw [h, satS_zero h2]
  · exact insS_count hc hl (Int.le_refl 0)

/-- Numbers seen one by one. -/
def seen (l : List Int) : Bks := l.foldl (fun L v => addN L (bucketS v) 1) []
/-- How many of them lie in a bucket. -/
def inB (l : List Int) (k : Int) : Int := ((l.filter (fun v => decide (bucketS v = k))).length : Int)
theorem seen_snoc (l : List Int) (v : Int) : seen (l ++ [v]) = addN (seen l) (bucketS v) 1 := by unfold seen; rw [List.foldl_append]; rfl
theorem inB_snoc (l : List Int) (v k : Int) : inB (l ++ [v]) k = inB l k + if bucketS v = k then 1 else 0 := by
  unfold inB
  rw [List.filter_append, List.length_append]
  by_cases h : bucketS v = k
  · simp [h]
  · simp [h]
theorem inB_append (l m : List Int) (k : Int) : inB (l ++ m) k = inB l k + inB m k := by
  unfold inB
  rw [List.filter_append, List.length_append]
  omega
theorem inB_le (l : List Int) (k : Int) : 0 ≤ inB l k ∧ inB l k ≤ l.length := by
  unfold inB
  have := List.length_filter_le (fun v => decide (bucketS v = k)) l
  exact ⟨by omega, by omega⟩
theorem snoc_ind {p : List Int → Prop} (h0 : p []) (h1 : ∀ l v, p l → p (l ++ [v])) (l : List Int) : p l := by
  rw [← List.reverse_reverse l]
  induction l.reverse with
  | nil => exact h0
  | cons v t ih => rw [List.reverse_cons]; exact h1 _ _ ih
theorem seen_good {l : List Int} (hl : WordsH l) : Good (seen l) := by
  revert hl
  refine snoc_ind (p := fun l => WordsH l → Good (seen l)) (fun _ => Good.nil) (fun l v ih hl => ?_) l
  rw [seen_snoc]
  have hv := hl v (by simp)
  obtain ⟨b0, b1⟩ := bucketS_range hv.1 hv.2
  exact (ih (fun x hx => hl x (by simp [hx]))).add b0 b1 ⟨by omega, by omega⟩
theorem seen_get {l : List Int} (hl : WordsH l) (hn : l.length ≤ 1000000) (k : Int) : getN (seen l) k = inB l k := by
  revert hl hn
  refine snoc_ind (p := fun l => WordsH l → l.length ≤ 1000000 → getN (seen l) k = inB l k) (fun _ _ => rfl) (fun l v ih hl hn => ?_) l
  have hl' : WordsH l := fun x hx => hl x (by simp [hx])
  rw [List.length_append] at hn
  simp only [List.length_cons, List.length_nil] at hn
  have hg := seen_good hl'
  rw [seen_snoc, addN_get ⟨by omega, by omega⟩ hg.words hg.check, inB_snoc, ih hl' (by omega)]
  have hb := inB_le l k
  by_cases h : k = bucketS v
  · subst h
    rw [if_pos rfl, if_pos rfl, ih hl' (by omega)]
    unfold satS
    rw [if_pos (by omega)]
  · rw [if_neg h, if_neg (fun e => h e.symm)]; omega
/-- Numbers in two parts. -/
theorem seen_split {l m : List Int} (hl : WordsH l) (hm : WordsH m) (hn : l.length + m.length ≤ 1000000) : mrg (seen m) (seen l) = seen (l ++ m) := by
  have hlm : WordsH (l ++ m) := fun x hx => by
    rcases List.mem_append.1 hx with h | h
    · exact hl x h
    · exact hm x h
  refine ((seen_good hm).mrg (seen_good hl)).ext (seen_good hlm) (fun k => ?_)
  rw [(seen_good hm).get (seen_good hl), seen_get hm (by omega), seen_get hl (by omega), seen_get hlm (by rw [List.length_append]; omega), inB_append]
  have h1 := inB_le l k
  have h2 := inB_le m k
  unfold satS
  rw [if_pos (by omega)]; omega
/-- So often at once is so often one by one. -/
theorem seen_times {v w : Int} (hv : 0 ≤ v ∧ v < 18446744073709551616) (hw : 0 ≤ w ∧ w < 18446744073709551616) (n : Nat) (hn : n ≤ 1000) :
    addN (addN [] (bucketS w) 1) (bucketS v) n = seen (w :: List.replicate n v) := by
  have hl : ∀ n, WordsH (w :: List.replicate n v) := fun n x hx => by
    rcases List.mem_cons.1 hx with rfl | hx
    · exact hw
    · rw [(List.mem_replicate.1 hx).2]; exact hv
  obtain ⟨b0, b1⟩ := bucketS_range hw.1 hw.2
  obtain ⟨c0, c1⟩ := bucketS_range hv.1 hv.2
  have g1 : Good (addN [] (bucketS w) 1) := Good.nil.add b0 b1 ⟨by omega, by omega⟩
  have g2 : Good (addN (addN [] (bucketS w) 1) (bucketS v) n) := g1.add c0 c1 ⟨by omega, by omega⟩
  refine g2.ext (seen_good (hl n)) (fun k => ?_)
  rw [seen_get (hl n) (by simp; omega), addN_get ⟨by omega, by omega⟩ g1.words g1.check, addN_get (l := []) ⟨by omega, by omega⟩ Good.nil.words rfl, addN_get (l := []) ⟨by omega, by omega⟩ Good.nil.words rfl]
  have e : inB (w :: List.replicate n v) k = (if bucketS w = k then 1 else 0) + if bucketS v = k then (n : Int) else 0 := by
    unfold inB
    rw [List.filter_cons]
    have e2 : (List.replicate n v).filter (fun x => decide (bucketS x = k)) = if bucketS v = k then List.replicate n v else [] := by
      rw [List.filter_replicate]
      by_cases h : bucketS v = k <;> simp [h]
    rw [e2]
    by_cases h : bucketS w = k <;> by_cases h' : bucketS v = k <;> simp [h, h'] <;> omega
  rw [e]
  have z : satS 0 1 = 1 := by decide
  simp only [getN, z]
  by_cases h : bucketS w = k <;> by_cases h' : bucketS v = k
  · subst h'
    rw [if_pos rfl, if_pos h.symm, if_pos h, if_pos rfl]
    unfold satS; rw [if_pos (by omega)]
  · rw [if_neg (fun e => h' e.symm), if_pos h.symm, if_pos h, if_neg h']; omega
  · subst h'
    rw [if_pos rfl, if_neg (fun e => h e.symm), if_neg h, if_pos rfl]
    unfold satS; rw [if_pos (by omega)]
  · rw [if_neg (fun e => h' e.symm), if_neg (fun e => h e.symm), if_neg h, if_neg h']; omega
end Go.Proofs.Ytjngpdhhkkambab
