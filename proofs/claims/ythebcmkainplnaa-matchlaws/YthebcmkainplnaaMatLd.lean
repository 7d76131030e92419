/-
  The document's look at any matcher, and its Check: contracts, for every world.
  Conditions: the matcher lies in memory, apart from the count.
-/
import Derived.Test.YthebcmkainplnaaMatLc
namespace Go.Proofs.Ythebcmkainplnaa
open Go.RowKit
set_option maxRecDepth 20000

set_option maxHeartbeats 4000000 in
/-- Any other op. -/
theorem look_else (h : Hm) (d n b g : Nat) (w : World) (hb : SZ w g n b false) (hd : d ≤ 8) (hn : n < 64) (h0 : h.op ≠ 0) (h1 : h.op ≠ 1) (h2 : h.op ≠ 2) (h3 : h.op ≠ 3) (h4 : h.op ≠ 4) (h5 : h.op ≠ 5) (h6 : h.op ≠ 6) (h7 : h.op ≠ 7) :
    Calls Try.prog 30 #[.pointer (some ⟨g, 0, none⟩), .agg #[.int .i64 h.op, .string h.nm, .string h.vl, .slice h.va h.vn h.vc, .slice h.ka h.kn h.kc], .int .i64 d] w fun e w' => LookP none g w w' e := by
  obtain ⟨W, hW⟩ : ∃ W, Hid ((w.alloc (.cells #[.int .i64 h.op, .string h.nm, .string h.vl, .slice h.va h.vn h.vc, .slice h.ka h.kn h.kc] 25)).setCell ⟨g, 0, none⟩ (.int .i64 ((n : Int) + 1)) = W) := ⟨_, rfl⟩
  have B : Hid (Beg w W g n b h) := by rw [← hW.out]; exact beg_of hb
  have B1 := hide (hb.block (w' := w.alloc (.cells #[.int .i64 h.op, .string h.nm, .string h.vl, .slice h.va h.vn h.vc, .slice h.ka h.kn h.kc] 25)) (Below.heap_alloc w _ g hb.lt))
  obtain ⟨c0, _, _, cf⟩ := B1.out.cell
  have cf0 := cf 0
  obtain ⟨d0, d1, d2, df⟩ := B.out.cnt.cell
  obtain ⟨e0, e1, e2, e3, e4, _⟩ := B.out.box.all
  have df2 := df 2
  have E : Hid (Ch (fun k => k = g) w (W.setCell ⟨g, 2, none⟩ (.bool true)) ∧ ∃ n b : Int, SZ (W.setCell ⟨g, 2, none⟩ (.bool true)) g n b true) := ⟨B.out.ch.trans (ch_set W g 2 _), _, _, B.out.cnt.mark true⟩
  have a1 : ¬ (64 : Int) < (n : Int) + 1 := by omega
  have a2 : ¬ (8 : Int) < (d : Int) := by omega
  have k0 : (h.op == 0) = false := by simp [h0]
  have k1 : (h.op == 1) = false := by simp [h1]
  have k2 : (h.op == 2) = false := by simp [h2]
  have k3 : (h.op == 3) = false := by simp [h3]
  have k4 : (h.op == 4) = false := by simp [h4]
  have k5 : (h.op == 5) = false := by simp [h5]
  have k6 : (h.op == 6) = false := by simp [h6]
  have k7 : (h.op == 7) = false := by simp [h7]
  clear hb B1 cf df
  go_enter Try.func30, Try.ntmps30
  go_upto_region 2 with fail
  rw [hW.out]
  clear hW c0 cf0
  go_wp2
  go_end0
  exact ⟨rfl, E.out⟩

theorem len0 {α : Type} {l : List α} (h : l.length = 0) : l = [] := List.length_eq_zero_iff.1 h
theorem sumB'_nil : sumB' [] = 0 := rfl
theorem lookF_lone {m : Mt} {d n b t : Nat} {ok : Bool} (hn : n < 64) (hd : d ≤ 8) (hf : fitB m = ok) (hk : ok = true → m.ks = []) (ht : ok = true → ownT m = t) : lookF m d n b = lookR ok n b t := by
  rw [lookF_eq, hf]
  unfold lookR
  cases ok with
  | false => rw [if_pos (Or.inr (Or.inr (Or.inl rfl))), if_neg (by simp)]
  | true =>
    rw [hk rfl, ht rfl, lookKs]
    by_cases a : b + t ≤ 4096
    · rw [if_neg (by simp; omega), if_pos ⟨rfl, a⟩]
    · rw [if_pos (by omega), if_neg (by omega)]
theorem lookF_one {m : Mt} {d n b : Nat} (hn : n < 64) (hd : d ≤ 8) (hop : m.op = 1 ∨ m.op = 2 ∨ m.op = 3) : lookF m d n b = lookR ((decide (m.vs.length = 0) && decide (m.ks.length = 0)) && (nameB m.nm && decide (m.vl.size ≤ 64))) n b (m.nm.size + m.vl.size) := by
  refine lookF_lone hn hd ?_ ?_ ?_
  · unfold fitB
    rw [if_neg (by omega), if_pos hop, Bool.and_assoc]
  · intro h
    simp only [Bool.and_eq_true, decide_eq_true_eq] at h
    exact len0 h.1.2
  · intro h
    simp only [Bool.and_eq_true, decide_eq_true_eq] at h
    unfold ownT
    rw [len0 h.1.1, sumB'_nil]
    rfl
theorem lookF_among {m : Mt} {d n b : Nat} (hn : n < 64) (hd : d ≤ 8) (hop : m.op = 4) : lookF m d n b = lookR ((decide (m.vl.size = 0) && decide (m.ks.length = 0)) && (nameB m.nm && valsB m.vs)) n b (m.nm.size + sumB' m.vs) := by
  refine lookF_lone hn hd ?_ ?_ ?_
  · unfold fitB
    rw [if_neg (by omega), if_neg (by omega), if_pos hop, Bool.and_assoc]
  · intro h
    simp only [Bool.and_eq_true, decide_eq_true_eq] at h
    exact len0 h.1.2
  · intro h
    simp only [Bool.and_eq_true, decide_eq_true_eq] at h
    unfold ownT
    rw [h.1.1]
    rfl
theorem lookF_kids {m : Mt} {d n b : Nat} {ok : Bool} (hn : n < 64) (hd : d ≤ 8) (hb : b ≤ 4096) (hf : fitB m = ok) (ht : ok = true → ownT m = 0) : (ok = true → lookF m d n b = lookKs m.ks (d + 1) (n + 1) b) ∧ (ok = false → lookF m d n b = none) := by
  rw [lookF_eq, hf]
  refine ⟨?_, ?_⟩
  · rintro rfl
    rw [ht rfl, if_neg (by simp; omega)]
    rfl
  · rintro rfl
    rw [if_pos (Or.inr (Or.inr (Or.inl rfl)))]
theorem ownT_zero {m : Mt} (h1 : m.vl.size = 0) (h2 : m.nm.size = 0) (h3 : m.vs.length = 0) : ownT m = 0 := by
  unfold ownT
  rw [h1, h2, len0 h3, sumB'_nil]
theorem look_any (m : Mt) : ∀ (S : Nat → Prop) (h : Hm) (d n b g : Nat) (w : World), SeeM S w m h → (∀ k, S k → k ≠ g) → SZ w g n b false → d ≤ 9 → n ≤ 64 → b ≤ 4096 →
    Calls Try.prog 30 #[.pointer (some ⟨g, 0, none⟩), .agg #[.int .i64 h.op, .string h.nm, .string h.vl, .slice h.va h.vn h.vc, .slice h.ka h.kn h.kc], .int .i64 d] w fun e w' => LookP (lookF m d n b) g w w' e := by
  refine Mt.ind (P := fun m => ∀ (S : Nat → Prop) (h : Hm) (d n b g : Nat) (w : World), SeeM S w m h → (∀ k, S k → k ≠ g) → SZ w g n b false → d ≤ 9 → n ≤ 64 → b ≤ 4096 →
    Calls Try.prog 30 #[.pointer (some ⟨g, 0, none⟩), .agg #[.int .i64 h.op, .string h.nm, .string h.vl, .slice h.va h.vn h.vc, .slice h.ka h.kn h.kc], .int .i64 d] w fun e w' => LookP (lookF m d n b) g w w' e) ?_ m
  intro m ih S h d n b g w q hS hz hd hn hb
  have hT := lookF_eq m d n b
  by_cases c1 : 64 < n + 1 ∨ 8 < d
  · rw [hT, if_pos (by omega)]
    exact look_no h d n b g w hz hd hn c1
  · have hd8 : d ≤ 8 := by omega
    have hn63 : n < 64 := by omega
    obtain ⟨op, nm, vl, va, vn, vc, ka, kn, kc⟩ := h
    obtain ⟨e1, e2, e3, hw, hv, hk, -⟩ := seeM_iff.1 q
    dsimp only at e1 e2 e3 hv hk ⊢
    have hvl := hv.1
    by_cases k0 : op = 0
    · subst k0
      have := look_0 ⟨0, nm, vl, va, vn, vc, ka, kn, kc⟩ d n b g w hw hz hd8 hn63 rfl
      dsimp only at this
      have e : lookF m d n b = (if (decide (vl.size = 0) && (decide (nm.size = 0) && (decide (vn = 0) && decide (kn = 0)))) = true then some (n + 1, b) else none) := by
        rw [hT]
        have hf : fitB m = (decide (vl.size = 0) && (decide (nm.size = 0) && (decide (vn = 0) && decide (kn = 0)))) := by
          unfold fitB
          rw [if_pos e1.symm, ← e2, ← e3, hvl, hk, Bool.and_assoc, Bool.and_assoc]
        rw [hf]
        by_cases hok : (decide (vl.size = 0) && (decide (nm.size = 0) && (decide (vn = 0) && decide (kn = 0)))) = true
        · rw [if_pos hok]
          simp only [Bool.and_eq_true, decide_eq_true_eq] at hok
          obtain ⟨o1, o2, o3, o4⟩ := hok
          have hov : ownT m = 0 := by
            unfold ownT
            rw [← e2, ← e3, len0 (l := m.vs) (by rw [hvl]; exact o3), sumB'_nil, o1, o2]
          rw [hov, len0 (l := m.ks) (by rw [hk]; exact o4), lookKs, if_neg (by simp [o1, o2, o3, o4]; omega)]
          rfl
        · rw [if_neg hok, if_pos (Or.inr (Or.inr (Or.inl (by simpa using hok))))]
      rw [e]
      exact this
    · by_cases k1 : op = 1
      · subst k1
        rw [lookF_one hn63 hd8 (Or.inl e1.symm), hvl, hk, ← e2, ← e3]
        exact look_1 nm vl va vn vc ka kn kc d n b g w hw hz hd8 hn63 hb
      · by_cases k2 : op = 2
        · subst k2
          rw [lookF_one hn63 hd8 (Or.inr (Or.inl e1.symm)), hvl, hk, ← e2, ← e3]
          exact look_2 nm vl va vn vc ka kn kc d n b g w hw hz hd8 hn63 hb
        · by_cases k3 : op = 3
          · subst k3
            rw [lookF_one hn63 hd8 (Or.inr (Or.inr e1.symm)), hvl, hk, ← e2, ← e3]
            exact look_3 nm vl va vn vc ka kn kc d n b g w hw hz hd8 hn63 hb
          · by_cases k4 : op = 4
            · subst k4
              rw [lookF_among hn63 hd8 e1.symm, hk, ← e2, ← e3]
              exact look_4 S nm vl va vn vc ka kn kc m.vs d n b g w hw hv hS hz hd8 hn63 hb
            · have zero : (decide (vl.size = 0) && (decide (nm.size = 0) && decide (vn = 0))) = true → ownT m = 0 := fun h => by
                simp only [Bool.and_eq_true, decide_eq_true_eq] at h
                exact ownT_zero (by rw [← e3]; exact h.1) (by rw [← e2]; exact h.2.1) (by rw [hvl]; exact h.2.2)
              by_cases k5 : op = 5
              · subst k5
                have kk := lookF_kids (m := m) (d := d) (n := n) (b := b) (ok := (decide (vl.size = 0) && (decide (nm.size = 0) && decide (vn = 0)))) hn63 hd8 hb (by
                  unfold fitB
                  rw [if_neg (by omega), if_neg (by omega), if_neg (by omega), if_pos (by omega), ← e2, ← e3, hvl, ← e1]
                  simp [Bool.and_assoc]) zero
                exact look_5 S m nm vl va vn vc ka kn kc d n b g w _ q hS hz hd8 hn63 hb ih kk.1 kk.2
              · by_cases k6 : op = 6
                · subst k6
                  have kk := lookF_kids (m := m) (d := d) (n := n) (b := b) (ok := (decide (vl.size = 0) && (decide (nm.size = 0) && decide (vn = 0)))) hn63 hd8 hb (by
                    unfold fitB
                    rw [if_neg (by omega), if_neg (by omega), if_neg (by omega), if_pos (by omega), ← e2, ← e3, hvl, ← e1]
                    simp [Bool.and_assoc]) zero
                  exact look_6 S m nm vl va vn vc ka kn kc d n b g w _ q hS hz hd8 hn63 hb ih kk.1 kk.2
                · by_cases k7 : op = 7
                  · subst k7
                    have kk := lookF_kids (m := m) (d := d) (n := n) (b := b) (ok := (decide (vl.size = 0) && (decide (nm.size = 0) && decide (vn = 0))) && decide (kn = 1)) hn63 hd8 hb (by
                      unfold fitB
                      rw [if_neg (by omega), if_neg (by omega), if_neg (by omega), if_pos (by omega), ← e2, ← e3, hvl, hk, ← e1]
                      simp [Bool.and_assoc]) (fun h => zero (by rw [Bool.and_eq_true] at h; exact h.1))
                    exact look_7 S m nm vl va vn vc ka kn kc d n b g w _ q hS hz hd8 hn63 hb ih kk.1 kk.2
                  · have hf : fitB m = false := by
                      unfold fitB
                      rw [if_neg (by omega), if_neg (by omega), if_neg (by omega), if_neg (by omega)]
                    rw [hT, if_pos (Or.inr (Or.inr (Or.inl hf)))]
                    exact look_else ⟨op, nm, vl, va, vn, vc, ka, kn, kc⟩ d n b g w hz hd8 hn63 k0 k1 k2 k3 k4 k5 k6 k7
end Go.Proofs.Ythebcmkainplnaa
