/-
  The document's text of labels (Quoted, Text): contracts, for every world.
  Conditions: the labels lie in memory.
-/
import Derived.Test.YthebcmkainplnaaLabR
namespace Go.Proofs.Ythebcmkainplnaa
open Go.RowKit
set_option maxRecDepth 20000

theorem ba_app (a b : ByteArray) : (a ++ b).toList = a.toList ++ b.toList := by
  rw [ByteArray.toList_eq, ByteArray.toList_eq, ByteArray.toList_eq, ByteArray.data_append, Array.toList_append]
theorem ba_ext1 (s : ByteArray) (k : Nat) (h : k < s.size) : (s.extract k (k + 1)).toList = [s[k]'h] := by
  have h' : k < s.data.toList.length := by rw [Array.length_toList]; exact h
  rw [ByteArray.toList_eq, ByteArray.data_extract, Array.toList_extract, List.extract_eq_take_drop, show k + 1 - k = 1 by omega, List.drop_eq_getElem_cons h']
  rfl
theorem lit34 : (⟨#[34]⟩ : ByteArray).toList = [34] := by decide +kernel
theorem lit92 : (⟨#[92]⟩ : ByteArray).toList = [92] := by decide +kernel
theorem litX : (⟨#[92, 120]⟩ : ByteArray).toList = [92, 120] := by decide +kernel
def dgsB : ByteArray := ⟨#[48, 49, 50, 51, 52, 53, 54, 55, 56, 57, 97, 98, 99, 100, 101, 102]⟩
theorem dig_at (k : Nat) (h : k < 16) : (dgsB.extract k (k + 1)).toList = [hxD k] := by
  have : ∀ k, k < 16 → (dgsB.extract k (k + 1)).toList = [hxD k] := by decide +kernel
  exact this k h
theorem take_step {α : Type} {l : List α} {k : Nat} {x : α} (hx : l[k]? = some x) : l.take (k + 1) = l.take k ++ [x] := by
  rw [List.take_add_one, hx]
  rfl
theorem yqb_len (c : UInt8) : (qb c).length ≤ 4 := by
  unfold qb
  split
  · exact (show 2 ≤ 4 by decide)
  · split
    · exact Nat.le_refl 4
    · exact (show 1 ≤ 4 by decide)
theorem quo_len (v : List UInt8) : (v.flatMap qb).length ≤ 4 * v.length := by
  induction v with
  | nil => exact Nat.le_refl 0
  | cons c t ih =>
    rw [List.flatMap_cons, List.length_append, List.length_cons]
    have := yqb_len c
    omega
theorem nameB_len {s : ByteArray} (h : nameB s = true) : 1 ≤ s.size ∧ s.size ≤ 32 := by
  unfold nameB at h
  simp only [Bool.and_eq_true, decide_eq_true_eq] at h
  exact h.2
theorem ylab_len {x : Lb} (h1 : nameB x.1 = true) (h2 : x.2.size ≤ 64) : 1 ≤ (labB x).length ∧ (labB x).length ≤ 291 := by
  have h3 := nameB_len h1
  have h4 := quo_len x.2.toList
  unfold labB quoB
  simp only [List.length_append, List.length_cons, List.length_nil, ba_len] at h4 ⊢
  omega
theorem yrest_len : ∀ {l : List Lb}, (∀ x ∈ l, (labB x).length ≤ 291) → (restB l).length ≤ 292 * l.length
  | [], _ => Nat.le_refl 0
  | x :: t, h => by
    have h1 := h x (List.mem_cons_self ..)
    have h2 := yrest_len (l := t) (fun y hy => h y (List.mem_cons_of_mem _ hy))
    rw [restB]
    simp only [List.length_cons, List.length_append]
    omega
theorem ytext_len {l : List Lb} (h : chkL l = true) (k : Nat) : (textB (l.take k)).length ≤ 2400 := by
  obtain ⟨h1, h2, h3⟩ := chkL_parts h
  have h4 : ∀ x ∈ l.take k, (labB x).length ≤ 291 := fun x hx => (ylab_len (h3 x (List.mem_of_mem_take hx)).1 (h3 x (List.mem_of_mem_take hx)).2.2).2
  have h5 : (l.take k).length ≤ 8 := by rw [List.length_take]; omega
  generalize l.take k = m at h4 h5 ⊢
  cases m with
  | nil => exact Nat.zero_le _
  | cons x t =>
    have h6 := h4 x (List.mem_cons_self ..)
    have h7 := yrest_len (l := t) (fun y hy => h4 y (List.mem_cons_of_mem _ hy))
    rw [textB, List.length_append]
    simp only [List.length_cons] at h5
    omega
theorem textL_size {l : List Lb} (h : chkL l = true) : 1 ≤ (textL l).size ∧ (textL l).size ≤ 2400 := by
  obtain ⟨h1, h2, h3⟩ := chkL_parts h
  have h0 := ytext_len h l.length
  rw [List.take_length] at h0
  rw [← ba_len, textL_list]
  refine ⟨?_, h0⟩
  cases l with
  | nil => simp at h1
  | cons x t =>
    have h4 := ylab_len (h3 x (List.mem_cons_self ..)).1 (h3 x (List.mem_cons_self ..)).2.2
    rw [textB, List.length_append]
    omega
/-- What stands behind k bytes of a value, as it is written. -/
def QuoAt (s : ByteArray) (k : Nat) (t : ByteArray) : Prop := t.toList = 34 :: (s.toList.take k).flatMap qb
theorem QuoAt.size {s t : ByteArray} {k : Nat} (h : QuoAt s k t) : t.size ≤ 1 + 4 * k := by
  have h1 := congrArg List.length h
  have h2 := quo_len (s.toList.take k)
  rw [ba_len, List.length_cons] at h1
  rw [List.length_take] at h2
  omega
theorem quoAt_step {s t u : ByteArray} {k : Nat} (hk : k < s.size) (h : QuoAt s k t) (hu : u.toList = qb (s[k]'hk)) : QuoAt s (k + 1) (t ++ u) := by
  have hx : s.toList[k]? = some (s[k]'hk) := by
    rw [ByteArray.toList_eq, Array.getElem?_toList]
    exact Array.getElem?_eq_getElem hk
  unfold QuoAt at h ⊢
  rw [ba_app, h, hu, take_step hx, List.flatMap_append]
  simp

set_option maxHeartbeats 4000000 in
theorem refquoted_any (s : ByteArray) (w : World) (hs : s.size ≤ 1048576) :
    Calls Try.prog 37 #[.string s] w fun e w' => e = .returned (.string ⟨(quoB s.toList).toArray⟩) ∧ ∃ q, w' = w.drewN q := by
  have HF : Hid (∀ t, QuoAt s s.size t → (t ++ (⟨#[34]⟩ : ByteArray)) = ⟨(quoB s.toList).toArray⟩) := fun t h => by
    refine ba_ext ?_
    unfold QuoAt at h
    rw [ba_app, h, List.take_of_length_le (by rw [ba_len]; exact Nat.le_refl _), lit34]
    exact (ByteArray.toList_mk _).symm
  generalize (⟨(quoB s.toList).toArray⟩ : ByteArray) = ans at *
  go_enter Try.func37, Try.ntmps37
  go_wp2
  go_loopw [3, 4] (fun x i wr => ∃ (k q : Nat) (t : ByteArray), k ≤ s.size ∧ i = .int .i64 k ∧ x = .string t ∧ wr = w.drewN q ∧ Hid (QuoAt s k t)) (fun _ i _ => s.size - (intOf i).toNat)
  case atStart => exact ⟨0, 0, _, Nat.zero_le _, rfl, rfl, rfl, lit34⟩
  case round =>
    obtain ⟨k, q, t, hk, rfl, rfl, rfl, A⟩ := hrel
    have ts : t.size ≤ 4194305 := by have := A.out.size; omega
    by_cases hlt : k < s.size
    · have i1 : (0 : Int) ≤ (k : Int) := by omega
      have i2 : (k : Int) < (s.size : Int) := by omega
      have i3 : (k : Int) + 1 ≤ (s.size : Int) := by omega
      have S1 := hide (ba_ext1 s k hlt)
      have ST := hide (fun u hu => quoAt_step (u := u) hlt A.out hu)
      have hbc : ∃ c, Hid ((s[k]'hlt) = c) := ⟨_, rfl⟩
      obtain ⟨c, hc⟩ := hbc
      have hbk : ∃ z : Int, Hid ((c.toNat : Int) = z) := ⟨_, rfl⟩
      obtain ⟨z, hz⟩ := hbk
      have hb : ((s[k]'hlt).toNat : Int) = z := by rw [hc.out]; exact hz.out
      rw [hc.out] at S1 ST
      have z1 : z < 256 := by have := c.toNat_lt; have := hz.out; omega
      have z0 : 0 ≤ z := by have := hz.out; omega
      clear A
      by_cases c1 : z = 34
      · have Q := hide (ST.out (⟨#[92]⟩ ++ s.extract k (k + 1)) (by rw [ba_app, S1.out, lit92]; unfold qb; rw [if_pos (Or.inl (UInt8.toNat_inj.1 (by have := hz.out; show c.toNat = 34; omega)))]; rfl))
        rw [← ByteArray.append_assoc] at Q
        clear ST S1 hz
        subst c1
        go_wp2
        go_roundw
        case rel => exact ⟨k + 1, q, _, by omega, by go_num, rfl, rfl, Q⟩
        case measure => simp [intOf]; omega
      · by_cases c2 : z = 92
        · have Q := hide (ST.out (⟨#[92]⟩ ++ s.extract k (k + 1)) (by rw [ba_app, S1.out, lit92]; unfold qb; rw [if_pos (Or.inr (UInt8.toNat_inj.1 (by have := hz.out; show c.toNat = 92; omega)))]; rfl))
          rw [← ByteArray.append_assoc] at Q
          clear ST S1 hz c1
          subst c2
          go_wp2
          go_roundw
          case rel => exact ⟨k + 1, q, _, by omega, by go_num, rfl, rfl, Q⟩
          case measure => simp [intOf]; omega
        · have HQ : Hid (¬ (c = 34 ∨ c = 92)) := by
            rintro (h | h)
            · subst h; exact c1 hz.out.symm
            · subst h; exact c2 hz.out.symm
          have d1 : (z == 34) = false := by simpa using c1
          have d2 : (z == 92) = false := by simpa using c2
          by_cases c3 : z < 32
          · have Q := hide (ST.out (⟨#[92, 120]⟩ ++ dgsB.extract (c.toNat / 16) (c.toNat / 16 + 1) ++ dgsB.extract (c.toNat % 16) (c.toNat % 16 + 1)) (by
              have := c.toNat_lt
              rw [ba_app, ba_app, litX, dig_at _ (by omega), dig_at _ (by omega)]
              unfold qb
              rw [if_neg HQ.out, if_pos (by
                rw [UInt8.lt_iff_toNat_lt, UInt8.le_iff_toNat_le]
                have := hz.out
                exact Or.inl (show c.toNat < 32 by omega))]
              rfl))
            rw [← ByteArray.append_assoc, ← ByteArray.append_assoc] at Q
            obtain ⟨p, r, hp, hr, ep, er, EP, ER⟩ : ∃ p r : Nat, p < 16 ∧ r < 16 ∧ z / 16 = (p : Int) ∧ z % 16 = (r : Int) ∧ Hid (c.toNat / 16 = p) ∧ Hid (c.toNat % 16 = r) := ⟨c.toNat / 16, c.toNat % 16, by have := c.toNat_lt; omega, by omega, by have := hz.out; omega, by have := hz.out; omega, rfl, rfl⟩
            rw [EP.out, ER.out] at Q
            have t1 : z.tdiv 16 = (p : Int) := by rw [Int.tdiv_eq_ediv_of_nonneg z0]; exact ep
            have t2 : z.tmod 16 = (r : Int) := by rw [Int.tmod_eq_emod_of_nonneg z0]; exact er
            clear ST S1 hz HQ EP ER
            go_wp2
            go_quiet (fail)
            go_wp2
            go_roundw
            case rel => exact ⟨k + 1, _, _, by omega, by go_num, rfl, rfl, Q⟩
            case measure => simp [intOf]; omega
          · by_cases c4 : 127 ≤ z
            · have Q := hide (ST.out (⟨#[92, 120]⟩ ++ dgsB.extract (c.toNat / 16) (c.toNat / 16 + 1) ++ dgsB.extract (c.toNat % 16) (c.toNat % 16 + 1)) (by
                have := c.toNat_lt
                rw [ba_app, ba_app, litX, dig_at _ (by omega), dig_at _ (by omega)]
                unfold qb
                rw [if_neg HQ.out, if_pos (by
                  rw [UInt8.lt_iff_toNat_lt, UInt8.le_iff_toNat_le]
                  have := hz.out
                  exact Or.inr (show 127 ≤ c.toNat by omega))]
                rfl))
              rw [← ByteArray.append_assoc, ← ByteArray.append_assoc] at Q
              obtain ⟨p, r, hp, hr, ep, er, EP, ER⟩ : ∃ p r : Nat, p < 16 ∧ r < 16 ∧ z / 16 = (p : Int) ∧ z % 16 = (r : Int) ∧ Hid (c.toNat / 16 = p) ∧ Hid (c.toNat % 16 = r) := ⟨c.toNat / 16, c.toNat % 16, by have := c.toNat_lt; omega, by omega, by have := hz.out; omega, by have := hz.out; omega, rfl, rfl⟩
              rw [EP.out, ER.out] at Q
              have t1 : z.tdiv 16 = (p : Int) := by rw [Int.tdiv_eq_ediv_of_nonneg z0]; exact ep
              have t2 : z.tmod 16 = (r : Int) := by rw [Int.tmod_eq_emod_of_nonneg z0]; exact er
              clear ST S1 hz HQ EP ER
              go_wp2
              go_quiet (fail)
              go_wp2
              go_roundw
              case rel => exact ⟨k + 1, _, _, by omega, by go_num, rfl, rfl, Q⟩
              case measure => simp [intOf]; omega
            · have Q := hide (ST.out (s.extract k (k + 1)) (by rw [S1.out]; unfold qb; rw [if_neg HQ.out, if_neg (by
                rw [UInt8.lt_iff_toNat_lt, UInt8.le_iff_toNat_le]
                have := hz.out
                rintro (h | h)
                · have : c.toNat < 32 := h
                  omega
                · have : 127 ≤ c.toNat := h
                  omega)]))
              clear ST S1 hz HQ
              go_wp2
              go_roundw
              case rel => exact ⟨k + 1, q, _, by omega, by go_num, rfl, rfl, Q⟩
              case measure => simp [intOf]; omega
    · have e : k = s.size := by omega
      have F := hide (HF.out t (by have h := A.out; rw [e] at h; exact h))
      have i2 : ¬ (k : Int) < (s.size : Int) := by omega
      clear e
      go_wp2
      go_ret
      exact ⟨by rw [← F.out]; rfl, q, rfl⟩
theorem quiet_lab2 {P : Program} {f : Nat} {args : Array Value} {v : Value} {wr : World} {q x : Nat} (h : ∀ w, Calls P f args w (fun e w' => e = .returned v ∧ ∃ n, w' = w.drewN n)) : Calls P f args (wr.drewN (q + x)) fun e w' => e = .returned v ∧ ∃ n, w' = wr.drewN (q + n) :=
  (h _).mono fun e w' ⟨he, n, hw⟩ => ⟨he, x + n, by rw [hw, World.drewN_drewN, Nat.add_assoc]⟩
theorem lit44 : (⟨#[44]⟩ : ByteArray).toList = [44] := by decide +kernel
theorem lit61 : (⟨#[61]⟩ : ByteArray).toList = [61] := by decide +kernel
theorem quo_list (v : List UInt8) : (⟨(quoB v).toArray⟩ : ByteArray).toList = quoB v := ByteArray.toList_mk _
theorem textAt_step {l : List Lb} {k : Nat} {x : Lb} {t : ByteArray} (hx : l[k]? = some x) (h : t.toList = textB (l.take k)) (h0 : k ≠ 0) : (t ++ ⟨#[44]⟩ ++ x.1 ++ ⟨#[61]⟩ ++ (⟨(quoB x.2.toList).toArray⟩ : ByteArray)).toList = textB (l.take (k + 1)) := by
  have hl : k < l.length := (List.getElem?_eq_some_iff.1 hx).1
  rw [take_step hx, textB_snoc (fun e => by
    have := congrArg List.length e
    rw [List.length_take, List.length_nil] at this
    omega), ba_app, ba_app, ba_app, ba_app, lit44, lit61, h, quo_list]
  unfold labB
  simp [List.append_assoc]
theorem textAt_first {l : List Lb} {x : Lb} {t : ByteArray} (hx : l[0]? = some x) (h : t.toList = textB (l.take 0)) : (t ++ x.1 ++ ⟨#[61]⟩ ++ (⟨(quoB x.2.toList).toArray⟩ : ByteArray)).toList = textB (l.take 1) := by
  rw [take_step hx, ba_app, ba_app, ba_app, lit61, h, quo_list]
  simp [textB, restB, labB]

end Go.Proofs.Ythebcmkainplnaa
