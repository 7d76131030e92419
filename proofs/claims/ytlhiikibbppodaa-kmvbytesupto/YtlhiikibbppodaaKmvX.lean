/-
  How many unlike things a sketch tells; one hash more: contracts, for every world. One hash more: its contract, for every world.
  Conditions: the sketch lies in memory; words are words of 64 bits; the sketch lies in memory and has at most 1024; the hash is a word of 64 bits.
-/
import Derived.Test.YtlhiikibbppodaaKmvV
import Derived.Test.YtlhiikibbppodaaKmvD
import Derived.Test.YtlhiikibbppodaaVintR
import Derived.Test.YtlhiikibbppodaaWideZ
namespace Go.Proofs.Ytlhiikibbppodaa
open Go.RowKit Go.Maps

/-- How many unlike things n hashes up to 'top' tell. -/
def distN (n : Nat) (top : Int) : Int := if n < 1024 then n else if top = 18446744073709551615 then 1023 else 1023 * 18446744073709551616 / (top + 1)

theorem distinct_any (n : Nat) (top : Int) (w : World) (hn : n ≤ 281474976710656) (ht : W64 top) (h1 : 1024 ≤ n → 1023 ≤ top) :
    Calls Try.prog 41 #[.int .i64 n, .int .u64 top] w fun e w' => e = .returned (.int .u64 (distN n top)) ∧ Below w.heap.size w w' := by
  obtain ⟨t0, t1⟩ := ht
  unfold distN
  by_cases hl : n < 1024
  · rw [if_pos hl]
    have i1 : (n : Int) < 1024 := by omega
    have e1 : IntKind.u64.wrap (n : Int) = (n : Int) := by rw [IntKind.wrap_u64]; omega
    go_enter Try.func41, Try.ntmps41
    go_wp2
    go_ret
    exact ⟨rfl, Below.refl _ _⟩
  · rw [if_neg hl]
    have i1 : ¬ (n : Int) < 1024 := by omega
    by_cases hm : top = 18446744073709551615
    · subst hm
      rw [if_pos rfl]
      go_enter Try.func41, Try.ntmps41
      go_wp2
      go_ret
      exact ⟨rfl, Below.refl _ _⟩
    · rw [if_neg hm]
      have hge := h1 (by omega)
      have i2 : (top == 18446744073709551615) = false := by rw [beq_eq_false_iff_ne]; exact hm
      have i3 : IntKind.u64.wrap (top + 1) = top + 1 := by rw [IntKind.wrap_u64]; omega
      have DV := hide (fun W => div_any 1023 0 (top + 1) ⟨by decide, by decide⟩ ⟨by decide, by decide⟩ ⟨by omega, by omega⟩ W)
      have HQ : Hid (divQ 1023 0 (top + 1) = 1023 * 18446744073709551616 / (top + 1)) := by
        show _ = _
        unfold divQ
        rw [if_pos (by omega)]
        unfold quoS
        rw [Int.add_zero]
      generalize divQ 1023 0 (top + 1) = Q1 at *
      generalize divR 1023 0 (top + 1) = R1 at *
      generalize divB 1023 (top + 1) = B1 at *
      clear hm hge
      go_enter Try.func41, Try.ntmps41
      go_wp2_with fail
      refine (DV.out _).mono ?_
      rintro e w' ⟨rfl, hg⟩
      have HG := hide hg.2
      clear hg DV
      go_wp2
      go_ret
      rw [HQ.out]
      exact ⟨rfl, HG.out⟩

/-- What a list says is what its length and its last word say. -/
theorem distK_N {l : List Int} (hu : Up l) (hw : ∀ x ∈ l, W64 x) (hl : l.length ≤ 1024) : distK l = distN l.length (l.getLastD 0) := by
  unfold distK distN
  rw [up_chk hu hl hw, if_pos rfl]
  by_cases h : l.length < 1024
  · rw [if_pos h, if_pos h]
  · rw [if_neg h, if_neg h, last_get (by omega), show l.length - 1 = 1023 by omega]
theorem last_great {l : List Int} (hu : Up l) (hw : ∀ x ∈ l, W64 x) (hl : 1024 ≤ l.length) : 1023 ≤ l.getLastD 0 := by
  have := up_place hu hw (l.length - 1) (by omega)
  rw [last_get (by omega)]
  omega
theorem last_word {l : List Int} (hw : ∀ x ∈ l, W64 x) : W64 (l.getLastD 0) := by
  by_cases e : l = []
  · subst e; exact ⟨by decide, by decide⟩
  · exact hw _ (last_mem e)

/-- What a walk reads of a sketch. -/
def SeenK (g b : Nat) (n : Nat) (top : Int) (W : World) : Prop := W.cell? ⟨g, 0, none⟩ = some (.map (some b)) ∧ W.cell? ⟨g, 1, none⟩ = some (.int .u64 top) ∧ ∀ ty, (Builtin.len_ #[67] ty #[.map (some b)]).run Try.prog W = .ok (.int .i64 (n : Nat)) W
theorem KB.seen {w : World} {g b : Nat} {D : DataW Unit} {l : List Int} {top : Int} (H : KB w g b D l top) : SeenK g b l.length top w := ⟨H.c0, H.c1, fun ty => by
  have := H.map.len Try.underlying67 ty
  rwa [H.set.size] at this⟩

set_option maxHeartbeats 1000000 in
theorem kdist_any (g b : Nat) (D : DataW Unit) (l : List Int) (w : World) (H : KB w g b D l (l.getLastD 0)) :
    Calls Try.prog 22 #[.pointer (some ⟨g, 0, none⟩)] w fun e w' => e = .returned (.int .u64 (distN l.length (l.getLastD 0))) ∧ Below w.heap.size w w' := by
  have HK := hide H
  have DI := hide (fun W => distinct_any l.length (l.getLastD 0) W (by have := H.len; omega) (last_word H.set.words) (last_great H.set.up H.set.words))
  have SN := hide (fun W (k : KB W g b D l (l.getLastD 0)) => k.seen)
  clear H
  generalize l.getLastD 0 = top at *
  generalize l.length = n at *
  generalize distN n top = R at *
  go_enter Try.func22, Try.ntmps22
  go_upto_region 1 with fail
  refine wp_region_held_drew (S := fun W => W.cell? ⟨g, 0, none⟩ = some (.map (some b)) ∧ W.cell? ⟨g, 1, none⟩ = some (.int .u64 top) ∧ ∀ ty, (Builtin.len_ #[67] ty #[.map (some b)]).run Try.prog W = .ok (.int .i64 (n : Nat)) W) (by kernel_rfl) (SN.out _ (HK.out.drewN 1)) (fun hHeld => ?_)
  refine held_take (i := 0) (d := (some 3)) (v := ?_) rfl rfl (by kernel_rfl) (by kernel_rfl) (by kernel_rfl) (fun _ _ _ h => h) (Or.inl ⟨by rfl, ?_⟩) (by first | assumption | rfl | trivial) ?_
  rotate_left 1
  · (intro w hSw; (try dsimp only at hSw); (try subst hSw); go_simp; try with_reducible rfl)
  simp only [Act.put, List.setIfInBounds_toArray, List.set_cons_zero, List.set_cons_succ]
  refine held_take (i := 1) (d := (some 4)) (v := ?_) rfl rfl (by kernel_rfl) (by kernel_rfl) (by kernel_rfl) (fun _ _ _ h => h) (Or.inl ⟨by rfl, ?_⟩) (by first | assumption | rfl | trivial) ?_
  rotate_left 1
  · (intro w hSw; (try dsimp only at hSw); (try subst hSw); go_simp; try with_reducible rfl)
  simp only [Act.put, List.setIfInBounds_toArray, List.set_cons_zero, List.set_cons_succ]
  refine held_take (i := 2) (d := (some 5)) (v := ?_) rfl rfl (by kernel_rfl) (by kernel_rfl) (by kernel_rfl) (fun _ _ _ h => h) (Or.inl ⟨by rfl, ?_⟩) (by first | assumption | rfl | trivial) ?_
  rotate_left 1
  · (intro w hSw; (try dsimp only at hSw); (try subst hSw); go_simp; try with_reducible rfl)
  simp only [Act.put, List.setIfInBounds_toArray, List.set_cons_zero, List.set_cons_succ]
  refine held_take (i := 3) (d := (some 6)) (v := ?_) rfl rfl (by kernel_rfl) (by kernel_rfl) (by kernel_rfl) (fun _ _ _ h => h) (Or.inl ⟨by rfl, ?_⟩) (by first | assumption | rfl | trivial) ?_
  rotate_left 1
  · (intro w hSw; (try dsimp only at hSw); (try subst hSw); go_simp; try with_reducible rfl)
  simp only [Act.put, List.setIfInBounds_toArray, List.set_cons_zero, List.set_cons_succ]
  refine held_take (i := 4) (d := (some 7)) (v := ?_) rfl rfl (by kernel_rfl) (by kernel_rfl) (by kernel_rfl) (fun _ _ _ h => h) (Or.inl ⟨by rfl, ?_⟩) (by first | assumption | rfl | trivial) ?_
  rotate_left 1
  · (intro w hSw; (try dsimp only at hSw); (try subst hSw); go_simp; try with_reducible rfl)
  simp only [Act.put, List.setIfInBounds_toArray, List.set_cons_zero, List.set_cons_succ]
  refine held_take (i := 5) (d := (some 8)) (v := ?_) rfl rfl (by kernel_rfl) (by kernel_rfl) (by kernel_rfl) (fun _ _ _ h => h) (Or.inl ⟨by rfl, ?_⟩) (by first | assumption | rfl | trivial) ?_
  rotate_left 1
  · (intro w hSw; (try dsimp only at hSw); (try subst hSw); go_simp; try with_reducible rfl)
  simp only [Act.put, List.setIfInBounds_toArray, List.set_cons_zero, List.set_cons_succ]
  refine held_take (i := 6) (d := (some 9)) (v := ?_) rfl rfl (by kernel_rfl) (by kernel_rfl) (by kernel_rfl) (fun _ _ _ h => h) (Or.inl ⟨by rfl, ?_⟩) (by first | assumption | rfl | trivial) ?_
  rotate_left 1
  · (intro w hSw; (try dsimp only at hSw); (try subst hSw); go_simp; try with_reducible rfl)
  simp only [Act.put, List.setIfInBounds_toArray, List.set_cons_zero, List.set_cons_succ]
  refine held_take (i := 7) (d := (some 10)) (v := ?_) rfl rfl (by kernel_rfl) (by kernel_rfl) (by kernel_rfl) (fun _ _ _ h => h) (Or.inl ⟨by rfl, ?_⟩) (by first | assumption | rfl | trivial) ?_
  rotate_left 1
  · (intro w hSw; (try dsimp only at hSw); (try subst hSw); go_simp; try with_reducible rfl)
  simp only [Act.put, List.setIfInBounds_toArray, List.set_cons_zero, List.set_cons_succ]
  refine held_take (i := 8) (d := (some 11)) (v := ?_) rfl rfl (by kernel_rfl) (by kernel_rfl) (by kernel_rfl) (fun _ _ _ h => h) (Or.inl ⟨by rfl, ?_⟩) (by first | assumption | rfl | trivial) ?_
  rotate_left 1
  · (intro w hSw; (try dsimp only at hSw); (try subst hSw); go_simp; try with_reducible rfl)
  simp only [Act.put, List.setIfInBounds_toArray, List.set_cons_zero, List.set_cons_succ]
  refine held_next (i := 9) (by kernel_rfl) rfl (by rfl) (fun K hK => ?_)
  go_simp
  refine (DI.out _).mono ?_
  rintro e W4 ⟨rfl, b5⟩
  have hs4 := SN.out W4 ((HK.out.drewN 1).below b5)
  have B5 : Hid (Below w.heap.size w W4) := ((Below.refl w.heap.size w).drew).trans b5
  go_wp2_with fail
  refine hK.out _ _ hs4 ?_
  clear hK
  refine held_take (i := 10) (d := (some 2)) (v := ?_) rfl rfl (by kernel_rfl) (by kernel_rfl) (by kernel_rfl) (fun _ _ _ h => h) (Or.inl ⟨by rfl, ?_⟩) (by first | assumption | rfl | trivial) ?_
  rotate_left 1
  · (intro w hSw; (try dsimp only at hSw); (try subst hSw); go_simp; try with_reducible rfl)
  simp only [Act.put, List.setIfInBounds_toArray, List.set_cons_zero, List.set_cons_succ]
  refine wpAnyH_done (by kernel_rfl) ?_ _
  clear hHeld hs4 b5
  go_wp2
  go_ret
  exact ⟨rfl, B5.out⟩
end Go.Proofs.Ytlhiikibbppodaa

namespace Go.Proofs.Ytlhiikibbppodaa
open Go.RowKit Go.Maps

theorem insK_small {h : Int} {l : List Int} (hu : Up l) : (insK h l).length ≤ l.length + 1 := by
  rw [insK_len hu]
  split <;> omega
theorem hashK_few {n : Nat} {h : Int} {l : List Int} (hl : (insK h l).length ≤ n) : hashK n l h = insK h l := by
  unfold hashK
  exact List.take_of_length_le hl

set_option maxRecDepth 20000 in
set_option maxHeartbeats 4000000 in
theorem khash_any (g b : Nat) (D : DataW Unit) (l : List Int) (h : Int) (w : World) (H : KB w g b D l (l.getLastD 0)) (hl : l.length ≤ 1024) (hh : W64 h) :
    Calls Try.prog 16 #[.pointer (some ⟨g, 0, none⟩), .int .u64 h] w fun e w' => e = .returned (.tuple #[]) ∧ (∃ D', KB w' g b D' (hashK 1024 l h) ((hashK 1024 l h).getLastD 0)) ∧ Ch (KS g b) w w' := by
  have BY := hide (beyond_any g b D l (l.getLastD 0) h w H)
  have hil := insK_small (h := h) H.set.up
  have TK := hide (take_any g b D l (l.getLastD 0) h w H hh (by omega))
  rw [← last_insK H.set.up hh.1] at TK
  have HK := hide H
  have HU := hide H.set.up
  obtain ⟨B, HB⟩ : ∃ B, Hid ((decide (1024 ≤ l.length) && decide (l.getLastD 0 ≤ h)) = B) := ⟨_, rfl⟩
  rw [HB.out] at BY
  clear H
  cases B with
  | true =>
    have hb : 1024 ≤ l.length ∧ l.getLastD 0 ≤ h := by have := HB.out; simpa using this
    have HE : Hid (hashK 1024 l h = l) := hashK_beyond HU.out (by omega) (by decide) hb.2
    rw [HE.out]
    clear hb hil TK HB
    go_enter Try.func16, Try.ntmps16
    go_wp2_with fail
    refine BY.out.mono ?_
    rintro e w1 ⟨rfl, rfl⟩
    go_wp2
    refine bodyPost_ret (results_none rfl _ _ _) rfl ?_
    exact ⟨rfl, ⟨D, HK.out⟩, Ch.refl _ _⟩
  | false =>
    obtain ⟨L, HLL⟩ : ∃ L, Hid (insK h l = L) := ⟨_, rfl⟩
    rw [HLL.out] at TK hil
    by_cases hm : L.length ≤ 1024
    · have HE : Hid (hashK 1024 l h = L) := by
        show _ = _
        rw [← HLL.out]
        exact hashK_few (by rw [HLL.out]; exact hm)
      rw [HE.out]
      have i1 : ¬ (1024 : Int) < (L.length : Int) := by omega
      clear hil HB
      go_enter Try.func16, Try.ntmps16
      go_wp2_with fail
      refine BY.out.mono ?_
      rintro e w1 ⟨rfl, hw1⟩
      subst hw1
      go_wp2_with fail
      refine TK.out.mono ?_
      rintro e w2 ⟨rfl, ⟨D', K2⟩, C2⟩
      have HK2 := hide K2
      have HC2 := hide C2
      have c0 := K2.c0
      have HO := hide K2.map
      have HS := hide K2.set.size
      clear K2 C2 TK BY
      go_wp2_with (at_len; refine wpList_len_own _ rfl _ 67 rfl 31 74 Try.underlying67 _ b 1048576 D' rfl HO.out ?_; rw [HS.out])
      go_end0
      exact ⟨rfl, ⟨D', HK2.out⟩, HC2.out⟩
    · have hL : L.length = 1025 := by omega
      have HE : Hid (hashK 1024 l h = L.take 1024) := by
        show _ = _
        rw [← HLL.out]
        rfl
      rw [HE.out]
      have i1 : (1024 : Int) < (L.length : Int) := by omega
      have HSp := hide (last_split (l := L) (n := 1024) hL)
      clear hil HB
      go_enter Try.func16, Try.ntmps16
      go_wp2_with fail
      refine BY.out.mono ?_
      rintro e w1 ⟨rfl, hw1⟩
      subst hw1
      go_wp2_with fail
      refine TK.out.mono ?_
      rintro e w2 ⟨rfl, ⟨D', K2⟩, C2⟩
      have HK2 := hide K2
      have HC2 := hide C2
      have c0 := K2.c0
      have HO := hide K2.map
      have HS := hide K2.set.size
      have HX : Hid (W64 (L.getLastD 0)) := last_word K2.set.words
      have SN : Hid (SeenK g b L.length (L.getLastD 0) w2.drew) := (K2.drewN 1).seen
      obtain ⟨t, HT⟩ : ∃ t, Hid (L.getLastD 0 = t) := ⟨_, rfl⟩
      rw [HT.out] at HX SN HK2 HSp
      obtain ⟨w3, hrun, hm3, ht3⟩ := (HK2.out.map.drew).drop keyU Try.underlying67 (wfU HX.out) 0
      have K3 : Hid (KB w3 g b (D'.del (.int .u64 t)) (L.take 1024) t) := by
        have h1 := HK2.out.drewN 1
        rw [HSp.out] at h1
        have h2 := KB.del (s := []) h1 hm3 ht3.grown
        rwa [List.append_nil] at h2
      have C3 : Hid (Ch (KS g b) w1 w3) := (HC2.out.drewN 1).trans (ch_grownK ht3.grown)
      have GR := hide (greatest_any g b _ _ t w3 K3.out)
      obtain ⟨t2, HT2⟩ : ∃ t2, Hid ((L.take 1024).getLastD 0 = t2) := ⟨_, rfl⟩
      rw [HT2.out] at GR
      clear hm3 ht3
      clear K2 C2 TK BY
      go_upto_region 3 with (at_len; refine wpList_len_own _ rfl _ 67 rfl 31 74 Try.underlying67 _ b 1048576 D' rfl HO.out ?_; rw [HS.out])
      have s0 := SN.out.1
      have s1 := SN.out.2.1
      refine wp_region_held_drew (S := fun W => W.cell? ⟨g, 0, none⟩ = some (.map (some b)) ∧ W.cell? ⟨g, 1, none⟩ = some (.int .u64 t)) (by kernel_rfl) ⟨s0, s1⟩ (fun hHeld => ?_)
      refine held_take (i := 0) (d := (some 16)) (v := ?_) rfl rfl (by kernel_rfl) (by kernel_rfl) (by kernel_rfl) (fun _ _ _ h => h) (Or.inl ⟨by rfl, ?_⟩) (by first | assumption | rfl | trivial) ?_
      rotate_left 1
      · (intro w hSw; (try dsimp only at hSw); (try subst hSw); go_simp; try with_reducible rfl)
      simp only [Act.put, List.setIfInBounds_toArray, List.set_cons_zero, List.set_cons_succ]
      refine held_take (i := 1) (d := (some 17)) (v := ?_) rfl rfl (by kernel_rfl) (by kernel_rfl) (by kernel_rfl) (fun _ _ _ h => h) (Or.inl ⟨by rfl, ?_⟩) (by first | assumption | rfl | trivial) ?_
      rotate_left 1
      · (intro w hSw; (try dsimp only at hSw); (try subst hSw); go_simp; try with_reducible rfl)
      simp only [Act.put, List.setIfInBounds_toArray, List.set_cons_zero, List.set_cons_succ]
      refine held_take (i := 2) (d := (some 18)) (v := ?_) rfl rfl (by kernel_rfl) (by kernel_rfl) (by kernel_rfl) (fun _ _ _ h => h) (Or.inl ⟨by rfl, ?_⟩) (by first | assumption | rfl | trivial) ?_
      rotate_left 1
      · (intro w hSw; (try dsimp only at hSw); (try subst hSw); go_simp; try with_reducible rfl)
      simp only [Act.put, List.setIfInBounds_toArray, List.set_cons_zero, List.set_cons_succ]
      refine held_take (i := 3) (d := (some 19)) (v := ?_) rfl rfl (by kernel_rfl) (by kernel_rfl) (by kernel_rfl) (fun _ _ _ h => h) (Or.inl ⟨by rfl, ?_⟩) (by first | assumption | rfl | trivial) ?_
      rotate_left 1
      · (intro w hSw; (try dsimp only at hSw); (try subst hSw); go_simp; try with_reducible rfl)
      simp only [Act.put, List.setIfInBounds_toArray, List.set_cons_zero, List.set_cons_succ]
      refine held_take (i := 4) (d := (some 20)) (v := ?_) rfl rfl (by kernel_rfl) (by kernel_rfl) (by kernel_rfl) (fun _ _ _ h => h) (Or.inl ⟨by rfl, ?_⟩) (by first | assumption | rfl | trivial) ?_
      rotate_left 1
      · (intro w hSw; (try dsimp only at hSw); (try subst hSw); go_simp; try with_reducible rfl)
      simp only [Act.put, List.setIfInBounds_toArray, List.set_cons_zero, List.set_cons_succ]
      refine held_take (i := 5) (d := (some 21)) (v := ?_) rfl rfl (by kernel_rfl) (by kernel_rfl) (by kernel_rfl) (fun _ _ _ h => h) (Or.inl ⟨by rfl, ?_⟩) (by first | assumption | rfl | trivial) ?_
      rotate_left 1
      · (intro w hSw; (try dsimp only at hSw); (try subst hSw); go_simp; try with_reducible rfl)
      simp only [Act.put, List.setIfInBounds_toArray, List.set_cons_zero, List.set_cons_succ]
      refine held_take (i := 6) (d := (some 22)) (v := ?_) rfl rfl (by kernel_rfl) (by kernel_rfl) (by kernel_rfl) (fun _ _ _ h => h) (Or.inl ⟨by rfl, ?_⟩) (by first | assumption | rfl | trivial) ?_
      rotate_left 1
      · (intro w hSw; (try dsimp only at hSw); (try subst hSw); go_simp; try with_reducible rfl)
      simp only [Act.put, List.setIfInBounds_toArray, List.set_cons_zero, List.set_cons_succ]
      refine held_take (i := 7) (d := (some 23)) (v := ?_) rfl rfl (by kernel_rfl) (by kernel_rfl) (by kernel_rfl) (fun _ _ _ h => h) (Or.inl ⟨by rfl, ?_⟩) (by first | assumption | rfl | trivial) ?_
      rotate_left 1
      · (intro w hSw; (try dsimp only at hSw); (try subst hSw); go_simp; try with_reducible rfl)
      simp only [Act.put, List.setIfInBounds_toArray, List.set_cons_zero, List.set_cons_succ]
      refine held_next (i := 8) (by kernel_rfl) rfl (by rfl) (fun K hK => ?_)
      go_simp
      refine hK.out _ _ ⟨K3.out.c0, K3.out.c1⟩ ?_
      clear hK
      refine wpAnyH_done (by kernel_rfl) ?_ _
      clear hHeld hrun s0 s1
      go_wp2_with fail
      refine GR.out.mono ?_
      rintro e w4 ⟨rfl, b4⟩
      have K4 := hide (K3.out.below b4)
      have C4 := hide (C3.out.trans ((Ch.of_below b4).more (fun _ _ e => e.elim)))
      have d1 := K4.out.c1
      have d2 := K4.out.fz 1
      clear b4 GR
      go_wp2
      go_end0
      exact ⟨rfl, ⟨_, by rw [HT2.out]; exact K4.out.setTop _⟩, C4.out.trans (ch_setK _ g b 1 _)⟩
end Go.Proofs.Ytlhiikibbppodaa
