/-
  What the laws of layer 8 ask of the layer, paid by the code.
  Conditions: none.
-/
import Derived.Test.YtlhiikibbppodaaKmvB
import Derived.Test.YtlhiikibbppodaaKmvTu
import Derived.Test.YtlhiikibbppodaaKmvC
import Derived.Test.YtlhiikibbppodaaWideZ
namespace Go.Proofs.Ytlhiikibbppodaa
open Go.RowKit Go.Maps

theorem hashAll_none {m : List Int} (hck : chkK m = true) : hashAll 1024 [] m = m := by
  have h := chk_up hck
  rw [hashAll_uni (by simp), uni_nil h.1, List.take_of_length_le h.2]

theorem atK_of {w : World} {g b : Nat} {D : DataW Unit} {l : List Int} (h : KB w g b D l (l.getLastD 0)) (hl : l.length ≤ 1024) : AtK w g (KS g b) l := ⟨b, D, rfl, h, hl⟩
theorem stepK_of {w w' : World} {g b : Nat} {l : List Int} (h : ∃ D, KB w' g b D l (l.getLastD 0)) (hl : l.length ≤ 1024) (c : Ch (KS g b) w w') : StepK AtK w w' g (KS g b) l := by
  obtain ⟨D, h⟩ := h
  exact ⟨KS g b, atK_of h hl, fun _ hk => Or.inl hk, c⟩

theorem knew_made (w : World) : Calls Try.prog 26 #[] w fun e w' => ∃ g, e = .returned (.pointer (some ⟨g, 0, none⟩)) ∧ MadeK AtK w w' g [] := by
  refine (knew_any w).mono ?_
  rintro e w' ⟨g, b, D, rfl, h, h1, h2, h3⟩
  exact ⟨g, rfl, KS g b, atK_of h (by simp), fun k hk => hk.elim (fun e => by omega) (fun e => by omega), h3⟩

set_option maxHeartbeats 1000000 in
theorem kfrom_ok (a : Option Addr) (n cap : Nat) (l : List Int) (w : World) (hr : Row .u64 w a n l) (hck : chkK l = true) :
    Calls Try.prog 9 #[.slice a n cap] w fun e w' => ∃ g, e = .returned (.tuple #[.pointer (some ⟨g, 0, none⟩), .int .i64 0]) ∧ MadeK AtK w w' g l := by
  have NW := hide (knew_any w)
  have HR := hide hr
  have HC := hide hck
  clear hr hck
  go_enter Try.func9, Try.ntmps9
  go_wp2_with fail
  refine NW.out.mono ?_
  rintro e w1 ⟨g, b, D, rfl, h, h1, h2, h3⟩
  have hr1 := HR.out.below h3 (Nat.le_refl _)
  have MG := hide (kmerge_ok g b D [] a n cap l w1 h (by simp) hr1 (fun hn x hx hs => by
    subst hx
    obtain ⟨b9, off9, h9, hcc⟩ := row_at HR.out hn
    simp only [Option.some.injEq] at h9
    have hlt : b9 < w.heap.size := World.block_lt_of_cell? w _ (hcc 0 hn w (Below.refl _ _))
    rw [h9] at hs
    rcases hs with e | e <;> simp only at e <;> omega) HC.out)
  rw [hashAll_none HC.out] at MG
  have H1 := hide h1
  have H2 := hide h2
  have H3 := hide h3
  clear h h1 h2 h3 hr1 NW
  go_wp2_with fail
  refine MG.out.mono ?_
  rintro e w2 ⟨rfl, K2, C2⟩
  have HK2 := hide K2
  have HB2 : Hid (Below w.heap.size w w2) := H3.out.trans (C2.below H3.out.size (fun k hk e => by
    have := H1.out; have := H2.out
    rcases e with e | e <;> omega))
  clear K2 C2 MG
  go_wp2
  refine bodyPost_ret (results_tmp2 rfl _ _ _) rfl ?_
  obtain ⟨D2, K2⟩ := HK2.out
  exact ⟨g, rfl, KS g b, atK_of K2 (chk_up HC.out).2, fun k hk => by
    have := H1.out; have := H2.out
    rcases hk with e | e <;> omega, HB2.out⟩

theorem kfrom_no (a : Option Addr) (n cap : Nat) (l : List Int) (w : World) (hr : Row .u64 w a n l) (hck : chkK l = false) :
    Calls Try.prog 9 #[.slice a n cap] w fun e w' => e = .returned (.tuple #[.pointer none, .int .i64 5]) ∧ Below w.heap.size w w' := by
  have NW := hide (knew_any w)
  have HR := hide hr
  have HC := hide hck
  clear hr hck
  go_enter Try.func9, Try.ntmps9
  go_wp2_with fail
  refine NW.out.mono ?_
  rintro e w1 ⟨g, b, D, rfl, h, h1, h2, h3⟩
  have MG := hide (kmerge_no g a n cap l w1 (HR.out.below h3 (Nat.le_refl _)) HC.out)
  have H3 := hide h3
  clear h h1 h2 h3 NW
  go_wp2_with fail
  refine MG.out.mono ?_
  rintro e w2 ⟨rfl, q, rfl⟩
  have HB := hide (bel_drewN H3.out q)
  go_wp2
  refine bodyPost_ret (results_tmp2 rfl _ _ _) rfl ?_
  exact ⟨rfl, HB.out⟩

theorem kadd_any (g b : Nat) (D : DataW Unit) (l : List Int) (s : ByteArray) (w : World) (H : KB w g b D l (l.getLastD 0)) (hl : l.length ≤ 1024) (hs : s.size ≤ 9223372036854775807) :
    Calls Try.prog 14 #[.pointer (some ⟨g, 0, none⟩), .string s] w fun e w' => e = .returned (.tuple #[]) ∧ StepK AtK w w' g (KS g b) (hashK 1024 l (fnvOf (numsOf s))) := by
  have OF := hide (fnvOf_any s w hs)
  have HA := hide (khash_any g b D l (fnvOf (numsOf s)) w H hl (fnvOf_word _))
  clear H
  generalize fnvOf (numsOf s) = h at *
  go_enter Try.func14, Try.ntmps14
  go_wp2_with fail
  refine OF.out.mono ?_
  rintro e w1 ⟨rfl, hw1⟩
  subst hw1
  go_wp2_with fail
  refine HA.out.mono ?_
  rintro e w2 ⟨rfl, K2, C2⟩
  have HK2 := hide K2
  have HC2 := hide C2
  clear K2 C2 HA OF
  go_wp2
  go_end0
  exact ⟨rfl, stepK_of HK2.out (hashK_len _ _ _) HC2.out⟩

theorem kmvI : KmvI AtK where
  lt := by
    rintro w g S l ⟨b, D, rfl, h, -⟩ k hk
    rcases hk with e | e
    · rw [e]; exact h.lt.1
    · rw [e]; exact h.lt.2
  good := by
    rintro w g S l ⟨b, D, rfl, h, hl⟩
    exact ⟨h.set.up, hl, h.set.words⟩
  keep := by
    rintro w w' g S T l ⟨b, D, rfl, h, hl⟩ c hn
    exact atK_of (h.ch c (hn g (Or.inl rfl)) (hn b (Or.inr rfl))) hl
  new := knew_made
  fromOk := kfrom_ok
  fromNo := kfrom_no
  hash := by
    rintro g S l h w ⟨b, D, rfl, H, hl⟩ hh
    exact (khash_any g b D l h w H hl hh).mono (fun e w' k => ⟨k.1, stepK_of k.2.1 (hashK_len _ _ _) k.2.2⟩)
  add := by
    rintro g S l s w ⟨b, D, rfl, H, hl⟩ hs
    exact kadd_any g b D l s w H hl hs
  hashes := by
    rintro g S l w ⟨b, D, rfl, H, hl⟩
    exact hashes_any g b D l _ w H
  distinct := by
    rintro g S l w ⟨b, D, rfl, H, hl⟩
    rw [distK_N H.set.up H.set.words hl]
    exact kdist_any g b D l w H
theorem kmvIM : KmvIM AtK where
  mergeOk := by
    rintro g S l a n cap m w ⟨b, D, rfl, H, hl⟩ hr hd hck
    exact (kmerge_ok g b D l a n cap m w H hl hr hd hck).mono (fun e w' k => ⟨k.1, stepK_of k.2.1 (hashAll_len hl) k.2.2⟩)
  mergeNo := by
    rintro g S l a n cap m w _ hr hck
    exact (kmerge_no g a n cap m w hr hck).mono (fun e w' k => ⟨k.1, by obtain ⟨q, rfl⟩ := k.2; exact bel_drewN (Below.refl _ _) q⟩)

theorem kdistl_any (a : Option Addr) (n cap : Nat) (l : List Int) (w : World) (hr : Row .u64 w a n l) :
    Calls Try.prog 25 #[.slice a n cap] w fun e w' => e = .returned (.int .u64 (distK l)) ∧ Below w.heap.size w w' := by
  have CK := hide (kchk_any a n cap l w hr)
  have HR := hide hr
  have HL := hide hr.1
  have hn := hr.2.1
  have HW := hide hr.words
  by_cases h0 : n = 0
  · subst h0
    have hz : l = [] := List.length_eq_zero_iff.1 hr.1
    subst hz
    clear hr
    go_enter Try.func25, Try.ntmps25
    go_wp2
    go_ret
    exact ⟨rfl, Below.refl _ _⟩
  have i1 : ((n : Int) == 0) = false := by rw [beq_eq_false_iff_ne]; omega
  have i1' : (n == 0) = false := by rw [beq_eq_false_iff_ne]; exact h0
  by_cases hck : chkK l = true
  · have hcu := chk_up hck
    have DI := hide (fun W => distinct_any n (l.getLastD 0) W hn (last_word hr.words) (fun h => last_great hcu.1 hr.words (by rw [hr.1]; exact h)))
    have HE : Hid (distK l = distN n (l.getLastD 0)) := by
      show _ = _
      rw [distK_N hcu.1 hr.words hcu.2, hr.1]
    have HG : Hid (l.getD (n - 1) 0 = l.getLastD 0) := by
      show _ = _
      rw [last_get (by rw [hr.1]; omega), hr.1]
    rw [HE.out]
    rw [hck] at CK
    obtain ⟨j, HJ⟩ : ∃ j, Hid (n - 1 = j) := ⟨_, rfl⟩
    have hj := HJ.out
    rw [hj] at HG
    have e1 : (n : Int) - 1 = (j : Int) := by omega
    have i2 : (j : Int) < (n : Int) := by omega
    have i3 : (0 : Int) ≤ (j : Int) := by omega
    obtain ⟨ba, oa, rfl, hcc⟩ := row_at HR.out (j := j) (by omega)
    have f1 := fun q => hcc j (by omega) (w.drewN q) (bel_drewN (Below.refl _ _) q)
    simp only [HG.out] at f1
    generalize l.getLastD 0 = top at *
    generalize distN n top = R at *
    clear hr hck hcu hcc hj h0
    go_enter Try.func25, Try.ntmps25
    go_wp2_with fail
    refine CK.out.mono ?_
    rintro e w1 ⟨rfl, q, rfl⟩
    have g1 := f1 q
    have HB := hide (bel_drewN (Below.refl w.heap.size w) q)
    clear f1
    go_wp2_with fail
    refine (DI.out _).mono ?_
    rintro e w2 ⟨rfl, b2⟩
    have HB2 := hide (HB.out.trans b2)
    clear b2 DI CK
    go_wp2
    go_ret
    exact ⟨rfl, HB2.out⟩
  · have hck' : chkK l = false := by simpa using hck
    have HE : Hid (distK l = 0) := by
      show _ = _
      unfold distK
      rw [hck']
      rfl
    rw [HE.out]
    rw [hck'] at CK
    clear hr hck hck' h0
    go_enter Try.func25, Try.ntmps25
    go_wp2_with fail
    refine CK.out.mono ?_
    rintro e w1 ⟨rfl, q, rfl⟩
    have HB := hide (bel_drewN (Below.refl w.heap.size w) q)
    go_wp2
    go_ret
    exact ⟨rfl, HB.out⟩
theorem kmvIC : KmvIC where
  check := fun a n cap l w hr => (kchk_any a n cap l w hr).mono (fun e w' k => ⟨k.1, by obtain ⟨q, rfl⟩ := k.2; exact bel_drewN (Below.refl _ _) q⟩)
  dist := kdistl_any
theorem divK : DivK 28 := by
  intro d w h1 h2
  refine (refdiv_any 1023 0 d ⟨by decide, by decide⟩ ⟨by decide, by decide⟩ ⟨by omega, by omega⟩ w).mono ?_
  rintro e w' ⟨rfl, rfl⟩
  refine ⟨⟨divR 1023 0 d, ?_⟩, 0, rfl⟩
  have e1 : divQ 1023 0 d = 1023 * 18446744073709551616 / d := by
    unfold divQ
    rw [if_pos h1]
    unfold quoS
    rw [Int.add_zero]
  have e2 : divB 1023 d = true := by unfold divB; exact decide_eq_true h1
  rw [e1, e2]
end Go.Proofs.Ytlhiikibbppodaa
