/-
  The document's file system: Append: a contract, for every world (written by gen/vfsl.gen.py).
  Conditions: the file system lies in memory; the bytes do not lie in it.
-/
import Derived.Test.YthlkmjaflomflaaGreatVfsJ
namespace Go.Proofs.YthlkmjaflomflaaGreat
open Go.RowKit
set_option maxRecDepth 20000
set_option linter.unusedVariables false

theorem rowU8_ch {T : Nat → Prop} {w w' : World} {a : Option Addr} {n : Nat} {zs : List Int} (q : Row .u8 w a n zs) (k : Ch T w w') (hn : ∀ b off, a = some ⟨b, off, none⟩ → n ≠ 0 → ¬ T b) : Row .u8 w' a n zs := by
  obtain ⟨h1, h2, h3, h4⟩ := q
  refine ⟨h1, h2, h3, ?_⟩
  rcases h4 with h4 | ⟨b, off, rfl, hc⟩
  · exact Or.inl h4
  · by_cases hz : n = 0
    · exact Or.inl hz
    · right
      refine ⟨b, off, rfl, fun i hi => ?_⟩
      have g1 := hc i hi
      have e := k.block b (World.block_lt_of_cell? w _ g1) (hn b off rfl hz)
      simp only [World.cell?] at g1 ⊢
      rw [e]
      exact g1

set_option maxHeartbeats 8000000 in
theorem rappend_any (g : Nat) (S : Nat → Prop) (F : Fs) (s : ByteArray) (a : Option Addr) (n c : Nat) (zs : List Int) (m : Nat) (w : World) (hF : RAt w g S F) (hL : Lim m F) (hm : m < 1073741824) (hs : s.size ≤ 9223372036854775807) (hr : Row .u8 w a n zs) (hn : n ≤ 1073741824) (hnc : n ≤ c) (hap : ∀ b off, a = some ⟨b, off, none⟩ → n ≠ 0 → ¬ S b) :
    Calls Tryz.prog 27 #[.pointer (some ⟨g, 0, none⟩), .string s, .slice a n c] w fun e w' => e = .returned (.int .i64 (appendF F s zs).2) ∧ StepV RAt w w' g S (appendF F s zs).1 := by
  have CA := hide (rcall_any g S F m w hF hL (by omega))
  have LC := hide hL.call
  have HG := hide hF.own
  have HR := hide hr
  have HA := hide hap
  have HZ := hide hr.1
  obtain ⟨hd, hdk⟩ : ∃ hd, F.dark = hd := ⟨_, rfl⟩
  have c7 : w.cell? ⟨g, 7, none⟩ = some (.bool hd) := by
    obtain ⟨-, af, cf, as', cs, at', ct, hs', B0⟩ := id hF
    obtain ⟨-, -, -, -, -, -, -, x7⟩ := B0.cells
    rw [hdk] at x7
    exact x7
  have M1 := hide (fun u => rmay_any s u hs)
  have RK : Hid (∀ u, Ch S w u → Row .u8 u a n zs) := fun u hu => rowU8_ch HR.out hu HA.out
  have HC : Hid (∀ (u1 u : World) (X : Fs), Ch S w u1 → StepV RAt u1 u g S X → StepV RAt w u g S X) := fun u1 u X k q => StepV.after k q
  have HP : Hid (∀ (x : Fs × Int) (u : World), appendF F s zs = x → StepV RAt w u g S x.1 → (Ending.returned (.int .i64 x.2) = .returned (.int .i64 (appendF F s zs).2) ∧ StepV RAt w u g S (appendF F s zs).1)) := fun x u e hu => by
    rw [e]
    exact ⟨rfl, hu⟩
  rcases hq : callF F with ⟨G, o⟩
  rw [hq] at CA LC
  dsimp only at CA LC
  have FIx := hide (fun u hu => rfile_any g S G s (m + 1) u hu LC.out (by omega))
  have SZx : Hid (∀ (k : Nat) (u : World), RAt u g S G → k < G.files.length → Calls Tryz.prog 65 #[.pointer (some ⟨g, 0, none⟩), .int .i64 (k : Int)] u fun e w' => e = .returned (.int .i64 ((bytF (atF G k)).length : Int)) ∧ Below u.heap.size u w') := fun k u hu hk => rsize_any g S G k (m + 1) u hu LC.out (by omega) hk
  have BLx : Hid (∀ k, k < G.files.length → (bytF (atF G k)).length ≤ 2147483648) := fun k hk => by
    have h1 := unsB_len (atF G k).us (atF G k).sure
    have h2 := LC.out.each _ (atF_mem hk)
    unfold bytF
    omega
  cases o with
  | some e1 =>
    rw [show callE F = e1 by unfold callE; rw [hq]; rfl, show callB F = true by unfold callB; rw [hq]; rfl] at CA
    cases hf : fileF G s with
    | none =>
      rw [show fileI G s = -1 by unfold fileI; rw [hf]] at FIx
      cases hd with
      | true =>
        have HX := hide (HP.out (G, e1))
        have HE : Hid (appendF F s zs = (G, e1)) := by show _ = _; unfold appendF; rw [hq]; dsimp only; rw [hf]
        have wq : (n : Int).tdiv 2 = ((n / 2 : Nat) : Int) := by rw [Int.tdiv_eq_ediv_of_nonneg (by omega)]; omega
        obtain ⟨h, hh⟩ : ∃ h, n / 2 = h := ⟨_, rfl⟩
        rw [hh] at wq
        have hhn : h ≤ n := by omega
        clear hq hF hL hr hap
        go_enter Tryz.func27, Tryz.ntmps27
        go_wp2_with fail
        with_reducible refine CA.out.mono ?_
        rintro e u1 ⟨rfl, h1, k1⟩
        have FI := hide (FIx.out u1 h1)
        have H1 := hide h1
        have K1 := hide (k1.more (S' := S) (fun j _ e => e ▸ HG.out))
        clear h1 k1 CA FIx c7
        go_wp2_with fail
        with_reducible refine FI.out.mono ?_
        rintro e u2 ⟨rfl, b2⟩
        have h2 := H1.out.below b2
        have K2 := hide (K1.out.trans ((Ch.of_below b2).more (fun _ _ h => h.elim)))
        have H2 := hide (HX.out _ HE.out (HC.out _ _ _ K2.out (stepV_below h2 (Below.refl _ _))))
        clear b2 FI H1 K1 K2 h2 HX HE HP HC SZx BLx RK
        go_wp2
        go_ret
        exact H2.out
      | false =>
        have HX := hide (HP.out (G, e1))
        have HE : Hid (appendF F s zs = (G, e1)) := by show _ = _; unfold appendF; rw [hq]; dsimp only; rw [hf]
        have wq : (n : Int).tdiv 2 = ((n / 2 : Nat) : Int) := by rw [Int.tdiv_eq_ediv_of_nonneg (by omega)]; omega
        obtain ⟨h, hh⟩ : ∃ h, n / 2 = h := ⟨_, rfl⟩
        rw [hh] at wq
        have hhn : h ≤ n := by omega
        clear hq hF hL hr hap
        go_enter Tryz.func27, Tryz.ntmps27
        go_wp2_with fail
        with_reducible refine CA.out.mono ?_
        rintro e u1 ⟨rfl, h1, k1⟩
        have FI := hide (FIx.out u1 h1)
        have H1 := hide h1
        have K1 := hide (k1.more (S' := S) (fun j _ e => e ▸ HG.out))
        clear h1 k1 CA FIx c7
        go_wp2_with fail
        with_reducible refine FI.out.mono ?_
        rintro e u2 ⟨rfl, b2⟩
        have h2 := H1.out.below b2
        have K2 := hide (K1.out.trans ((Ch.of_below b2).more (fun _ _ h => h.elim)))
        have H2 := hide (HX.out _ HE.out (HC.out _ _ _ K2.out (stepV_below h2 (Below.refl _ _))))
        clear b2 FI H1 K1 K2 h2 HX HE HP HC SZx BLx RK
        go_wp2
        go_ret
        exact H2.out
    | some k =>
      rw [show fileI G s = (k : Int) by unfold fileI; rw [hf]] at FIx
      have k0 : (0 : Int) ≤ (k : Int) := by omega
      cases hd with
      | true =>
        have HX := hide (HP.out (G, e1))
        have HE : Hid (appendF F s zs = (G, e1)) := by show _ = _; unfold appendF; rw [hq]; dsimp only; rw [hf]; dsimp only; rw [if_neg (by rw [hdk]; simp)]
        have wq : (n : Int).tdiv 2 = ((n / 2 : Nat) : Int) := by rw [Int.tdiv_eq_ediv_of_nonneg (by omega)]; omega
        obtain ⟨h, hh⟩ : ∃ h, n / 2 = h := ⟨_, rfl⟩
        rw [hh] at wq
        have hhn : h ≤ n := by omega
        clear hq hF hL hr hap
        go_enter Tryz.func27, Tryz.ntmps27
        go_wp2_with fail
        with_reducible refine CA.out.mono ?_
        rintro e u1 ⟨rfl, h1, k1⟩
        have FI := hide (FIx.out u1 h1)
        have H1 := hide h1
        have K1 := hide (k1.more (S' := S) (fun j _ e => e ▸ HG.out))
        clear h1 k1 CA FIx c7
        go_wp2_with fail
        with_reducible refine FI.out.mono ?_
        rintro e u2 ⟨rfl, b2⟩
        have h2 := H1.out.below b2
        have K2 := hide (K1.out.trans ((Ch.of_below b2).more (fun _ _ h => h.elim)))
        have H2 := hide (HX.out _ HE.out (HC.out _ _ _ K2.out (stepV_below h2 (Below.refl _ _))))
        clear b2 FI H1 K1 K2 h2 HX HE HP HC SZx BLx RK
        go_wp2
        go_ret
        exact H2.out
      | false =>
        by_cases hfit : (bytF (atF G k)).length + zs.length / 2 ≤ 1073741824
        · have HX := hide (HP.out (moreF G k (moreU (zs.take (zs.length / 2))), e1))
          have HE : Hid (appendF F s zs = (moreF G k (moreU (zs.take (zs.length / 2))), e1)) := by show _ = _; unfold appendF; rw [hq]; dsimp only; rw [hf]; dsimp only; rw [if_pos ⟨hdk, hfit⟩]
          have wq : (n : Int).tdiv 2 = ((n / 2 : Nat) : Int) := by rw [Int.tdiv_eq_ediv_of_nonneg (by omega)]; omega
          obtain ⟨h, hh⟩ : ∃ h, n / 2 = h := ⟨_, rfl⟩
          rw [hh] at wq
          have hhn : h ≤ n := by omega
          clear hq hF hL hr hap
          go_enter Tryz.func27, Tryz.ntmps27
          go_wp2_with fail
          with_reducible refine CA.out.mono ?_
          rintro e u1 ⟨rfl, h1, k1⟩
          have FI := hide (FIx.out u1 h1)
          have H1 := hide h1
          have K1 := hide (k1.more (S' := S) (fun j _ e => e ▸ HG.out))
          clear h1 k1 CA FIx c7
          go_wp2_with fail
          with_reducible refine FI.out.mono ?_
          rintro e u2 ⟨rfl, b2⟩
          have h2 := H1.out.below b2
          have K2 := hide (K1.out.trans ((Ch.of_below b2).more (fun _ _ h => h.elim)))
          have hkG : k < G.files.length := by
            obtain ⟨GV0, -⟩ := H1.out
            exact GV0.file hf
          have SZ := hide (SZx.out k u2 h2 hkG)
          have hbl := BLx.out k hkG
          have HKG := hide hkG
          have HFT : Hid ((bytF (atF G k)).length + h ≤ 1073741824) := by rw [← hh, ← HZ.out]; exact hfit
          have EH : Hid (zs.length / 2 = h) := by rw [HZ.out]; exact hh
          obtain ⟨bl, hbl2⟩ : ∃ bl, (bytF (atF G k)).length = bl := ⟨_, rfl⟩
          rw [hbl2] at SZ hbl HFT
          have hft := HFT.out
          have hft2 : (bl : Int) + (h : Int) ≤ 1073741824 := by omega
          have sl := fun u => slice_to16 a n c h (by omega) u
          have RR := hide ((RK.out u2 K2.out).to h hhn)
          have AP : Hid (∀ b off, a = some ⟨b, off, none⟩ → h ≠ 0 → ¬ S b) := fun b off e hz => HA.out b off e (by omega)
          have MO := hide (fun u (b : Below u2.heap.size u2 u) => rmore_any g S G k (m + 1) a h c (zs.take h) u (h2.below b) LC.out (by omega) HKG.out (RR.out.below b (Nat.le_refl _)) (by omega) (by omega) AP.out)
          have HX2 := hide (fun u1 u (b : Below u2.heap.size u2 u1) (q : StepV RAt u1 u g S (moreF G k (moreU (zs.take h)))) => HX.out u HE.out (by rw [EH.out]; exact HC.out _ _ _ (K2.out.trans ((Ch.of_below b).more (fun _ _ h => h.elim))) q))
          clear b2 FI H1 K1 K2 h2 HX HE HP HC SZx BLx RK hfit HFT hbl2 hkG HKG EH RR AP
          go_wp2_with fail
          with_reducible refine SZ.out.mono ?_
          rintro e u3 ⟨rfl, b3⟩
          have B3 := hide b3
          clear b3 SZ
          go_wp2_with fail
          with_reducible refine (MO.out _ B3.out).mono ?_
          rintro e u4 ⟨rfl, q4⟩
          have H2 := hide (HX2.out _ _ B3.out q4)
          clear q4 MO HX2 B3
          go_wp2
          go_ret
          exact H2.out
        · have HX := hide (HP.out (G, e1))
          have HE : Hid (appendF F s zs = (G, e1)) := by show _ = _; unfold appendF; rw [hq]; dsimp only; rw [hf]; dsimp only; rw [if_neg (fun q => hfit q.2)]
          have wq : (n : Int).tdiv 2 = ((n / 2 : Nat) : Int) := by rw [Int.tdiv_eq_ediv_of_nonneg (by omega)]; omega
          obtain ⟨h, hh⟩ : ∃ h, n / 2 = h := ⟨_, rfl⟩
          rw [hh] at wq
          have hhn : h ≤ n := by omega
          clear hq hF hL hr hap
          go_enter Tryz.func27, Tryz.ntmps27
          go_wp2_with fail
          with_reducible refine CA.out.mono ?_
          rintro e u1 ⟨rfl, h1, k1⟩
          have FI := hide (FIx.out u1 h1)
          have H1 := hide h1
          have K1 := hide (k1.more (S' := S) (fun j _ e => e ▸ HG.out))
          clear h1 k1 CA FIx c7
          go_wp2_with fail
          with_reducible refine FI.out.mono ?_
          rintro e u2 ⟨rfl, b2⟩
          have h2 := H1.out.below b2
          have K2 := hide (K1.out.trans ((Ch.of_below b2).more (fun _ _ h => h.elim)))
          have hkG : k < G.files.length := by
            obtain ⟨GV0, -⟩ := H1.out
            exact GV0.file hf
          have SZ := hide (SZx.out k u2 h2 hkG)
          have hbl := BLx.out k hkG
          have HKG := hide hkG
          have H2 := hide (HX.out _ HE.out (HC.out _ _ _ K2.out (stepV_below h2 (Below.refl _ _))))
          have HFT : Hid (¬ (bytF (atF G k)).length + h ≤ 1073741824) := by rw [← hh, ← HZ.out]; exact hfit
          obtain ⟨bl, hbl2⟩ : ∃ bl, (bytF (atF G k)).length = bl := ⟨_, rfl⟩
          rw [hbl2] at SZ hbl HFT
          have hft := HFT.out
          have hft2 : ¬ (bl : Int) + (h : Int) ≤ 1073741824 := by omega
          have HX2 := hide (fun u (b : Below u2.heap.size u2 u) => HX.out u HE.out (HC.out _ _ _ K2.out (stepV_below (h2.below b) b)))
          clear b2 FI H1 K1 K2 h2 HX HE HP HC SZx BLx RK H2 hfit HFT hbl2 hkG HKG
          go_wp2_with fail
          with_reducible refine SZ.out.mono ?_
          rintro e u3 ⟨rfl, b3⟩
          have H2 := hide (HX2.out _ b3)
          clear b3 SZ HX2
          go_wp2
          go_ret
          exact H2.out
  | none =>
    rw [show callE F = 0 by unfold callE; rw [hq]; rfl, show callB F = false by unfold callB; rw [hq]; rfl] at CA
    cases hf : fileF G s with
    | none =>
      rw [show fileI G s = -1 by unfold fileI; rw [hf]] at FIx
      cases hm1 : mayN s with
      | false =>
        have HX := hide (HP.out (G, 1))
        have HE : Hid (appendF F s zs = (G, 1)) := by show _ = _; unfold appendF; rw [hq]; dsimp only; rw [if_pos hm1]
        clear hq hF hL hr hap
        go_enter Tryz.func27, Tryz.ntmps27
        go_wp2_with fail
        with_reducible refine CA.out.mono ?_
        rintro e u1 ⟨rfl, h1, k1⟩
        have FI := hide (FIx.out u1 h1)
        have H1 := hide h1
        have K1 := hide (k1.more (S' := S) (fun j _ e => e ▸ HG.out))
        clear h1 k1 CA FIx c7
        go_wp2_with fail
        with_reducible refine FI.out.mono ?_
        rintro e u2 ⟨rfl, b2⟩
        have h2 := H1.out.below b2
        have K2 := hide (K1.out.trans ((Ch.of_below b2).more (fun _ _ h => h.elim)))
        have H2 := hide (HX.out _ HE.out (HC.out _ _ _ K2.out (stepV_below h2 (Below.refl _ _))))
        clear b2 FI H1 K1 K2 h2 HX HE HP HC SZx BLx RK
        go_wp2_with fail
        with_reducible refine (M1.out _).mono ?_
        rintro e u ⟨rfl, hu⟩
        rw [hu, hm1]
        clear hu
        go_wp2
        go_ret
        exact H2.out
      | true =>
        have HX := hide (HP.out (G, 3))
        have HE : Hid (appendF F s zs = (G, 3)) := by show _ = _; unfold appendF; rw [hq]; dsimp only; rw [if_neg (by rw [hm1]; simp), hf]
        clear hq hF hL hr hap
        go_enter Tryz.func27, Tryz.ntmps27
        go_wp2_with fail
        with_reducible refine CA.out.mono ?_
        rintro e u1 ⟨rfl, h1, k1⟩
        have FI := hide (FIx.out u1 h1)
        have H1 := hide h1
        have K1 := hide (k1.more (S' := S) (fun j _ e => e ▸ HG.out))
        clear h1 k1 CA FIx c7
        go_wp2_with fail
        with_reducible refine FI.out.mono ?_
        rintro e u2 ⟨rfl, b2⟩
        have h2 := H1.out.below b2
        have K2 := hide (K1.out.trans ((Ch.of_below b2).more (fun _ _ h => h.elim)))
        have H2 := hide (HX.out _ HE.out (HC.out _ _ _ K2.out (stepV_below h2 (Below.refl _ _))))
        clear b2 FI H1 K1 K2 h2 HX HE HP HC SZx BLx RK
        go_wp2_with fail
        with_reducible refine (M1.out _).mono ?_
        rintro e u ⟨rfl, hu⟩
        rw [hu, hm1]
        clear hu
        go_wp2
        go_ret
        exact H2.out
    | some k =>
      rw [show fileI G s = (k : Int) by unfold fileI; rw [hf]] at FIx
      have k0 : (0 : Int) ≤ (k : Int) := by omega
      cases hm1 : mayN s with
      | false =>
        have HX := hide (HP.out (G, 1))
        have HE : Hid (appendF F s zs = (G, 1)) := by show _ = _; unfold appendF; rw [hq]; dsimp only; rw [if_pos hm1]
        clear hq hF hL hr hap
        go_enter Tryz.func27, Tryz.ntmps27
        go_wp2_with fail
        with_reducible refine CA.out.mono ?_
        rintro e u1 ⟨rfl, h1, k1⟩
        have FI := hide (FIx.out u1 h1)
        have H1 := hide h1
        have K1 := hide (k1.more (S' := S) (fun j _ e => e ▸ HG.out))
        clear h1 k1 CA FIx c7
        go_wp2_with fail
        with_reducible refine FI.out.mono ?_
        rintro e u2 ⟨rfl, b2⟩
        have h2 := H1.out.below b2
        have K2 := hide (K1.out.trans ((Ch.of_below b2).more (fun _ _ h => h.elim)))
        have H2 := hide (HX.out _ HE.out (HC.out _ _ _ K2.out (stepV_below h2 (Below.refl _ _))))
        clear b2 FI H1 K1 K2 h2 HX HE HP HC SZx BLx RK
        go_wp2_with fail
        with_reducible refine (M1.out _).mono ?_
        rintro e u ⟨rfl, hu⟩
        rw [hu, hm1]
        clear hu
        go_wp2
        go_ret
        exact H2.out
      | true =>
        by_cases hfull : 1073741824 < (bytF (atF G k)).length + zs.length
        · have HX := hide (HP.out (G, 2))
          have HE : Hid (appendF F s zs = (G, 2)) := by show _ = _; unfold appendF; rw [hq]; dsimp only; rw [if_neg (by rw [hm1]; simp), hf]; dsimp only; rw [if_pos hfull]
          clear hq hF hL hr hap
          go_enter Tryz.func27, Tryz.ntmps27
          go_wp2_with fail
          with_reducible refine CA.out.mono ?_
          rintro e u1 ⟨rfl, h1, k1⟩
          have FI := hide (FIx.out u1 h1)
          have H1 := hide h1
          have K1 := hide (k1.more (S' := S) (fun j _ e => e ▸ HG.out))
          clear h1 k1 CA FIx c7
          go_wp2_with fail
          with_reducible refine FI.out.mono ?_
          rintro e u2 ⟨rfl, b2⟩
          have h2 := H1.out.below b2
          have K2 := hide (K1.out.trans ((Ch.of_below b2).more (fun _ _ h => h.elim)))
          have hkG : k < G.files.length := by
            obtain ⟨GV0, -⟩ := H1.out
            exact GV0.file hf
          have SZ := hide (SZx.out k u2 h2 hkG)
          have hbl := BLx.out k hkG
          have HKG := hide hkG
          have HFT : Hid (1073741824 < (bytF (atF G k)).length + n) := by rw [← HZ.out]; exact hfull
          obtain ⟨bl, hbl2⟩ : ∃ bl, (bytF (atF G k)).length = bl := ⟨_, rfl⟩
          rw [hbl2] at SZ hbl HFT
          have hft := HFT.out
          have hft2 : (1073741824 : Int) < (bl : Int) + (n : Int) := by omega
          have HX2 := hide (fun u (b : Below u2.heap.size u2 u) => HX.out u HE.out (HC.out _ _ _ K2.out (stepV_below (h2.below b) b)))
          clear b2 FI H1 K1 K2 h2 HX HE HP HC SZx BLx RK hfull HFT hbl2 hkG HKG
          go_wp2_with fail
          with_reducible refine (M1.out _).mono ?_
          rintro e u ⟨rfl, hu⟩
          rw [hu, hm1]
          clear hu
          go_wp2_with fail
          with_reducible refine SZ.out.mono ?_
          rintro e u3 ⟨rfl, b3⟩
          have H2 := hide (HX2.out _ b3)
          clear b3 SZ HX2
          go_wp2
          go_ret
          exact H2.out
        · have HX := hide (HP.out (moreF G k (moreU zs), 0))
          have HE : Hid (appendF F s zs = (moreF G k (moreU zs), 0)) := by show _ = _; unfold appendF; rw [hq]; dsimp only; rw [if_neg (by rw [hm1]; simp), hf]; dsimp only; rw [if_neg hfull]
          clear hq hF hL hr hap
          go_enter Tryz.func27, Tryz.ntmps27
          go_wp2_with fail
          with_reducible refine CA.out.mono ?_
          rintro e u1 ⟨rfl, h1, k1⟩
          have FI := hide (FIx.out u1 h1)
          have H1 := hide h1
          have K1 := hide (k1.more (S' := S) (fun j _ e => e ▸ HG.out))
          clear h1 k1 CA FIx c7
          go_wp2_with fail
          with_reducible refine FI.out.mono ?_
          rintro e u2 ⟨rfl, b2⟩
          have h2 := H1.out.below b2
          have K2 := hide (K1.out.trans ((Ch.of_below b2).more (fun _ _ h => h.elim)))
          have hkG : k < G.files.length := by
            obtain ⟨GV0, -⟩ := H1.out
            exact GV0.file hf
          have SZ := hide (SZx.out k u2 h2 hkG)
          have hbl := BLx.out k hkG
          have HKG := hide hkG
          have HFT : Hid (¬ 1073741824 < (bytF (atF G k)).length + n) := by rw [← HZ.out]; exact hfull
          obtain ⟨bl, hbl2⟩ : ∃ bl, (bytF (atF G k)).length = bl := ⟨_, rfl⟩
          rw [hbl2] at SZ hbl HFT
          have hft := HFT.out
          have hft2 : ¬ (1073741824 : Int) < (bl : Int) + (n : Int) := by omega
          have RR := hide (RK.out u2 K2.out)
          have MO := hide (fun u (b : Below u2.heap.size u2 u) => rmore_any g S G k (m + 1) a n c zs u (h2.below b) LC.out (by omega) HKG.out (RR.out.below b (Nat.le_refl _)) (by omega) (by omega) HA.out)
          have HX2 := hide (fun u1 u (b : Below u2.heap.size u2 u1) (q : StepV RAt u1 u g S (moreF G k (moreU zs))) => HX.out u HE.out (HC.out _ _ _ (K2.out.trans ((Ch.of_below b).more (fun _ _ h => h.elim))) q))
          clear b2 FI H1 K1 K2 h2 HX HE HP HC SZx BLx RK hfull HFT hbl2 hkG HKG RR
          go_wp2_with fail
          with_reducible refine (M1.out _).mono ?_
          rintro e u ⟨rfl, hu⟩
          rw [hu, hm1]
          clear hu
          go_wp2_with fail
          with_reducible refine SZ.out.mono ?_
          rintro e u3 ⟨rfl, b3⟩
          have B3 := hide b3
          clear b3 SZ
          go_wp2_with fail
          with_reducible refine (MO.out _ B3.out).mono ?_
          rintro e u4 ⟨rfl, q4⟩
          have H2 := hide (HX2.out _ _ B3.out q4)
          clear q4 MO HX2 B3
          go_wp2
          go_ret
          exact H2.out
end Go.Proofs.YthlkmjaflomflaaGreat
