/-
  The landed file system: Rename, Remove: contracts, for every world (written by gen/vfsdq.gen.py).
  Conditions: the file system lies in memory; as each theorem says.
-/
import Derived.Test.YthlkmjaflomflaaGreatVfsDj
namespace Go.Proofs.YthlkmjaflomflaaGreat
open Go.RowKit Go.Maps
set_option maxRecDepth 20000
set_option linter.unusedVariables false

set_option maxHeartbeats 8000000 in
theorem lrename_any (g : Nat) (S : Nat → Prop) (F : Fs) (s t : ByteArray) (m : Nat) (w : World) (hF : LAt w g S F) (hL : Lim m F) (hm : m < 1073741824) (hs : s.size ≤ 9223372036854775807) (ht : t.size ≤ 9223372036854775807) :
    Calls Tryz.prog 31 #[.pointer (some ⟨g, 0, none⟩), .string s, .string t] w fun e w' => e = .returned (.int .i64 (renameF F s t).2) ∧ StepV LAt w w' g S (renameF F s t).1 := by
  obtain ⟨hV, hN, fb, fh, bn, bc, at', ct, B⟩ := hF
  have CA := hide (begin_any w g S F fb fh bn bc at' ct m B hV hL (by omega))
  have LC := hide hL.call'
  have GV := hide hV.call
  have GN := hide hN.call
  have HG := hide B.own
  rcases hq : callF F with ⟨G, o⟩
  rw [hq] at CA LC GV GN
  dsimp only at CA LC GV GN
  have LA : Hid (∀ u, LB u g S G fb fh bn bc at' ct → LAt u g S G) := fun u hu => ⟨GV.out, GN.out, fb, fh, bn, bc, at', ct, hu⟩
  have HP : Hid (∀ (x : Fs × Int) (u : World), renameF F s t = x → StepV LAt w u g S x.1 → (Ending.returned (.int .i64 x.2) = .returned (.int .i64 (renameF F s t).2) ∧ StepV LAt w u g S (renameF F s t).1)) := fun x u e hu => by
    rw [e]
    exact ⟨rfl, hu⟩
  clear B hV hN hL
  cases o with
  | some e1 =>
    have ne := callF_err hq
    have HE : Hid (renameF F s t = (G, e1)) := by show _ = _; unfold renameF; rw [hq]
    clear hq
    rw [Option.getD_some] at CA
    go_enter Tryz.func31, Tryz.ntmps31
    go_wp2_with fail
    with_reducible refine CA.out.mono ?_
    rintro e u1 ⟨rfl, h1, k1⟩
    have H1 := hide (HP.out _ _ HE.out (stepL_same (LA.out _ h1) k1 HG.out))
    clear h1 k1 CA HP
    go_wp2
    go_ret
    exact H1.out
  | none =>
    rw [Option.getD_none] at CA
    have IN := hide (fun u => isname_any t u ht)
    cases hmt : mayN t with
    | false =>
      have HE : Hid (renameF F s t = (G, 1)) := by show _ = _; unfold renameF; rw [hq]; dsimp only; rw [if_pos (Or.inr hmt)]
      clear hq
      go_enter Tryz.func31, Tryz.ntmps31
      go_wp2_with fail
      with_reducible refine CA.out.mono ?_
      rintro e u1 ⟨rfl, h1, k1⟩

      have H1 := hide (HP.out _ _ HE.out (stepL_same (LA.out _ h1) k1 HG.out))
      clear h1 k1 CA HP

      go_wp2_with fail
      with_reducible refine (IN.out _).mono ?_
      rintro e u ⟨rfl, hu⟩
      rw [hu, hmt]
      clear hu

      go_wp2
      go_ret
      exact H1.out
    | true =>
      cases hms : mayN s with
      | false =>
        have HE : Hid (renameF F s t = (G, 1)) := by show _ = _; unfold renameF; rw [hq]; dsimp only; rw [if_pos (Or.inl hms)]
        clear hq
        go_enter Tryz.func31, Tryz.ntmps31
        go_wp2_with fail
        with_reducible refine CA.out.mono ?_
        rintro e u1 ⟨rfl, h1, k1⟩
        have FI := hide (lfind_any u1 g S G fb fh bn bc at' ct s h1 hs)
        rw [show findV fb G s = .tuple #[.pointer none, .int .i64 1] by unfold findV; rw [if_pos hms]] at FI
        have H1 := hide (HP.out _ _ HE.out (stepL_same (LA.out _ h1) k1 HG.out))
        clear h1 k1 CA HP
        go_wp2_with fail
        with_reducible refine (IN.out _).mono ?_
        rintro e u ⟨rfl, hu⟩
        rw [hu, hmt]
        clear hu
        go_wp2_with fail
        with_reducible refine FI.out.mono ?_
        rintro e u ⟨rfl, hu⟩
        rw [hu]
        clear hu
        go_wp2
        go_ret
        exact H1.out
      | true =>
        cases hf : fileF G s with
        | none =>
          have HE : Hid (renameF F s t = (G, 3)) := by show _ = _; unfold renameF; rw [hq]; dsimp only; rw [if_neg (by rw [hms, hmt]; simp), hf]
          clear hq
          go_enter Tryz.func31, Tryz.ntmps31
          go_wp2_with fail
          with_reducible refine CA.out.mono ?_
          rintro e u1 ⟨rfl, h1, k1⟩
          have FI := hide (lfind_any u1 g S G fb fh bn bc at' ct s h1 hs)
          rw [show findV fb G s = .tuple #[.pointer none, .int .i64 3] by unfold findV; rw [if_neg (by rw [hms]; simp), hf]] at FI
          have H1 := hide (HP.out _ _ HE.out (stepL_same (LA.out _ h1) k1 HG.out))
          clear h1 k1 CA HP
          go_wp2_with fail
          with_reducible refine (IN.out _).mono ?_
          rintro e u ⟨rfl, hu⟩
          rw [hu, hmt]
          clear hu
          go_wp2_with fail
          with_reducible refine FI.out.mono ?_
          rintro e u ⟨rfl, hu⟩
          rw [hu]
          clear hu
          go_wp2
          go_ret
          exact H1.out
        | some kf =>
          have HE : Hid (renameF F s t = ({ G with turns := G.turns ++ [⟨1, s, t, 0⟩] }, 0)) := by show _ = _; unfold renameF; rw [hq]; dsimp only; rw [if_neg (by rw [hms, hmt]; simp), hf]
          have OKT : Hid (OkT1 (dirF G) ⟨1, s, t, 0⟩) := ⟨⟨mayN_64 hms, mayN_64 hmt⟩, fun h => by simp at h, fun h => ⟨hmt, by show (fileD (dirF G) s).isSome = true; have := hf; unfold fileF at this; rw [this]; rfl⟩⟩
          have GT : Hid (GoodV { G with turns := G.turns ++ [⟨1, s, t, 0⟩] }) := GV.out.turn ⟨by simp, fun h => by simp at h⟩
          have GM : Hid (GoodN { G with turns := G.turns ++ [⟨1, s, t, 0⟩] }) := GN.out.push OKT.out _
          clear hq
          go_enter Tryz.func31, Tryz.ntmps31
          go_wp2_with fail
          with_reducible refine CA.out.mono ?_
          rintro e u1 ⟨rfl, h1, k1⟩
          have FI := hide (lfind_any u1 g S G fb fh bn bc at' ct s h1 hs)
          rw [show findV fb G s = .tuple #[ptrV fb kf, .int .i64 0] by unfold findV; rw [if_neg (by rw [hms]; simp), hf]] at FI
          unfold ptrV at FI
          generalize fb.getD kf 0 = pk at FI
          have CH := hide (lchange_any u1 g S G fb fh bn bc at' ct (m + 1) ⟨1, s, t, 0⟩ h1 GN.out LC.out (by omega) OKT.out (by simp))
          rw [show (tuV fb ⟨1, s, t, 0⟩).toArray = #[.int .i64 1, .string s, .string t, .pointer none] from rfl] at CH
          have K1 := hide (k1.more (fun j _ (e : j = g) => (e ▸ HG.out : S j)))
          clear h1 k1 CA
          go_wp2_with fail
          with_reducible refine (IN.out _).mono ?_
          rintro e u ⟨rfl, hu⟩
          rw [hu, hmt]
          clear hu
          go_wp2_with fail
          with_reducible refine FI.out.mono ?_
          rintro e u ⟨rfl, hu⟩
          rw [hu]
          clear hu
          go_wp2_with fail
          with_reducible refine CH.out.mono ?_
          rintro e u2 ⟨rfl, S', a', c', q1, q2, q3⟩
          have H1 := hide (HP.out _ u2 HE.out (stepL_after K1.out ⟨S', ⟨GT.out, GM.out, _, _, _, _, _, _, q1⟩, q2, q3⟩))
          clear q1 q2 q3 CH HP HE K1
          go_wp2
          go_ret
          exact H1.out

set_option maxHeartbeats 8000000 in
theorem lremove_any (g : Nat) (S : Nat → Prop) (F : Fs) (s : ByteArray) (m : Nat) (w : World) (hF : LAt w g S F) (hL : Lim m F) (hm : m < 1073741824) (hs : s.size ≤ 9223372036854775807) :
    Calls Tryz.prog 20 #[.pointer (some ⟨g, 0, none⟩), .string s] w fun e w' => e = .returned (.int .i64 (removeF F s).2) ∧ StepV LAt w w' g S (removeF F s).1 := by
  obtain ⟨hV, hN, fb, fh, bn, bc, at', ct, B⟩ := hF
  have CA := hide (begin_any w g S F fb fh bn bc at' ct m B hV hL (by omega))
  have LC := hide hL.call'
  have GV := hide hV.call
  have GN := hide hN.call
  have HG := hide B.own
  rcases hq : callF F with ⟨G, o⟩
  rw [hq] at CA LC GV GN
  dsimp only at CA LC GV GN
  have LA : Hid (∀ u, LB u g S G fb fh bn bc at' ct → LAt u g S G) := fun u hu => ⟨GV.out, GN.out, fb, fh, bn, bc, at', ct, hu⟩
  have HP : Hid (∀ (x : Fs × Int) (u : World), removeF F s = x → StepV LAt w u g S x.1 → (Ending.returned (.int .i64 x.2) = .returned (.int .i64 (removeF F s).2) ∧ StepV LAt w u g S (removeF F s).1)) := fun x u e hu => by
    rw [e]
    exact ⟨rfl, hu⟩
  clear B hV hN hL
  cases o with
  | some e1 =>
    have ne := callF_err hq
    have HE : Hid (removeF F s = (G, e1)) := by show _ = _; unfold removeF; rw [hq]
    clear hq
    rw [Option.getD_some] at CA
    go_enter Tryz.func20, Tryz.ntmps20
    go_wp2_with fail
    with_reducible refine CA.out.mono ?_
    rintro e u1 ⟨rfl, h1, k1⟩
    have H1 := hide (HP.out _ _ HE.out (stepL_same (LA.out _ h1) k1 HG.out))
    clear h1 k1 CA HP
    go_wp2
    go_ret
    exact H1.out
  | none =>
    rw [Option.getD_none] at CA
    cases hms : mayN s with
    | false =>
      have HE : Hid (removeF F s = (G, 1)) := by show _ = _; unfold removeF; rw [hq]; dsimp only; rw [if_pos hms]
      clear hq
      go_enter Tryz.func20, Tryz.ntmps20
      go_wp2_with fail
      with_reducible refine CA.out.mono ?_
      rintro e u1 ⟨rfl, h1, k1⟩
      have FI := hide (lfind_any u1 g S G fb fh bn bc at' ct s h1 hs)
      rw [show findV fb G s = .tuple #[.pointer none, .int .i64 1] by unfold findV; rw [if_pos hms]] at FI
      have H1 := hide (HP.out _ _ HE.out (stepL_same (LA.out _ h1) k1 HG.out))
      clear h1 k1 CA HP
      go_wp2_with fail
      with_reducible refine FI.out.mono ?_
      rintro e u ⟨rfl, hu⟩
      rw [hu]
      clear hu
      go_wp2
      go_ret
      exact H1.out
    | true =>
      cases hf : fileF G s with
      | none =>
        have HE : Hid (removeF F s = (G, 3)) := by show _ = _; unfold removeF; rw [hq]; dsimp only; rw [if_neg (by rw [hms]; simp), hf]
        clear hq
        go_enter Tryz.func20, Tryz.ntmps20
        go_wp2_with fail
        with_reducible refine CA.out.mono ?_
        rintro e u1 ⟨rfl, h1, k1⟩
        have FI := hide (lfind_any u1 g S G fb fh bn bc at' ct s h1 hs)
        rw [show findV fb G s = .tuple #[.pointer none, .int .i64 3] by unfold findV; rw [if_neg (by rw [hms]; simp), hf]] at FI
        have H1 := hide (HP.out _ _ HE.out (stepL_same (LA.out _ h1) k1 HG.out))
        clear h1 k1 CA HP
        go_wp2_with fail
        with_reducible refine FI.out.mono ?_
        rintro e u ⟨rfl, hu⟩
        rw [hu]
        clear hu
        go_wp2
        go_ret
        exact H1.out
      | some kf =>
        have HE : Hid (removeF F s = ({ G with turns := G.turns ++ [⟨2, s, ByteArray.empty, 0⟩] }, 0)) := by show _ = _; unfold removeF; rw [hq]; dsimp only; rw [if_neg (by rw [hms]; simp), hf]
        have OKT : Hid (OkT1 (dirF G) ⟨2, s, ByteArray.empty, 0⟩) := ⟨⟨mayN_64 hms, Nat.zero_le _⟩, fun h => by simp at h, fun h => by simp at h⟩
        have GT : Hid (GoodV { G with turns := G.turns ++ [⟨2, s, ByteArray.empty, 0⟩] }) := GV.out.turn ⟨by simp, fun h => by simp at h⟩
        have GM : Hid (GoodN { G with turns := G.turns ++ [⟨2, s, ByteArray.empty, 0⟩] }) := GN.out.push OKT.out _
        clear hq
        go_enter Tryz.func20, Tryz.ntmps20
        go_wp2_with fail
        with_reducible refine CA.out.mono ?_
        rintro e u1 ⟨rfl, h1, k1⟩
        have FI := hide (lfind_any u1 g S G fb fh bn bc at' ct s h1 hs)
        rw [show findV fb G s = .tuple #[ptrV fb kf, .int .i64 0] by unfold findV; rw [if_neg (by rw [hms]; simp), hf]] at FI
        unfold ptrV at FI
        generalize fb.getD kf 0 = pk at FI
        have CH := hide (lchange_any u1 g S G fb fh bn bc at' ct (m + 1) ⟨2, s, ByteArray.empty, 0⟩ h1 GN.out LC.out (by omega) OKT.out (by simp))
        rw [show (tuV fb ⟨2, s, ByteArray.empty, 0⟩).toArray = #[.int .i64 2, .string s, .string (ByteArray.mk #[]), .pointer none] from rfl] at CH
        have K1 := hide (k1.more (fun j _ (e : j = g) => (e ▸ HG.out : S j)))
        clear h1 k1 CA
        go_wp2_with fail
        with_reducible refine FI.out.mono ?_
        rintro e u ⟨rfl, hu⟩
        rw [hu]
        clear hu
        go_wp2_with fail
        with_reducible refine CH.out.mono ?_
        rintro e u2 ⟨rfl, S', a', c', q1, q2, q3⟩
        have H1 := hide (HP.out _ u2 HE.out (stepL_after K1.out ⟨S', ⟨GT.out, GM.out, _, _, _, _, _, _, q1⟩, q2, q3⟩))
        clear q1 q2 q3 CH HP HE K1
        go_wp2
        go_ret
        exact H1.out
end Go.Proofs.YthlkmjaflomflaaGreat
