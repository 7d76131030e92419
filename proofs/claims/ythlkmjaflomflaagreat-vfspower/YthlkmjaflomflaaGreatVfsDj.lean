/-
  The landed file system: put, Append, Cut, Sync, Read: contracts, for every world (written by gen/vfsdj.gen.py).
  Conditions: the file system lies in memory; as each theorem says.
-/
import Derived.Test.YthlkmjaflomflaaGreatVfsDi
namespace Go.Proofs.YthlkmjaflomflaaGreat
open Go.RowKit Go.Maps
set_option maxRecDepth 20000
set_option linter.unusedVariables false

theorem stepL_below {w w' : World} {g : Nat} {S : Nat → Prop} {F : Fs} (h : LAt w' g S F) (b : Below w.heap.size w w') : StepV LAt w w' g S F := ⟨S, h, fun _ hk => Or.inl hk, (Ch.of_below b).more (fun _ _ h => h.elim)⟩
/-- First the struct alone, then a step. -/
theorem stepL_after {w w0 w' : World} {g : Nat} {S : Nat → Prop} {F : Fs} (h : Ch S w w0) (k : StepV LAt w0 w' g S F) : StepV LAt w w' g S F := by
  obtain ⟨S', q1, q2, q3⟩ := k
  refine ⟨S', q1, fun j hj => ?_, h.trans q3⟩
  rcases q2 j hj with e | e
  · exact Or.inl e
  · exact Or.inr (Nat.le_trans h.size e)
/-- A file's step is the file system's. -/
theorem stepV_file {w w' : World} {g : Nat} {S : Nat → Prop} {G : Fs} {fb : List Nat} {fh : List Fh} {bn bc : Nat} {at' : Option Addr} {ct : Nat} (B : LB w g S G fb fh bn bc at' ct) (GN : GoodN G) {k : Nat} {h : Fh} (hk : fh[k]? = some h) {x : Fi} (GV : GoodV { G with files := G.files.set k x }) (st : StepL w w' h k x) : StepV LAt w w' g S { G with files := G.files.set k x } := by
  obtain ⟨h', eb, m', q, c⟩ := st
  refine ⟨_, ⟨GV, GN.like rfl rfl, fb, fh.set k h', bn, bc, at', ct, B.step hk eb m' q c⟩, fun j hj => ?_, c.more (fun j _ e => B.filesS k h j hk e)⟩
  rcases hj with e | e
  · exact Or.inl e
  · exact Or.inr e.1
theorem bytF_more (x : Fi) (zs : List Int) : bytF ⟨x.sure, x.us ++ moreU zs⟩ = bytF x ++ zs := by unfold bytF; rw [unsB_app, unsB_more]
theorem bytF_cut (x : Fi) (n : Nat) : bytF ⟨x.sure, x.us ++ [⟨0, true, (n : Int)⟩]⟩ = (bytF x).take n := by
  unfold bytF
  dsimp only
  have e : ∀ b : List Int, unsB b [⟨0, true, (n : Int)⟩] = b.take n := fun b => by unfold unsB unB; simp
  rw [unsB_app, e]
theorem bytF_byte {G : Fs} (h : GoodV G) {k : Nat} (hk : k < G.files.length) : ∀ z ∈ bytF (atF G k), 0 ≤ z ∧ z ≤ 255 := unsB_byte (h.byte _ (atF_mem hk)).1 (h.byte _ (atF_mem hk)).2
theorem bytF_len {G : Fs} {m : Nat} (h : Lim m G) {k : Nat} (hk : k < G.files.length) : (bytF (atF G k)).length ≤ 2 * m ∧ (atF G k).us.length ≤ m := by
  have h1 := unsB_len (atF G k).us (atF G k).sure
  have h2 := h.each _ (atF_mem hk)
  unfold bytF
  omega
theorem lfC_no8 (F : Fs) (bn bc : Nat) (at' : Option Addr) (ct i : Nat) (z : Int) : ¬ (lfC F bn bc at' ct)[i]? = some (.int .u8 z) := by
  intro h
  match i, h with
  | 0, h => simp [lfC] at h
  | 1, h => simp [lfC] at h
  | 2, h => simp [lfC] at h
  | 3, h => simp [lfC] at h
  | 4, h => simp [lfC] at h
  | 5, h => simp [lfC] at h
  | 6, h => simp [lfC] at h
  | 7, h => simp [lfC] at h
  | 8, h => simp [lfC] at h
  | i + 9, h => simp [lfC] at h
/-- An Append that does not fail. -/
def addF (G : Fs) (s : ByteArray) (b : List Int) : Fs × Int := if mayN s = false then (G, 1) else match fileF G s with
  | none => (G, 3)
  | some k => if 1073741824 < (bytF (atF G k)).length + b.length then (G, 2) else (moreF G k (moreU b), 0)
theorem fileF_may {G : Fs} (h : GoodN G) {s : ByteArray} {k : Nat} (hk : fileF G s = some k) : mayN s = true := h.dir.may _ (fileD_mem hk)

set_option maxHeartbeats 8000000 in
theorem lput_any (g : Nat) (S : Nat → Prop) (G : Fs) (s : ByteArray) (a : Option Addr) (n c : Nat) (zs : List Int) (m : Nat) (w : World) (hF : LAt w g S G) (hL : Lim m G) (hm : m ≤ 1073741825) (hs : s.size ≤ 9223372036854775807) (hr : Row .u8 w a n zs) (hn : n ≤ 4294967296) :
    Calls Tryz.prog 54 #[.pointer (some ⟨g, 0, none⟩), .string s, .slice a n c] w fun e w' => e = .returned (.int .i64 (addF G s zs).2) ∧ StepV LAt w w' g S (addF G s zs).1 := by
  have HF := hide hF
  obtain ⟨hV, hN, fb, fh, bn, bc, at', ct, B⟩ := hF
  have FI := hide (lfind_any w g S G fb fh bn bc at' ct s B hs)
  have HP : Hid (∀ (x : Fs × Int) (u : World), addF G s zs = x → StepV LAt w u g S x.1 → (Ending.returned (.int .i64 x.2) = .returned (.int .i64 (addF G s zs).2) ∧ StepV LAt w u g S (addF G s zs).1)) := fun x u e hu => by
    rw [e]
    exact ⟨rfl, hu⟩
  cases hm1 : mayN s with
  | false =>
    have HE : Hid (addF G s zs = (G, 1)) := by show _ = _; unfold addF; rw [if_pos hm1]
    have H1 := hide (HP.out _ w HE.out (stepL_below HF.out (Below.refl _ _)))
    rw [show findV fb G s = .tuple #[.pointer none, .int .i64 1] by unfold findV; rw [if_pos hm1]] at FI
    clear B hV hN hL hr HF HP HE
    go_enter Tryz.func54, Tryz.ntmps54
    go_wp2_with fail
    with_reducible refine FI.out.mono ?_
    rintro e u ⟨rfl, hu⟩
    rw [hu]
    clear hu
    go_wp2
    go_ret
    exact H1.out
  | true =>
    have hm2 : ¬ mayN s = false := by rw [hm1]; simp
    cases hf : fileF G s with
    | none =>
      have HE : Hid (addF G s zs = (G, 3)) := by show _ = _; unfold addF; rw [if_neg hm2, hf]
      have H1 := hide (HP.out _ w HE.out (stepL_below HF.out (Below.refl _ _)))
      rw [show findV fb G s = .tuple #[.pointer none, .int .i64 3] by unfold findV; rw [if_neg hm2, hf]] at FI
      clear B hV hN hL hr HF HP HE
      go_enter Tryz.func54, Tryz.ntmps54
      go_wp2_with fail
      with_reducible refine FI.out.mono ?_
      rintro e u ⟨rfl, hu⟩
      rw [hu]
      clear hu
      go_wp2
      go_ret
      exact H1.out
    | some k =>
      have hk := hV.file hf
      obtain ⟨h, hh, mh, eb⟩ := B.fileAt hk
      rw [show findV fb G s = .tuple #[.pointer (some ⟨h.b, 0, none⟩), .int .i64 0] by unfold findV; rw [if_neg hm2, hf]; unfold ptrV; dsimp only; rw [eb]] at FI
      have hdl := OwnG.len byV_len (by decide) mh.data
      obtain ⟨hbl, hul⟩ := bytF_len hL hk
      have GR := hide (grow_any w h k _ _ _ mh a n c zs hr (by omega) hn (by omega))
      have hz := hr.1
      have c1 := mh.c1
      obtain ⟨da, dn, dc, hd⟩ : ∃ da dn dc, h.d = (da, dn, dc) := ⟨_, _, _, rfl⟩
      rw [hd] at c1 hdl
      dsimp only at c1 hdl
      by_cases hfull : 1073741824 < (bytF (atF G k)).length + zs.length
      · have HE : Hid (addF G s zs = (G, 2)) := by show _ = _; unfold addF; rw [if_neg hm2, hf]; dsimp only; rw [if_pos hfull]
        have H1 := hide (HP.out _ w HE.out (stepL_below HF.out (Below.refl _ _)))
        rw [hdl, hz] at hfull
        have w1 : IntKind.i64.wrap (1073741824 - (dn : Int)) = 1073741824 - (dn : Int) := by rw [IntKind.wrap_i64]; omega
        have d1 : decide ((1073741824 : Int) - (dn : Int) < (n : Int)) = true := decide_eq_true (by omega)
        have d2 : (1073741824 : Int) - (dn : Int) < (n : Int) := by omega
        obtain ⟨hb, hhb⟩ : ∃ hb, h.b = hb := ⟨_, rfl⟩
        rw [hhb] at c1 FI
        clear B hV hN hL hr HF HP HE mh GR hd hh
        go_enter Tryz.func54, Tryz.ntmps54
        go_wp2_with fail
        with_reducible refine FI.out.mono ?_
        rintro e u ⟨rfl, hu⟩
        rw [hu]
        clear hu
        go_wp2
        go_ret
        exact H1.out
      · have HE : Hid (addF G s zs = (moreF G k (moreU zs), 0)) := by show _ = _; unfold addF; rw [if_neg hm2, hf]; dsimp only; rw [if_neg hfull]
        have GVX := hV.mores hk (us := moreU zs) (fun u hu => by
          unfold moreU at hu
          obtain ⟨z, hz1, rfl⟩ := List.mem_map.1 hu
          exact hr.bytes z hz1) (okUs_more _ _)
        have FIN : Hid (∀ u, StepP w u h k (bytF (atF G k) ++ zs) (atF G k).sure ((atF G k).us ++ moreU zs) → (Ending.returned (.int .i64 0) = .returned (.int .i64 (addF G s zs).2) ∧ StepV LAt w u g S (addF G s zs).1)) := fun u hu => by
          refine HP.out _ u HE.out (stepV_file B hN hh GVX ?_)
          show StepP _ _ _ _ (bytF ⟨(atF G k).sure, (atF G k).us ++ moreU zs⟩) _ _
          rw [bytF_more]
          exact hu
        rw [hdl, hz] at hfull
        have w1 : IntKind.i64.wrap (1073741824 - (dn : Int)) = 1073741824 - (dn : Int) := by rw [IntKind.wrap_i64]; omega
        have d1 : decide ((1073741824 : Int) - (dn : Int) < (n : Int)) = false := decide_eq_false (by omega)
        have d2 : ¬ (1073741824 : Int) - (dn : Int) < (n : Int) := by omega
        obtain ⟨hb, hhb⟩ : ∃ hb, h.b = hb := ⟨_, rfl⟩
        rw [hhb] at c1 FI GR
        clear B hV hN hL hr HF HP HE mh hd hh GVX
        go_enter Tryz.func54, Tryz.ntmps54
        go_wp2_with fail
        with_reducible refine FI.out.mono ?_
        rintro e u ⟨rfl, hu⟩
        rw [hu]
        clear hu
        go_wp2_with fail
        with_reducible refine GR.out.mono ?_
        rintro e u2 ⟨rfl, st⟩
        have H1 := hide (FIN.out u2 st)
        clear st FIN GR
        go_wp2
        go_ret
        exact H1.out


set_option maxHeartbeats 8000000 in
theorem lsync_any (g : Nat) (S : Nat → Prop) (F : Fs) (s : ByteArray) (m : Nat) (w : World) (hF : LAt w g S F) (hL : Lim m F) (hm : m < 1073741824) (hs : s.size ≤ 9223372036854775807) :
    Calls Tryz.prog 21 #[.pointer (some ⟨g, 0, none⟩), .string s] w fun e w' => e = .returned (.int .i64 (syncF F s).2) ∧ StepV LAt w w' g S (syncF F s).1 := by
  obtain ⟨hV, hN, fb, fh, bn, bc, at', ct, B⟩ := hF
  have CA := hide (begin_any w g S F fb fh bn bc at' ct m B hV hL (by omega))
  have LC := hide hL.call'
  have GV := hide hV.call
  have GN := hide hN.call
  have HG := hide B.own
  rcases hq : callF F with ⟨G, o⟩
  rw [hq] at CA LC GV GN
  dsimp only at CA LC GV GN
  have LA : Hid (∀ u, LB u g S G fb fh bn bc at' ct → LAt u g S G) := fun u hu => ⟨GV.out, GN.out, fb, fh, bn, bc, at', ct, hu⟩
  have HP : Hid (∀ (x : Fs × Int) (u : World), syncF F s = x → StepV LAt w u g S x.1 → (Ending.returned (.int .i64 x.2) = .returned (.int .i64 (syncF F s).2) ∧ StepV LAt w u g S (syncF F s).1)) := fun x u e hu => by
    rw [e]
    exact ⟨rfl, hu⟩
  clear B hV hN hL
  cases o with
  | some e1 =>
    have ne := callF_err hq
    have HE : Hid (syncF F s = (G, e1)) := by show _ = _; unfold syncF; rw [hq]
    clear hq
    rw [Option.getD_some] at CA
    go_enter Tryz.func21, Tryz.ntmps21
    go_wp2_with fail
    with_reducible refine CA.out.mono ?_
    rintro e u1 ⟨rfl, h1, k1⟩
    have H1 := hide (HP.out _ _ HE.out (stepL_same (LA.out _ h1) k1 HG.out))
    clear h1 k1 CA HP
    go_wp2
    go_ret
    exact H1.out
  | none =>
    rw [Option.getD_none] at CA
    cases hm1 : mayN s with
    | false =>
      have HE : Hid (syncF F s = (G, 1)) := by show _ = _; unfold syncF; rw [hq]; dsimp only; rw [if_pos hm1]
      have hfv : findV fb G s = .tuple #[.pointer none, .int .i64 1] := by unfold findV; rw [if_pos hm1]
      clear hq
      go_enter Tryz.func21, Tryz.ntmps21
      go_wp2_with fail
      with_reducible refine CA.out.mono ?_
      rintro e u1 ⟨rfl, h1, k1⟩
      have H1 := hide (HP.out _ _ HE.out (stepL_same (LA.out _ h1) k1 HG.out))
      have FI := hide (lfind_any u1 g S G fb fh bn bc at' ct s h1 hs)
      rw [hfv] at FI
      clear h1 k1 CA HP HE
      go_wp2_with fail
      with_reducible refine FI.out.mono ?_
      rintro e u ⟨rfl, hu⟩
      rw [hu]
      clear hu
      go_wp2
      go_ret
      exact H1.out
    | true =>
      have hm2 : ¬ mayN s = false := by rw [hm1]; simp
      cases hf : fileF G s with
      | none =>
        have HE : Hid (syncF F s = (G, 3)) := by show _ = _; unfold syncF; rw [hq]; dsimp only; rw [if_neg hm2, hf]
        have hfv : findV fb G s = .tuple #[.pointer none, .int .i64 3] := by unfold findV; rw [if_neg hm2, hf]
        clear hq
        go_enter Tryz.func21, Tryz.ntmps21
        go_wp2_with fail
        with_reducible refine CA.out.mono ?_
        rintro e u1 ⟨rfl, h1, k1⟩
        have H1 := hide (HP.out _ _ HE.out (stepL_same (LA.out _ h1) k1 HG.out))
        have FI := hide (lfind_any u1 g S G fb fh bn bc at' ct s h1 hs)
        rw [hfv] at FI
        clear h1 k1 CA HP HE
        go_wp2_with fail
        with_reducible refine FI.out.mono ?_
        rintro e u ⟨rfl, hu⟩
        rw [hu]
        clear hu
        go_wp2
        go_ret
        exact H1.out
      | some k =>
        have hk := GV.out.file hf
        have HE : Hid (syncF F s = ({ G with files := G.files.set k ⟨bytF (atF G k), []⟩ }, 0)) := by show _ = _; unfold syncF; rw [hq]; dsimp only; rw [if_neg hm2, hf]
        clear hq
        go_enter Tryz.func21, Tryz.ntmps21
        go_wp2_with fail
        with_reducible refine CA.out.mono ?_
        rintro e u1 ⟨rfl, h1, k1⟩
        have FI := hide (lfind_any u1 g S G fb fh bn bc at' ct s h1 hs)
        obtain ⟨h, hh, mh, eb⟩ := h1.fileAt hk
        rw [show findV fb G s = .tuple #[.pointer (some ⟨h.b, 0, none⟩), .int .i64 0] by unfold findV; rw [if_neg hm2, hf]; unfold ptrV; dsimp only; rw [eb]] at FI
        have FS' := hide (fsync_any u1 h k _ _ _ mh)
        have FIN : Hid (∀ u, StepP u1 u h k (bytF (atF G k)) (bytF (atF G k)) [] → (Ending.returned (.int .i64 0) = .returned (.int .i64 (syncF F s).2) ∧ StepV LAt w u g S (syncF F s).1)) := fun u hu => by
          refine HP.out _ u HE.out (stepL_after (k1.more (fun j _ e => e ▸ HG.out)) (stepV_file h1 GN.out hh (GV.out.synced hk (bytF_byte GV.out hk)) hu))
        obtain ⟨hb, hhb⟩ : ∃ hb, h.b = hb := ⟨_, rfl⟩
        rw [hhb] at FI FS'
        clear h1 k1 CA HP HE mh hh
        go_wp2_with fail
        with_reducible refine FI.out.mono ?_
        rintro e u ⟨rfl, hu⟩
        rw [hu]
        clear hu
        go_wp2_with fail
        with_reducible refine FS'.out.mono ?_
        rintro e u2 ⟨rfl, st⟩
        have H1 := hide (FIN.out u2 st)
        clear st FIN FS'
        go_wp2
        go_ret
        exact H1.out

set_option maxHeartbeats 8000000 in
theorem lcut_any (g : Nat) (S : Nat → Prop) (F : Fs) (s : ByteArray) (z : Int) (m : Nat) (w : World) (hF : LAt w g S F) (hL : Lim m F) (hm : m < 1073741824) (hs : s.size ≤ 9223372036854775807) (hz : (Lit.int .i64 z).wf = true) :
    Calls Tryz.prog 28 #[.pointer (some ⟨g, 0, none⟩), .string s, .int .i64 z] w fun e w' => e = .returned (.int .i64 (cutF F s z).2) ∧ StepV LAt w w' g S (cutF F s z).1 := by
  obtain ⟨hV, hN, fb, fh, bn, bc, at', ct, B⟩ := hF
  have CA := hide (begin_any w g S F fb fh bn bc at' ct m B hV hL (by omega))
  have LC := hide hL.call'
  have GV := hide hV.call
  have GN := hide hN.call
  have HG := hide B.own
  rcases hq : callF F with ⟨G, o⟩
  rw [hq] at CA LC GV GN
  dsimp only at CA LC GV GN
  have LA : Hid (∀ u, LB u g S G fb fh bn bc at' ct → LAt u g S G) := fun u hu => ⟨GV.out, GN.out, fb, fh, bn, bc, at', ct, hu⟩
  have HP : Hid (∀ (x : Fs × Int) (u : World), cutF F s z = x → StepV LAt w u g S x.1 → (Ending.returned (.int .i64 x.2) = .returned (.int .i64 (cutF F s z).2) ∧ StepV LAt w u g S (cutF F s z).1)) := fun x u e hu => by
    rw [e]
    exact ⟨rfl, hu⟩
  clear B hV hN hL
  cases o with
  | some e1 =>
    have ne := callF_err hq
    have HE : Hid (cutF F s z = (G, e1)) := by show _ = _; unfold cutF; rw [hq]
    clear hq
    rw [Option.getD_some] at CA
    go_enter Tryz.func28, Tryz.ntmps28
    go_wp2_with fail
    with_reducible refine CA.out.mono ?_
    rintro e u1 ⟨rfl, h1, k1⟩
    have H1 := hide (HP.out _ _ HE.out (stepL_same (LA.out _ h1) k1 HG.out))
    clear h1 k1 CA HP
    go_wp2
    go_ret
    exact H1.out
  | none =>
    rw [Option.getD_none] at CA
    cases hm1 : mayN s with
    | false =>
      have HE : Hid (cutF F s z = (G, 1)) := by show _ = _; unfold cutF; rw [hq]; dsimp only; rw [if_pos hm1]
      have hfv : findV fb G s = .tuple #[.pointer none, .int .i64 1] := by unfold findV; rw [if_pos hm1]
      clear hq
      go_enter Tryz.func28, Tryz.ntmps28
      go_wp2_with fail
      with_reducible refine CA.out.mono ?_
      rintro e u1 ⟨rfl, h1, k1⟩
      have H1 := hide (HP.out _ _ HE.out (stepL_same (LA.out _ h1) k1 HG.out))
      have FI := hide (lfind_any u1 g S G fb fh bn bc at' ct s h1 hs)
      rw [hfv] at FI
      clear h1 k1 CA HP HE
      go_wp2_with fail
      with_reducible refine FI.out.mono ?_
      rintro e u ⟨rfl, hu⟩
      rw [hu]
      clear hu
      go_wp2
      go_ret
      exact H1.out
    | true =>
      have hm2 : ¬ mayN s = false := by rw [hm1]; simp
      cases hf : fileF G s with
      | none =>
        have HE : Hid (cutF F s z = (G, 3)) := by show _ = _; unfold cutF; rw [hq]; dsimp only; rw [if_neg hm2, hf]
        have hfv : findV fb G s = .tuple #[.pointer none, .int .i64 3] := by unfold findV; rw [if_neg hm2, hf]
        clear hq
        go_enter Tryz.func28, Tryz.ntmps28
        go_wp2_with fail
        with_reducible refine CA.out.mono ?_
        rintro e u1 ⟨rfl, h1, k1⟩
        have H1 := hide (HP.out _ _ HE.out (stepL_same (LA.out _ h1) k1 HG.out))
        have FI := hide (lfind_any u1 g S G fb fh bn bc at' ct s h1 hs)
        rw [hfv] at FI
        clear h1 k1 CA HP HE
        go_wp2_with fail
        with_reducible refine FI.out.mono ?_
        rintro e u ⟨rfl, hu⟩
        rw [hu]
        clear hu
        go_wp2
        go_ret
        exact H1.out
      | some k =>
        have hk := GV.out.file hf
        by_cases hbad : z < 0 ∨ ((bytF (atF G k)).length : Int) < z
        · have HE : Hid (cutF F s z = (G, 1)) := by show _ = _; unfold cutF; rw [hq]; dsimp only; rw [if_neg hm2, hf]; dsimp only; rw [if_pos hbad]
          clear hq
          by_cases hz0 : z < 0
          · have d1 : decide (z < 0) = true := decide_eq_true hz0
            go_enter Tryz.func28, Tryz.ntmps28
            go_wp2_with fail
            with_reducible refine CA.out.mono ?_
            rintro e u1 ⟨rfl, h1, k1⟩
            have FI := hide (lfind_any u1 g S G fb fh bn bc at' ct s h1 hs)
            obtain ⟨h, hh, mh, eb⟩ := h1.fileAt hk
            rw [show findV fb G s = .tuple #[.pointer (some ⟨h.b, 0, none⟩), .int .i64 0] by unfold findV; rw [if_neg hm2, hf]; unfold ptrV; dsimp only; rw [eb]] at FI
            have c1 := mh.c1
            have hdl := OwnG.len byV_len (by decide) mh.data
            obtain ⟨hbl, hul⟩ := bytF_len LC.out hk
            obtain ⟨da, dn, dc, hd⟩ : ∃ da dn dc, h.d = (da, dn, dc) := ⟨_, _, _, rfl⟩
            rw [hd] at c1 hdl
            dsimp only at c1 hdl
            obtain ⟨hb, hhb⟩ : ∃ hb, h.b = hb := ⟨_, rfl⟩
            have H1 := hide (HP.out _ _ HE.out (stepL_same (LA.out _ h1) k1 HG.out))
            rw [hhb] at FI c1
            clear h1 k1 CA HP HE mh hh hd
            go_wp2_with fail
            with_reducible refine FI.out.mono ?_
            rintro e u ⟨rfl, hu⟩
            rw [hu]
            clear hu
            go_wp2
            go_ret
            exact H1.out
          · have d1 : decide (z < 0) = false := decide_eq_false hz0
            go_enter Tryz.func28, Tryz.ntmps28
            go_wp2_with fail
            with_reducible refine CA.out.mono ?_
            rintro e u1 ⟨rfl, h1, k1⟩
            have FI := hide (lfind_any u1 g S G fb fh bn bc at' ct s h1 hs)
            obtain ⟨h, hh, mh, eb⟩ := h1.fileAt hk
            rw [show findV fb G s = .tuple #[.pointer (some ⟨h.b, 0, none⟩), .int .i64 0] by unfold findV; rw [if_neg hm2, hf]; unfold ptrV; dsimp only; rw [eb]] at FI
            have c1 := mh.c1
            have hdl := OwnG.len byV_len (by decide) mh.data
            obtain ⟨hbl, hul⟩ := bytF_len LC.out hk
            obtain ⟨da, dn, dc, hd⟩ : ∃ da dn dc, h.d = (da, dn, dc) := ⟨_, _, _, rfl⟩
            rw [hd] at c1 hdl
            dsimp only at c1 hdl
            obtain ⟨hb, hhb⟩ : ∃ hb, h.b = hb := ⟨_, rfl⟩
            have H1 := hide (HP.out _ _ HE.out (stepL_same (LA.out _ h1) k1 HG.out))
            have d3 : (dn : Int) < z := by rw [← hdl]; exact hbad.resolve_left (by omega)
            have d2 : decide ((dn : Int) < z) = true := decide_eq_true d3
            rw [hhb] at FI c1
            clear h1 k1 CA HP HE mh hh hd
            go_wp2_with fail
            with_reducible refine FI.out.mono ?_
            rintro e u ⟨rfl, hu⟩
            rw [hu]
            clear hu
            go_wp2
            go_ret
            exact H1.out
        · obtain ⟨n, rfl⟩ : ∃ n : Nat, z = (n : Int) := ⟨z.toNat, by omega⟩
          have HE : Hid (cutF F s (n : Int) = (moreF G k [⟨0, true, (n : Int)⟩], 0)) := by show _ = _; unfold cutF; rw [hq]; dsimp only; rw [if_neg hm2, hf]; dsimp only; rw [if_neg hbad]
          have hnl : n ≤ (bytF (atF G k)).length := by omega
          clear hq
          have d1 : decide ((n : Int) < 0) = false := decide_eq_false (by omega)
          have d0 : ¬ (n : Int) < 0 := by omega
          go_enter Tryz.func28, Tryz.ntmps28
          go_wp2_with fail
          with_reducible refine CA.out.mono ?_
          rintro e u1 ⟨rfl, h1, k1⟩
          have FI := hide (lfind_any u1 g S G fb fh bn bc at' ct s h1 hs)
          obtain ⟨h, hh, mh, eb⟩ := h1.fileAt hk
          rw [show findV fb G s = .tuple #[.pointer (some ⟨h.b, 0, none⟩), .int .i64 0] by unfold findV; rw [if_neg hm2, hf]; unfold ptrV; dsimp only; rw [eb]] at FI
          have c1 := mh.c1
          have hdl := OwnG.len byV_len (by decide) mh.data
          obtain ⟨hbl, hul⟩ := bytF_len LC.out hk
          obtain ⟨da, dn, dc, hd⟩ : ∃ da dn dc, h.d = (da, dn, dc) := ⟨_, _, _, rfl⟩
          rw [hd] at c1 hdl
          dsimp only at c1 hdl
          obtain ⟨hb, hhb⟩ : ∃ hb, h.b = hb := ⟨_, rfl⟩
          have d3 : ¬ (dn : Int) < (n : Int) := by omega
          have d2 : decide ((dn : Int) < (n : Int)) = false := decide_eq_false d3
          have d4 : decide (dn < n) = false := decide_eq_false (by omega)
          have FC := hide (fcut_any u1 h k _ _ _ mh rfl n hnl (by omega) (by omega) (bytF_byte GV.out hk))
          have FIN : Hid (∀ u, StepP u1 u h k ((bytF (atF G k)).take n) (atF G k).sure ((atF G k).us ++ [⟨0, true, (n : Int)⟩]) → (Ending.returned (.int .i64 0) = .returned (.int .i64 (cutF F s (n : Int)).2) ∧ StepV LAt w u g S (cutF F s (n : Int)).1)) := fun u hu => by
            refine HP.out _ u HE.out (stepL_after (k1.more (fun j _ e => e ▸ HG.out)) (stepV_file h1 GN.out hh (GV.out.mores hk (us := [⟨0, true, (n : Int)⟩]) (fun u hu => ?_) ⟨fun _ => ⟨by dsimp only; omega, by dsimp only; omega⟩, trivial⟩) ?_))
            · obtain rfl := List.mem_singleton.1 hu
              exact ⟨Int.le_refl _, by dsimp only; omega⟩
            · show StepP _ _ _ _ (bytF ⟨(atF G k).sure, (atF G k).us ++ [⟨0, true, (n : Int)⟩]⟩) _ _
              rw [bytF_cut]
              exact hu
          rw [hhb] at FI c1 FC
          clear h1 k1 CA HP HE mh hh hd
          go_wp2_with fail
          with_reducible refine FI.out.mono ?_
          rintro e u ⟨rfl, hu⟩
          rw [hu]
          clear hu
          go_wp2_with fail
          with_reducible refine FC.out.mono ?_
          rintro e u2 ⟨rfl, st⟩
          have H1 := hide (FIN.out u2 st)
          clear st FIN FC
          go_wp2
          go_ret
          exact H1.out

set_option maxHeartbeats 8000000 in
theorem lappend_any (g : Nat) (S : Nat → Prop) (F : Fs) (s : ByteArray) (a : Option Addr) (n c : Nat) (zs : List Int) (m : Nat) (w : World) (hF : LAt w g S F) (hL : Lim m F) (hm : m < 1073741824) (hs : s.size ≤ 9223372036854775807) (hr : Row .u8 w a n zs) (hn : n ≤ 4294967296) (hnc : n ≤ c) :
    Calls Tryz.prog 18 #[.pointer (some ⟨g, 0, none⟩), .string s, .slice a n c] w fun e w' => e = .returned (.int .i64 (appendF F s zs).2) ∧ StepV LAt w w' g S (appendF F s zs).1 := by
  obtain ⟨hV, hN, fb, fh, bn, bc, at', ct, B⟩ := hF
  have CA := hide (begin_any w g S F fb fh bn bc at' ct m B hV hL (by omega))
  have LC := hide hL.call'
  have GV := hide hV.call
  have GN := hide hN.call
  have HG := hide B.own
  have c8 := B.c8
  have hz := hr.1
  have HNG : Hid (∀ (b off i : Nat) (zs : List Int), ¬ w.cell? ⟨g, off + i, none⟩ = some (.int .u8 (zs.getD i 0))) := fun b off i zs h => by
    rw [cell_of_row w g (off + i) _ _ (0, 0) B.str] at h
    exact lfC_no8 _ _ _ _ _ _ _ h
  rcases hq : callF F with ⟨G, o⟩
  rw [hq] at CA LC GV GN
  dsimp only at CA LC GV GN
  have LA : Hid (∀ u, LB u g S G fb fh bn bc at' ct → LAt u g S G) := fun u hu => ⟨GV.out, GN.out, fb, fh, bn, bc, at', ct, hu⟩
  have HP : Hid (∀ (x : Fs × Int) (u : World), appendF F s zs = x → StepV LAt w u g S x.1 → (Ending.returned (.int .i64 x.2) = .returned (.int .i64 (appendF F s zs).2) ∧ StepV LAt w u g S (appendF F s zs).1)) := fun x u e hu => by
    rw [e]
    exact ⟨rfl, hu⟩
  have HR : Hid (∀ u, Ch (fun j => j = g) w u → Row .u8 u a n zs) := fun u hu => by
    obtain ⟨h1, h2, h3, h4⟩ := hr
    refine ⟨h1, h2, h3, ?_⟩
    rcases h4 with h4 | ⟨b, off, rfl, hc⟩
    · exact Or.inl h4
    · by_cases hz : n = 0
      · exact Or.inl hz
      · refine Or.inr ⟨b, off, rfl, fun i hi => ?_⟩
        have h5 := hc i hi
        have kk := hu.block b (World.block_lt_of_cell? w _ h5) (fun e => HNG.out b off i zs (by rw [← e]; exact h5))
        simp only [World.cell?] at h5 ⊢
        rw [kk]
        exact h5
  clear B hV hN hL hr
  cases o with
  | none =>
    have HE : Hid (appendF F s zs = addF G s zs) := by
      show _ = _
      unfold appendF addF
      rw [hq]
      rfl
    clear hq
    rw [Option.getD_none] at CA
    cases hdk : F.dark with
    | true =>
      rw [hdk] at c8
      go_enter Tryz.func18, Tryz.ntmps18
      go_wp2_with fail
      with_reducible refine CA.out.mono ?_
      rintro e u1 ⟨rfl, h1, k1⟩
      have PU := hide (lput_any g S G s a n c zs (m + 1) u1 (LA.out _ h1) LC.out (by omega) hs (HR.out _ k1) hn)
      have K1 := hide (k1.more (fun j _ (e : j = g) => (e ▸ HG.out : S j)))
      have FIN : Hid (∀ u, StepV LAt u1 u g S (addF G s zs).1 → (Ending.returned (.int .i64 (addF G s zs).2) = .returned (.int .i64 (appendF F s zs).2) ∧ StepV LAt w u g S (appendF F s zs).1)) := fun u hu => HP.out _ u HE.out (stepL_after K1.out hu)
      clear h1 k1 CA c8 HR HP HE K1
      generalize addF G s zs = px at *
      go_wp2_with fail
      with_reducible refine PU.out.mono ?_
      rintro e u2 ⟨rfl, st⟩
      have H1 := hide (FIN.out _ st)
      clear st PU FIN
      go_wp2
      go_ret
      exact H1.out
    | false =>
      rw [hdk] at c8
      go_enter Tryz.func18, Tryz.ntmps18
      go_wp2_with fail
      with_reducible refine CA.out.mono ?_
      rintro e u1 ⟨rfl, h1, k1⟩
      have PU := hide (lput_any g S G s a n c zs (m + 1) u1 (LA.out _ h1) LC.out (by omega) hs (HR.out _ k1) hn)
      have K1 := hide (k1.more (fun j _ (e : j = g) => (e ▸ HG.out : S j)))
      have FIN : Hid (∀ u, StepV LAt u1 u g S (addF G s zs).1 → (Ending.returned (.int .i64 (addF G s zs).2) = .returned (.int .i64 (appendF F s zs).2) ∧ StepV LAt w u g S (appendF F s zs).1)) := fun u hu => HP.out _ u HE.out (stepL_after K1.out hu)
      clear h1 k1 CA c8 HR HP HE K1
      generalize addF G s zs = px at *
      go_wp2_with fail
      with_reducible refine PU.out.mono ?_
      rintro e u2 ⟨rfl, st⟩
      have H1 := hide (FIN.out _ st)
      clear st PU FIN
      go_wp2
      go_ret
      exact H1.out
  | some e1 =>
    have ne := callF_err hq
    have ne2 : (e1 == 0) = false := by simpa using ne
    rw [Option.getD_some] at CA
    cases hdk : F.dark with
    | true =>
      have HE : Hid (appendF F s zs = (G, e1)) := by
        show _ = _
        unfold appendF
        rw [hq]
        dsimp only
        split
        · rfl
        · rw [if_neg (by rw [hdk]; simp)]
      rw [hdk] at c8
      clear hq
      go_enter Tryz.func18, Tryz.ntmps18
      go_wp2_with fail
      with_reducible refine CA.out.mono ?_
      rintro e u1 ⟨rfl, h1, k1⟩
      have H1 := hide (HP.out _ _ HE.out (stepL_same (LA.out _ h1) k1 HG.out))
      clear h1 k1 CA HP HE c8
      go_wp2
      go_ret
      exact H1.out
    | false =>
      have HE : Hid (appendF F s zs = ((addF G s (zs.take (n / 2))).1, e1)) := by
        show _ = _
        unfold appendF addF
        rw [hq]
        dsimp only
        cases hf : fileF G s with
        | none =>
          dsimp only
          split <;> rfl
        | some k =>
          dsimp only
          rw [if_neg (show ¬ mayN s = false by rw [fileF_may GN.out hf]; simp), List.length_take, hz]
          by_cases h : (bytF (atF G k)).length + n / 2 ≤ 1073741824
          · rw [if_pos ⟨hdk, h⟩, if_neg (by omega)]
          · rw [if_neg (fun q => h q.2), if_pos (by omega)]
      rw [hdk] at c8
      have sl := fun u => slice_to16 a n c (n / 2) (by omega) u
      have hq2 : (n : Int).tdiv 2 = ((n / 2 : Nat) : Int) := by rw [Int.tdiv_eq_ediv_of_nonneg (by omega)]; omega
      have hq3 : (n : Int) / 2 = ((n / 2 : Nat) : Int) := by omega
      have hw2 : IntKind.i64.wrap ((n / 2 : Nat) : Int) = ((n / 2 : Nat) : Int) := by rw [IntKind.wrap_i64]; omega
      obtain ⟨q2, hq4⟩ : ∃ q2 : Nat, n / 2 = q2 := ⟨_, rfl⟩
      rw [hq4] at sl hq2 hq3 hw2 HE
      have hq2n : q2 ≤ n := by omega
      clear hq
      go_enter Tryz.func18, Tryz.ntmps18
      go_wp2_with fail
      with_reducible refine CA.out.mono ?_
      rintro e u1 ⟨rfl, h1, k1⟩
      have PU := hide (lput_any g S G s a q2 c (zs.take q2) (m + 1) u1 (LA.out _ h1) LC.out (by omega) hs ((HR.out _ k1).to q2 hq2n) (by omega))
      have K1 := hide (k1.more (fun j _ (e : j = g) => (e ▸ HG.out : S j)))
      clear h1 k1 CA c8 HR
      go_wp2_with fail
      with_reducible refine PU.out.mono ?_
      rintro e u2 ⟨rfl, st⟩
      have H1 := hide (HP.out _ _ HE.out (stepL_after K1.out st))
      clear st PU HP HE K1
      go_wp2
      go_ret
      exact H1.out

set_option maxHeartbeats 4000000 in
theorem lread_any (g : Nat) (S : Nat → Prop) (F : Fs) (s : ByteArray) (m : Nat) (w : World) (hF : LAt w g S F) (hL : Lim m F) (hm : m ≤ 1073741824) (hs : s.size ≤ maxLen) :
    Calls Tryz.prog 24 #[.pointer (some ⟨g, 0, none⟩), .string s] w fun e w' => ReadP (readF F s) w e w' := by
  obtain ⟨hV, hN, fb, fh, bn, bc, at', ct, B⟩ := hF
  have lk := look_name B.names hs
  have c0 := B.c0
  cases hf : fileD (dirF F) s with
  | none =>
    rw [hf] at lk
    dsimp only [Option.map_none, Option.getD_none, Option.isSome_none] at lk
    have HE : Hid (readF F s = none) := by show _ = _; unfold readF fileF; rw [hf]; rfl
    rw [HE.out]
    clear B hV hN hL hf
    go_enter Tryz.func24, Tryz.ntmps24
    go_wp2
    refine bodyPost_ret (v := .tuple #[.slice none 0 0, .int .i64 3]) (by simp [results, Tryz.results24, go_sem]) rfl ?_
    exact ⟨Below.refl _ _, rfl⟩
  | some k =>
    have hk : k < F.files.length := hV.file hf
    obtain ⟨h, hh, mh, eb⟩ := B.fileAt hk
    rw [hf] at lk
    dsimp only [Option.map_some, Option.getD_some, Option.isSome_some] at lk
    unfold ptrV at lk
    rw [eb] at lk
    obtain ⟨hbl, hul⟩ := bytF_len hL hk
    have HE : Hid (readF F s = some (bytF (atF F k))) := by show _ = _; unfold readF fileF; rw [hf]; rfl
    rw [HE.out]
    have hdl := OwnG.len byV_len (by decide) mh.data
    have hcp := (OwnG.capped mh.data).2
    have c1 := mh.c1
    have CL := hide (clone8_any h.d.1 h.d.2.1 h.d.2.2 (bytF (atF F k)) w (ownB_row mh.data (by omega) (bytF_byte hV hk)) (by omega) (fun e => (hcp e).2))
    obtain ⟨da, dn, dc, hd⟩ : ∃ da dn dc, h.d = (da, dn, dc) := ⟨_, _, _, rfl⟩
    rw [hd] at c1 hdl CL
    dsimp only at c1 hdl CL
    obtain ⟨hb, hhb⟩ : ∃ hb, h.b = hb := ⟨_, rfl⟩
    rw [hhb] at lk c1
    have HDL := hide hdl
    generalize bytF (atF F k) = bs at *
    clear B hV hN hL hf mh hh eb hd hcp hbl hul hdl
    go_enter Tryz.func24, Tryz.ntmps24
    go_wp2_with fail
    with_reducible refine CL.out.mono ?_
    rintro e u ⟨xa, xc, rfl, ox, bx⟩
    have OX := hide ox
    have BX := hide bx
    clear ox bx CL
    go_wp2
    refine bodyPost_ret (v := .tuple #[.slice xa dn xc, .int .i64 0]) (by simp [results, Tryz.results24, go_sem]) rfl ?_
    refine ⟨BX.out, xa, xc, ?_, ?_⟩
    · rw [HDL.out]
    · rw [HDL.out]; exact OX.out
end Go.Proofs.YthlkmjaflomflaaGreat
