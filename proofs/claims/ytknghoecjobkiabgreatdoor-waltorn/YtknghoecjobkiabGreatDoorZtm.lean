/-
  The landed log: Append: a contract, for every world. Opening a log, as landed: a contract, for every world. A landed log that lies from here on, its file system with it: what its calls leave; opened: for the laws' walks. Observations put into sketches, in plain words: one more is put together with the sketch of one; observations cut anywhere, in any order, come to the same; of none none. The document's own answer of layer 7 (the laws' reference): one bucket has more: a contract, for every world. The document's own sketch of observations: a contract, for every world. The laws' own records: a label set by a number, a write by numbers: contracts, for every world.
  Conditions: as each theorem says.
-/
import Derived.Test.YtknghoecjobkiabGreatDoorZtl
import Derived.Test.YtknghoecjobkiabGreatDoorZti
import Derived.Test.YtknghoecjobkiabGreatDoorZtk
import Derived.Test.YtknghoecjobkiabGreatDoorZtj
import Derived.Test.YtknghoecjobkiabGreatDoorZtg
import Derived.Laws.AppendOwnNone
import Derived.Test.YtknghoecjobkiabGreatDoorZtf
import Derived.Deep.RegionHeld3
import Derived.Test.YtknghoecjobkiabGreatDoorZtb
import Derived.Test.YtknghoecjobkiabGreatDoorZtc
namespace Go.Proofs.YtknghoecjobkiabGreatDoor
open Go.RowKit Go.Maps
set_option maxRecDepth 20000
set_option linter.unusedVariables false

theorem rn_name2 {g q : Nat} {S : Nat → Prop} {w u : World} {F : Fs} {L : Lg} (h : Rn g q S w u F L) (n : Int) (hn : (Lit.int .i64 n).wf = true) : Calls Tryz.prog 16 #[.int .i64 n] u fun e u' => e = .returned (.string (nmW n)) ∧ Rn g q S w u' F L ∧ Below u.heap.size u u' :=
  (wname_any n u hn h.tab).mono (fun e u' ⟨he, hb⟩ => ⟨he, h.below hb, hb⟩)
/-- What has turned is of the log alone. -/
theorem Rn.ch {g q : Nat} {S : Nat → Prop} {w u : World} {F : Fs} {L : Lg} (h : Rn g q S w u F L) : Ch S w u := by
  obtain ⟨_, _, _, c⟩ := h
  exact c
theorem GAt.lt {g q : Nat} {S : Nat → Prop} {w : World} {X : Fs × Lg} (h : GAt g w q S X) : ∀ k, S k → k < w.heap.size := by
  obtain ⟨S0, h1, h2, _, _, _, h6, _⟩ := h
  intro k hk
  rcases (h6 k).1 hk with e | rfl
  · exact h1.lt k e
  · exact h2.lt
theorem GAt.below {g q : Nat} {S : Nat → Prop} {w v : World} {X : Fs × Lg} (h : GAt g w q S X) (b : Below w.heap.size w v) : GAt g v q S X := by
  obtain ⟨S0, h1, h2, h3, h4, h5, h6, h7⟩ := h
  exact ⟨S0, h1.below b, h2.below b h2.lt, h3, h4.bel b, h5, h6, h7⟩
theorem Rn.from {g q : Nat} {S : Nat → Prop} {u w v : World} {F : Fs} {L : Lg} (h : Rn g q S w v F L) (b : Below u.heap.size u w) : Rn g q S u v F L := by
  obtain ⟨S1, h1, h2, h3⟩ := h
  refine ⟨S1, h1, fun k hk => ?_, ((Ch.of_below b).more fun _ _ e => e.elim).trans h3⟩
  rcases h2 k hk with e | e
  · exact Or.inl e
  · exact Or.inr (Nat.le_trans b.size e)
theorem lim_turn {m : Nat} {F : Fs} (hL : LimB m F) (n : Int) : LimB (m + 3) (turnW F n).1 := by
  unfold turnW
  split
  · exact hL.mono (by omega)
  · split
    · split
      · exact (hL.create _).syncdir
      · exact (hL.create _).syncdir
    · exact (hL.create _).mono (by omega)
theorem lim_room {m : Nat} {F : Fs} (hL : LimB m F) (n : Int) : LimB (m + 3) (roomW F n).1 := by
  unfold roomW
  split
  · exact hL.mono (by omega)
  · exact lim_turn hL n
/-- A record's bytes are put as they should be, and there are not too many. -/
structure PutsX (S : Nat → Prop) (x : RecX) (h : RecH) : Prop where
  fit : 1 ≤ (putRc (rcX x)).length ∧ (putRc (rcX x)).length ≤ 101000 ∧ Bytes8 (putRc (rcX x))
  put : ∀ w : World, SeeR S w x h → Calls Tryz.prog 27 #[.slice none 0 0, (Value.agg #[.int .i64 (RecX.seq x), .int .i64 (RecX.kind x), .slice (RecH.la h) (RecH.ln h) (RecH.lc h), .int .i64 (RecX.at9 x), .slice (Hd.a (RecH.sk h)) (Hd.n (RecH.sk h)) (Hd.c (RecH.sk h)), .slice (Hd.k (RecH.sk h)) (Hd.m (RecH.sk h)) (Hd.d (RecH.sk h)), .int .u64 (Gz.n (Sp.g (RecX.sk x))), .int .u64 (Gz.nans (Sp.g (RecX.sk x))), .int .u64 (Gz.lo (Sp.g (RecX.sk x))), .int .u64 (Gz.hi (Sp.g (RecX.sk x))), .int .i64 (RecX.tseq x), .int .i64 (Hm.op (RecH.m h)), .string (Hm.nm (RecH.m h)), .string (Hm.vl (RecH.m h)), .slice (Hm.va (RecH.m h)) (Hm.vn (RecH.m h)) (Hm.vc (RecH.m h)), .slice (Hm.ka (RecH.m h)) (Hm.kn (RecH.m h)) (Hm.kc (RecH.m h)), .int .i64 (RecX.frm x), .int .i64 (RecX.till x)])] w fun e w' => PutP 0 [] (putRc (rcX x)) w e w'
theorem puts_one {S : Nat → Prop} {w : World} {x : RecX} {h : RecH} (q : SeeR S w x h) (h1 : x.kind = 1) (hl : chkL x.l = true) (hp : chkP x.sk = true) : PutsX S x h := by
  have e : putRc (rcX x) = putS (zig x.seq) ++ (putS 1 ++ (putL x.l ++ (putS (zig x.at9) ++ putP x.sk))) := by unfold rcX; rw [if_pos h1]; rfl
  exact ⟨putRc_fit1 q hl hp e, fun w' s => putRec_one S none 0 0 [] x h w' (nil_row _ _ _) (by omega) s h1 hl hp e⟩
theorem putRec0_of {S : Nat → Prop} {x : RecX} {h : RecH} {w : World} (p : PutsX S x h) (q : SeeR S w x h) :
    Calls Tryz.prog 27 #[.slice none 0 0, (Value.agg #[.int .i64 (RecX.seq x), .int .i64 (RecX.kind x), .slice (RecH.la h) (RecH.ln h) (RecH.lc h), .int .i64 (RecX.at9 x), .slice (Hd.a (RecH.sk h)) (Hd.n (RecH.sk h)) (Hd.c (RecH.sk h)), .slice (Hd.k (RecH.sk h)) (Hd.m (RecH.sk h)) (Hd.d (RecH.sk h)), .int .u64 (Gz.n (Sp.g (RecX.sk x))), .int .u64 (Gz.nans (Sp.g (RecX.sk x))), .int .u64 (Gz.lo (Sp.g (RecX.sk x))), .int .u64 (Gz.hi (Sp.g (RecX.sk x))), .int .i64 (RecX.tseq x), .int .i64 (Hm.op (RecH.m h)), .string (Hm.nm (RecH.m h)), .string (Hm.vl (RecH.m h)), .slice (Hm.va (RecH.m h)) (Hm.vn (RecH.m h)) (Hm.vc (RecH.m h)), .slice (Hm.ka (RecH.m h)) (Hm.kn (RecH.m h)) (Hm.kc (RecH.m h)), .int .i64 (RecX.frm x), .int .i64 (RecX.till x)])] w fun e w' => ∃ a' c', e = .returned (.slice a' (putRc (rcX x)).length c') ∧ Mine w' w.heap.size a' (putRc (rcX x)).length c' (putRc (rcX x)) ∧ Below w.heap.size w w' := by
  refine (p.put w q).mono ?_
  rintro e w' ⟨a', c', rfl, h1, h2⟩
  rw [Nat.zero_add, List.nil_append] at h1
  exact ⟨a', c', by rw [Nat.zero_add], h1, h2⟩
theorem frame0_any (a : Option Addr) (n c : Nat) (bs : List Int) (w : World) (hs : Row .u8 w a n bs) (h0 : 1 ≤ n) (h1 : n ≤ 1048576) :
    Calls Tryz.prog 26 #[.slice none 0 0, .slice a n c] w fun e w' => ∃ a' c', e = .returned (.tuple #[.slice a' (frameS bs).length c', .int .i64 0]) ∧ Mine w' w.heap.size a' (frameS bs).length c' (frameS bs) ∧ Below w.heap.size w w' := by
  refine (put_frame none 0 0 [] a n c bs w (nil_row _ _ _) hs (by omega) h0 h1).mono ?_
  rintro e w' ⟨a', c', rfl, q1, q2⟩
  rw [Nat.zero_add, List.nil_append] at q1
  exact ⟨a', c', by rw [Nat.zero_add], q1, q2⟩

set_option maxHeartbeats 16000000 in
theorem wappend_of (g q : Nat) (S Sx : Nat → Prop) (u : World) (F : Fs) (L : Lg) (m : Nat) (x : RecX) (h : RecH) (hG : GAt g u q S (F, L)) (hL : LimB m F) (hm : m + 200000 ≤ 1073741824) (sx : SeeR Sx u x h) (hd : ∀ k, Sx k → ¬ S k) (hx : PutsX Sx x h) :
    Calls Tryz.prog 10 #[.pointer (some ⟨q, 0, none⟩), (Value.agg #[.int .i64 (RecX.seq x), .int .i64 (RecX.kind x), .slice (RecH.la h) (RecH.ln h) (RecH.lc h), .int .i64 (RecX.at9 x), .slice (Hd.a (RecH.sk h)) (Hd.n (RecH.sk h)) (Hd.c (RecH.sk h)), .slice (Hd.k (RecH.sk h)) (Hd.m (RecH.sk h)) (Hd.d (RecH.sk h)), .int .u64 (Gz.n (Sp.g (RecX.sk x))), .int .u64 (Gz.nans (Sp.g (RecX.sk x))), .int .u64 (Gz.lo (Sp.g (RecX.sk x))), .int .u64 (Gz.hi (Sp.g (RecX.sk x))), .int .i64 (RecX.tseq x), .int .i64 (Hm.op (RecH.m h)), .string (Hm.nm (RecH.m h)), .string (Hm.vl (RecH.m h)), .slice (Hm.va (RecH.m h)) (Hm.vn (RecH.m h)) (Hm.vc (RecH.m h)), .slice (Hm.ka (RecH.m h)) (Hm.kn (RecH.m h)) (Hm.kc (RecH.m h)), .int .i64 (RecX.frm x), .int .i64 (RecX.till x)])] u fun e u' => e = .returned (.int .i64 (appendW F L.last (putRc (rcX x))).2.1) ∧ Rn g q S u u' (appendW F L.last (putRc (rcX x))).1 { L with last := (appendW F L.last (putRc (rcX x))).2.2 } := by
  have FT := hide hx.fit
  have FB : Hid ((frameS (putRc (rcX x))).length ≤ 101100 ∧ Bytes8 (frameS (putRc (rcX x)))) := ⟨by have := (frameS_long (putRc (rcX x))).2; have := FT.out.2.1; show _ ≤ _; omega, frameS_byte FT.out.2.2 (by have := FT.out.2.1; omega)⟩
  obtain ⟨b, hb⟩ : ∃ b, Hid (u.heap.size = b) := ⟨_, rfl⟩
  have nb : Hid (¬ S b) := fun e => by have := hG.lt b e; have := hb.out; omega
  obtain ⟨w0, hw0⟩ : ∃ w0, Hid (u.alloc (.cells ([.int .i64 (RecX.seq x), .int .i64 (RecX.kind x), .slice (RecH.la h) (RecH.ln h) (RecH.lc h), .int .i64 (RecX.at9 x), .slice (Hd.a (RecH.sk h)) (Hd.n (RecH.sk h)) (Hd.c (RecH.sk h)), .slice (Hd.k (RecH.sk h)) (Hd.m (RecH.sk h)) (Hd.d (RecH.sk h)), .int .u64 (Gz.n (Sp.g (RecX.sk x))), .int .u64 (Gz.nans (Sp.g (RecX.sk x))), .int .u64 (Gz.lo (Sp.g (RecX.sk x))), .int .u64 (Gz.hi (Sp.g (RecX.sk x))), .int .i64 (RecX.tseq x), .int .i64 (Hm.op (RecH.m h)), .string (Hm.nm (RecH.m h)), .string (Hm.vl (RecH.m h)), .slice (Hm.va (RecH.m h)) (Hm.vn (RecH.m h)) (Hm.vc (RecH.m h)), .slice (Hm.ka (RecH.m h)) (Hm.kn (RecH.m h)) (Hm.kc (RecH.m h)), .int .i64 (RecX.frm x), .int .i64 (RecX.till x)]).toArray 50) = w0) := ⟨_, rfl⟩
  have B0 : Hid (BoxV w0 b 50 [.int .i64 (RecX.seq x), .int .i64 (RecX.kind x), .slice (RecH.la h) (RecH.ln h) (RecH.lc h), .int .i64 (RecX.at9 x), .slice (Hd.a (RecH.sk h)) (Hd.n (RecH.sk h)) (Hd.c (RecH.sk h)), .slice (Hd.k (RecH.sk h)) (Hd.m (RecH.sk h)) (Hd.d (RecH.sk h)), .int .u64 (Gz.n (Sp.g (RecX.sk x))), .int .u64 (Gz.nans (Sp.g (RecX.sk x))), .int .u64 (Gz.lo (Sp.g (RecX.sk x))), .int .u64 (Gz.hi (Sp.g (RecX.sk x))), .int .i64 (RecX.tseq x), .int .i64 (Hm.op (RecH.m h)), .string (Hm.nm (RecH.m h)), .string (Hm.vl (RecH.m h)), .slice (Hm.va (RecH.m h)) (Hm.vn (RecH.m h)) (Hm.vc (RecH.m h)), .slice (Hm.ka (RecH.m h)) (Hm.kn (RecH.m h)) (Hm.kc (RecH.m h)), .int .i64 (RecX.frm x), .int .i64 (RecX.till x)]) := by rw [← hw0.out, ← hb.out]; exact BoxV.new u _ _
  have L0 : Hid (Below u.heap.size u w0) := by rw [← hw0.out]; exact (Below.refl _ _).alloc (Nat.le_refl _) _
  have Q0 := hide (sx.below L0.out (Nat.le_refl _))
  have R0 := hide (rn_refl (hG.below L0.out))
  have RM := hide (wroom_any g q S w0 w0 F L m R0.out hL (by omega))
  have LR := hide (lim_room hL L.last)
  have HT : Hid (appendW F L.last (putRc (rcX x)) = if (roomW F L.last).2.1 = 0 then (if (appendF (roomW F L.last).1 (nmW (roomW F L.last).2.2) (frameS (putRc (rcX x)))).2 = 0 then ((syncF (appendF (roomW F L.last).1 (nmW (roomW F L.last).2.2) (frameS (putRc (rcX x)))).1 (nmW (roomW F L.last).2.2)).1, (syncF (appendF (roomW F L.last).1 (nmW (roomW F L.last).2.2) (frameS (putRc (rcX x)))).1 (nmW (roomW F L.last).2.2)).2, (roomW F L.last).2.2) else ((appendF (roomW F L.last).1 (nmW (roomW F L.last).2.2) (frameS (putRc (rcX x)))).1, (appendF (roomW F L.last).1 (nmW (roomW F L.last).2.2) (frameS (putRc (rcX x)))).2, (roomW F L.last).2.2)) else roomW F L.last) := by
    show _ = _
    unfold appendW
    rw [if_neg (show ¬ 1048576 < (putRc (rcX x)).length by have := FT.out.2.1; omega)]
  rw [HT.out]
  have PR := hide (fun v (s : SeeR Sx v x h) => putRec0_of hx s)
  have PF := hide (fun v a n c (hn : (putRc (rcX x)).length = n) (hs : Row .u8 v a n (putRc (rcX x))) => frame0_any a n c (putRc (rcX x)) v hs (by have := FT.out.1; omega) (by have := FT.out.2.1; omega))
  generalize roomW F L.last = rm at *
  obtain ⟨F1, c1, n1⟩ := rm
  dsimp only at RM LR ⊢
  clear hL hG HT
  by_cases h1 : c1 = 0
  · subst h1
    rw [if_pos rfl]
    have SZ := nmW_size n1
    obtain ⟨L1, hL1⟩ : ∃ L1 : Lg, Hid (({ L with last := n1 } : Lg) = L1) := ⟨_, rfl⟩
    have LA : Hid (L1.last = n1) := by rw [← hL1.out]; rfl
    rw [hL1.out] at RM
    have AP := hide (fun v a c (hn : (frameS (putRc (rcX x))).length ≤ c) (r : Rn g q S w0 v F1 L1) (hs : Row .u8 v a (frameS (putRc (rcX x))).length (frameS (putRc (rcX x)))) => rn_append r LR.out (by omega) (nmW n1) (by omega) a (frameS (putRc (rcX x))).length c (frameS (putRc (rcX x))) hs (by have := FB.out.1; omega) hn)
    have LA2 := hide ((LR.out.append (nmW n1) (frameS (putRc (rcX x)))).mono (show m + 3 + 1 + (frameS (putRc (rcX x))).length ≤ m + 199999 by have := FB.out.1; omega))
    have NM := hide (fun v G (r : Rn g q S w0 v G L1) => rn_name2 r n1 (by rw [← LA.out]; exact i64_wf (by have := r.wf.l0; omega) (by have := r.wf.l1; omega)))
    have ST : Hid (∀ v G, Rn g q S w0 v G L1 → v.cell? ⟨q, 0, none⟩ = some (.pointer (some ⟨g, 0, none⟩)) ∧ v.cell? ⟨q, 1, none⟩ = some (.int .i64 n1)) := fun v G r => ⟨r.box.cell (i := 0) rfl, by rw [← LA.out]; exact r.box.cell (i := 1) rfl⟩
    generalize nmW n1 = nm at *
    generalize appendF F1 nm (frameS (putRc (rcX x))) = ap at *
    obtain ⟨F2, c2⟩ := ap
    dsimp only at AP LA2 ⊢
    by_cases h2 : c2 = 0
    · subst h2
      rw [if_pos rfl]
      dsimp only
      rw [hL1.out]
      have SY := hide (fun v (r : Rn g q S w0 v F2 L1) => rn_sync r LA2.out (by omega) nm (by omega))
      generalize syncF F2 nm = sy at *
      obtain ⟨F3, c3⟩ := sy
      dsimp only at SY ⊢
      go_enter Tryz.func10, Tryz.ntmps10
      go_wp2
      refine wp_scope_jumps 0 (fun a' w' => a'.defers = [] ∧ a'.tmps.size = 43 ∧ a'.tmps.getD 6 undef = .int .i64 c3 ∧ Rn g q S u w' F3 L1) (fun _ _ => 0) rfl ?_ ?_
      rotate_left 1
      · rintro ⟨⟨l0⟩, dd⟩ w' ⟨hd, h0, h4, hR⟩
        dsimp only at hd
        subst hd
        have h0 : l0.length = 43 := h0
        obtain ⟨u0, l1, rfl⟩ := List.exists_cons_of_length_eq_add_one h0
        have h_1 : l1.length = 42 := by simpa using h0
        obtain ⟨u1, l2, rfl⟩ := List.exists_cons_of_length_eq_add_one h_1
        have h_2 : l2.length = 41 := by simpa using h_1
        obtain ⟨u2, l3, rfl⟩ := List.exists_cons_of_length_eq_add_one h_2
        have h_3 : l3.length = 40 := by simpa using h_2
        obtain ⟨u3, l4, rfl⟩ := List.exists_cons_of_length_eq_add_one h_3
        have h_4 : l4.length = 39 := by simpa using h_3
        obtain ⟨u4, l5, rfl⟩ := List.exists_cons_of_length_eq_add_one h_4
        have h_5 : l5.length = 38 := by simpa using h_4
        obtain ⟨u5, l6, rfl⟩ := List.exists_cons_of_length_eq_add_one h_5
        have h_6 : l6.length = 37 := by simpa using h_5
        obtain ⟨u6, l7, rfl⟩ := List.exists_cons_of_length_eq_add_one h_6
        have h_7 : l7.length = 36 := by simpa using h_6
        obtain ⟨u7, l8, rfl⟩ := List.exists_cons_of_length_eq_add_one h_7
        have h_8 : l8.length = 35 := by simpa using h_7
        obtain ⟨u8, l9, rfl⟩ := List.exists_cons_of_length_eq_add_one h_8
        have h_9 : l9.length = 34 := by simpa using h_8
        obtain ⟨u9, l10, rfl⟩ := List.exists_cons_of_length_eq_add_one h_9
        have h_10 : l10.length = 33 := by simpa using h_9
        obtain ⟨u10, l11, rfl⟩ := List.exists_cons_of_length_eq_add_one h_10
        have h_11 : l11.length = 32 := by simpa using h_10
        obtain ⟨u11, l12, rfl⟩ := List.exists_cons_of_length_eq_add_one h_11
        have h_12 : l12.length = 31 := by simpa using h_11
        obtain ⟨u12, l13, rfl⟩ := List.exists_cons_of_length_eq_add_one h_12
        have h_13 : l13.length = 30 := by simpa using h_12
        obtain ⟨u13, l14, rfl⟩ := List.exists_cons_of_length_eq_add_one h_13
        have h_14 : l14.length = 29 := by simpa using h_13
        obtain ⟨u14, l15, rfl⟩ := List.exists_cons_of_length_eq_add_one h_14
        have h_15 : l15.length = 28 := by simpa using h_14
        obtain ⟨u15, l16, rfl⟩ := List.exists_cons_of_length_eq_add_one h_15
        have h_16 : l16.length = 27 := by simpa using h_15
        obtain ⟨u16, l17, rfl⟩ := List.exists_cons_of_length_eq_add_one h_16
        have h_17 : l17.length = 26 := by simpa using h_16
        obtain ⟨u17, l18, rfl⟩ := List.exists_cons_of_length_eq_add_one h_17
        have h_18 : l18.length = 25 := by simpa using h_17
        obtain ⟨u18, l19, rfl⟩ := List.exists_cons_of_length_eq_add_one h_18
        have h_19 : l19.length = 24 := by simpa using h_18
        obtain ⟨u19, l20, rfl⟩ := List.exists_cons_of_length_eq_add_one h_19
        have h_20 : l20.length = 23 := by simpa using h_19
        obtain ⟨u20, l21, rfl⟩ := List.exists_cons_of_length_eq_add_one h_20
        have h_21 : l21.length = 22 := by simpa using h_20
        obtain ⟨u21, l22, rfl⟩ := List.exists_cons_of_length_eq_add_one h_21
        have h_22 : l22.length = 21 := by simpa using h_21
        obtain ⟨u22, l23, rfl⟩ := List.exists_cons_of_length_eq_add_one h_22
        have h_23 : l23.length = 20 := by simpa using h_22
        obtain ⟨u23, l24, rfl⟩ := List.exists_cons_of_length_eq_add_one h_23
        have h_24 : l24.length = 19 := by simpa using h_23
        obtain ⟨u24, l25, rfl⟩ := List.exists_cons_of_length_eq_add_one h_24
        have h_25 : l25.length = 18 := by simpa using h_24
        obtain ⟨u25, l26, rfl⟩ := List.exists_cons_of_length_eq_add_one h_25
        have h_26 : l26.length = 17 := by simpa using h_25
        obtain ⟨u26, l27, rfl⟩ := List.exists_cons_of_length_eq_add_one h_26
        have h_27 : l27.length = 16 := by simpa using h_26
        obtain ⟨u27, l28, rfl⟩ := List.exists_cons_of_length_eq_add_one h_27
        have h_28 : l28.length = 15 := by simpa using h_27
        obtain ⟨u28, l29, rfl⟩ := List.exists_cons_of_length_eq_add_one h_28
        have h_29 : l29.length = 14 := by simpa using h_28
        obtain ⟨u29, l30, rfl⟩ := List.exists_cons_of_length_eq_add_one h_29
        have h_30 : l30.length = 13 := by simpa using h_29
        obtain ⟨u30, l31, rfl⟩ := List.exists_cons_of_length_eq_add_one h_30
        have h_31 : l31.length = 12 := by simpa using h_30
        obtain ⟨u31, l32, rfl⟩ := List.exists_cons_of_length_eq_add_one h_31
        have h_32 : l32.length = 11 := by simpa using h_31
        obtain ⟨u32, l33, rfl⟩ := List.exists_cons_of_length_eq_add_one h_32
        have h_33 : l33.length = 10 := by simpa using h_32
        obtain ⟨u33, l34, rfl⟩ := List.exists_cons_of_length_eq_add_one h_33
        have h_34 : l34.length = 9 := by simpa using h_33
        obtain ⟨u34, l35, rfl⟩ := List.exists_cons_of_length_eq_add_one h_34
        have h_35 : l35.length = 8 := by simpa using h_34
        obtain ⟨u35, l36, rfl⟩ := List.exists_cons_of_length_eq_add_one h_35
        have h_36 : l36.length = 7 := by simpa using h_35
        obtain ⟨u36, l37, rfl⟩ := List.exists_cons_of_length_eq_add_one h_36
        have h_37 : l37.length = 6 := by simpa using h_36
        obtain ⟨u37, l38, rfl⟩ := List.exists_cons_of_length_eq_add_one h_37
        have h_38 : l38.length = 5 := by simpa using h_37
        obtain ⟨u38, l39, rfl⟩ := List.exists_cons_of_length_eq_add_one h_38
        have h_39 : l39.length = 4 := by simpa using h_38
        obtain ⟨u39, l40, rfl⟩ := List.exists_cons_of_length_eq_add_one h_39
        have h_40 : l40.length = 3 := by simpa using h_39
        obtain ⟨u40, l41, rfl⟩ := List.exists_cons_of_length_eq_add_one h_40
        have h_41 : l41.length = 2 := by simpa using h_40
        obtain ⟨u41, l42, rfl⟩ := List.exists_cons_of_length_eq_add_one h_41
        have h_42 : l42.length = 1 := by simpa using h_41
        obtain ⟨u42, l43, rfl⟩ := List.exists_cons_of_length_eq_add_one h_42
        have h_43 : l43.length = 0 := by simpa using h_42
        obtain rfl := List.length_eq_zero_iff.1 h_43
        have h5 : u6 = .int .i64 c3 := h4
        subst h5
        have HR := hide hR
        clear h4 hR h0 h_1 h_2 h_3 h_4 h_5 h_6 h_7 h_8 h_9 h_10 h_11 h_12 h_13 h_14 h_15 h_16 h_17 h_18 h_19 h_20 h_21 h_22 h_23 h_24 h_25 h_26 h_27 h_28 h_29 h_30 h_31 h_32 h_33 h_34 h_35 h_36 h_37 h_38 h_39 h_40 h_41 h_42 h_43
        show Code.wp _ _ _ ⟨#[u0, u1, u2, u3, u4, u5, .int .i64 c3, u7, u8, u9, u10, u11, u12, u13, u14, u15, u16, u17, u18, u19, u20, u21, u22, u23, u24, u25, u26, u27, u28, u29, u30, u31, u32, u33, u34, u35, u36, u37, u38, u39, u40, u41, u42], []⟩ w'
        go_wp2
        simp only [Exit.jump]
        go_ret
        exact ⟨rfl, HR.out⟩
      rw [hw0.out, hb.out]
      clear hw0 hb
      go_wp2_with fail
      with_reducible refine RM.out.mono ?_
      rintro e v1 ⟨rfl, r1⟩
      have B1 := hide (B0.out.ch r1.ch nb.out)
      have Q1 := hide (Q0.out.ch r1.ch hd)
      have RG1 := hide B1.out.range
      have R1 := hide r1
      have C2 := hide (PR.out v1 Q1.out)
      clear r1 RM PR Q1 B0 Q0 R0
      go_wp2_with ((with_reducible show wpList _ _ _ (Oper.mk _ (Op.load 50 _) _ _ _ _ :: _) _ _); refine wpLoad rfl 50 _ rfl b 0 rfl [.int .i64 (RecX.seq x), .int .i64 (RecX.kind x), .slice (RecH.la h) (RecH.ln h) (RecH.lc h), .int .i64 (RecX.at9 x), .slice (Hd.a (RecH.sk h)) (Hd.n (RecH.sk h)) (Hd.c (RecH.sk h)), .slice (Hd.k (RecH.sk h)) (Hd.m (RecH.sk h)) (Hd.d (RecH.sk h)), .int .u64 (Gz.n (Sp.g (RecX.sk x))), .int .u64 (Gz.nans (Sp.g (RecX.sk x))), .int .u64 (Gz.lo (Sp.g (RecX.sk x))), .int .u64 (Gz.hi (Sp.g (RecX.sk x))), .int .i64 (RecX.tseq x), .int .i64 (Hm.op (RecH.m h)), .string (Hm.nm (RecH.m h)), .string (Hm.vl (RecH.m h)), .slice (Hm.va (RecH.m h)) (Hm.vn (RecH.m h)) (Hm.vc (RecH.m h)), .slice (Hm.ka (RecH.m h)) (Hm.kn (RecH.m h)) (Hm.kc (RecH.m h)), .int .i64 (RecX.frm x), .int .i64 (RecX.till x)] _ RG1.out Tryz.underlying50 rfl info_rec ?_)
      with_reducible refine C2.out.mono ?_
      rintro e v2 ⟨a2, k2, rfl, o2, b2⟩
      have C3 := hide (PF.out v2 a2 _ k2 rfl (o2.row (by have := FT.out.2.1; omega) (fits_wf FT.out.2.2)))
      have R2 := hide (R1.out.below b2)
      clear o2 b2 C2 PF R1 B1 RG1
      go_wp2_with fail
      with_reducible refine C3.out.mono ?_
      rintro e v3 ⟨a3, k3, rfl, o3, b3⟩
      have R3 := hide ((R2.out.below b3).below (Below.refl v3.heap.size v3).drew)
      have O3 := hide o3.capped.1
      have W3 := hide ((o3.row (by have := FB.out.1; omega) (fits_wf FB.out.2)).drew)
      have BF := hide FB.out.2
      clear o3 C3 R2 b3
      obtain ⟨s0, s1⟩ := ST.out _ _ R3.out
      have N3 := hide (NM.out _ _ R3.out)
      go_upto_region 6 with fail
      refine wp_region_held_drew (S := fun v => v.cell? ⟨q, 0, none⟩ = some (.pointer (some ⟨g, 0, none⟩)) ∧ v.cell? ⟨q, 1, none⟩ = some (.int .i64 n1)) (by kernel_rfl) ⟨s0, s1⟩ (fun hHeld => ?_)
      refine held_tk 0 (some 19) rfl rfl ?_
      refine held_tk 1 (some 20) rfl rfl ?_
      refine held_tk 2 (some 21) rfl rfl ?_
      refine held_tk 3 (some 22) rfl rfl ?_
      refine held_tk 4 (some 23) rfl rfl ?_
      refine held_tk 5 (some 24) rfl rfl ?_
      refine held_tk 6 (some 25) rfl rfl ?_
      refine held_tk 7 (some 26) rfl rfl ?_
      refine held_tk 9 (some 28) rfl rfl ?_
      refine held_next (i := 8) (by kernel_rfl) rfl (by rfl) (fun K1 hK1 => ?_)
      go_simp
      with_reducible refine N3.out.mono ?_
      rintro e v4 ⟨rfl, r4, b4⟩
      have S4 := hide (ST.out _ _ r4)
      have C4 := hide (AP.out _ _ _ O3.out r4 (W3.out.below b4 (Nat.le_refl _)))
      clear r4 b4 N3 AP O3 W3 R3
      go_wp2_with fail
      refine hK1.out _ _ S4.out ?_
      clear hK1
      refine held_next (i := 10) (by kernel_rfl) rfl (by rfl) (fun K1 hK1 => ?_)
      go_simp
      with_reducible refine C4.out.mono ?_
      rintro e v5 ⟨rfl, r5⟩
      have S5 := hide (ST.out _ _ r5)
      have R5 := hide r5
      clear r5 C4
      go_wp2_with fail
      refine hK1.out _ _ S5.out ?_
      clear hK1
      refine held_tk 11 (some 6) rfl rfl ?_
      clear hHeld
      refine wpAnyH_done (by kernel_rfl) ?_ _
      have R6 := hide (R5.out.below (Below.refl v5.heap.size v5).drew)
      obtain ⟨t0, t1⟩ := ST.out _ _ R6.out
      have N6 := hide (NM.out _ _ R6.out)
      go_upto_region 8 with fail
      refine wp_region_held_drew (S := fun v => v.cell? ⟨q, 0, none⟩ = some (.pointer (some ⟨g, 0, none⟩)) ∧ v.cell? ⟨q, 1, none⟩ = some (.int .i64 n1)) (by kernel_rfl) ⟨t0, t1⟩ (fun hHeld => ?_)
      refine held_tk 0 (some 32) rfl rfl ?_
      refine held_tk 1 (some 33) rfl rfl ?_
      refine held_tk 2 (some 34) rfl rfl ?_
      refine held_tk 3 (some 35) rfl rfl ?_
      refine held_tk 4 (some 36) rfl rfl ?_
      refine held_tk 5 (some 37) rfl rfl ?_
      refine held_tk 6 (some 38) rfl rfl ?_
      refine held_tk 7 (some 39) rfl rfl ?_
      refine held_next (i := 8) (by kernel_rfl) rfl (by rfl) (fun K1 hK1 => ?_)
      go_simp
      with_reducible refine N6.out.mono ?_
      rintro e v7 ⟨rfl, r7, _⟩
      have S7 := hide (ST.out _ _ r7)
      have C7 := hide (SY.out _ r7)
      clear r7 N6 SY
      go_wp2_with fail
      refine hK1.out _ _ S7.out ?_
      clear hK1
      refine held_next (i := 9) (by kernel_rfl) rfl (by rfl) (fun K1 hK1 => ?_)
      go_simp
      with_reducible refine C7.out.mono ?_
      rintro e v8 ⟨rfl, r8⟩
      have S8 := hide (ST.out _ _ r8)
      have RF := hide (r8.from L0.out)
      clear r8 C7
      go_wp2_with fail
      refine hK1.out _ _ S8.out ?_
      clear hK1
      refine held_tk 10 (some 6) rfl rfl ?_
      clear hHeld
      refine wpAnyH_done (by kernel_rfl) ?_ _
      go_wp2
      go_step3
      go_wp2
      simp only [Exit.jump]
      go_ret
      exact ⟨rfl, RF.out⟩
    · rw [if_neg h2]
      dsimp only
      rw [hL1.out]
      have n2 : (c2 != 0) = true := by simpa using h2
      go_enter Tryz.func10, Tryz.ntmps10
      go_wp2
      refine wp_scope_jumps 0 (fun a' w' => a'.defers = [] ∧ a'.tmps.size = 43 ∧ a'.tmps.getD 6 undef = .int .i64 c2 ∧ Rn g q S u w' F2 L1) (fun _ _ => 0) rfl ?_ ?_
      rotate_left 1
      · rintro ⟨⟨l0⟩, dd⟩ w' ⟨hd, h0, h4, hR⟩
        dsimp only at hd
        subst hd
        have h0 : l0.length = 43 := h0
        obtain ⟨u0, l1, rfl⟩ := List.exists_cons_of_length_eq_add_one h0
        have h_1 : l1.length = 42 := by simpa using h0
        obtain ⟨u1, l2, rfl⟩ := List.exists_cons_of_length_eq_add_one h_1
        have h_2 : l2.length = 41 := by simpa using h_1
        obtain ⟨u2, l3, rfl⟩ := List.exists_cons_of_length_eq_add_one h_2
        have h_3 : l3.length = 40 := by simpa using h_2
        obtain ⟨u3, l4, rfl⟩ := List.exists_cons_of_length_eq_add_one h_3
        have h_4 : l4.length = 39 := by simpa using h_3
        obtain ⟨u4, l5, rfl⟩ := List.exists_cons_of_length_eq_add_one h_4
        have h_5 : l5.length = 38 := by simpa using h_4
        obtain ⟨u5, l6, rfl⟩ := List.exists_cons_of_length_eq_add_one h_5
        have h_6 : l6.length = 37 := by simpa using h_5
        obtain ⟨u6, l7, rfl⟩ := List.exists_cons_of_length_eq_add_one h_6
        have h_7 : l7.length = 36 := by simpa using h_6
        obtain ⟨u7, l8, rfl⟩ := List.exists_cons_of_length_eq_add_one h_7
        have h_8 : l8.length = 35 := by simpa using h_7
        obtain ⟨u8, l9, rfl⟩ := List.exists_cons_of_length_eq_add_one h_8
        have h_9 : l9.length = 34 := by simpa using h_8
        obtain ⟨u9, l10, rfl⟩ := List.exists_cons_of_length_eq_add_one h_9
        have h_10 : l10.length = 33 := by simpa using h_9
        obtain ⟨u10, l11, rfl⟩ := List.exists_cons_of_length_eq_add_one h_10
        have h_11 : l11.length = 32 := by simpa using h_10
        obtain ⟨u11, l12, rfl⟩ := List.exists_cons_of_length_eq_add_one h_11
        have h_12 : l12.length = 31 := by simpa using h_11
        obtain ⟨u12, l13, rfl⟩ := List.exists_cons_of_length_eq_add_one h_12
        have h_13 : l13.length = 30 := by simpa using h_12
        obtain ⟨u13, l14, rfl⟩ := List.exists_cons_of_length_eq_add_one h_13
        have h_14 : l14.length = 29 := by simpa using h_13
        obtain ⟨u14, l15, rfl⟩ := List.exists_cons_of_length_eq_add_one h_14
        have h_15 : l15.length = 28 := by simpa using h_14
        obtain ⟨u15, l16, rfl⟩ := List.exists_cons_of_length_eq_add_one h_15
        have h_16 : l16.length = 27 := by simpa using h_15
        obtain ⟨u16, l17, rfl⟩ := List.exists_cons_of_length_eq_add_one h_16
        have h_17 : l17.length = 26 := by simpa using h_16
        obtain ⟨u17, l18, rfl⟩ := List.exists_cons_of_length_eq_add_one h_17
        have h_18 : l18.length = 25 := by simpa using h_17
        obtain ⟨u18, l19, rfl⟩ := List.exists_cons_of_length_eq_add_one h_18
        have h_19 : l19.length = 24 := by simpa using h_18
        obtain ⟨u19, l20, rfl⟩ := List.exists_cons_of_length_eq_add_one h_19
        have h_20 : l20.length = 23 := by simpa using h_19
        obtain ⟨u20, l21, rfl⟩ := List.exists_cons_of_length_eq_add_one h_20
        have h_21 : l21.length = 22 := by simpa using h_20
        obtain ⟨u21, l22, rfl⟩ := List.exists_cons_of_length_eq_add_one h_21
        have h_22 : l22.length = 21 := by simpa using h_21
        obtain ⟨u22, l23, rfl⟩ := List.exists_cons_of_length_eq_add_one h_22
        have h_23 : l23.length = 20 := by simpa using h_22
        obtain ⟨u23, l24, rfl⟩ := List.exists_cons_of_length_eq_add_one h_23
        have h_24 : l24.length = 19 := by simpa using h_23
        obtain ⟨u24, l25, rfl⟩ := List.exists_cons_of_length_eq_add_one h_24
        have h_25 : l25.length = 18 := by simpa using h_24
        obtain ⟨u25, l26, rfl⟩ := List.exists_cons_of_length_eq_add_one h_25
        have h_26 : l26.length = 17 := by simpa using h_25
        obtain ⟨u26, l27, rfl⟩ := List.exists_cons_of_length_eq_add_one h_26
        have h_27 : l27.length = 16 := by simpa using h_26
        obtain ⟨u27, l28, rfl⟩ := List.exists_cons_of_length_eq_add_one h_27
        have h_28 : l28.length = 15 := by simpa using h_27
        obtain ⟨u28, l29, rfl⟩ := List.exists_cons_of_length_eq_add_one h_28
        have h_29 : l29.length = 14 := by simpa using h_28
        obtain ⟨u29, l30, rfl⟩ := List.exists_cons_of_length_eq_add_one h_29
        have h_30 : l30.length = 13 := by simpa using h_29
        obtain ⟨u30, l31, rfl⟩ := List.exists_cons_of_length_eq_add_one h_30
        have h_31 : l31.length = 12 := by simpa using h_30
        obtain ⟨u31, l32, rfl⟩ := List.exists_cons_of_length_eq_add_one h_31
        have h_32 : l32.length = 11 := by simpa using h_31
        obtain ⟨u32, l33, rfl⟩ := List.exists_cons_of_length_eq_add_one h_32
        have h_33 : l33.length = 10 := by simpa using h_32
        obtain ⟨u33, l34, rfl⟩ := List.exists_cons_of_length_eq_add_one h_33
        have h_34 : l34.length = 9 := by simpa using h_33
        obtain ⟨u34, l35, rfl⟩ := List.exists_cons_of_length_eq_add_one h_34
        have h_35 : l35.length = 8 := by simpa using h_34
        obtain ⟨u35, l36, rfl⟩ := List.exists_cons_of_length_eq_add_one h_35
        have h_36 : l36.length = 7 := by simpa using h_35
        obtain ⟨u36, l37, rfl⟩ := List.exists_cons_of_length_eq_add_one h_36
        have h_37 : l37.length = 6 := by simpa using h_36
        obtain ⟨u37, l38, rfl⟩ := List.exists_cons_of_length_eq_add_one h_37
        have h_38 : l38.length = 5 := by simpa using h_37
        obtain ⟨u38, l39, rfl⟩ := List.exists_cons_of_length_eq_add_one h_38
        have h_39 : l39.length = 4 := by simpa using h_38
        obtain ⟨u39, l40, rfl⟩ := List.exists_cons_of_length_eq_add_one h_39
        have h_40 : l40.length = 3 := by simpa using h_39
        obtain ⟨u40, l41, rfl⟩ := List.exists_cons_of_length_eq_add_one h_40
        have h_41 : l41.length = 2 := by simpa using h_40
        obtain ⟨u41, l42, rfl⟩ := List.exists_cons_of_length_eq_add_one h_41
        have h_42 : l42.length = 1 := by simpa using h_41
        obtain ⟨u42, l43, rfl⟩ := List.exists_cons_of_length_eq_add_one h_42
        have h_43 : l43.length = 0 := by simpa using h_42
        obtain rfl := List.length_eq_zero_iff.1 h_43
        have h5 : u6 = .int .i64 c2 := h4
        subst h5
        have HR := hide hR
        clear h4 hR h0 h_1 h_2 h_3 h_4 h_5 h_6 h_7 h_8 h_9 h_10 h_11 h_12 h_13 h_14 h_15 h_16 h_17 h_18 h_19 h_20 h_21 h_22 h_23 h_24 h_25 h_26 h_27 h_28 h_29 h_30 h_31 h_32 h_33 h_34 h_35 h_36 h_37 h_38 h_39 h_40 h_41 h_42 h_43
        show Code.wp _ _ _ ⟨#[u0, u1, u2, u3, u4, u5, .int .i64 c2, u7, u8, u9, u10, u11, u12, u13, u14, u15, u16, u17, u18, u19, u20, u21, u22, u23, u24, u25, u26, u27, u28, u29, u30, u31, u32, u33, u34, u35, u36, u37, u38, u39, u40, u41, u42], []⟩ w'
        go_wp2
        simp only [Exit.jump]
        go_ret
        exact ⟨rfl, HR.out⟩
      rw [hw0.out, hb.out]
      clear hw0 hb
      go_wp2_with fail
      with_reducible refine RM.out.mono ?_
      rintro e v1 ⟨rfl, r1⟩
      have B1 := hide (B0.out.ch r1.ch nb.out)
      have Q1 := hide (Q0.out.ch r1.ch hd)
      have RG1 := hide B1.out.range
      have R1 := hide r1
      have C2 := hide (PR.out v1 Q1.out)
      clear r1 RM PR Q1 B0 Q0 R0
      go_wp2_with ((with_reducible show wpList _ _ _ (Oper.mk _ (Op.load 50 _) _ _ _ _ :: _) _ _); refine wpLoad rfl 50 _ rfl b 0 rfl [.int .i64 (RecX.seq x), .int .i64 (RecX.kind x), .slice (RecH.la h) (RecH.ln h) (RecH.lc h), .int .i64 (RecX.at9 x), .slice (Hd.a (RecH.sk h)) (Hd.n (RecH.sk h)) (Hd.c (RecH.sk h)), .slice (Hd.k (RecH.sk h)) (Hd.m (RecH.sk h)) (Hd.d (RecH.sk h)), .int .u64 (Gz.n (Sp.g (RecX.sk x))), .int .u64 (Gz.nans (Sp.g (RecX.sk x))), .int .u64 (Gz.lo (Sp.g (RecX.sk x))), .int .u64 (Gz.hi (Sp.g (RecX.sk x))), .int .i64 (RecX.tseq x), .int .i64 (Hm.op (RecH.m h)), .string (Hm.nm (RecH.m h)), .string (Hm.vl (RecH.m h)), .slice (Hm.va (RecH.m h)) (Hm.vn (RecH.m h)) (Hm.vc (RecH.m h)), .slice (Hm.ka (RecH.m h)) (Hm.kn (RecH.m h)) (Hm.kc (RecH.m h)), .int .i64 (RecX.frm x), .int .i64 (RecX.till x)] _ RG1.out Tryz.underlying50 rfl info_rec ?_)
      with_reducible refine C2.out.mono ?_
      rintro e v2 ⟨a2, k2, rfl, o2, b2⟩
      have C3 := hide (PF.out v2 a2 _ k2 rfl (o2.row (by have := FT.out.2.1; omega) (fits_wf FT.out.2.2)))
      have R2 := hide (R1.out.below b2)
      clear o2 b2 C2 PF R1 B1 RG1
      go_wp2_with fail
      with_reducible refine C3.out.mono ?_
      rintro e v3 ⟨a3, k3, rfl, o3, b3⟩
      have R3 := hide ((R2.out.below b3).below (Below.refl v3.heap.size v3).drew)
      have O3 := hide o3.capped.1
      have W3 := hide ((o3.row (by have := FB.out.1; omega) (fits_wf FB.out.2)).drew)
      have BF := hide FB.out.2
      clear o3 C3 R2 b3
      obtain ⟨s0, s1⟩ := ST.out _ _ R3.out
      have N3 := hide (NM.out _ _ R3.out)
      go_upto_region 6 with fail
      refine wp_region_held_drew (S := fun v => v.cell? ⟨q, 0, none⟩ = some (.pointer (some ⟨g, 0, none⟩)) ∧ v.cell? ⟨q, 1, none⟩ = some (.int .i64 n1)) (by kernel_rfl) ⟨s0, s1⟩ (fun hHeld => ?_)
      refine held_tk 0 (some 19) rfl rfl ?_
      refine held_tk 1 (some 20) rfl rfl ?_
      refine held_tk 2 (some 21) rfl rfl ?_
      refine held_tk 3 (some 22) rfl rfl ?_
      refine held_tk 4 (some 23) rfl rfl ?_
      refine held_tk 5 (some 24) rfl rfl ?_
      refine held_tk 6 (some 25) rfl rfl ?_
      refine held_tk 7 (some 26) rfl rfl ?_
      refine held_tk 9 (some 28) rfl rfl ?_
      refine held_next (i := 8) (by kernel_rfl) rfl (by rfl) (fun K1 hK1 => ?_)
      go_simp
      with_reducible refine N3.out.mono ?_
      rintro e v4 ⟨rfl, r4, b4⟩
      have S4 := hide (ST.out _ _ r4)
      have C4 := hide (AP.out _ _ _ O3.out r4 (W3.out.below b4 (Nat.le_refl _)))
      clear r4 b4 N3 AP O3 W3 R3
      go_wp2_with fail
      refine hK1.out _ _ S4.out ?_
      clear hK1
      refine held_next (i := 10) (by kernel_rfl) rfl (by rfl) (fun K1 hK1 => ?_)
      go_simp
      with_reducible refine C4.out.mono ?_
      rintro e v5 ⟨rfl, r5⟩
      have S5 := hide (ST.out _ _ r5)
      have R5 := hide r5
      clear r5 C4
      go_wp2_with fail
      refine hK1.out _ _ S5.out ?_
      clear hK1
      refine held_tk 11 (some 6) rfl rfl ?_
      clear hHeld
      refine wpAnyH_done (by kernel_rfl) ?_ _
      have RF := hide (R5.out.from L0.out)
      go_wp2
      go_step3
      exact ⟨rfl, rfl, rfl, rfl, RF.out⟩
  · rw [if_neg h1]
    dsimp only
    have nz1 : (c1 != 0) = true := by simpa using h1
    go_enter Tryz.func10, Tryz.ntmps10
    go_wp2
    refine wp_scope_jumps 0 (fun a' w' => a'.defers = [] ∧ a'.tmps.size = 43 ∧ a'.tmps.getD 6 undef = .int .i64 c1 ∧ Rn g q S u w' F1 { L with last := n1 }) (fun _ _ => 0) rfl ?_ ?_
    rotate_left 1
    · rintro ⟨⟨l0⟩, dd⟩ w' ⟨hd, h0, h4, hR⟩
      dsimp only at hd
      subst hd
      have h0 : l0.length = 43 := h0
      obtain ⟨u0, l1, rfl⟩ := List.exists_cons_of_length_eq_add_one h0
      have h_1 : l1.length = 42 := by simpa using h0
      obtain ⟨u1, l2, rfl⟩ := List.exists_cons_of_length_eq_add_one h_1
      have h_2 : l2.length = 41 := by simpa using h_1
      obtain ⟨u2, l3, rfl⟩ := List.exists_cons_of_length_eq_add_one h_2
      have h_3 : l3.length = 40 := by simpa using h_2
      obtain ⟨u3, l4, rfl⟩ := List.exists_cons_of_length_eq_add_one h_3
      have h_4 : l4.length = 39 := by simpa using h_3
      obtain ⟨u4, l5, rfl⟩ := List.exists_cons_of_length_eq_add_one h_4
      have h_5 : l5.length = 38 := by simpa using h_4
      obtain ⟨u5, l6, rfl⟩ := List.exists_cons_of_length_eq_add_one h_5
      have h_6 : l6.length = 37 := by simpa using h_5
      obtain ⟨u6, l7, rfl⟩ := List.exists_cons_of_length_eq_add_one h_6
      have h_7 : l7.length = 36 := by simpa using h_6
      obtain ⟨u7, l8, rfl⟩ := List.exists_cons_of_length_eq_add_one h_7
      have h_8 : l8.length = 35 := by simpa using h_7
      obtain ⟨u8, l9, rfl⟩ := List.exists_cons_of_length_eq_add_one h_8
      have h_9 : l9.length = 34 := by simpa using h_8
      obtain ⟨u9, l10, rfl⟩ := List.exists_cons_of_length_eq_add_one h_9
      have h_10 : l10.length = 33 := by simpa using h_9
      obtain ⟨u10, l11, rfl⟩ := List.exists_cons_of_length_eq_add_one h_10
      have h_11 : l11.length = 32 := by simpa using h_10
      obtain ⟨u11, l12, rfl⟩ := List.exists_cons_of_length_eq_add_one h_11
      have h_12 : l12.length = 31 := by simpa using h_11
      obtain ⟨u12, l13, rfl⟩ := List.exists_cons_of_length_eq_add_one h_12
      have h_13 : l13.length = 30 := by simpa using h_12
      obtain ⟨u13, l14, rfl⟩ := List.exists_cons_of_length_eq_add_one h_13
      have h_14 : l14.length = 29 := by simpa using h_13
      obtain ⟨u14, l15, rfl⟩ := List.exists_cons_of_length_eq_add_one h_14
      have h_15 : l15.length = 28 := by simpa using h_14
      obtain ⟨u15, l16, rfl⟩ := List.exists_cons_of_length_eq_add_one h_15
      have h_16 : l16.length = 27 := by simpa using h_15
      obtain ⟨u16, l17, rfl⟩ := List.exists_cons_of_length_eq_add_one h_16
      have h_17 : l17.length = 26 := by simpa using h_16
      obtain ⟨u17, l18, rfl⟩ := List.exists_cons_of_length_eq_add_one h_17
      have h_18 : l18.length = 25 := by simpa using h_17
      obtain ⟨u18, l19, rfl⟩ := List.exists_cons_of_length_eq_add_one h_18
      have h_19 : l19.length = 24 := by simpa using h_18
      obtain ⟨u19, l20, rfl⟩ := List.exists_cons_of_length_eq_add_one h_19
      have h_20 : l20.length = 23 := by simpa using h_19
      obtain ⟨u20, l21, rfl⟩ := List.exists_cons_of_length_eq_add_one h_20
      have h_21 : l21.length = 22 := by simpa using h_20
      obtain ⟨u21, l22, rfl⟩ := List.exists_cons_of_length_eq_add_one h_21
      have h_22 : l22.length = 21 := by simpa using h_21
      obtain ⟨u22, l23, rfl⟩ := List.exists_cons_of_length_eq_add_one h_22
      have h_23 : l23.length = 20 := by simpa using h_22
      obtain ⟨u23, l24, rfl⟩ := List.exists_cons_of_length_eq_add_one h_23
      have h_24 : l24.length = 19 := by simpa using h_23
      obtain ⟨u24, l25, rfl⟩ := List.exists_cons_of_length_eq_add_one h_24
      have h_25 : l25.length = 18 := by simpa using h_24
      obtain ⟨u25, l26, rfl⟩ := List.exists_cons_of_length_eq_add_one h_25
      have h_26 : l26.length = 17 := by simpa using h_25
      obtain ⟨u26, l27, rfl⟩ := List.exists_cons_of_length_eq_add_one h_26
      have h_27 : l27.length = 16 := by simpa using h_26
      obtain ⟨u27, l28, rfl⟩ := List.exists_cons_of_length_eq_add_one h_27
      have h_28 : l28.length = 15 := by simpa using h_27
      obtain ⟨u28, l29, rfl⟩ := List.exists_cons_of_length_eq_add_one h_28
      have h_29 : l29.length = 14 := by simpa using h_28
      obtain ⟨u29, l30, rfl⟩ := List.exists_cons_of_length_eq_add_one h_29
      have h_30 : l30.length = 13 := by simpa using h_29
      obtain ⟨u30, l31, rfl⟩ := List.exists_cons_of_length_eq_add_one h_30
      have h_31 : l31.length = 12 := by simpa using h_30
      obtain ⟨u31, l32, rfl⟩ := List.exists_cons_of_length_eq_add_one h_31
      have h_32 : l32.length = 11 := by simpa using h_31
      obtain ⟨u32, l33, rfl⟩ := List.exists_cons_of_length_eq_add_one h_32
      have h_33 : l33.length = 10 := by simpa using h_32
      obtain ⟨u33, l34, rfl⟩ := List.exists_cons_of_length_eq_add_one h_33
      have h_34 : l34.length = 9 := by simpa using h_33
      obtain ⟨u34, l35, rfl⟩ := List.exists_cons_of_length_eq_add_one h_34
      have h_35 : l35.length = 8 := by simpa using h_34
      obtain ⟨u35, l36, rfl⟩ := List.exists_cons_of_length_eq_add_one h_35
      have h_36 : l36.length = 7 := by simpa using h_35
      obtain ⟨u36, l37, rfl⟩ := List.exists_cons_of_length_eq_add_one h_36
      have h_37 : l37.length = 6 := by simpa using h_36
      obtain ⟨u37, l38, rfl⟩ := List.exists_cons_of_length_eq_add_one h_37
      have h_38 : l38.length = 5 := by simpa using h_37
      obtain ⟨u38, l39, rfl⟩ := List.exists_cons_of_length_eq_add_one h_38
      have h_39 : l39.length = 4 := by simpa using h_38
      obtain ⟨u39, l40, rfl⟩ := List.exists_cons_of_length_eq_add_one h_39
      have h_40 : l40.length = 3 := by simpa using h_39
      obtain ⟨u40, l41, rfl⟩ := List.exists_cons_of_length_eq_add_one h_40
      have h_41 : l41.length = 2 := by simpa using h_40
      obtain ⟨u41, l42, rfl⟩ := List.exists_cons_of_length_eq_add_one h_41
      have h_42 : l42.length = 1 := by simpa using h_41
      obtain ⟨u42, l43, rfl⟩ := List.exists_cons_of_length_eq_add_one h_42
      have h_43 : l43.length = 0 := by simpa using h_42
      obtain rfl := List.length_eq_zero_iff.1 h_43
      have h5 : u6 = .int .i64 c1 := h4
      subst h5
      have HR := hide hR
      clear h4 hR h0 h_1 h_2 h_3 h_4 h_5 h_6 h_7 h_8 h_9 h_10 h_11 h_12 h_13 h_14 h_15 h_16 h_17 h_18 h_19 h_20 h_21 h_22 h_23 h_24 h_25 h_26 h_27 h_28 h_29 h_30 h_31 h_32 h_33 h_34 h_35 h_36 h_37 h_38 h_39 h_40 h_41 h_42 h_43
      show Code.wp _ _ _ ⟨#[u0, u1, u2, u3, u4, u5, .int .i64 c1, u7, u8, u9, u10, u11, u12, u13, u14, u15, u16, u17, u18, u19, u20, u21, u22, u23, u24, u25, u26, u27, u28, u29, u30, u31, u32, u33, u34, u35, u36, u37, u38, u39, u40, u41, u42], []⟩ w'
      go_wp2
      simp only [Exit.jump]
      go_ret
      exact ⟨rfl, HR.out⟩
    rw [hw0.out, hb.out]
    clear hw0 hb
    go_wp2_with fail
    with_reducible refine RM.out.mono ?_
    rintro e v1 ⟨rfl, r1⟩
    have R1 := hide (r1.from L0.out)
    clear r1 RM
    go_wp2
    go_step3
    exact ⟨rfl, rfl, rfl, rfl, R1.out⟩
end Go.Proofs.YtknghoecjobkiabGreatDoor

namespace Go.Proofs.YtknghoecjobkiabGreatDoor
open Go.RowKit Go.Maps
set_option maxRecDepth 20000
set_option linter.unusedVariables false

/-- A file's bytes are bytes, and no more than there may be. -/
theorem read_fit {F : Fs} {m : Nat} (hV : GoodV F) (hL : LimB m F) {s : ByteArray} {b : List Int} (h : readF F s = some b) : b.length ≤ m ∧ ∀ z ∈ b, 0 ≤ z ∧ z ≤ 255 := by
  unfold readF at h
  cases hk : fileF F s with
  | none => rw [hk] at h; cases h
  | some k =>
    rw [hk] at h
    obtain rfl : bytF (atF F k) = b := by simpa using h
    have e := limB_at hL k
    have e2 := unsB_len (atF F k).us (atF F k).sure
    exact ⟨by unfold bytF; omega, bytF_byte hV (hV.file hk)⟩
/-- So few files one behind the other. -/
def FewF (F : Fs) (frm : Int) : Prop := ∀ j : Nat, (∀ i : Nat, i < j → (readF F (nmW (frm + i))).isSome = true) → j ≤ 4096
/-- What an opening tells. -/
def OpenP (g : Nat) (F : Fs) (frm : Int) (w : World) (e : Ending) (w' : World) : Prop := Below w.heap.size w w' ∧
  if nmW frm = ByteArray.empty then e = .returned (.tuple #[.pointer none, .slice none 0 0, .int .i64 1])
  else match openW false F frm with
  | none => e = .returned (.tuple #[.pointer none, .slice none 0 0, .int .i64 13])
  | some s => ∃ q a c, e = .returned (.tuple #[.pointer (some ⟨q, 0, none⟩), .slice a s.recs.length c, .int .i64 0]) ∧ w.heap.size ≤ q ∧ BoxV w' q 74 (logC g ⟨s.last, s.last, s.cut, false⟩) ∧ RecsAt w' (q + 1) a s.recs.length c s.recs
theorem goW_none {D : Bool} {F : Fs} {n : Int} {s : Ow} (h : readF F (nmW n) = none) : ∀ f, goW D F f n s = some s
  | 0 => rfl
  | f + 1 => by
    unfold goW
    rw [h]
theorem fuel_step {n : Int} (h0 : 0 ≤ n) (h1 : n ≤ 99999999) : (100000000 - n).toNat = (100000000 - (n + 1)).toNat + 1 := by omega
theorem goW_more {D : Bool} {F : Fs} {n : Int} {s : Ow} {b : List Int} (h0 : 0 ≤ n) (h1 : n ≤ 99999999) (h : readF F (nmW n) = some b) : goW D F (100000000 - n).toNat n s = match stepW D s n b with
    | none => none
    | some s' => goW D F (100000000 - (n + 1)).toNat (n + 1) s' := by
  rw [fuel_step h0 h1, goW, h]
  rfl
theorem read_some {F : Fs} (hN : GoodN F) {n : Int} {b : List Int} (h : readF F (nmW n) = some b) : 0 ≤ n ∧ n ≤ 99999999 := by
  by_cases e : nmW n = ByteArray.empty
  · rw [e, read_no hN] at h
    cases h
  · have := mt nmW_empty.2 e
    omega

theorem RecsAt.ch {C : Nat → Prop} {w u : World} {base n c : Nat} {a : Option Addr} {rs : List Rc} (q : RecsAt w base a n c rs) (h : Ch C w u) (hn : ∀ k, base ≤ k → ¬ C k) : RecsAt u base a n c rs := by
  obtain ⟨l, h1, h2, h3, h4⟩ := q
  exact ⟨l, OwnG.ch h1 h (fun j e => hn j (OwnG.cellsT h1 j e).2), fun p hp => (h2 p hp).ch h (fun k hk => hn k hk.1), h3, h4⟩
section
variable {g : Nat} {F : Fs} {frm : Int} {w w' : World}
theorem openP_arg (h0 : nmW frm = ByteArray.empty) (b : Below w.heap.size w w') : OpenP g F frm w (.returned (.tuple #[.pointer none, .slice none 0 0, .int .i64 1])) w' := by
  unfold OpenP
  rw [if_pos h0]
  exact ⟨b, rfl⟩
theorem openP_bad (h0 : ¬ nmW frm = ByteArray.empty) (h : openW false F frm = none) (b : Below w.heap.size w w') : OpenP g F frm w (.returned (.tuple #[.pointer none, .slice none 0 0, .int .i64 13])) w' := by
  unfold OpenP
  rw [if_neg h0, h]
  exact ⟨b, rfl⟩
theorem openP_ok (h0 : ¬ nmW frm = ByteArray.empty) {s : Ow} (h : openW false F frm = some s) (b : Below w.heap.size w w') {q c : Nat} {a : Option Addr} (h1 : w.heap.size ≤ q) (h2 : BoxV w' q 74 (logC g ⟨s.last, s.last, s.cut, false⟩)) (h3 : RecsAt w' (q + 1) a s.recs.length c s.recs) :
    OpenP g F frm w (.returned (.tuple #[.pointer (some ⟨q, 0, none⟩), .slice a s.recs.length c, .int .i64 0])) w' := by
  unfold OpenP
  rw [if_neg h0, h]
  exact ⟨b, q, a, c, rfl, h1, h2, h3⟩
end
/-- As the loop of Open finds it. -/
structure OpI (g q : Nat) (F : Fs) (frm : Int) (w v2 wr : World) (j : Nat) (s : Ow) (b : Option Addr) (c : Nat) : Prop where
  cu : s.cut = -1 ∨ 0 ≤ s.cut
  cl : s.cut ≤ 67108864
  l0 : 0 ≤ s.last
  l1 : s.last ≤ 99999999
  few : ∀ i : Nat, i < j → (readF F (nmW (frm + i))).isSome = true
  eq : openW false F frm = goW false F (100000000 - (frm + j)).toNat (frm + j) s
  box : BoxV wr q 74 (logC g ⟨s.last, s.last, s.cut, false⟩)
  recs : RecsAt wr v2.heap.size b s.recs.length c s.recs
  bel : Below q v2 wr

set_option maxHeartbeats 16000000 in
theorem open_of (g : Nat) (S : Nat → Prop) (F : Fs) (m : Nat) (frm : Int) (w : World) (hR : ∀ (n : Int) (bs : List Int), readF F (nmW n) = some bs → GrF bs) (hF : LAt w g S F) (hT : TbP w) (hL : LimB m F) (hm : m ≤ 67108864) (hf : (Lit.int .i64 frm).wf = true) (hW : FewF F frm) :
    Calls Tryz.prog 6 #[.pointer (some ⟨g, 0, none⟩), .int .i64 frm] w fun e w' => OpenP g F frm w e w' := by
  have N0 := hide (wname_any frm w hf hT)
  by_cases h0 : nmW frm = ByteArray.empty
  · rw [h0] at N0
    clear hF hT hL hW hR
    go_enter Tryz.func6, Tryz.ntmps6
    go_wp2_with fail
    with_reducible refine N0.out.mono ?_
    rintro e v1 ⟨rfl, b1⟩
    have B1 := hide b1
    clear b1 N0
    go_wp2
    go_ret3
    exact openP_arg h0 B1.out
  · have hb : ((nmW frm).toList == []) = false := by rw [beq_eq_false_iff_ne]; intro e; exact h0 (ba_ext (by rw [e, ByteArray.toList_eq]; rfl))
    have h1 : 0 ≤ frm ∧ frm ≤ 99999999 := by have := mt nmW_empty.2 h0; omega
    have NE := hide h0
    have LW := hide hL
    have HF := hide hF
    have HRR := hide hR
    have HV := hide hF.1
    have HN := hide hF.2.1
    have HT := hide hT
    have HW := hide hW
    obtain ⟨i0, hi, hz0, hz1, hz2⟩ := info_parts Tryz.infoRc
    obtain ⟨f0, f1⟩ := h1
    have OW : Hid (openW false F frm = goW false F (100000000 - frm).toNat frm (ow0 frm)) := rfl
    clear hF hT hL hW h0 hR
    go_enter Tryz.func6, Tryz.ntmps6
    go_wp2_with fail
    with_reducible refine N0.out.mono ?_
    rintro e v1 ⟨rfl, b1⟩
    have B1 := hide b1
    clear b1 N0
    obtain ⟨q, hq⟩ : ∃ q, Hid (v1.heap.size = q) := ⟨_, rfl⟩
    obtain ⟨v2, hv2⟩ : ∃ v2, Hid (v1.alloc (.cells #[.pointer (some ⟨g, 0, none⟩), .int .i64 frm, .int .i64 frm, .int .i64 (-1), .bool false] 74) = v2) := ⟨_, rfl⟩
    have X2 : Hid (BoxV v2 q 74 (logC g ⟨frm, frm, -1, false⟩)) := by rw [← hv2.out, ← hq.out]; exact BoxV.new v1 _ (logC g ⟨frm, frm, -1, false⟩)
    have K2 : Hid (Below v1.heap.size v1 v2) := by rw [← hv2.out]; exact (Below.refl _ _).alloc (Nat.le_refl _) _
    have B2 := hide (bel_to B1.out (Nat.le_refl _) K2.out)
    have sz2 : v2.heap.size = q + 1 := by rw [← hv2.out, ← hq.out]; exact size_al _ _
    have QW : Hid (w.heap.size ≤ q) := by rw [← hq.out]; exact B1.out.size
    clear K2 B1
    go_upto_region 4 with fail
    rw [hv2.out, hq.out]
    clear hv2 hq hb
    go_wp2
    have SZ2 : Hid (v2.heap.size = q + 1) := sz2
    have QL : Hid (q ≤ v2.heap.size) := by rw [sz2]; exact Nat.le_succ q
    clear sz2
    go_loopw [8, 9] (fun al i wr => ∃ (j : Nat) (s : Ow) (b : Option Addr) (c : Nat), i = .int .i64 (frm + (j : Int)) ∧ al = .slice b s.recs.length c ∧ frm + (j : Int) ≤ 100000000 ∧ j ≤ 4096 ∧ s.recs.length ≤ j * 67108864 ∧ Hid (OpI g q F frm w v2 wr j s b c)) (fun _ i _ => (100000001 - intOf i).toNat)
    case atStart => exact ⟨0, ow0 frm, none, 0, by simp, rfl, by simp; omega, by omega, by simp [ow0], ⟨Or.inl rfl, by show (-1 : Int) ≤ _; omega, f0, f1, fun i hi => by omega, by rw [OW.out]; simp, X2.out, recs_nil _ _, Below.refl _ _⟩⟩
    case round =>
      obtain ⟨j, s, b, c, rfl, rfl, hj0, hj1, hsl, HI⟩ := hrel
      obtain ⟨v0, rfl⟩ : ∃ v, v = wr := ⟨wr, rfl⟩
      have B0 := hide (B2.out.trans (HI.out.bel.mono QW.out))
      obtain ⟨z, hz⟩ : ∃ z, Hid (frm + (j : Int) = z) := ⟨_, rfl⟩
      have z0 : 0 ≤ z := by have := hz.out; omega
      rw [hz.out] at hj0
      rw [hz.out]
      have NM := hide (wname_any z v0 (i64_wf (by omega) (by omega)) (HT.out.bel B0.out))
      have SZ := nmW_size z
      have RD := hide (fun v (bv : Below w.heap.size w v) => lread_any g S F (nmW z) m v (HF.out.below bv) LW.out.lim (by omega) (Nat.le_trans SZ (by decide)))
      cases hr : readF F (nmW z) with
      | none =>
        have HE : Hid (openW false F frm = some s) := by
          show _ = _
          rw [HI.out.eq, hz.out]
          exact goW_none hr _
        rw [hr] at RD
        simp only [ReadVp] at RD
        clear hr
        go_wp2_with fail
        with_reducible refine NM.out.mono ?_
        rintro e v3 ⟨rfl, b3⟩
        have B3 := hide (bel_to B0.out (Nat.le_refl _) b3)
        have R4 := hide (RD.out _ B3.out)
        clear NM RD
        go_wp2_with fail
        with_reducible refine R4.out.mono ?_
        rintro e v4 ⟨b4, rfl⟩
        have B4 := hide (bel_to B3.out (Nat.le_refl _) b4)
        have K4 := hide (bel_to b3 (Nat.le_refl _) b4)
        have X4 := hide (HI.out.box.below K4.out HI.out.box.lt)
        have A4 : Hid (RecsAt v4 (q + 1) b s.recs.length c s.recs) := by rw [← SZ2.out]; exact HI.out.recs.below K4.out
        clear b3 b4 R4
        go_wp2
        go_ret3
        exact openP_ok NE.out HE.out B4.out QW.out X4.out A4.out
      | some bs =>
        rw [hr] at RD
        simp only [ReadVp] at RD
        obtain ⟨ht0, ht1⟩ := read_some HN.out hr
        obtain ⟨hbl, hbb⟩ := read_fit HV.out LW.out hr
        have RC := hide (fun v a' c' (hc' : bs.length ≤ c') (hr' : Row .u8 v a' bs.length bs) => records_of a' bs.length c' bs v (HRR.out _ _ hr) hc' hr' (by omega))
        have GM := hide (goW_more (D := false) (s := s) ht0 ht1 hr)
        have HS : Hid ((readF F (nmW (frm + (j : Int)))).isSome = true) := by rw [hz.out, hr]; rfl
        clear hr
        cases hrec : recsW false bs with
        | none =>
          have HE : Hid (openW false F frm = none) := by
            show _ = _
            rw [HI.out.eq, hz.out, GM.out]
            unfold stepW
            rw [hrec]
          rw [hrec] at RC
          simp only [RecsP] at RC
          clear hrec GM HS
          go_wp2_with fail
          with_reducible refine NM.out.mono ?_
          rintro e v3 ⟨rfl, b3⟩
          have B3 := hide (bel_to B0.out (Nat.le_refl _) b3)
          have R4 := hide (RD.out _ B3.out)
          clear NM RD
          go_wp2_with fail
          with_reducible refine R4.out.mono ?_
          rintro e v4 ⟨b4, a4, c4, rfl, o4⟩
          have B4 := hide (bel_to B3.out (Nat.le_refl _) b4)
          have K4 := hide (bel_to b3 (Nat.le_refl _) b4)
          have X4 := hide (HI.out.box.below K4.out HI.out.box.lt)
          have A4 := hide (HI.out.recs.below K4.out)
          have C5 := hide (RC.out v4 a4 c4 (OwnG.capped o4).1 (ownB_row o4 (by omega) hbb))
          clear b3 b4 R4 RC o4
          go_wp2_with fail
          with_reducible refine C5.out.mono ?_
          rintro e v5 ⟨b5, rfl⟩
          have B5 := hide (bel_to B4.out (Nat.le_refl _) b5)
          clear b5 C5
          go_wp2
          go_ret3
          exact openP_bad NE.out HE.out B5.out
        | some y =>
          obtain ⟨rs, en⟩ := y
          have hfit : rs.length ≤ en ∧ en ≤ bs.length := by
            have := recsF_fit (D := false) (show Bytes8 bs from hbb) (bs.length + 1) 0 rs en (by omega) hrec
            omega
          obtain ⟨hf1, hf2⟩ := hfit
          have ST : Hid (stepW false s z bs = if s.cut = -1 then some ⟨s.recs ++ rs, if en < bs.length then (en : Int) else -1, z, true⟩ else none) := by
            show _ = _
            unfold stepW
            rw [hrec]
          rw [hrec] at RC
          simp only [RecsP] at RC
          clear hrec
          obtain ⟨ct, hct⟩ : ∃ ct, Hid (s.cut = ct) := ⟨_, rfl⟩
          rw [hct.out] at ST
          by_cases hcut : ct = -1
          · subst hcut
            rw [if_pos rfl] at ST
            have HE : Hid (openW false F frm = goW false F (100000000 - (z + 1)).toNat (z + 1) ⟨s.recs ++ rs, if en < bs.length then (en : Int) else -1, z, true⟩) := by
              show _ = _
              rw [HI.out.eq, hz.out, GM.out, ST.out]
            have FW := hide (HW.out (j + 1) (fun i hi => by
              by_cases e : i < j
              · exact HI.out.few i e
              · obtain rfl : i = j := by omega
                exact HS.out))
            have FE : Hid (∀ i : Nat, i < j + 1 → (readF F (nmW (frm + i))).isSome = true) := fun i hi => by
              by_cases e : i < j
              · exact HI.out.few i e
              · obtain rfl : i = j := by omega
                exact HS.out
            clear GM ST HS
            go_wp2_with fail
            with_reducible refine NM.out.mono ?_
            rintro e v3 ⟨rfl, b3⟩
            have B3 := hide (bel_to B0.out (Nat.le_refl _) b3)
            have R4 := hide (RD.out _ B3.out)
            clear NM RD
            go_wp2_with fail
            with_reducible refine R4.out.mono ?_
            rintro e v4 ⟨b4, a4, c4, rfl, o4⟩
            have B4 := hide (bel_to B3.out (Nat.le_refl _) b4)
            have K4 := hide (bel_to b3 (Nat.le_refl _) b4)
            have X4 := hide (HI.out.box.below K4.out HI.out.box.lt)
            have A4 := hide (HI.out.recs.below K4.out)
            have C5 := hide (RC.out v4 a4 c4 (OwnG.capped o4).1 (ownB_row o4 (by omega) hbb))
            clear b3 b4 R4 RC o4
            go_wp2_with fail
            with_reducible refine C5.out.mono ?_
            rintro e v5 ⟨b5, a5, c5, rfl, q5⟩
            have B5 := hide (bel_to B4.out (Nat.le_refl _) b5)
            have Z5 := hide b5.size
            have X5 := hide (X4.out.below b5 X4.out.lt)
            have A5 := hide (A4.out.below b5)
            have Q5 := hide q5
            have L4 := hide (bel_to HI.out.bel QL.out K4.out)
            have L5 := hide (bel_to L4.out QL.out b5)
            have NB : Hid (∀ k, v4.heap.size ≤ k → offB v2.heap.size b s.recs.length c k) := fun k hk => ⟨Nat.le_trans L4.out.size hk, fun e => by
              obtain ⟨l, o, _⟩ := A4.out
              have := (OwnG.cellsT o k e).1.lt
              omega⟩
            obtain ⟨l, ol, sl, ml, nl⟩ := A5.out
            obtain ⟨l2, ol2, sl2, ml2, nl2⟩ := Q5.out
            have OL := hide ol
            have OL2 := hide ol2
            have SL : Hid (∀ p ∈ l ++ l2, SeeR (offB v2.heap.size b s.recs.length c) v5 p.1 p.2) := by
              intro p hp
              rcases List.mem_append.1 hp with hp | hp
              · exact sl p hp
              · exact (sl2 p hp).mono (fun k hk => NB.out k hk.1)
            have ML : Hid ((l ++ l2).map (·.1) = (s.recs ++ rs).map ofRc) := by
              show _ = _
              rw [List.map_append, List.map_append, ml, ml2]
            have NL : Hid (s.recs.length = 0 → b = none) := nl
            have BO : Hid ((a5 = none → rs.length = 0 ∧ c5 = 0) ∧ (a5 = none ∨ 0 < rs.length)) := ⟨(OwnG.capped ol2).2, by
              by_cases e : rs.length = 0
              · exact Or.inl (nl2 e)
              · exact Or.inr (by omega)⟩
            have LN : Hid (l2.length = rs.length) := OwnG.len recV_len (by decide) ol2
            have d3 : v5.cell? ⟨q, 3, none⟩ = some (.int .i64 (-1)) := by rw [← hct.out]; exact X5.out.cell (i := 3) rfl
            clear b5 q5 C5 ol sl ml nl ol2 sl2 ml2 nl2 A4 A5 Q5 NB X4 B4 K4 L4
            go_wp2_with (at_builtin; refine wpList_appAt recV_len (by decide) recV_one _ rfl _ _ 26 rfl v2.heap.size i0 _ 240 Tryz.underlying26 hi hz0 hz1 hz2 rfl b s.recs.length c l rfl OL.out a5 rs.length c5 l2 rfl LN.out (OwnG.cellsAll OL2.out) BO.out.1 BO.out.2 (by omega) (by omega) L5.out.size ?_)
            intro a6 c6 w6 o6 g6 n6 m6
            have M6 : rs.length = 0 → a6 = b := by
              intro e
              first
                | exact m6 e
                | exact m6 (List.length_eq_zero_iff.1 e)
            have A6 : Hid (RecsAt w6 v2.heap.size a6 (s.recs ++ rs).length c6 (s.recs ++ rs)) := by
              have t := RecsAt.grow OL.out SL.out o6 g6 n6 (s.recs ++ rs) ML.out (fun e => by rw [M6 (by omega)]; exact NL.out (by omega))
              rw [show (s.recs ++ rs).length = s.recs.length + rs.length from List.length_append]
              exact t
            have L6 : Hid (Below q v2 w6) := L5.out.trans (((Ch.grown g6).below L5.out.size (fun j hj e => by have := (OwnG.cellsT OL.out j e).2; omega)).mono QL.out)
            have X6 : Hid (BoxV w6 q 74 (logC g ⟨s.last, s.last, -1, false⟩)) := by
              have t := X5.out.ch (Ch.grown g6) (fun e => by have := (OwnG.cellsT OL.out q e).2; have := SZ2.out; omega)
              rw [hct.out] at t
              exact t
            clear d3
            have d1 := X6.out.cell (i := 1) rfl
            have f1 := X6.out.free 1
            have d2 := X6.out.cell (i := 2) rfl
            have f2 := X6.out.free 2
            obtain ⟨w7, hw7⟩ : ∃ w7, Hid ((w6.setCell ⟨q, 1, none⟩ (.int .i64 z)).setCell ⟨q, 2, none⟩ (.int .i64 z) = w7) := ⟨_, rfl⟩
            have X7 : Hid (BoxV w7 q 74 (logC g ⟨z, z, -1, false⟩)) := by rw [← hw7.out]; exact (X6.out.set 1 _).set 2 _
            have K7 : Hid (Ch (fun k => k = q) w6 w7) := by rw [← hw7.out]; exact (ch_set _ _ _ _).trans (ch_set _ _ _ _)
            have L7 : Hid (Below q v2 w7) := L6.out.trans (K7.out.below (Nat.le_trans QL.out L6.out.size) (fun k hk e => by omega))
            have A7 := hide (A6.out.ch K7.out (fun k hk e => by have := SZ2.out; omega))
            clear o6 n6 m6 M6 OL OL2 SL ML BO LN NL L5 X5 B5
            by_cases hen : en < bs.length
            · have e1 : (en : Int) < (bs.length : Int) := by omega
              rw [if_pos hen] at HE
              go_upto_region 15 with fail
              rw [hw7.out]
              clear hw7 d1 f1 d2 f2
              have d3 := X7.out.cell (i := 3) rfl
              have f3 := X7.out.free 3
              have X8 : Hid (BoxV (w7.setCell ⟨q, 3, none⟩ (.int .i64 (en : Int))) q 74 (logC g ⟨z, z, (en : Int), false⟩)) := X7.out.set 3 _
              have A8 := hide (A7.out.ch (ch_set w7 q 3 (.int .i64 (en : Int))) (fun k hk e => by have := SZ2.out; omega))
              have L8 : Hid (Below q v2 (w7.setCell ⟨q, 3, none⟩ (.int .i64 (en : Int)))) := L7.out.setCell (p := ⟨q, 3, none⟩) (Nat.le_refl q) _
              have JZ : Hid (frm + ((j + 1 : Nat) : Int) = z + 1) := by have := hz.out; show _ = _; omega
              have LL : Hid ((s.recs ++ rs).length = s.recs.length + rs.length) := List.length_append
              go_wp2
              go_roundw
              case rel => exact ⟨j + 1, ⟨s.recs ++ rs, (en : Int), z, true⟩, a6, c6, by rw [JZ.out], by show _ = Value.slice a6 (s.recs ++ rs).length c6; rw [LL.out], by rw [JZ.out]; omega, FW.out, by show (s.recs ++ rs).length ≤ _; rw [LL.out]; omega, ⟨Or.inr (by show 0 ≤ (en : Int); omega), by show (en : Int) ≤ _; omega, ht0, ht1, FE.out, by rw [JZ.out]; exact HE.out, X8.out, A8.out, L8.out⟩⟩
              case measure => first | (simp [intOf]; done) | (simp [intOf]; omega)
            · have e1 : ¬ (en : Int) < (bs.length : Int) := by omega
              rw [if_neg hen] at HE
              go_upto_region 15 with fail
              rw [hw7.out]
              clear hw7 d1 f1 d2 f2
              have JZ : Hid (frm + ((j + 1 : Nat) : Int) = z + 1) := by have := hz.out; show _ = _; omega
              have LL : Hid ((s.recs ++ rs).length = s.recs.length + rs.length) := List.length_append
              go_wp2
              go_roundw
              case rel => exact ⟨j + 1, ⟨s.recs ++ rs, -1, z, true⟩, a6, c6, by rw [JZ.out], by show _ = Value.slice a6 (s.recs ++ rs).length c6; rw [LL.out], by rw [JZ.out]; omega, FW.out, by show (s.recs ++ rs).length ≤ _; rw [LL.out]; omega, ⟨Or.inl rfl, by show (-1 : Int) ≤ _; omega, ht0, ht1, FE.out, by rw [JZ.out]; exact HE.out, X7.out, A7.out, L7.out⟩⟩
              case measure => first | (simp [intOf]; done) | (simp [intOf]; omega)
          · rw [if_neg hcut] at ST
            have HE : Hid (openW false F frm = none) := by
              show _ = _
              rw [HI.out.eq, hz.out, GM.out, ST.out]
            have nc : (ct != -1) = true := by simpa using hcut
            clear GM ST HS
            go_wp2_with fail
            with_reducible refine NM.out.mono ?_
            rintro e v3 ⟨rfl, b3⟩
            have B3 := hide (bel_to B0.out (Nat.le_refl _) b3)
            have R4 := hide (RD.out _ B3.out)
            clear NM RD
            go_wp2_with fail
            with_reducible refine R4.out.mono ?_
            rintro e v4 ⟨b4, a4, c4, rfl, o4⟩
            have B4 := hide (bel_to B3.out (Nat.le_refl _) b4)
            have K4 := hide (bel_to b3 (Nat.le_refl _) b4)
            have X4 := hide (HI.out.box.below K4.out HI.out.box.lt)
            have A4 := hide (HI.out.recs.below K4.out)
            have C5 := hide (RC.out v4 a4 c4 (OwnG.capped o4).1 (ownB_row o4 (by omega) hbb))
            clear b3 b4 R4 RC o4
            go_wp2_with fail
            with_reducible refine C5.out.mono ?_
            rintro e v5 ⟨b5, a5, c5, rfl, q5⟩
            have B5 := hide (bel_to B4.out (Nat.le_refl _) b5)
            have d3 : v5.cell? ⟨q, 3, none⟩ = some (.int .i64 ct) := by rw [← hct.out]; exact (X4.out.below b5 X4.out.lt).cell (i := 3) rfl
            clear b5 q5 C5
            go_wp2
            go_ret3
            exact openP_bad NE.out HE.out B5.out
end Go.Proofs.YtknghoecjobkiabGreatDoor

namespace Go.Proofs.YtknghoecjobkiabGreatDoor
open Go.RowKit Go.Maps
set_option maxRecDepth 20000
set_option linter.unusedVariables false

/-- A log that lies from here on. -/
def OnG (base : Nat) (w u : World) (g q : Nat) (F : Fs) (L : Lg) : Prop := ∃ S, GAt g u q S (F, L) ∧ (∀ k, S k → base ≤ k) ∧ Below base w u ∧ base ≤ u.heap.size
section
variable {base m : Nat} {w u v : World} {g q : Nat} {F F' : Fs} {L L' : Lg}
theorem OnG.tab (h : OnG base w u g q F L) : TbP u := by
  obtain ⟨S, ⟨_, _, _, _, t, _⟩, _⟩ := h
  exact t
theorem OnG.bel (h : OnG base w u g q F L) : Below base w u := by
  obtain ⟨S, _, _, b, _⟩ := h
  exact b
theorem OnG.fs (h : OnG base w u g q F L) : OnL base w u g F := by
  obtain ⟨S, ⟨S0, h1, _, _, _, _, h6, _⟩, h2, h3, h4⟩ := h
  exact ⟨S0, h1, fun k hk => h2 k ((h6 k).2 (Or.inl hk)), h3, h4⟩
theorem OnL.good (h : OnL base w u g F) : GoodV F ∧ GoodN F := by
  obtain ⟨S, ⟨a, b, _⟩, _⟩ := h
  exact ⟨a, b⟩
theorem onG_rn {S : Nat → Prop} (h2 : ∀ k, S k → base ≤ k) (h3 : Below base w u) (h4 : base ≤ u.heap.size) (r : Rn g q S u v F' L') : OnG base w v g q F' L' := by
  obtain ⟨S1, k1, k2, k3⟩ := r
  exact ⟨S1, k1, fun k hk => by
    rcases k2 k hk with e | e
    · exact h2 k e
    · omega, h3.trans (k3.below h4 (fun k hk e => by have := h2 k e; omega)), Nat.le_trans h4 k3.size⟩
theorem ong_ready (h : OnG base w u g q F L) (hL : LimB m F) (hm : m + 10 ≤ 1073741824) : Calls Tryz.prog 7 #[.pointer (some ⟨q, 0, none⟩)] u fun e u' => e = .returned (.int .i64 (readyG F L).2.1) ∧ OnG base w u' g q (readyG F L).1 (readyG F L).2.2 := by
  obtain ⟨S, h1, h2, h3, h4⟩ := h
  exact (wready_any g q S u u F L m (rn_refl h1) hL hm).mono (fun e v ⟨he, r⟩ => ⟨he, onG_rn h2 h3 h4 r⟩)
/-- A record from elsewhere: below, or made behind the log. -/
theorem ong_append_of (h : OnG base w u g q F L) (b : Below u.heap.size u v) (hL : LimB m F) (hm : m + 200000 ≤ 1073741824) {Sx : Nat → Prop} {x : RecX} {hh : RecH} (sx : SeeR Sx v x hh) (hd : ∀ k, Sx k → k < base ∨ u.heap.size ≤ k) (hx : PutsX Sx x hh) :
    Calls Tryz.prog 10 #[.pointer (some ⟨q, 0, none⟩), (Value.agg #[.int .i64 (RecX.seq x), .int .i64 (RecX.kind x), .slice (RecH.la hh) (RecH.ln hh) (RecH.lc hh), .int .i64 (RecX.at9 x), .slice (Hd.a (RecH.sk hh)) (Hd.n (RecH.sk hh)) (Hd.c (RecH.sk hh)), .slice (Hd.k (RecH.sk hh)) (Hd.m (RecH.sk hh)) (Hd.d (RecH.sk hh)), .int .u64 (Gz.n (Sp.g (RecX.sk x))), .int .u64 (Gz.nans (Sp.g (RecX.sk x))), .int .u64 (Gz.lo (Sp.g (RecX.sk x))), .int .u64 (Gz.hi (Sp.g (RecX.sk x))), .int .i64 (RecX.tseq x), .int .i64 (Hm.op (RecH.m hh)), .string (Hm.nm (RecH.m hh)), .string (Hm.vl (RecH.m hh)), .slice (Hm.va (RecH.m hh)) (Hm.vn (RecH.m hh)) (Hm.vc (RecH.m hh)), .slice (Hm.ka (RecH.m hh)) (Hm.kn (RecH.m hh)) (Hm.kc (RecH.m hh)), .int .i64 (RecX.frm x), .int .i64 (RecX.till x)])] v fun e v' => e = .returned (.int .i64 (appendW F L.last (putRc (rcX x))).2.1) ∧ OnG base w v' g q (appendW F L.last (putRc (rcX x))).1 { L with last := (appendW F L.last (putRc (rcX x))).2.2 } := by
  obtain ⟨S, h1, h2, h3, h4⟩ := h
  refine (wappend_of g q S Sx v F L m x hh (h1.below b) hL hm sx (fun k hk e => ?_) hx).mono (fun e v' ⟨he, r⟩ => ⟨he, onG_rn h2 (h3.trans (b.mono h4)) (Nat.le_trans h4 b.size) r⟩)
  have e1 := h2 k e
  have e2 := h1.lt k e
  rcases hd k hk with e3 | e3 <;> omega
/-- What an opening tells, of a file system that lies from here on. -/
def OnOpen (base : Nat) (w : World) (g : Nat) (F : Fs) (frm : Int) (u : World) (e : Ending) (u' : World) : Prop :=
  if nmW frm = ByteArray.empty then e = .returned (.tuple #[.pointer none, .slice none 0 0, .int .i64 1]) ∧ OnL base w u' g F
  else match openW false F frm with
  | none => e = .returned (.tuple #[.pointer none, .slice none 0 0, .int .i64 13]) ∧ OnL base w u' g F
  | some s => ∃ q a c, e = .returned (.tuple #[.pointer (some ⟨q, 0, none⟩), .slice a s.recs.length c, .int .i64 0]) ∧ OnG base w u' g q F ⟨s.last, s.last, s.cut, false⟩ ∧ RecsAt u' u.heap.size a s.recs.length c s.recs
end
/-- What an opening finds is as it may be. -/
theorem goW_wf {D : Bool} {F : Fs} {m : Nat} (hV : GoodV F) (hN : GoodN F) (hL : LimB m F) (hm : m ≤ 67108864) : ∀ (f : Nat) (n : Int) (s t : Ow), (0 ≤ s.last ∧ s.last ≤ 99999999 ∧ -1 ≤ s.cut ∧ s.cut ≤ 67108864) → goW D F f n s = some t → 0 ≤ t.last ∧ t.last ≤ 99999999 ∧ -1 ≤ t.cut ∧ t.cut ≤ 67108864
  | 0, n, s, t, hs, h => by
    obtain rfl : s = t := by simpa [goW] using h
    exact hs
  | f + 1, n, s, t, hs, h => by
    unfold goW at h
    cases hr : readF F (nmW n) with
    | none =>
      rw [hr] at h
      obtain rfl : s = t := by simpa using h
      exact hs
    | some bs =>
      rw [hr] at h
      dsimp only at h
      cases hst : stepW D s n bs with
      | none => rw [hst] at h; cases h
      | some s' =>
        rw [hst] at h
        dsimp only at h
        obtain ⟨n0, n1⟩ := read_some hN hr
        obtain ⟨hbl, hbb⟩ := read_fit hV hL hr
        refine goW_wf hV hN hL hm f (n + 1) s' t ?_ h
        unfold stepW at hst
        cases hq : recsW D bs with
        | none => rw [hq] at hst; cases hst
        | some y =>
          rw [hq] at hst
          dsimp only at hst
          split at hst
          · obtain rfl := Option.some.inj hst
            refine ⟨n0, n1, ?_⟩
            dsimp only
            split <;> omega
          · cases hst
theorem openW_wf {D : Bool} {F : Fs} {m : Nat} (hV : GoodV F) (hN : GoodN F) (hL : LimB m F) (hm : m ≤ 67108864) {frm : Int} {t : Ow} (h0 : 0 ≤ frm) (h1 : frm ≤ 99999999) (h : openW D F frm = some t) : LgW ⟨t.last, t.last, t.cut, false⟩ := by
  obtain ⟨a, b, c, d⟩ := goW_wf hV hN hL hm _ _ _ _ ⟨h0, h1, by show -1 ≤ (-1 : Int); omega, by show (-1 : Int) ≤ _; omega⟩ h
  exact ⟨a, b, a, b, c, by show t.cut ≤ _; omega⟩
theorem on_open_of {base m : Nat} {w u : World} {g : Nat} {F : Fs} (h : OnL base w u g F) (hR : ∀ (n : Int) (bs : List Int), readF F (nmW n) = some bs → GrF bs) (hT : TbP w) (hb : w.heap.size ≤ base) (hL : LimB m F) (hm : m ≤ 67108864) (frm : Int) (hf : (Lit.int .i64 frm).wf = true) (hW : FewF F frm) :
    Calls Tryz.prog 6 #[.pointer (some ⟨g, 0, none⟩), .int .i64 frm] u fun e u' => OnOpen base w g F frm u e u' := by
  have hg := h.good
  have h' := h
  obtain ⟨S, h1, h2, h3, h4⟩ := h
  have tu : TbP u := hT.to h3 hb
  have hp : gPw < base := Nat.lt_of_lt_of_le hT.lt hb
  refine (open_of g S F m frm u hR h1 tu hL hm hf hW).mono ?_
  rintro e v ⟨b, hc⟩
  unfold OnOpen
  by_cases h0 : nmW frm = ByteArray.empty
  · rw [if_pos h0] at hc ⊢
    exact ⟨hc, h'.below b⟩
  · rw [if_neg h0] at hc ⊢
    cases ho : openW false F frm with
    | none =>
      rw [ho] at hc
      exact ⟨hc, h'.below b⟩
    | some s =>
      rw [ho] at hc
      obtain ⟨q, a, c, he, hq, hx, hr⟩ := hc
      have hfr := mt nmW_empty.2 h0
      refine ⟨q, a, c, he, ⟨fun k => S k ∨ k = q, ⟨S, h1.below b, hx, fun e => ?_, tu.bel b, fun e => ?_, fun k => Iff.rfl, openW_wf hg.1 hg.2 hL hm (by omega) (by omega) ho⟩, fun k hk => ?_, h3.trans (b.mono h4), Nat.le_trans h4 b.size⟩, hr.mono (by omega)⟩
      · have := h1.lt q e
        omega
      · rcases e with e | e
        · have := h2 _ e
          omega
        · omega
      · rcases hk with e | e
        · exact h2 k e
        · omega
end Go.Proofs.YtknghoecjobkiabGreatDoor

namespace Go.Proofs.YtknghoecjobkiabGreatDoor
open Go.RowKit
set_option maxRecDepth 20000

def ObW (o : Ob) : Prop := Word o.v ∧ Word o.b ∧ o.t.size ≤ 9223372036854775807
theorem insS_mrg {k c : Int} (h0 : 0 ≤ k) (h1 : k ≤ 7423) (hc : 0 < c ∧ c < 18446744073709551616) {l : Bks} (h : Good l) : insS k c l = mrg l [(k, c)] := by
  have g1 : Good [(k, c)] := by
    refine ⟨?_, fun x hx => ?_⟩
    · show checkF (-1) [(k, c)] = true
      rw [checkF_cons]
      exact ⟨by omega, h1, hc.1, rfl⟩
    · rw [List.mem_singleton.1 hx]; exact ⟨Int.le_of_lt hc.1, hc.2⟩
  have g2 : Good (insS k c l) := by
    have := h.add h0 h1 ⟨Int.le_of_lt hc.1, hc.2⟩
    unfold addN at this
    rwa [if_neg (by omega)] at this
  refine g2.ext (h.mrg g1) (fun i => ?_)
  rw [h.get g1, insS_get hc.2 h.check]
  have e : getN [(k, c)] i = if i = k then c else 0 := by
    simp only [getN]
    by_cases e : i = k
    · subst e; simp
    · rw [if_neg e, if_neg (fun x => e x.symm)]
  rw [e]
  by_cases e : i = k
  · rw [if_pos e, if_pos e, e]
  · rw [if_neg e, if_neg e]
    have := h.word i
    unfold satS
    split <;> omega
theorem Ok.one {o : Ob} (h : ObW o) : Ok (addP zeroP o) := by
  obtain ⟨b0, b1⟩ := bucketS_range h.1.1 h.1.2
  refine ⟨?_, ?_, ?_, addG_word g0W h.2.1, addG_chk g0W h.2.1 chk0⟩
  · show Good (insS (bucketS o.v) 1 [])
    have := Good.nil.add b0 b1 (c := 1) ⟨by decide, by decide⟩
    exact this
  · exact up_chk (hashK_up List.Pairwise.nil) (hashK_len _ _ _) (fun x hx => by rw [List.mem_singleton.1 (List.mem_of_mem_take hx)]; exact fnvOf_word _)
  · intro x hx
    rw [List.mem_singleton.1 (List.mem_of_mem_take hx)]
    exact fnvOf_word _
theorem addP_merge {s : Sp} (a : Ok s) {o : Ob} (h : ObW o) : addP s o = mergeP s (addP zeroP o) := by
  obtain ⟨b0, b1⟩ := bucketS_range h.1.1 h.1.2
  refine Sp.ext' (insS_mrg b0 b1 ⟨by decide, by decide⟩ a.h) ?_ ?_
  · show (insK _ s.keys).take 1024 = (uni s.keys ([_].take 1024)).take 1024
    rfl
  · show addG s.g o.b = mergeG s.g (addG g0 o.b)
    rw [addG_g0 h.2.1]; rfl
theorem Ok.add {s : Sp} (a : Ok s) {o : Ob} (h : ObW o) : Ok (addP s o) := by rw [addP_merge a h]; exact a.merge (Ok.one h)
theorem Ok.adds {s : Sp} (a : Ok s) {l : List Ob} (h : ∀ o ∈ l, ObW o) : Ok (l.foldl addP s) := by
  induction l generalizing s with
  | nil => exact a
  | cons o t ih => exact ih (a.add (h o (List.mem_cons_self ..))) (fun x hx => h x (List.mem_cons_of_mem _ hx))
theorem Ok.of {l : List Ob} (h : ∀ o ∈ l, ObW o) : Ok (ofP l) := ok_zero.adds h
end Go.Proofs.YtknghoecjobkiabGreatDoor

namespace Go.Proofs.YtknghoecjobkiabGreatDoor
open Go.RowKit
set_option maxRecDepth 20000

theorem insS_at {k c d : Int} {t : Bks} : insS k c ((k, d) :: t) = (k, satS d c) :: t := by rw [insS, if_pos rfl]
theorem insS_gt {j k c d : Int} {t : Bks} (h : k < j) : insS k c ((j, d) :: t) = (k, c) :: (j, d) :: t := by rw [insS, if_neg (by omega), if_pos h]
theorem insS_lt {j k c d : Int} {t : Bks} (h : j < k) : insS k c ((j, d) :: t) = (j, d) :: insS k c t := by rw [insS, if_neg (by omega), if_neg (by omega)]

set_option maxHeartbeats 8000000 in
theorem rhadd_any (a : Option Addr) (n cap : Nat) (l : Bks) (k c : Int) (w : World) (hr : RowB w a n l) (hn : (n + 2) * 16 ≤ 140737488355328) (hk : (Lit.int .i64 k).wf = true) (hc : W64 c) :
    Calls Tryz.prog 63 #[.slice a n cap, .int .i64 k, .int .u64 c] w fun e w' => ∃ a' c', e = .returned (.slice a' (addN l k c).length c') ∧ OwnB w' w.heap.size a' (addN l k c).length c' (addN l k c) ∧ Below w.heap.size w w' := by
  obtain ⟨i0, hi, hz0, hz1, hz2⟩ := info_parts Tryz.infoB
  have HR := hide hr
  have HL := hide hr.1
  have HC := hide hc
  obtain ⟨c0, c1⟩ := hc
  obtain ⟨k0, k1⟩ := i64_of_wf hk
  obtain ⟨M, hM⟩ : ∃ M, addN l k c = M := ⟨_, rfl⟩
  have HM := hide hM
  rw [hM]
  clear hr hk hM
  obtain ⟨d0, hd0⟩ : ∃ d0, (c == 0) = d0 := ⟨_, rfl⟩
  have HD0 : Hid ((if d0 then l else insS k c l) = M) := by
    show _ = _
    rw [← HM.out, ← hd0]
    unfold addN
    simp
  go_enter Tryz.func63, Tryz.ntmps63
  go_wp2
  clear hd0
  go_loopw [7, 8, 9] (fun m dn i wr => ∃ (am : Option Addr) (nm cm j : Nat) (D : Bool) (pre : Bks), m = .slice am nm cm ∧ dn = .bool D ∧ i = .int .i64 j ∧ j ≤ n ∧ nm ≤ j + 1 ∧ Hid (pre.length = nm ∧ pre ++ (if D then l.drop j else insS k c (l.drop j)) = M) ∧ Hid (D = false → nm = j) ∧ Hid (OwnB wr w.heap.size am nm cm pre) ∧ Hid (Below w.heap.size w wr)) (fun _ _ i _ => n - (intOf i).toNat)
  case atStart => exact ⟨none, 0, 0, 0, d0, [], rfl, rfl, rfl, by omega, by omega, ⟨rfl, HD0.out⟩, fun _ => rfl, ownB_nil _ _, Below.refl _ _⟩
  case round =>
    obtain ⟨am, nm, cm, j, D, pre, rfl, rfl, rfl, hj, hnm, HP, HD, HO, HB⟩ := hrel
    by_cases hlt : j < n
    · obtain ⟨-, -, hfit, h | ⟨b, off, rfl, hcell⟩⟩ := HR.out.below HB.out (Nat.le_refl _)
      · omega
      obtain ⟨g0, g1⟩ := hcell j hlt
      have HY := hide (u64_of_wf (getD_fit hfit j).2)
      have HDR := hide (drop_bks (l := l) (k := j) (by rw [HL.out]; exact hlt))
      have i1 : (0 : Int) ≤ (j : Int) := by omega
      have i2 : (j : Int) < (n : Int) := by omega
      have HBW : Hid (w.heap.size ≤ wr.heap.size) := HB.out.size
      have HG : Hid (∀ W, Below w.heap.size w W → W.cell? ⟨b, off + j * 2, none⟩ = some (.int .i64 (l.getD j (0, 0)).1) ∧ W.cell? ⟨b, off + j * 2 + 1, none⟩ = some (.int .u64 (l.getD j (0, 0)).2)) := by
        intro W hW
        obtain ⟨-, -, -, h | ⟨b', off', e', hcell'⟩⟩ := HR.out.below hW (Nat.le_refl _)
        · omega
        · simp only [Option.some.injEq, Addr.mk.injEq, and_true] at e'
          obtain ⟨rfl, rfl⟩ := e'
          exact hcell' j hlt
      clear hcell hfit
      generalize l.getD j (0, 0) = x at *
      obtain ⟨x, y⟩ := x
      simp only at g0 g1 HY HG
      cases D
      · have hnj := HD.out rfl
        subst hnj
        by_cases e1 : x = k
        · have t1 : (x == k) = true := by simpa using e1
          have A := hide (fun w => refadd_any y c HY.out HC.out w)
          rw [satS_addS] at A
          have HN : Hid ((pre ++ [(k, satS y c)]).length = nm + 1 ∧ (pre ++ [(k, satS y c)]) ++ (if true then l.drop (nm + 1) else insS k c (l.drop (nm + 1))) = M) := by
            refine ⟨by rw [List.length_append, HP.out.1]; rfl, ?_⟩
            have := HP.out.2
            rw [HDR.out, e1, if_neg (by decide), insS_at] at this
            rw [← this]; simp
          generalize satS y c = S at *
          clear e1
          go_wp2_with fail
          refine (A.out _).mono ?_
          rintro e w' ⟨rfl, rfl⟩
          go_wp2_with (at_builtin; refine wpList_append_bks _ rfl _ _ 34 rfl w.heap.size i0 Tryz.underlying34 hi hz0 hz1 hz2 am nm cm pre rfl (HO.out.alloc _) ⟨w'.heap.size, 0, none⟩ 1 1 [(k, S)] rfl rfl (two_cells w' (k, S) _) (by omega) (by have := HBW.out; simp; omega) ?_)
          intro a2 c2 w2 o2 b2
          have O2 := hide o2
          have K2 : Hid (Below w.heap.size w w2) := (bel_al HB.out (Nat.le_refl _) _).trans b2
          clear o2 b2 HO HB A g0 g1
          go_wp2
          go_roundw
          case rel => exact ⟨a2, nm + 1, c2, nm + 1, true, _, rfl, rfl, by go_num, by omega, by omega, HN, fun h => by simp at h, O2, K2⟩
          case measure => simp [intOf]; omega
        · have t1 : (x == k) = false := by simpa using e1
          by_cases e2 : k < x
          · have t2 : decide (k < x) = true := decide_eq_true e2
            have HN : Hid ((pre ++ [(k, c)] ++ [(x, y)]).length = nm + 1 + 1 ∧ (pre ++ [(k, c)] ++ [(x, y)]) ++ (if true then l.drop (nm + 1) else insS k c (l.drop (nm + 1))) = M) := by
              refine ⟨by rw [List.length_append, List.length_append, HP.out.1]; rfl, ?_⟩
              have := HP.out.2
              rw [HDR.out, if_neg (by decide), insS_gt e2] at this
              rw [← this]; simp
            clear e1 e2
            go_wp2_with (at_builtin; refine wpList_append_bks _ rfl _ _ 34 rfl w.heap.size i0 Tryz.underlying34 hi hz0 hz1 hz2 am nm cm pre rfl (HO.out.alloc _) ⟨wr.heap.size, 0, none⟩ 1 1 [(k, c)] rfl rfl (two_cells wr (k, c) _) (by omega) (by have := HBW.out; simp; omega) ?_)
            intro a2 c2 w2 o2 b2
            have O2 := hide o2
            have K2 : Hid (Below w.heap.size w w2) := (bel_al HB.out (Nat.le_refl _) _).trans b2
            obtain ⟨f0, f1⟩ := HG.out w2 K2.out
            have HBW2 : Hid (w.heap.size ≤ w2.heap.size) := K2.out.size
            clear o2 b2 HO HB g0 g1 HBW
            have HBW := HBW2
            go_wp2_with (at_builtin; refine wpList_append_bks _ rfl _ _ 34 rfl w.heap.size i0 Tryz.underlying34 hi hz0 hz1 hz2 a2 (nm + 1) c2 _ rfl (O2.out.alloc _) ⟨w2.heap.size, 0, none⟩ 1 1 [(x, y)] rfl rfl (two_cells w2 (x, y) _) (by omega) (by have := HBW.out; simp; omega) ?_)
            intro a3 c3 w3 o3 b3
            have O3 : Hid (OwnB w3 w.heap.size a3 (nm + 1 + 1) c3 (pre ++ [(k, c)] ++ [(x, y)])) := by rw [List.append_assoc]; exact o3
            have K3 : Hid (Below w.heap.size w w3) := (bel_al K2.out (Nat.le_refl _) _).trans b3
            clear o3 b3 O2 K2 f0 f1
            go_wp2
            go_roundw
            case rel => exact ⟨a3, nm + 1 + 1, c3, nm + 1, true, _, rfl, rfl, by go_num, by omega, by omega, HN, fun h => by simp at h, O3, K3⟩
            case measure => simp [intOf]; omega
          · have t2 : decide (k < x) = false := decide_eq_false e2
            have HN : Hid ((pre ++ [(x, y)]).length = nm + 1 ∧ (pre ++ [(x, y)]) ++ (if false then l.drop (nm + 1) else insS k c (l.drop (nm + 1))) = M) := by
              refine ⟨by rw [List.length_append, HP.out.1]; rfl, ?_⟩
              have := HP.out.2
              rw [HDR.out, if_neg (by decide), insS_lt (by omega)] at this
              rw [← this]; simp
            clear e1 e2
            go_wp2_with (at_builtin; refine wpList_append_bks _ rfl _ _ 34 rfl w.heap.size i0 Tryz.underlying34 hi hz0 hz1 hz2 am nm cm pre rfl (HO.out.alloc _) ⟨wr.heap.size, 0, none⟩ 1 1 [(x, y)] rfl rfl (two_cells wr (x, y) _) (by omega) (by have := HBW.out; simp; omega) ?_)
            intro a2 c2 w2 o2 b2
            have O2 := hide o2
            have K2 : Hid (Below w.heap.size w w2) := (bel_al HB.out (Nat.le_refl _) _).trans b2
            clear o2 b2 HO HB g0 g1
            go_wp2
            go_roundw
            case rel => exact ⟨a2, nm + 1, c2, nm + 1, false, _, rfl, rfl, by go_num, by omega, by omega, HN, fun _ => rfl, O2, K2⟩
            case measure => simp [intOf]; omega
      · have HN : Hid ((pre ++ [(x, y)]).length = nm + 1 ∧ (pre ++ [(x, y)]) ++ (if true then l.drop (j + 1) else insS k c (l.drop (j + 1))) = M) := by
          refine ⟨by rw [List.length_append, HP.out.1]; rfl, ?_⟩
          have := HP.out.2
          rw [HDR.out, if_pos (by decide)] at this
          rw [← this]; simp
        go_wp2_with (at_builtin; refine wpList_append_bks _ rfl _ _ 34 rfl w.heap.size i0 Tryz.underlying34 hi hz0 hz1 hz2 am nm cm pre rfl (HO.out.alloc _) ⟨wr.heap.size, 0, none⟩ 1 1 [(x, y)] rfl rfl (two_cells wr (x, y) _) (by omega) (by have := HBW.out; simp; omega) ?_)
        intro a2 c2 w2 o2 b2
        have O2 := hide o2
        have K2 : Hid (Below w.heap.size w w2) := (bel_al HB.out (Nat.le_refl _) _).trans b2
        clear o2 b2 HO HB g0 g1
        go_wp2
        go_roundw
        case rel => exact ⟨a2, nm + 1, c2, j + 1, true, _, rfl, rfl, by go_num, by omega, by omega, HN, fun h => by simp at h, O2, K2⟩
        case measure => simp [intOf]; omega
    · have : j = n := by omega
      subst this
      have HBW : Hid (w.heap.size ≤ wr.heap.size) := HB.out.size
      have HDR : Hid (l.drop j = []) := List.drop_of_length_le (by rw [HL.out]; omega)
      cases D
      · have HN : Hid (pre ++ [(k, c)] = M ∧ M.length = nm + 1) := by
          have := HP.out.2
          rw [HDR.out, if_neg (by decide), insS] at this
          exact ⟨this, by rw [← this, List.length_append, HP.out.1]; rfl⟩
        go_wp2_with (at_builtin; refine wpList_append_bks _ rfl _ _ 34 rfl w.heap.size i0 Tryz.underlying34 hi hz0 hz1 hz2 am nm cm pre rfl (HO.out.alloc _) ⟨wr.heap.size, 0, none⟩ 1 1 [(k, c)] rfl rfl (two_cells wr (k, c) _) (by omega) (by have := HBW.out; simp; omega) ?_)
        intro a2 c2 w2 o2 b2
        rw [HN.out.1] at o2
        have O2 := hide o2
        have K2 : Hid (Below w.heap.size w w2) := (bel_al HB.out (Nat.le_refl _) _).trans b2
        clear o2 b2 HO HB
        go_wp2
        go_ret
        rw [HN.out.2]
        exact ⟨a2, c2, rfl, O2, K2⟩
      · have HN : Hid (pre = M ∧ M.length = nm) := by
          have := HP.out.2
          rw [HDR.out, if_pos (by decide), List.append_nil] at this
          exact ⟨this, by rw [← this]; exact HP.out.1⟩
        rw [HN.out.1] at HO
        go_wp2
        go_ret
        rw [HN.out.2]
        exact ⟨am, cm, rfl, HO, HB⟩
end Go.Proofs.YtknghoecjobkiabGreatDoor

namespace Go.Proofs.YtknghoecjobkiabGreatDoor
open Go.RowKit
set_option maxRecDepth 20000

theorem take_ob {l : List Ob} {k : Nat} (h : k < l.length) : l.take (k + 1) = l.take k ++ [l.getD k ob0] := by
  rw [List.take_succ_eq_append_getElem h, List.getD_eq_getElem?_getD, List.getElem?_eq_getElem h]
  rfl
theorem ofP_more {l : List Ob} {k : Nat} (h : k < l.length) : ofP (l.take (k + 1)) = addP (ofP (l.take k)) (l.getD k ob0) := by
  rw [take_ob h]
  show (l.take k ++ [_]).foldl addP zeroP = _
  rw [List.foldl_append]
  rfl
theorem ob_getD {l : List Ob} (h : ∀ o ∈ l, ObW o) (i : Nat) : ObW (l.getD i ob0) := by
  by_cases hi : i < l.length
  · rw [List.getD_eq_getElem?_getD, List.getElem?_eq_getElem hi]
    exact h _ (List.getElem_mem hi)
  · rw [List.getD_eq_getElem?_getD, List.getElem?_eq_none (by omega)]
    exact ⟨⟨by decide, by decide⟩, ⟨by decide, by decide⟩, by decide⟩
theorem bk_wf {x : Int} (h0 : 0 ≤ x) (h1 : x ≤ 7423) : (Lit.int .i64 x).wf = true := by
  simp [Lit.wf, IntKind.min, IntKind.max, IntKind.signed, IntKind.bits]
  omega
theorem rowO_at {w : World} {a : Option Addr} {n : Nat} {l : List Ob} (h : RowO w a n l) {j : Nat} (hj : j < n) : ∃ b off, a = some ⟨b, off, none⟩ ∧ ∀ W, Below w.heap.size w W → W.cell? ⟨b, off + j * 3, none⟩ = some (.int .u64 (l.getD j ob0).v) ∧ W.cell? ⟨b, off + j * 3 + 1, none⟩ = some (.string (l.getD j ob0).t) ∧ W.cell? ⟨b, off + j * 3 + 2, none⟩ = some (.int .u64 (l.getD j ob0).b) := by
  obtain ⟨_, _, _, h0 | ⟨b, off, rfl, hc⟩⟩ := h
  · omega
  · refine ⟨b, off, rfl, fun W hW => ?_⟩
    have hlt : b < w.heap.size := World.block_lt_of_cell? w _ (hc j hj).1
    rw [hW.cell (p := ⟨b, off + j * 3, none⟩) hlt, hW.cell (p := ⟨b, off + j * 3 + 1, none⟩) hlt, hW.cell (p := ⟨b, off + j * 3 + 2, none⟩) hlt]
    exact hc j hj

theorem RowB.set {w : World} {a : Option Addr} {n : Nat} {l : Bks} (h : RowB w a n l) {b : Nat} (hb : ∀ x, a = some x → x.block ≠ b) (o : Nat) (v : Value) : RowB (w.setCell ⟨b, o, none⟩ v) a n l := by
  obtain ⟨h1, h2, h3, h4⟩ := h
  refine ⟨h1, h2, h3, ?_⟩
  rcases h4 with h4 | ⟨b', off, rfl, hc⟩
  · exact Or.inl h4
  · refine Or.inr ⟨b', off, rfl, fun i hi => ?_⟩
    have e : ∀ j, (w.setCell ⟨b, o, none⟩ v).cell? ⟨b', j, none⟩ = w.cell? ⟨b', j, none⟩ := fun j => World.cell?_of_block (w := w) (Below.heap_setCell w _ v b' (hb _ rfl))
    rw [e, e]
    exact hc i hi
theorem Row.set {k : IntKind} {w : World} {a : Option Addr} {n : Nat} {l : List Int} (h : Row k w a n l) {b : Nat} (hb : ∀ x, a = some x → x.block ≠ b) (o : Nat) (v : Value) : Row k (w.setCell ⟨b, o, none⟩ v) a n l := by
  obtain ⟨h1, h2, h3, h4⟩ := h
  refine ⟨h1, h2, h3, ?_⟩
  rcases h4 with h4 | ⟨b', off, rfl, hc⟩
  · exact Or.inl h4
  · refine Or.inr ⟨b', off, rfl, fun i hi => ?_⟩
    have e : ∀ j, (w.setCell ⟨b, o, none⟩ v).cell? ⟨b', j, none⟩ = w.cell? ⟨b', j, none⟩ := fun j => World.cell?_of_block (w := w) (Below.heap_setCell w _ v b' (hb _ rfl))
    rw [e]
    exact hc i hi
theorem SBox.setg {w : World} {b : Nat} {h : Hd} {g : Gz} (q : SBox w b h g) (z : Gz) : SBox ((((w.setCell ⟨b, 2, none⟩ (.int .u64 z.n)).setCell ⟨b, 3, none⟩ (.int .u64 z.nans)).setCell ⟨b, 4, none⟩ (.int .u64 z.lo)).setCell ⟨b, 5, none⟩ (.int .u64 z.hi)) b h z := by
  obtain ⟨l, ⟨c0, c1, c2, c3, c4, c5⟩, f⟩ := q
  exact ⟨by simp [go_sem, l], ⟨by simp [go_sem, c0], by simp [go_sem, c1], by simp [go_sem, c2], by simp [go_sem, c3], by simp [go_sem, c4], by simp [go_sem, c5]⟩, fun i => by simp [go_sem, f]⟩

/-- The document's own sketch that grows: its answer's box, its own box, its lists. -/
structure Rf (w W : World) (x y : Nat) (h : Hd) (s : Sp) : Prop where
  low : Below w.heap.size w W
  res : SBox W x hd0 g0
  box : SBox W y h s.g
  see : SeeP W h s
  ne : x ≠ y ∧ w.heap.size ≤ x ∧ w.heap.size ≤ y
  fa : ∀ b, h.a = some b → b.block ≠ x ∧ b.block ≠ y ∧ w.heap.size ≤ b.block
  fk : ∀ b, h.k = some b → b.block ≠ x ∧ b.block ≠ y ∧ w.heap.size ≤ b.block
section
variable {w W W' : World} {x y : Nat} {h : Hd} {s : Sp}
theorem Rf.below (q : Rf w W x y h s) (b : Below W.heap.size W W') : Rf w W' x y h s :=
  ⟨bel_to q.low (Nat.le_refl _) b, q.res.below b q.res.lt, q.box.below b q.box.lt, q.see.below b (Nat.le_refl _), q.ne, q.fa, q.fk⟩
theorem Rf.drew (q : Rf w W x y h s) : Rf w W.drew x y h s := q.below (Below.refl _ _).drew
theorem Rf.setH (q : Rf w W x y h s) {a : Option Addr} {n c base : Nat} {l : Bks} (o : OwnB W base a n c l) (hb : x < base ∧ y < base) (hg : Good l) : Rf w (W.setCell ⟨y, 0, none⟩ (.slice a n c)) x y ⟨a, n, c, h.k, h.m, h.d⟩ ⟨l, s.keys, s.g⟩ := by
  have hn : n ≤ 7424 := by rw [← o.len]; exact good_size hg
  have hr := o.row (by omega) (good_fit hg)
  have fa : ∀ b, a = some b → b.block ≠ x ∧ b.block ≠ y ∧ w.heap.size ≤ b.block := fun b e => by
    have := o.block b.block (by rw [e]; rfl)
    have := q.ne.2.1
    exact ⟨by omega, by omega, by omega⟩
  exact ⟨q.low.setCell (p := ⟨y, 0, none⟩) q.ne.2.2 _, q.res.far (p := ⟨y, 0, none⟩) (Ne.symm q.ne.1) _, q.box.seth a n c,
    ⟨hr.set (fun b e => (fa b e).2.1) 0 _, q.see.rk.set (fun b e => (q.fk b e).2.1) 0 _, q.see.g, o.capped.1, q.see.kc, fun e => (o.capped.2 e).2, q.see.nk, by show n * 16 ≤ _; omega, q.see.sk⟩, q.ne, fa, q.fk⟩
theorem Rf.setK (q : Rf w W x y h s) {a : Option Addr} {c : Nat} {l : List Int} (hr : Row .u64 W a l.length l) (hc : l.length ≤ c) (hn : a = none → c = 0) (hl : l.length ≤ 1024) (fk : ∀ b, a = some b → b.block ≠ x ∧ b.block ≠ y ∧ w.heap.size ≤ b.block) : Rf w (W.setCell ⟨y, 1, none⟩ (.slice a l.length c)) x y ⟨h.a, h.n, h.c, a, l.length, c⟩ ⟨s.hist, l, s.g⟩ :=
  ⟨q.low.setCell (p := ⟨y, 1, none⟩) q.ne.2.2 _, q.res.far (p := ⟨y, 1, none⟩) (Ne.symm q.ne.1) _, q.box.setk a l.length c,
    ⟨q.see.rh.set (fun b e => (q.fa b e).2.1) 1 _, hr.set (fun b e => (fk b e).2.1) 1 _, q.see.g, q.see.hc, hc, q.see.nh, hn, q.see.sh, by show l.length * 8 ≤ _; omega⟩, q.ne, q.fa, fk⟩
theorem Rf.setG (q : Rf w W x y h s) {z : Gz} (hz : GW z) : Rf w ((((W.setCell ⟨y, 2, none⟩ (.int .u64 z.n)).setCell ⟨y, 3, none⟩ (.int .u64 z.nans)).setCell ⟨y, 4, none⟩ (.int .u64 z.lo)).setCell ⟨y, 5, none⟩ (.int .u64 z.hi)) x y h ⟨s.hist, s.keys, z⟩ :=
  ⟨(((q.low.setCell (p := ⟨y, 2, none⟩) q.ne.2.2 _).setCell (p := ⟨y, 3, none⟩) q.ne.2.2 _).setCell (p := ⟨y, 4, none⟩) q.ne.2.2 _).setCell (p := ⟨y, 5, none⟩) q.ne.2.2 _,
    (((q.res.far (p := ⟨y, 2, none⟩) (Ne.symm q.ne.1) _).far (p := ⟨y, 3, none⟩) (Ne.symm q.ne.1) _).far (p := ⟨y, 4, none⟩) (Ne.symm q.ne.1) _).far (p := ⟨y, 5, none⟩) (Ne.symm q.ne.1) _, q.box.setg z,
    have fa := fun b e => (q.fa b e).2.1; have fk := fun b e => (q.fk b e).2.1; ⟨(((q.see.rh.set fa 2 _).set fa 3 _).set fa 4 _).set fa 5 _, (((q.see.rk.set fk 2 _).set fk 3 _).set fk 4 _).set fk 5 _, hz, q.see.hc, q.see.kc, q.see.nh, q.see.nk, q.see.sh, q.see.sk⟩, q.ne, q.fa, q.fk⟩
theorem Rf.done (q : Rf w W x y h s) : SeeP (put6 W x h s.g) h s ∧ Below w.heap.size w (put6 W x h s.g) := by
  have fa := fun b e => (q.fa b e).1
  have fk := fun b e => (q.fk b e).1
  exact ⟨⟨(((((q.see.rh.set fa 0 _).set fa 1 _).set fa 2 _).set fa 3 _).set fa 4 _).set fa 5 _, (((((q.see.rk.set fk 0 _).set fk 1 _).set fk 2 _).set fk 3 _).set fk 4 _).set fk 5 _, q.see.g, q.see.hc, q.see.kc, q.see.nh, q.see.nk, q.see.sh, q.see.sk⟩, below_put q.low q.ne.2.1 h s.g⟩
end

set_option maxHeartbeats 8000000 in
theorem refpof_at (a : Option Addr) (n cap : Nat) (l : List Ob) (w : World) (hr : RowO w a n l) :
    Calls Tryz.prog 30 #[.slice a n cap] w fun e w' => ∃ h, e = .returned (Value.agg #[.slice (Hd.a h) (Hd.n h) (Hd.c h), .slice (Hd.k h) (Hd.m h) (Hd.d h), .int .u64 (Gz.n ((ofP l).g)), .int .u64 (Gz.nans ((ofP l).g)), .int .u64 (Gz.lo ((ofP l).g)), .int .u64 (Gz.hi ((ofP l).g))]) ∧ SeeP w' h (ofP l) ∧ Below w.heap.size w w' ∧ (∀ b, h.a = some b → w.heap.size ≤ b.block) ∧ ∀ b, h.k = some b → w.heap.size ≤ b.block := by
  obtain ⟨w0, hw0⟩ : ∃ w0, Hid ((w.alloc (.cells #[.slice none 0 0, .slice none 0 0, .int .u64 0, .int .u64 0, .int .u64 0, .int .u64 0] 40)).alloc (.cells #[.slice none 0 0, .slice none 0 0, .int .u64 0, .int .u64 0, .int .u64 0, .int .u64 0] 40) = w0) := ⟨_, rfl⟩
  obtain ⟨x, hx⟩ : ∃ x, Hid (w.heap.size = x) := ⟨_, rfl⟩
  obtain ⟨y, hy⟩ : ∃ y, Hid (x + 1 = y) := ⟨_, rfl⟩
  have Q0 : Hid (Rf w w0 x y hd0 zeroP) := by
    refine ⟨?_, ?_, ?_, see_zero _, ⟨?_, ?_, ?_⟩, (fun b e => by simp [hd0] at e), (fun b e => by simp [hd0] at e)⟩
    · rw [← hw0.out]; exact bel2 _ _ _
    · rw [← hw0.out, ← hx.out]; exact (SBox.new w _ hd0 g0).alloc _
    · rw [← hw0.out, ← hy.out, ← hx.out]
      have := SBox.new (w.alloc (.cells #[.slice none 0 0, .slice none 0 0, .int .u64 0, .int .u64 0, .int .u64 0, .int .u64 0] 40)) 40 hd0 g0
      rwa [size_al] at this
    · rw [← hy.out]; omega
    · rw [hx.out]; exact Nat.le_refl _
    · rw [← hy.out, hx.out]; omega
  have HR := hide hr
  have HL := hide hr.1
  have hn := hr.2.1
  have OW : Hid (∀ o ∈ l, ObW o) := hr.2.2.1
  obtain ⟨sl, hsl⟩ : ∃ s, Hid (ofP l = s) := ⟨_, rfl⟩
  rw [hsl.out]
  clear hr
  go_enter Tryz.func30, Tryz.ntmps30
  go_upto_region 2 with fail
  rw [hw0.out, hx.out, hy.out]
  clear hw0 hx hy
  go_wp2_with fail
  go_loopw [4] (fun i wr => ∃ j : Nat, j ≤ n ∧ i = .int .i64 j ∧ ∃ h, Hid (Rf w wr x y h (ofP (l.take j)))) (fun i _ => n - (intOf i).toNat)
  case atStart => exact ⟨0, by omega, rfl, hd0, Q0⟩
  case round =>
    obtain ⟨j, hj, rfl, h, HT⟩ := hrel
    by_cases hlt : j < n
    · obtain ⟨bb, off, rfl, hc⟩ := rowO_at HR.out hlt
      have HC := hide hc
      have HO := hide (ob_getD OW.out j)
      have HS := hide (ofP_more (l := l) (k := j) (by rw [HL.out]; exact hlt))
      have OK := hide (Ok.of (l := l.take j) (fun o ho => OW.out o (List.mem_of_mem_take ho)))
      have OK2 := hide (OK.out.add HO.out)
      clear hc
      generalize l.getD j ob0 = o at *
      generalize ofP (l.take j) = s at *
      have i1 : (0 : Int) ≤ (j : Int) := by omega
      have i2 : (j : Int) < (n : Int) := by omega
      have BR := bucketS_range HO.out.1.1 HO.out.1.2
      have C1 := hide (fun W => refbucket_any o.v W HO.out.1)
      have EA : Hid (addN s.hist (bucketS o.v) 1 = insS (bucketS o.v) 1 s.hist) := by show _ = _; unfold addN; rw [if_neg (by decide)]
      have C2 := hide (fun W (q : SeeP W h s) => rhadd_any h.a h.n h.c s.hist (bucketS o.v) 1 W q.rh (by have := good_size OK.out.h; rw [q.rh.1] at this; omega) (bk_wf BR.1 BR.2) ⟨by decide, by decide⟩)
      rw [EA.out] at C2
      have G2 : Hid (Good (insS (bucketS o.v) 1 s.hist)) := OK2.out.h
      obtain ⟨l2, hl2⟩ : ∃ l2, Hid (insS (bucketS o.v) 1 s.hist = l2) := ⟨_, rfl⟩
      have HS2 : Hid (ofP (l.take (j + 1)) = ⟨l2, hashK 1024 s.keys (fnvOf (numsOf o.t)), addG s.g o.b⟩) := by rw [HS.out, ← hl2.out]; rfl
      have KU := hide (chk_up OK.out.k)
      have C3 := hide (fun W h' (q : SeeP W h' ⟨l2, s.keys, s.g⟩) => refkadd_any h'.k h'.m h'.d s.keys o.t W q.rk KU.out.1 (by have := KU.out.2; rw [q.rk.1] at this; exact this) q.kc q.nk HO.out.2.2)
      unfold BackU at C3
      have K2 := hide (hashK_len 1024 s.keys (fnvOf (numsOf o.t)))
      have C4 := hide (fun W => refgadd_any s.g o.b OK.out.g HO.out.2.1 W)
      have GG : Hid (GW (addG s.g o.b)) := addG_word OK.out.g HO.out.2.1
      rw [hl2.out] at C2 G2
      generalize hashK 1024 s.keys (fnvOf (numsOf o.t)) = l3 at *
      generalize addG s.g o.b = g3 at *
      generalize bucketS o.v = bk at *
      obtain ⟨n2, hn2⟩ : ∃ n2, Hid (l2.length = n2) := ⟨_, rfl⟩
      rw [hn2.out] at C2
      clear EA OK OK2 KU hl2 HS BR
      go_upto_region 5 with fail
      go_cut [4] (fun i wx => i = .int .i64 (j : Int) ∧ ∃ h', Hid (Rf w wx x y h' ⟨l2, s.keys, s.g⟩))
      case first =>
        have HD := hide HT.out.drew
        obtain ⟨c0, c1, c2, c3, c4, c5⟩ := HT.out.box.cells
        obtain ⟨f0, f1, f2⟩ := HC.out wr HT.out.low
        go_region_with (first
          | (go_at_call 64; with_reducible refine (C1.out _).mono ?_; rintro e w' ⟨rfl, rfl⟩)
          | (go_at_call 63; with_reducible refine (C2.out _ HD.out.see).mono ?_; rintro e v7 ⟨a7, c7, rfl, o7, b7⟩; have T7 := hide (HD.out.below b7); have O7 := hide o7; have z0 := T7.out.box.cells.1; have z1 := T7.out.box.free 0; have LT := hide (And.intro HD.out.res.lt HD.out.box.lt)))
        all_goals
          go_wp2_with fail
          go_meet
          case rel => exact ⟨rfl, _, T7.out.setH O7.out LT.out G2.out⟩
      case rest =>
        obtain ⟨rfl, h4, T8⟩ := hcut
        clear HT C1 C2 G2
        generalize wc = wr at T8 ⊢
        go_upto_region 6 with fail
        go_cut [4] (fun i wx => i = .int .i64 (j : Int) ∧ ∃ h', Hid (Rf w wx x y h' ⟨l2, l3, s.g⟩))
        case first =>
          have HD := hide T8.out.drew
          obtain ⟨c0, c1, c2, c3, c4, c5⟩ := T8.out.box.cells
          obtain ⟨f0, f1, f2⟩ := HC.out wr T8.out.low
          dsimp only at c2 c3 c4 c5
          go_region_with (first
            | (go_at_call 65; with_reducible refine (C3.out _ _ HD.out.see).mono ?_; rintro e v7 ⟨a7, c7, rfl, r7, n7, m7, b7, d7⟩; have T7 := hide (HD.out.below b7); have R7 := hide r7; have N7 := hide n7; have M7 := hide m7; have z0 := T7.out.box.cells.2.1; have z1 := T7.out.box.free 1; have D7 := hide d7; have LT := hide (And.intro HD.out.res.lt HD.out.box.lt); clear d7 m7 n7 r7 b7))
          all_goals
            go_wp2_with fail
            go_meet
            case rel =>
              refine ⟨rfl, _, T7.out.setK R7.out N7.out M7.out K2.out (fun b e => ?_)⟩
              rcases D7.out with d | d
              · exact T8.out.fk b (by rw [← d]; exact e)
              · have := (d b e).1
                have := LT.out
                have := T8.out.ne.2.1
                exact ⟨by omega, by omega, by omega⟩
        case rest =>
          obtain ⟨rfl, h5, T9⟩ := hcut
          clear T8 C3 K2
          generalize wc = wr at T9 ⊢
          go_upto_region 7 with fail
          have HD := hide T9.out.drew
          obtain ⟨c0, c1, c2, c3, c4, c5⟩ := T9.out.box.cells
          obtain ⟨f0, f1, f2⟩ := HC.out wr T9.out.low
          dsimp only at c2 c3 c4 c5
          go_region_with (first
            | (go_at_call 66; with_reducible refine (C4.out _).mono ?_; rintro e v7 ⟨rfl, b7⟩; have T7 := hide (HD.out.below b7); clear c0 c1 c2 c3 c4 c5; obtain ⟨c0, c1, c2, c3, c4, c5⟩ := T7.out.box.cells; have z2 := T7.out.box.free 2; have z3 := T7.out.box.free 3; have z4 := T7.out.box.free 4; have z5 := T7.out.box.free 5; dsimp only at c2 c3 c4 c5))
          all_goals
            have T10 := hide (T7.out.setG GG.out)
            have HE := hide HS2.out.symm
            dsimp only at T10
            rw [HE.out] at T10
            go_wp2
            go_roundw
            case rel => exact ⟨j + 1, by omega, by go_num, _, T10⟩
            case measure => simp [intOf]; omega
    · have hjn : j = n := by omega
      have e : l.take j = l := List.take_of_length_le (by rw [HL.out]; omega)
      rw [e, hsl.out] at HT
      have i3 : ¬ (j : Int) < (n : Int) := by omega
      obtain ⟨c0, c1, c2, c3, c4, c5⟩ := HT.out.box.cells
      have F := hide (HT.out.res.put h sl.g)
      have DN := hide HT.out.done
      have DA := hide (fun b e => (HT.out.fa b e).2.2)
      have DK := hide (fun b e => (HT.out.fk b e).2.2)
      obtain ⟨_, ⟨d0, d1, d2, d3, d4, d5⟩, df⟩ := HT.out.res
      have f0 := df 0
      have f1 := df 1
      have f2 := df 2
      have f3 := df 3
      have f4 := df 4
      have f5 := df 5
      clear df
      dsimp only [hd0, g0] at d0 d1 d2 d3 d4 d5
      go_wp2
      obtain ⟨_, ⟨e0, e1, e2, e3, e4, e5⟩, _⟩ := F.out
      unfold put6 at e0 e1 e2 e3 e4 e5
      exact bodyPost_ret (v := (Value.agg #[.slice (Hd.a h) (Hd.n h) (Hd.c h), .slice (Hd.k h) (Hd.m h) (Hd.d h), .int .u64 (Gz.n sl.g), .int .u64 (Gz.nans sl.g), .int .u64 (Gz.lo sl.g), .int .u64 (Gz.hi sl.g)])) (by simp [results, Tryz.results30, go_sem, e0, e1, e2, e3, e4, e5]) rfl ⟨h, rfl, DN.out.1, DN.out.2, DA.out, DK.out⟩
end Go.Proofs.YtknghoecjobkiabGreatDoor

namespace Go.Proofs.YtknghoecjobkiabGreatDoor
open Go.RowKit
set_option maxRecDepth 20000
set_option linter.unusedVariables false

def lbV (x : Lb) : List Value := [.string x.1, .string x.2]
theorem lbV_len (x : Lb) : (lbV x).length = 2 := rfl
theorem lbV_one (x : Lb) : ∀ u ∈ lbV x, u.oneCell' = true := fun u hu => by
  simp [lbV] at hu
  rcases hu with rfl | rfl <;> rfl
theorem ownG_lit {α : Type} {fl : α → List Value} {sz : Nat} (hf : ∀ x, (fl x).length = sz) (w : World) (e : TypeId) (x : α) : OwnG e sz fl (w.alloc (.cells (fl x).toArray e)) w.heap.size (some ⟨w.heap.size, 0, none⟩) 1 1 [x] := by
  refine ⟨by rw [flatG_len hf]; rfl, Or.inr ⟨w.heap.size, 1, (fl x).toArray, rfl, Nat.le_refl _, heap_alloc_new w _, Nat.le_refl _, by decide, ?_, ?_⟩⟩
  · rw [List.size_toArray, hf, Nat.one_mul]
  · rw [Nat.one_mul]
    show (fl x).take sz = [x].flatMap fl
    rw [List.take_of_length_le (by rw [hf]; exact Nat.le_refl _)]
    simp
def cst12 : ByteArray := ⟨#[48, 49, 50, 51, 52, 53, 54, 55, 56, 57, 97, 98]⟩
def lbHost (k : Nat) : Lb := (⟨#[104, 111, 115, 116]⟩, ⟨#[104]⟩ ++ cst12.extract k (k + 1))
def lbZone (k : Nat) : Lb := (⟨#[122, 111, 110, 101]⟩, ⟨#[122]⟩ ++ cst12.extract (k / 3) (k / 3 + 1))
/-- A label set, by a number. -/
def setK (k : Nat) : List Lb := if k % 2 = 1 then [lbHost k, lbZone k] else [lbHost k]
def setN (n : Int) : List Lb := setK (n % 12).toNat
theorem setK_chk {k : Nat} (h : k < 12) : chkL (setK k) = true := by
  have : k = 0 ∨ k = 1 ∨ k = 2 ∨ k = 3 ∨ k = 4 ∨ k = 5 ∨ k = 6 ∨ k = 7 ∨ k = 8 ∨ k = 9 ∨ k = 10 ∨ k = 11 := by omega
  rcases this with rfl | rfl | rfl | rfl | rfl | rfl | rfl | rfl | rfl | rfl | rfl | rfl <;> decide +kernel
theorem setN_chk (n : Int) : chkL (setN n) = true := setK_chk (by omega)
theorem ext_size1 {k : Nat} (h : k < 12) : (cst12.extract k (k + 1)).size = 1 := by
  rw [ByteArray.size_extract]
  show min (k + 1) 12 - k = 1
  omega

set_option maxHeartbeats 4000000 in
theorem set_any (n : Int) (hn : (Lit.int .i64 n).wf = true) (w : World) :
    Calls Tryz.prog 29 #[.int .i64 n] w fun e w' => ∃ a c, e = .returned (.slice a (setN n).length c) ∧ OwnL w' w.heap.size a (setN n).length c (setN n) ∧ Below w.heap.size w w' := by
  have PL := hide (place_any n 12 (by decide) (by decide) w)
  obtain ⟨k, hk⟩ : ∃ k : Nat, n % 12 = k := ⟨(n % 12).toNat, by omega⟩
  have hk12 : k < 12 := by omega
  have HS : Hid (setN n = setK k) := by show _ = _; unfold setN; rw [hk, Int.toNat_natCast]
  rw [HS.out]
  rw [hk] at PL
  obtain ⟨i0, hi, hz0, hz1, hz2⟩ := info_parts Tryz.infoL
  have e1 := ext_size1 hk12
  have e2 := ext_size1 (k := k / 3) (by omega)
  by_cases hp : k % 2 = 1
  · have HK : Hid (setK k = [lbHost k, lbZone k]) := by show _ = _; unfold setK; rw [if_pos hp]
    rw [HK.out]
    have p1 : (k : Int) % 2 = 1 := by omega
    clear hk HS HK
    go_enter Tryz.func29, Tryz.ntmps29
    go_wp2_with fail
    with_reducible refine PL.out.mono ?_
    rintro e v1 ⟨rfl, hv⟩
    obtain rfl := hv.symm
    have O1 : Hid (OwnG 124 2 lbV ((w.alloc (.cells (lbV (lbHost k)).toArray 124)).alloc (.cells (lbV (lbZone k)).toArray 124)) w.heap.size (some ⟨w.heap.size, 0, none⟩) 1 1 [lbHost k]) := (ownG_lit lbV_len w _ _).alloc _
    have S1 : Hid ((w.alloc (.cells (lbV (lbHost k)).toArray 124)).heap.size = w.heap.size + 1) := size_al _ _
    have X2 : Hid (BoxV ((w.alloc (.cells (lbV (lbHost k)).toArray 124)).alloc (.cells (lbV (lbZone k)).toArray 124)) (w.heap.size + 1) 124 (lbV (lbZone k))) := by rw [← S1.out]; exact BoxV.new _ _ _
    have CP : Hid (∀ ad, some (⟨w.heap.size + 1, 0, none⟩ : Addr) = some ad → ∀ j u, ([lbZone k].flatMap lbV)[j]? = some u → ((w.alloc (.cells (lbV (lbHost k)).toArray 124)).alloc (.cells (lbV (lbZone k)).toArray 124)).cell? (ad.add j) = some u) := by
      intro ad e j u hj
      obtain rfl := Option.some.inj e
      rw [Addr.add_lit, Nat.zero_add]
      rw [List.flatMap_cons, List.flatMap_nil, List.append_nil] at hj
      exact X2.out.cell hj
    have B1 : Hid (Below w.heap.size w ((w.alloc (.cells (lbV (lbHost k)).toArray 124)).alloc (.cells (lbV (lbZone k)).toArray 124))) := bel2 _ _ _
    go_wp2_with (at_builtin; refine wpList_app_g lbV_len (by decide) lbV_one _ rfl _ _ 33 rfl w.heap.size i0 _ 32 Tryz.underlying33 hi hz0 hz1 hz2 rfl (some ⟨w.heap.size, 0, none⟩) 1 1 [lbHost k] rfl O1.out (some ⟨w.heap.size + 1, 0, none⟩) 1 1 [lbZone k] rfl rfl CP.out (fun e => by cases e) (by omega) (by omega) B1.out.size ?_)
    intro a2 c2 w3 o3 g3
    have O3 : Hid (OwnL w3 w.heap.size a2 2 c2 [lbHost k, lbZone k]) := o3
    have B3 : Hid (Below w.heap.size w w3) := B1.out.trans ((Ch.grown g3).below B1.out.size (fun j hj e => by have := (OwnG.cellsT O1.out j e).2; omega))
    clear o3 g3 O1 X2 CP B1
    go_wp2
    go_ret
    exact ⟨a2, c2, rfl, O3.out, B3.out⟩
  · have HK : Hid (setK k = [lbHost k]) := by show _ = _; unfold setK; rw [if_neg hp]
    rw [HK.out]
    have p1 : ¬ (k : Int) % 2 = 1 := by omega
    have O1 : Hid (OwnL (w.alloc (.cells (lbV (lbHost k)).toArray 124)) w.heap.size (some ⟨w.heap.size, 0, none⟩) 1 1 [lbHost k]) := ownG_lit lbV_len w _ _
    have B1 : Hid (Below w.heap.size w (w.alloc (.cells (lbV (lbHost k)).toArray 124))) := (Below.refl _ _).alloc (Nat.le_refl _) _
    clear hk HS HK
    go_enter Tryz.func29, Tryz.ntmps29
    go_wp2_with fail
    with_reducible refine PL.out.mono ?_
    rintro e v1 ⟨rfl, hv⟩
    obtain rfl := hv.symm
    go_wp2
    go_ret
    exact ⟨_, _, rfl, O1.out, B1.out⟩

/-! ### a write by numbers -/
def obN (at' : Int) : Ob := ⟨at' % 1000, ⟨#[120]⟩, 0⟩
def skN (at' : Int) : Sp := ofP [obN at']
/-- A write, by numbers. -/
def recN (seq at' : Int) : RecX := ⟨seq, 1, setN at', at', skN at', 0, mt0, 0, 0⟩
theorem obN_ok (at' : Int) : ObW (obN at') := ⟨by show Word (at' % 1000); constructor <;> omega, (⟨by decide, by decide⟩ : Word 0), by show (1 : Nat) ≤ _; decide⟩
theorem skN_ok (at' : Int) : Ok (skN at') := Ok.of (fun o ho => by obtain rfl := List.mem_singleton.1 ho; exact obN_ok at')
/-- A result in a box, alone. -/
theorem ret_box1 {P : Program} {fn : Func} {p : Tmp} {ty : TypeId} {a : Act} {w : World} {R : Ending → World → Prop} {b : Nat} {cs : List Value} {d : TypeDesc} (h : fn.results = #[.cell p ty]) (hp : a.tmps.getD p undef = .pointer (some ⟨b, 0, none⟩))
    (hc : w.rangeAt b 0 cs) (hu : P.underlying ty = some d) (hd : d.isRow = true) (hi : (P.info? ty).map (·.size) = some cs.length) (hD : a.defers = []) (hR : R (.returned (.agg cs.toArray)) w) : bodyPost P fn R .ret a w := by
  refine bodyPost_ret (v := .agg cs.toArray) ?_ hD hR
  have e := run_loadVar_mid (P := P) w b 0 ty cs d hc hu hd hi
  rw [Array.getD_eq_getD_getElem?] at hp
  simp only [results, h]
  simp [hp, asAddr, e]

set_option maxHeartbeats 8000000 in
theorem rec_any (seq at' : Int) (hs : (Lit.int .i64 seq).wf = true) (ha : (Lit.int .i64 at').wf = true) (w : World) :
    Calls Tryz.prog 11 #[.int .i64 seq, .int .i64 at'] w fun e w' => ∃ h, e = .returned (Value.agg #[.int .i64 (RecX.seq ((recN seq at'))), .int .i64 (RecX.kind ((recN seq at'))), .slice (RecH.la h) (RecH.ln h) (RecH.lc h), .int .i64 (RecX.at9 ((recN seq at'))), .slice (Hd.a (RecH.sk h)) (Hd.n (RecH.sk h)) (Hd.c (RecH.sk h)), .slice (Hd.k (RecH.sk h)) (Hd.m (RecH.sk h)) (Hd.d (RecH.sk h)), .int .u64 (Gz.n (Sp.g (RecX.sk ((recN seq at'))))), .int .u64 (Gz.nans (Sp.g (RecX.sk ((recN seq at'))))), .int .u64 (Gz.lo (Sp.g (RecX.sk ((recN seq at'))))), .int .u64 (Gz.hi (Sp.g (RecX.sk ((recN seq at'))))), .int .i64 (RecX.tseq ((recN seq at'))), .int .i64 (Hm.op (RecH.m h)), .string (Hm.nm (RecH.m h)), .string (Hm.vl (RecH.m h)), .slice (Hm.va (RecH.m h)) (Hm.vn (RecH.m h)) (Hm.vc (RecH.m h)), .slice (Hm.ka (RecH.m h)) (Hm.kn (RecH.m h)) (Hm.kc (RecH.m h)), .int .i64 (RecX.frm ((recN seq at'))), .int .i64 (RecX.till ((recN seq at')))]) ∧ SeeR (fun k => w.heap.size ≤ k) w' (recN seq at') h ∧ Below w.heap.size w w' := by
  obtain ⟨w0, hw0⟩ : ∃ w0, Hid (w.alloc (.cells ([.int .i64 (RecX.seq rx0), .int .i64 (RecX.kind rx0), .slice (RecH.la rh0) (RecH.ln rh0) (RecH.lc rh0), .int .i64 (RecX.at9 rx0), .slice (Hd.a (RecH.sk rh0)) (Hd.n (RecH.sk rh0)) (Hd.c (RecH.sk rh0)), .slice (Hd.k (RecH.sk rh0)) (Hd.m (RecH.sk rh0)) (Hd.d (RecH.sk rh0)), .int .u64 (Gz.n (Sp.g (RecX.sk rx0))), .int .u64 (Gz.nans (Sp.g (RecX.sk rx0))), .int .u64 (Gz.lo (Sp.g (RecX.sk rx0))), .int .u64 (Gz.hi (Sp.g (RecX.sk rx0))), .int .i64 (RecX.tseq rx0), .int .i64 (Hm.op (RecH.m rh0)), .string (Hm.nm (RecH.m rh0)), .string (Hm.vl (RecH.m rh0)), .slice (Hm.va (RecH.m rh0)) (Hm.vn (RecH.m rh0)) (Hm.vc (RecH.m rh0)), .slice (Hm.ka (RecH.m rh0)) (Hm.kn (RecH.m rh0)) (Hm.kc (RecH.m rh0)), .int .i64 (RecX.frm rx0), .int .i64 (RecX.till rx0)]).toArray 50) = w0) := ⟨_, rfl⟩
  obtain ⟨x, hx⟩ : ∃ x, Hid (w.heap.size = x) := ⟨_, rfl⟩
  have A0 : Hid (BoxV w0 x 50 [.int .i64 (RecX.seq rx0), .int .i64 (RecX.kind rx0), .slice (RecH.la rh0) (RecH.ln rh0) (RecH.lc rh0), .int .i64 (RecX.at9 rx0), .slice (Hd.a (RecH.sk rh0)) (Hd.n (RecH.sk rh0)) (Hd.c (RecH.sk rh0)), .slice (Hd.k (RecH.sk rh0)) (Hd.m (RecH.sk rh0)) (Hd.d (RecH.sk rh0)), .int .u64 (Gz.n (Sp.g (RecX.sk rx0))), .int .u64 (Gz.nans (Sp.g (RecX.sk rx0))), .int .u64 (Gz.lo (Sp.g (RecX.sk rx0))), .int .u64 (Gz.hi (Sp.g (RecX.sk rx0))), .int .i64 (RecX.tseq rx0), .int .i64 (Hm.op (RecH.m rh0)), .string (Hm.nm (RecH.m rh0)), .string (Hm.vl (RecH.m rh0)), .slice (Hm.va (RecH.m rh0)) (Hm.vn (RecH.m rh0)) (Hm.vc (RecH.m rh0)), .slice (Hm.ka (RecH.m rh0)) (Hm.kn (RecH.m rh0)) (Hm.kc (RecH.m rh0)), .int .i64 (RecX.frm rx0), .int .i64 (RecX.till rx0)]) := by rw [← hw0.out, ← hx.out]; exact BoxV.new _ _ _
  have L0 : Hid (Below w.heap.size w w0) := by rw [← hw0.out]; exact (Below.refl _ _).alloc (Nat.le_refl _) _
  dsimp only [rx0, rh0, zeroP, g0, hd0, hm0] at hw0 A0
  have SE := hide (set_any at' ha w0)
  have PL := hide (fun (v : World) => place_any at' 1000 (by decide) (by decide) v)
  obtain ⟨z, hz⟩ : ∃ z, Hid (at' % 1000 = z) := ⟨_, rfl⟩
  have z0 : 0 ≤ z := by rw [← hz.out]; omega
  have z1 : z < 1000 := by rw [← hz.out]; omega
  rw [hz.out] at PL
  have OB : Hid (obN at' = ⟨z, ⟨#[120]⟩, 0⟩) := by show _ = _; unfold obN; rw [hz.out]
  have OF := hide (fun (v : World) => refpof_at (some ⟨v.heap.size, 0, none⟩) 1 1 [⟨z, ⟨#[120]⟩, 0⟩] (v.alloc (.cells #[.int .u64 z, .string ⟨#[120]⟩, .int .u64 0] 84)) (by
    refine ⟨rfl, by decide, fun o ho => ?_, Or.inr ⟨v.heap.size, 0, rfl, fun i hi => ?_⟩⟩
    · obtain rfl := List.mem_singleton.1 ho
      have := obN_ok at'
      rw [OB.out] at this
      exact this
    · obtain rfl : i = 0 := by omega
      have q := BoxV.new v 84 [.int .u64 z, .string ⟨#[120]⟩, .int .u64 0]
      exact ⟨q.cell (i := 0) rfl, q.cell (i := 1) rfl, q.cell (i := 2) rfl⟩))
  have SK : Hid (ofP [⟨z, ⟨#[120]⟩, 0⟩] = skN at') := by show _ = _; unfold skN; rw [OB.out]
  rw [SK.out] at OF
  obtain ⟨sk, hsk⟩ : ∃ sk, Hid (skN at' = sk) := ⟨_, rfl⟩
  rw [hsk.out] at OF
  have HX : Hid (w.heap.size ≤ x) := by rw [hx.out]; exact Nat.le_refl _
  go_enter Tryz.func11, Tryz.ntmps11
  go_upto_region 1 with fail
  rw [hw0.out, hx.out]
  clear hw0 hx
  go_wp2_with fail
  with_reducible refine SE.out.mono ?_
  rintro e v1 ⟨a1, c1, rfl, o1, b1⟩
  have P1 := hide (PL.out v1)
  have O1 := hide o1
  have B1 := hide b1
  clear o1 b1 SE PL
  go_wp2_with fail
  with_reducible refine P1.out.mono ?_
  rintro e v2 ⟨rfl, hv⟩
  obtain rfl := hv.symm
  have F1 := hide (OF.out v1)
  have K2 : Hid (Below v1.heap.size v1 (v1.alloc (.cells #[.int .u64 z, .string ⟨#[120]⟩, .int .u64 0] 84))) := (Below.refl _ _).alloc (Nat.le_refl _) _
  clear P1 OF
  go_wp2_with fail
  with_reducible refine F1.out.mono ?_
  rintro e v3 ⟨h, rfl, s3, b3, fa, fk⟩
  have B3 := hide (bel_to K2.out (Nat.le_refl _) b3)
  have L1 := hide (bel_to L0.out (Nat.le_refl _) B1.out)
  have L3 := hide (bel_to L1.out (Nat.le_refl _) B3.out)
  have A3 := hide ((A0.out.below B1.out A0.out.lt).below B3.out (A0.out.below B1.out A0.out.lt).lt)
  have TX := hide (A3.out.there 0 18 (Nat.le_of_ble_eq_true rfl))
  obtain ⟨_, c2, c3⟩ := chkL_parts (setN_chk at')
  have RL : Hid (RowL v3 a1 (setN at').length (setN at')) := by
    refine RowL.below (OwnL.row O1.out (by omega) (fun y hy => ?_)) B3.out (Nat.le_refl _)
    have e1 := (c3 y hy).1
    unfold nameB at e1
    simp only [Bool.and_eq_true, decide_eq_true_eq] at e1
    have e2 := (c3 y hy).2.2
    exact ⟨by omega, by omega⟩
  have CA := OwnL.capped O1.out
  have SR0 : Hid (SeeR (fun k => w0.heap.size ≤ k) v3 (recN seq at') ⟨a1, (setN at').length, c1, h, hm0⟩) := by
    refine ⟨hs, by show (Lit.int .i64 1).wf = true; decide, ⟨RL.out, CA.1, fun e => (CA.2 e).2, Or.inr fun p e => OwnL.block O1.out p.block (by have e : a1 = some p := e; rw [e]; rfl), ha, ?_, Or.inr fun p e => ?_, Or.inr fun p e => ?_⟩, seeD_zero _ _ _ _ rfl rfl rfl rfl rfl⟩
    · show SeeP v3 h (skN at')
      rw [hsk.out]
      exact s3
    · exact Nat.le_trans (Nat.le_trans B1.out.size K2.out.size) (fa p e)
    · exact Nat.le_trans (Nat.le_trans B1.out.size K2.out.size) (fk p e)
  have LT := hide A0.out.lt
  have SR : Hid (SeeR (fun k => w.heap.size ≤ k) (v3.setCells x 0 [.int .i64 seq, .int .i64 1, .slice a1 (setN at').length c1, .int .i64 at', .slice (Hd.a h) (Hd.n h) (Hd.c h), .slice (Hd.k h) (Hd.m h) (Hd.d h), .int .u64 sk.g.n, .int .u64 sk.g.nans, .int .u64 sk.g.lo, .int .u64 sk.g.hi, .int .i64 0, .int .i64 0, .string ⟨#[]⟩, .string ⟨#[]⟩, .slice none 0 0, .slice none 0 0, .int .i64 0, .int .i64 0]) (recN seq at') ⟨a1, (setN at').length, c1, h, hm0⟩) := (SR0.out.ch (ch_sc v3 x 0 _) (fun k hk e => by have := LT.out; omega)).mono (fun k hk => Nat.le_trans L0.out.size hk)
  have RG : Hid (Below w.heap.size w (v3.setCells x 0 [.int .i64 seq, .int .i64 1, .slice a1 (setN at').length c1, .int .i64 at', .slice (Hd.a h) (Hd.n h) (Hd.c h), .slice (Hd.k h) (Hd.m h) (Hd.d h), .int .u64 sk.g.n, .int .u64 sk.g.nans, .int .u64 sk.g.lo, .int .u64 sk.g.hi, .int .i64 0, .int .i64 0, .string ⟨#[]⟩, .string ⟨#[]⟩, .slice none 0 0, .slice none 0 0, .int .i64 0, .int .i64 0]) ∧ (v3.setCells x 0 [.int .i64 seq, .int .i64 1, .slice a1 (setN at').length c1, .int .i64 at', .slice (Hd.a h) (Hd.n h) (Hd.c h), .slice (Hd.k h) (Hd.m h) (Hd.d h), .int .u64 sk.g.n, .int .u64 sk.g.nans, .int .u64 sk.g.lo, .int .u64 sk.g.hi, .int .i64 0, .int .i64 0, .string ⟨#[]⟩, .string ⟨#[]⟩, .slice none 0 0, .slice none 0 0, .int .i64 0, .int .i64 0]).rangeAt x 0 [.int .i64 seq, .int .i64 1, .slice a1 (setN at').length c1, .int .i64 at', .slice (Hd.a h) (Hd.n h) (Hd.c h), .slice (Hd.k h) (Hd.m h) (Hd.d h), .int .u64 sk.g.n, .int .u64 sk.g.nans, .int .u64 sk.g.lo, .int .u64 sk.g.hi, .int .i64 0, .int .i64 0, .string ⟨#[]⟩, .string ⟨#[]⟩, .slice none 0 0, .slice none 0 0, .int .i64 0, .int .i64 0]) := ⟨below_sc HX.out L3.out 0 _, World.rangeAt_setCells_same _ _ _ _ (A3.out.there 0 18 (Nat.le_of_ble_eq_true rfl))⟩
  clear s3 b3 fa fk F1 K2 A3 A0 O1 B1 B3 L1 RL SR0
  go_wp2_with ((with_reducible show wpList _ _ _ (Oper.mk _ (Op.store 50 _ _) _ _ _ _ :: _) _ _); refine wpStore rfl 50 _ _ rfl x 0 [.int .i64 seq, .int .i64 1, .slice a1 (setN at').length c1, .int .i64 at', .slice (Hd.a h) (Hd.n h) (Hd.c h), .slice (Hd.k h) (Hd.m h) (Hd.d h), .int .u64 sk.g.n, .int .u64 sk.g.nans, .int .u64 sk.g.lo, .int .u64 sk.g.hi, .int .i64 0, .int .i64 0, .string ⟨#[]⟩, .string ⟨#[]⟩, .slice none 0 0, .slice none 0 0, .int .i64 0, .int .i64 0] rfl rfl TX.out info_rec rfl ?_)
  refine ret_box1 rfl rfl RG.out.2 Tryz.underlying50 rfl info_rec rfl ⟨⟨a1, (setN at').length, c1, h, hm0⟩, ?_, SR.out, RG.out.1⟩
  show Ending.returned (.agg ([.int .i64 seq, .int .i64 1, .slice a1 (setN at').length c1, .int .i64 at', .slice (Hd.a h) (Hd.n h) (Hd.c h), .slice (Hd.k h) (Hd.m h) (Hd.d h), .int .u64 sk.g.n, .int .u64 sk.g.nans, .int .u64 sk.g.lo, .int .u64 sk.g.hi, .int .i64 0, .int .i64 0, .string ⟨#[]⟩, .string ⟨#[]⟩, .slice none 0 0, .slice none 0 0, .int .i64 0, .int .i64 0]).toArray) = .returned (Value.agg #[.int .i64 (RecX.seq ((recN seq at'))), .int .i64 (RecX.kind ((recN seq at'))), .slice (RecH.la ((⟨a1, (setN at').length, c1, h, hm0⟩ : RecH))) (RecH.ln ((⟨a1, (setN at').length, c1, h, hm0⟩ : RecH))) (RecH.lc ((⟨a1, (setN at').length, c1, h, hm0⟩ : RecH))), .int .i64 (RecX.at9 ((recN seq at'))), .slice (Hd.a (RecH.sk ((⟨a1, (setN at').length, c1, h, hm0⟩ : RecH)))) (Hd.n (RecH.sk ((⟨a1, (setN at').length, c1, h, hm0⟩ : RecH)))) (Hd.c (RecH.sk ((⟨a1, (setN at').length, c1, h, hm0⟩ : RecH)))), .slice (Hd.k (RecH.sk ((⟨a1, (setN at').length, c1, h, hm0⟩ : RecH)))) (Hd.m (RecH.sk ((⟨a1, (setN at').length, c1, h, hm0⟩ : RecH)))) (Hd.d (RecH.sk ((⟨a1, (setN at').length, c1, h, hm0⟩ : RecH)))), .int .u64 (Gz.n (Sp.g (RecX.sk ((recN seq at'))))), .int .u64 (Gz.nans (Sp.g (RecX.sk ((recN seq at'))))), .int .u64 (Gz.lo (Sp.g (RecX.sk ((recN seq at'))))), .int .u64 (Gz.hi (Sp.g (RecX.sk ((recN seq at'))))), .int .i64 (RecX.tseq ((recN seq at'))), .int .i64 (Hm.op (RecH.m ((⟨a1, (setN at').length, c1, h, hm0⟩ : RecH)))), .string (Hm.nm (RecH.m ((⟨a1, (setN at').length, c1, h, hm0⟩ : RecH)))), .string (Hm.vl (RecH.m ((⟨a1, (setN at').length, c1, h, hm0⟩ : RecH)))), .slice (Hm.va (RecH.m ((⟨a1, (setN at').length, c1, h, hm0⟩ : RecH)))) (Hm.vn (RecH.m ((⟨a1, (setN at').length, c1, h, hm0⟩ : RecH)))) (Hm.vc (RecH.m ((⟨a1, (setN at').length, c1, h, hm0⟩ : RecH)))), .slice (Hm.ka (RecH.m ((⟨a1, (setN at').length, c1, h, hm0⟩ : RecH)))) (Hm.kn (RecH.m ((⟨a1, (setN at').length, c1, h, hm0⟩ : RecH)))) (Hm.kc (RecH.m ((⟨a1, (setN at').length, c1, h, hm0⟩ : RecH)))), .int .i64 (RecX.frm ((recN seq at'))), .int .i64 (RecX.till ((recN seq at')))])
  rw [← hsk.out]
  rfl
end Go.Proofs.YtknghoecjobkiabGreatDoor
