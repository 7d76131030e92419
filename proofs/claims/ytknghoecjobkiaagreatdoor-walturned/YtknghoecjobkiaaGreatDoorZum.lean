/-
  A landed log that lies from here on, its file system with it: what its calls leave; opened: for the laws' walks. Observations put into sketches, in plain words: one more is put together with the sketch of one; observations cut anywhere, in any order, come to the same; of none none. The document's own answer of layer 7 (the laws' reference): one bucket has more: a contract, for every world. The document's own sketch of observations: a contract, for every world. The laws' own records: a label set by a number, a write by numbers: contracts, for every world. A log in plain words, further: records laid one behind the other are found; the laws' own records; the document's example. No function is named. The document's example holds (awake of the laws of layer 17): a contract, for every world. A log in plain words, as the laws make it: files one behind the other, all of them certain; what a turn, an append, an opening make of it. No function is named. A log that is found: opened, made ready, gone on with, and found again behind a crash: contracts, for every world. A log that is cut anywhere: the law's log in plain words, the list of its ends beside it: contracts, for every world. A sketch in memory: a map that reads as a rising list, and its greatest word beside it; what one word more, one word less make of both. The sketch's small functions: isBeyond, take, findGreatest, Hashes: contracts, for every world. The greatest word of a sketch, found by a walk over all: a contract, for ever
  Conditions: as each theorem says.
-/
import Derived.Test.YtknghoecjobkiaaGreatDoorZul
import Derived.Test.YtknghoecjobkiaaGreatDoorZug
import Derived.Laws.AppendOwnNone
import Derived.Test.YtknghoecjobkiaaGreatDoorZuf
import Derived.Deep.RegionHeld3
import Derived.Test.YtknghoecjobkiaaGreatDoorZub
import Derived.Test.YtknghoecjobkiaaGreatDoorZui
import Derived.Test.YtknghoecjobkiaaGreatDoorZuj
import Derived.Test.YtknghoecjobkiaaGreatDoorZuc
import Derived.Test.YtknghoecjobkiaaGreatDoorZuk
import Derived.Test.YtknghoecjobkiaaGreatDoorZua
import Derived.BigQuiet
import Derived.Deep.QuietTactic
import Derived.Sort.LotA
import Derived.Sort.LotB
import Derived.Sort.LotC
import Derived.Sort.LotD3
import Derived.Test.YtknghoecjobkiaaGreatDoorRows
import Derived.RegionTactic
import Derived.BigRegion
import Derived.WalkMore
import Derived.RangeFuncBox
import Derived.Deep.DeepCutAuto
import Derived.Test.YtknghoecjobkiaaGreatDoorZuSh
import Derived.Lib.ItoaNum
import Derived.Maps.OwnSet
import Derived.Maps.RangeWalk
import Derived.Sort.MapsRangeIn
import Derived.RangeFuncSeq
import Derived.RangeFuncNested
import Derived.RangeFuncBound
import Derived.RangeFuncCalls
import Derived.RangeFuncLeaves
import Derived.Shelf.AbstractIn
import Derived.WalkKit
import Derived.OwnWalkIn
import Derived.TacticsInMore
import Derived.RegionIn
import Derived.LoopNIn
import Derived.LoopIn
import Derived.Maps.AppendAt
namespace Go.Proofs.YtknghoecjobkiaaGreatDoor
open Go.RowKit Go.Maps
set_option maxRecDepth 20000
set_option linter.unusedVariables false
/-- A log that lies from here on. -/
def OnG (base : Nat) (w u : World) (g q : Nat) (F : Fs) (L : Lg) : Prop := ∃ S, GAt g u q S (F, L) ∧ (∀ k, S k → base ≤ k) ∧ Below base w u ∧ base ≤ u.heap.size
section
variable {base m : Nat} {w u v : World} {g q : Nat} {F F' : Fs} {L L' : Lg}
theorem OnG.tab (h : OnG base w u g q F L) : TbP u := by
  obtain ⟨S, ⟨_, _, _, _, t, _⟩, _⟩ := h
  exact t
theorem OnG.bel (h : OnG base w u g q F L) : Below base w u := by
  obtain ⟨S, _, _, b, _⟩ := h
  exact b
theorem OnG.fs (h : OnG base w u g q F L) : OnL base w u g F := by
  obtain ⟨S, ⟨S0, h1, _, _, _, _, h6, _⟩, h2, h3, h4⟩ := h
  exact ⟨S0, h1, fun k hk => h2 k ((h6 k).2 (Or.inl hk)), h3, h4⟩
theorem OnL.good (h : OnL base w u g F) : GoodV F ∧ GoodN F := by
  obtain ⟨S, ⟨a, b, _⟩, _⟩ := h
  exact ⟨a, b⟩
theorem onG_rn {S : Nat → Prop} (h2 : ∀ k, S k → base ≤ k) (h3 : Below base w u) (h4 : base ≤ u.heap.size) (r : Rn g q S u v F' L') : OnG base w v g q F' L' := by
  obtain ⟨S1, k1, k2, k3⟩ := r
  exact ⟨S1, k1, fun k hk => by
    rcases k2 k hk with e | e
    · exact h2 k e
    · omega, h3.trans (k3.below h4 (fun k hk e => by have := h2 k e; omega)), Nat.le_trans h4 k3.size⟩
theorem ong_ready (h : OnG base w u g q F L) (hL : LimB m F) (hm : m + 10 ≤ 1073741824) : Calls Tryz.prog 25 #[.pointer (some ⟨q, 0, none⟩)] u fun e u' => e = .returned (.int .i64 (readyG F L).2.1) ∧ OnG base w u' g q (readyG F L).1 (readyG F L).2.2 := by
  obtain ⟨S, h1, h2, h3, h4⟩ := h
  exact (wready_any g q S u u F L m (rn_refl h1) hL hm).mono (fun e v ⟨he, r⟩ => ⟨he, onG_rn h2 h3 h4 r⟩)
/-- A record from elsewhere: below, or made behind the log. -/
theorem ong_append_of (h : OnG base w u g q F L) (b : Below u.heap.size u v) (hL : LimB m F) (hm : m + 200000 ≤ 1073741824) {Sx : Nat → Prop} {x : RecX} {hh : RecH} (sx : SeeR Sx v x hh) (hd : ∀ k, Sx k → k < base ∨ u.heap.size ≤ k) (hx : PutsX Sx x hh) :
    Calls Tryz.prog 37 #[.pointer (some ⟨q, 0, none⟩), (Value.agg #[.int .i64 (RecX.seq x), .int .i64 (RecX.kind x), .slice (RecH.la hh) (RecH.ln hh) (RecH.lc hh), .int .i64 (RecX.at9 x), .slice (Hd.a (RecH.sk hh)) (Hd.n (RecH.sk hh)) (Hd.c (RecH.sk hh)), .slice (Hd.k (RecH.sk hh)) (Hd.m (RecH.sk hh)) (Hd.d (RecH.sk hh)), .int .u64 (Gz.n (Sp.g (RecX.sk x))), .int .u64 (Gz.nans (Sp.g (RecX.sk x))), .int .u64 (Gz.lo (Sp.g (RecX.sk x))), .int .u64 (Gz.hi (Sp.g (RecX.sk x))), .int .i64 (RecX.tseq x), .int .i64 (Hm.op (RecH.m hh)), .string (Hm.nm (RecH.m hh)), .string (Hm.vl (RecH.m hh)), .slice (Hm.va (RecH.m hh)) (Hm.vn (RecH.m hh)) (Hm.vc (RecH.m hh)), .slice (Hm.ka (RecH.m hh)) (Hm.kn (RecH.m hh)) (Hm.kc (RecH.m hh)), .int .i64 (RecX.frm x), .int .i64 (RecX.till x)])] v fun e v' => e = .returned (.int .i64 (appendW F L.last (putRc (rcX x))).2.1) ∧ OnG base w v' g q (appendW F L.last (putRc (rcX x))).1 { L with last := (appendW F L.last (putRc (rcX x))).2.2 } := by
  obtain ⟨S, h1, h2, h3, h4⟩ := h
  refine (wappend_of g q S Sx v F L m x hh (h1.below b) hL hm sx (fun k hk e => ?_) hx).mono (fun e v' ⟨he, r⟩ => ⟨he, onG_rn h2 (h3.trans (b.mono h4)) (Nat.le_trans h4 b.size) r⟩)
  have e1 := h2 k e
  have e2 := h1.lt k e
  rcases hd k hk with e3 | e3 <;> omega
/-- What an opening tells, of a file system that lies from here on. -/
def OnOpen (base : Nat) (w : World) (g : Nat) (F : Fs) (frm : Int) (u : World) (e : Ending) (u' : World) : Prop :=
  if nmW frm = ByteArray.empty then e = .returned (.tuple #[.pointer none, .slice none 0 0, .int .i64 1]) ∧ OnL base w u' g F
  else match openW false F frm with
  | none => e = .returned (.tuple #[.pointer none, .slice none 0 0, .int .i64 13]) ∧ OnL base w u' g F
  | some s => ∃ q a c, e = .returned (.tuple #[.pointer (some ⟨q, 0, none⟩), .slice a s.recs.length c, .int .i64 0]) ∧ OnG base w u' g q F ⟨s.last, s.last, s.cut, false⟩ ∧ RecsAt u' u.heap.size a s.recs.length c s.recs
end
/-- What an opening finds is as it may be. -/
theorem goW_wf {D : Bool} {F : Fs} {m : Nat} (hV : GoodV F) (hN : GoodN F) (hL : LimB m F) (hm : m ≤ 67108864) : ∀ (f : Nat) (n : Int) (s t : Ow), (0 ≤ s.last ∧ s.last ≤ 99999999 ∧ -1 ≤ s.cut ∧ s.cut ≤ 67108864) → goW D F f n s = some t → 0 ≤ t.last ∧ t.last ≤ 99999999 ∧ -1 ≤ t.cut ∧ t.cut ≤ 67108864
  | 0, n, s, t, hs, h => by
    obtain rfl : s = t := by simpa [goW] using h
    exact hs
  | f + 1, n, s, t, hs, h => by
    unfold goW at h
    cases hr : readF F (nmW n) with
    | none =>
      rw [hr] at h
      obtain rfl : s = t := by simpa using h
      exact hs
    | some bs =>
      rw [hr] at h
      dsimp only at h
      cases hst : stepW D s n bs with
      | none => rw [hst] at h; cases h
      | some s' =>
        rw [hst] at h
        dsimp only at h
        obtain ⟨n0, n1⟩ := read_some hN hr
        obtain ⟨hbl, hbb⟩ := read_fit hV hL hr
        refine goW_wf hV hN hL hm f (n + 1) s' t ?_ h
        unfold stepW at hst
        cases hq : recsW D bs with
        | none => rw [hq] at hst; cases hst
        | some y =>
          rw [hq] at hst
          dsimp only at hst
          split at hst
          · obtain rfl := Option.some.inj hst
            refine ⟨n0, n1, ?_⟩
            dsimp only
            split <;> omega
          · cases hst
theorem openW_wf {D : Bool} {F : Fs} {m : Nat} (hV : GoodV F) (hN : GoodN F) (hL : LimB m F) (hm : m ≤ 67108864) {frm : Int} {t : Ow} (h0 : 0 ≤ frm) (h1 : frm ≤ 99999999) (h : openW D F frm = some t) : LgW ⟨t.last, t.last, t.cut, false⟩ := by
  obtain ⟨a, b, c, d⟩ := goW_wf hV hN hL hm _ _ _ _ ⟨h0, h1, by show -1 ≤ (-1 : Int); omega, by show (-1 : Int) ≤ _; omega⟩ h
  exact ⟨a, b, a, b, c, by show t.cut ≤ _; omega⟩
theorem on_open_of {base m : Nat} {w u : World} {g : Nat} {F : Fs} (h : OnL base w u g F) (hR : ∀ (n : Int) (bs : List Int), readF F (nmW n) = some bs → GrF bs) (hT : TbP w) (hb : w.heap.size ≤ base) (hL : LimB m F) (hm : m ≤ 67108864) (frm : Int) (hf : (Lit.int .i64 frm).wf = true) (hW : FewF F frm) :
    Calls Tryz.prog 33 #[.pointer (some ⟨g, 0, none⟩), .int .i64 frm] u fun e u' => OnOpen base w g F frm u e u' := by
  have hg := h.good
  have h' := h
  obtain ⟨S, h1, h2, h3, h4⟩ := h
  have tu : TbP u := hT.to h3 hb
  have hp : gPw < base := Nat.lt_of_lt_of_le hT.lt hb
  refine (open_of g S F m frm u hR h1 tu hL hm hf hW).mono ?_
  rintro e v ⟨b, hc⟩
  unfold OnOpen
  by_cases h0 : nmW frm = ByteArray.empty
  · rw [if_pos h0] at hc ⊢
    exact ⟨hc, h'.below b⟩
  · rw [if_neg h0] at hc ⊢
    cases ho : openW false F frm with
    | none =>
      rw [ho] at hc
      exact ⟨hc, h'.below b⟩
    | some s =>
      rw [ho] at hc
      obtain ⟨q, a, c, he, hq, hx, hr⟩ := hc
      have hfr := mt nmW_empty.2 h0
      refine ⟨q, a, c, he, ⟨fun k => S k ∨ k = q, ⟨S, h1.below b, hx, fun e => ?_, tu.bel b, fun e => ?_, fun k => Iff.rfl, openW_wf hg.1 hg.2 hL hm (by omega) (by omega) ho⟩, fun k hk => ?_, h3.trans (b.mono h4), Nat.le_trans h4 b.size⟩, hr.mono (by omega)⟩
      · have := h1.lt q e
        omega
      · rcases e with e | e
        · have := h2 _ e
          omega
        · omega
      · rcases hk with e | e
        · exact h2 k e
        · omega
end Go.Proofs.YtknghoecjobkiaaGreatDoor

namespace Go.Proofs.YtknghoecjobkiaaGreatDoor
open Go.RowKit
set_option maxRecDepth 20000
def ObW (o : Ob) : Prop := Word o.v ∧ Word o.b ∧ o.t.size ≤ 9223372036854775807
theorem insS_mrg {k c : Int} (h0 : 0 ≤ k) (h1 : k ≤ 7423) (hc : 0 < c ∧ c < 18446744073709551616) {l : Bks} (h : Good l) : insS k c l = mrg l [(k, c)] := by
  have g1 : Good [(k, c)] := by
    refine ⟨?_, fun x hx => ?_⟩
    · show checkF (-1) [(k, c)] = true
      rw [checkF_cons]
      exact ⟨by omega, h1, hc.1, rfl⟩
    · rw [List.mem_singleton.1 hx]; exact ⟨Int.le_of_lt hc.1, hc.2⟩
  have g2 : Good (insS k c l) := by
    have := h.add h0 h1 ⟨Int.le_of_lt hc.1, hc.2⟩
    unfold addN at this
    rwa [if_neg (by omega)] at this
  refine g2.ext (h.mrg g1) (fun i => ?_)
  rw [h.get g1, insS_get hc.2 h.check]
  have e : getN [(k, c)] i = if i = k then c else 0 := by
    simp only [getN]
    by_cases e : i = k
    · subst e; simp
    · rw [if_neg e, if_neg (fun x => e x.symm)]
  rw [e]
  by_cases e : i = k
  · rw [if_pos e, if_pos e, e]
  · rw [if_neg e, if_neg e]
    have := h.word i
    unfold satS
    split <;> omega
theorem Ok.one {o : Ob} (h : ObW o) : Ok (addP zeroP o) := by
  obtain ⟨b0, b1⟩ := bucketS_range h.1.1 h.1.2
  refine ⟨?_, ?_, ?_, addG_word g0W h.2.1, addG_chk g0W h.2.1 chk0⟩
  · show Good (insS (bucketS o.v) 1 [])
    have := Good.nil.add b0 b1 (c := 1) ⟨by decide, by decide⟩
    exact this
  · exact up_chk (hashK_up List.Pairwise.nil) (hashK_len _ _ _) (fun x hx => by rw [List.mem_singleton.1 (List.mem_of_mem_take hx)]; exact fnvOf_word _)
  · intro x hx
    rw [List.mem_singleton.1 (List.mem_of_mem_take hx)]
    exact fnvOf_word _
theorem addP_merge {s : Sp} (a : Ok s) {o : Ob} (h : ObW o) : addP s o = mergeP s (addP zeroP o) := by
  obtain ⟨b0, b1⟩ := bucketS_range h.1.1 h.1.2
  refine Sp.ext' (insS_mrg b0 b1 ⟨by decide, by decide⟩ a.h) ?_ ?_
  · show (insK _ s.keys).take 1024 = (uni s.keys ([_].take 1024)).take 1024
    rfl
  · show addG s.g o.b = mergeG s.g (addG g0 o.b)
    rw [addG_g0 h.2.1]; rfl
theorem Ok.add {s : Sp} (a : Ok s) {o : Ob} (h : ObW o) : Ok (addP s o) := by rw [addP_merge a h]; exact a.merge (Ok.one h)
theorem Ok.adds {s : Sp} (a : Ok s) {l : List Ob} (h : ∀ o ∈ l, ObW o) : Ok (l.foldl addP s) := by
  induction l generalizing s with
  | nil => exact a
  | cons o t ih => exact ih (a.add (h o (List.mem_cons_self ..))) (fun x hx => h x (List.mem_cons_of_mem _ hx))
theorem Ok.of {l : List Ob} (h : ∀ o ∈ l, ObW o) : Ok (ofP l) := ok_zero.adds h
theorem insS_at {k c d : Int} {t : Bks} : insS k c ((k, d) :: t) = (k, satS d c) :: t := by rw [insS, if_pos rfl]
theorem insS_gt {j k c d : Int} {t : Bks} (h : k < j) : insS k c ((j, d) :: t) = (k, c) :: (j, d) :: t := by rw [insS, if_neg (by omega), if_pos h]
theorem insS_lt {j k c d : Int} {t : Bks} (h : j < k) : insS k c ((j, d) :: t) = (j, d) :: insS k c t := by rw [insS, if_neg (by omega), if_neg (by omega)]

set_option maxHeartbeats 8000000 in
theorem rhadd_any (a : Option Addr) (n cap : Nat) (l : Bks) (k c : Int) (w : World) (hr : RowB w a n l) (hn : (n + 2) * 16 ≤ 140737488355328) (hk : (Lit.int .i64 k).wf = true) (hc : W64 c) :
    Calls Tryz.prog 169 #[.slice a n cap, .int .i64 k, .int .u64 c] w fun e w' => ∃ a' c', e = .returned (.slice a' (addN l k c).length c') ∧ OwnB w' w.heap.size a' (addN l k c).length c' (addN l k c) ∧ Below w.heap.size w w' := by
  obtain ⟨i0, hi, hz0, hz1, hz2⟩ := info_parts Tryz.infoB
  have HR := hide hr
  have HL := hide hr.1
  have HC := hide hc
  obtain ⟨c0, c1⟩ := hc
  obtain ⟨k0, k1⟩ := i64_of_wf hk
  obtain ⟨M, hM⟩ : ∃ M, addN l k c = M := ⟨_, rfl⟩
  have HM := hide hM
  rw [hM]
  clear hr hk hM
  obtain ⟨d0, hd0⟩ : ∃ d0, (c == 0) = d0 := ⟨_, rfl⟩
  have HD0 : Hid ((if d0 then l else insS k c l) = M) := by
    show _ = _
    rw [← HM.out, ← hd0]
    unfold addN
    simp
  go_enter Tryz.func169, Tryz.ntmps169
  go_wp2
  clear hd0
  go_loopw [7, 8, 9] (fun m dn i wr => ∃ (am : Option Addr) (nm cm j : Nat) (D : Bool) (pre : Bks), m = .slice am nm cm ∧ dn = .bool D ∧ i = .int .i64 j ∧ j ≤ n ∧ nm ≤ j + 1 ∧ Hid (pre.length = nm ∧ pre ++ (if D then l.drop j else insS k c (l.drop j)) = M) ∧ Hid (D = false → nm = j) ∧ Hid (OwnB wr w.heap.size am nm cm pre) ∧ Hid (Below w.heap.size w wr)) (fun _ _ i _ => n - (intOf i).toNat)
  case atStart => exact ⟨none, 0, 0, 0, d0, [], rfl, rfl, rfl, by omega, by omega, ⟨rfl, HD0.out⟩, fun _ => rfl, ownB_nil _ _, Below.refl _ _⟩
  case round =>
    obtain ⟨am, nm, cm, j, D, pre, rfl, rfl, rfl, hj, hnm, HP, HD, HO, HB⟩ := hrel
    by_cases hlt : j < n
    · obtain ⟨-, -, hfit, h | ⟨b, off, rfl, hcell⟩⟩ := HR.out.below HB.out (Nat.le_refl _)
      · omega
      obtain ⟨g0, g1⟩ := hcell j hlt
      have HY := hide (u64_of_wf (getD_fit hfit j).2)
      have HDR := hide (drop_bks (l := l) (k := j) (by rw [HL.out]; exact hlt))
      have i1 : (0 : Int) ≤ (j : Int) := by omega
      have i2 : (j : Int) < (n : Int) := by omega
      have HBW : Hid (w.heap.size ≤ wr.heap.size) := HB.out.size
      have HG : Hid (∀ W, Below w.heap.size w W → W.cell? ⟨b, off + j * 2, none⟩ = some (.int .i64 (l.getD j (0, 0)).1) ∧ W.cell? ⟨b, off + j * 2 + 1, none⟩ = some (.int .u64 (l.getD j (0, 0)).2)) := by
        intro W hW
        obtain ⟨-, -, -, h | ⟨b', off', e', hcell'⟩⟩ := HR.out.below hW (Nat.le_refl _)
        · omega
        · simp only [Option.some.injEq, Addr.mk.injEq, and_true] at e'
          obtain ⟨rfl, rfl⟩ := e'
          exact hcell' j hlt
      clear hcell hfit
      generalize l.getD j (0, 0) = x at *
      obtain ⟨x, y⟩ := x
      simp only at g0 g1 HY HG
      cases D
      · have hnj := HD.out rfl
        subst hnj
        by_cases e1 : x = k
        · have t1 : (x == k) = true := by simpa using e1
          have A := hide (fun w => refadd_any y c HY.out HC.out w)
          rw [satS_addS] at A
          have HN : Hid ((pre ++ [(k, satS y c)]).length = nm + 1 ∧ (pre ++ [(k, satS y c)]) ++ (if true then l.drop (nm + 1) else insS k c (l.drop (nm + 1))) = M) := by
            refine ⟨by rw [List.length_append, HP.out.1]; rfl, ?_⟩
            have := HP.out.2
            rw [HDR.out, e1, if_neg (by decide), insS_at] at this
            rw [← this]; simp
          generalize satS y c = S at *
          clear e1
          go_wp2_with fail
          refine (A.out _).mono ?_
          rintro e w' ⟨rfl, rfl⟩
          go_wp2_with (at_builtin; refine wpList_append_bks _ rfl _ _ 23 rfl w.heap.size i0 Tryz.underlying23 hi hz0 hz1 hz2 am nm cm pre rfl (HO.out.alloc _) ⟨w'.heap.size, 0, none⟩ 1 1 [(k, S)] rfl rfl (two_cells w' (k, S) _) (by omega) (by have := HBW.out; simp; omega) ?_)
          intro a2 c2 w2 o2 b2
          have O2 := hide o2
          have K2 : Hid (Below w.heap.size w w2) := (bel_al HB.out (Nat.le_refl _) _).trans b2
          clear o2 b2 HO HB A g0 g1
          go_wp2
          go_roundw
          case rel => exact ⟨a2, nm + 1, c2, nm + 1, true, _, rfl, rfl, by go_num, by omega, by omega, HN, fun h => by simp at h, O2, K2⟩
          case measure => simp [intOf]; omega
        · have t1 : (x == k) = false := by simpa using e1
          by_cases e2 : k < x
          · have t2 : decide (k < x) = true := decide_eq_true e2
            have HN : Hid ((pre ++ [(k, c)] ++ [(x, y)]).length = nm + 1 + 1 ∧ (pre ++ [(k, c)] ++ [(x, y)]) ++ (if true then l.drop (nm + 1) else insS k c (l.drop (nm + 1))) = M) := by
              refine ⟨by rw [List.length_append, List.length_append, HP.out.1]; rfl, ?_⟩
              have := HP.out.2
              rw [HDR.out, if_neg (by decide), insS_gt e2] at this
              rw [← this]; simp
            clear e1 e2
            go_wp2_with (at_builtin; refine wpList_append_bks _ rfl _ _ 23 rfl w.heap.size i0 Tryz.underlying23 hi hz0 hz1 hz2 am nm cm pre rfl (HO.out.alloc _) ⟨wr.heap.size, 0, none⟩ 1 1 [(k, c)] rfl rfl (two_cells wr (k, c) _) (by omega) (by have := HBW.out; simp; omega) ?_)
            intro a2 c2 w2 o2 b2
            have O2 := hide o2
            have K2 : Hid (Below w.heap.size w w2) := (bel_al HB.out (Nat.le_refl _) _).trans b2
            obtain ⟨f0, f1⟩ := HG.out w2 K2.out
            have HBW2 : Hid (w.heap.size ≤ w2.heap.size) := K2.out.size
            clear o2 b2 HO HB g0 g1 HBW
            have HBW := HBW2
            go_wp2_with (at_builtin; refine wpList_append_bks _ rfl _ _ 23 rfl w.heap.size i0 Tryz.underlying23 hi hz0 hz1 hz2 a2 (nm + 1) c2 _ rfl (O2.out.alloc _) ⟨w2.heap.size, 0, none⟩ 1 1 [(x, y)] rfl rfl (two_cells w2 (x, y) _) (by omega) (by have := HBW.out; simp; omega) ?_)
            intro a3 c3 w3 o3 b3
            have O3 : Hid (OwnB w3 w.heap.size a3 (nm + 1 + 1) c3 (pre ++ [(k, c)] ++ [(x, y)])) := by rw [List.append_assoc]; exact o3
            have K3 : Hid (Below w.heap.size w w3) := (bel_al K2.out (Nat.le_refl _) _).trans b3
            clear o3 b3 O2 K2 f0 f1
            go_wp2
            go_roundw
            case rel => exact ⟨a3, nm + 1 + 1, c3, nm + 1, true, _, rfl, rfl, by go_num, by omega, by omega, HN, fun h => by simp at h, O3, K3⟩
            case measure => simp [intOf]; omega
          · have t2 : decide (k < x) = false := decide_eq_false e2
            have HN : Hid ((pre ++ [(x, y)]).length = nm + 1 ∧ (pre ++ [(x, y)]) ++ (if false then l.drop (nm + 1) else insS k c (l.drop (nm + 1))) = M) := by
              refine ⟨by rw [List.length_append, HP.out.1]; rfl, ?_⟩
              have := HP.out.2
              rw [HDR.out, if_neg (by decide), insS_lt (by omega)] at this
              rw [← this]; simp
            clear e1 e2
            go_wp2_with (at_builtin; refine wpList_append_bks _ rfl _ _ 23 rfl w.heap.size i0 Tryz.underlying23 hi hz0 hz1 hz2 am nm cm pre rfl (HO.out.alloc _) ⟨wr.heap.size, 0, none⟩ 1 1 [(x, y)] rfl rfl (two_cells wr (x, y) _) (by omega) (by have := HBW.out; simp; omega) ?_)
            intro a2 c2 w2 o2 b2
            have O2 := hide o2
            have K2 : Hid (Below w.heap.size w w2) := (bel_al HB.out (Nat.le_refl _) _).trans b2
            clear o2 b2 HO HB g0 g1
            go_wp2
            go_roundw
            case rel => exact ⟨a2, nm + 1, c2, nm + 1, false, _, rfl, rfl, by go_num, by omega, by omega, HN, fun _ => rfl, O2, K2⟩
            case measure => simp [intOf]; omega
      · have HN : Hid ((pre ++ [(x, y)]).length = nm + 1 ∧ (pre ++ [(x, y)]) ++ (if true then l.drop (j + 1) else insS k c (l.drop (j + 1))) = M) := by
          refine ⟨by rw [List.length_append, HP.out.1]; rfl, ?_⟩
          have := HP.out.2
          rw [HDR.out, if_pos (by decide)] at this
          rw [← this]; simp
        go_wp2_with (at_builtin; refine wpList_append_bks _ rfl _ _ 23 rfl w.heap.size i0 Tryz.underlying23 hi hz0 hz1 hz2 am nm cm pre rfl (HO.out.alloc _) ⟨wr.heap.size, 0, none⟩ 1 1 [(x, y)] rfl rfl (two_cells wr (x, y) _) (by omega) (by have := HBW.out; simp; omega) ?_)
        intro a2 c2 w2 o2 b2
        have O2 := hide o2
        have K2 : Hid (Below w.heap.size w w2) := (bel_al HB.out (Nat.le_refl _) _).trans b2
        clear o2 b2 HO HB g0 g1
        go_wp2
        go_roundw
        case rel => exact ⟨a2, nm + 1, c2, j + 1, true, _, rfl, rfl, by go_num, by omega, by omega, HN, fun h => by simp at h, O2, K2⟩
        case measure => simp [intOf]; omega
    · have : j = n := by omega
      subst this
      have HBW : Hid (w.heap.size ≤ wr.heap.size) := HB.out.size
      have HDR : Hid (l.drop j = []) := List.drop_of_length_le (by rw [HL.out]; omega)
      cases D
      · have HN : Hid (pre ++ [(k, c)] = M ∧ M.length = nm + 1) := by
          have := HP.out.2
          rw [HDR.out, if_neg (by decide), insS] at this
          exact ⟨this, by rw [← this, List.length_append, HP.out.1]; rfl⟩
        go_wp2_with (at_builtin; refine wpList_append_bks _ rfl _ _ 23 rfl w.heap.size i0 Tryz.underlying23 hi hz0 hz1 hz2 am nm cm pre rfl (HO.out.alloc _) ⟨wr.heap.size, 0, none⟩ 1 1 [(k, c)] rfl rfl (two_cells wr (k, c) _) (by omega) (by have := HBW.out; simp; omega) ?_)
        intro a2 c2 w2 o2 b2
        rw [HN.out.1] at o2
        have O2 := hide o2
        have K2 : Hid (Below w.heap.size w w2) := (bel_al HB.out (Nat.le_refl _) _).trans b2
        clear o2 b2 HO HB
        go_wp2
        go_ret
        rw [HN.out.2]
        exact ⟨a2, c2, rfl, O2, K2⟩
      · have HN : Hid (pre = M ∧ M.length = nm) := by
          have := HP.out.2
          rw [HDR.out, if_pos (by decide), List.append_nil] at this
          exact ⟨this, by rw [← this]; exact HP.out.1⟩
        rw [HN.out.1] at HO
        go_wp2
        go_ret
        rw [HN.out.2]
        exact ⟨am, cm, rfl, HO, HB⟩
theorem take_ob {l : List Ob} {k : Nat} (h : k < l.length) : l.take (k + 1) = l.take k ++ [l.getD k ob0] := by
  rw [List.take_succ_eq_append_getElem h, List.getD_eq_getElem?_getD, List.getElem?_eq_getElem h]
  rfl
theorem ofP_more {l : List Ob} {k : Nat} (h : k < l.length) : ofP (l.take (k + 1)) = addP (ofP (l.take k)) (l.getD k ob0) := by
  rw [take_ob h]
  show (l.take k ++ [_]).foldl addP zeroP = _
  rw [List.foldl_append]
  rfl
theorem ob_getD {l : List Ob} (h : ∀ o ∈ l, ObW o) (i : Nat) : ObW (l.getD i ob0) := by
  by_cases hi : i < l.length
  · rw [List.getD_eq_getElem?_getD, List.getElem?_eq_getElem hi]
    exact h _ (List.getElem_mem hi)
  · rw [List.getD_eq_getElem?_getD, List.getElem?_eq_none (by omega)]
    exact ⟨⟨by decide, by decide⟩, ⟨by decide, by decide⟩, by decide⟩
theorem bk_wf {x : Int} (h0 : 0 ≤ x) (h1 : x ≤ 7423) : (Lit.int .i64 x).wf = true := by
  simp [Lit.wf, IntKind.min, IntKind.max, IntKind.signed, IntKind.bits]
  omega
theorem rowO_at {w : World} {a : Option Addr} {n : Nat} {l : List Ob} (h : RowO w a n l) {j : Nat} (hj : j < n) : ∃ b off, a = some ⟨b, off, none⟩ ∧ ∀ W, Below w.heap.size w W → W.cell? ⟨b, off + j * 3, none⟩ = some (.int .u64 (l.getD j ob0).v) ∧ W.cell? ⟨b, off + j * 3 + 1, none⟩ = some (.string (l.getD j ob0).t) ∧ W.cell? ⟨b, off + j * 3 + 2, none⟩ = some (.int .u64 (l.getD j ob0).b) := by
  obtain ⟨_, _, _, h0 | ⟨b, off, rfl, hc⟩⟩ := h
  · omega
  · refine ⟨b, off, rfl, fun W hW => ?_⟩
    have hlt : b < w.heap.size := World.block_lt_of_cell? w _ (hc j hj).1
    rw [hW.cell (p := ⟨b, off + j * 3, none⟩) hlt, hW.cell (p := ⟨b, off + j * 3 + 1, none⟩) hlt, hW.cell (p := ⟨b, off + j * 3 + 2, none⟩) hlt]
    exact hc j hj

theorem RowB.set {w : World} {a : Option Addr} {n : Nat} {l : Bks} (h : RowB w a n l) {b : Nat} (hb : ∀ x, a = some x → x.block ≠ b) (o : Nat) (v : Value) : RowB (w.setCell ⟨b, o, none⟩ v) a n l := by
  obtain ⟨h1, h2, h3, h4⟩ := h
  refine ⟨h1, h2, h3, ?_⟩
  rcases h4 with h4 | ⟨b', off, rfl, hc⟩
  · exact Or.inl h4
  · refine Or.inr ⟨b', off, rfl, fun i hi => ?_⟩
    have e : ∀ j, (w.setCell ⟨b, o, none⟩ v).cell? ⟨b', j, none⟩ = w.cell? ⟨b', j, none⟩ := fun j => World.cell?_of_block (w := w) (Below.heap_setCell w _ v b' (hb _ rfl))
    rw [e, e]
    exact hc i hi
theorem Row.set {k : IntKind} {w : World} {a : Option Addr} {n : Nat} {l : List Int} (h : Row k w a n l) {b : Nat} (hb : ∀ x, a = some x → x.block ≠ b) (o : Nat) (v : Value) : Row k (w.setCell ⟨b, o, none⟩ v) a n l := by
  obtain ⟨h1, h2, h3, h4⟩ := h
  refine ⟨h1, h2, h3, ?_⟩
  rcases h4 with h4 | ⟨b', off, rfl, hc⟩
  · exact Or.inl h4
  · refine Or.inr ⟨b', off, rfl, fun i hi => ?_⟩
    have e : ∀ j, (w.setCell ⟨b, o, none⟩ v).cell? ⟨b', j, none⟩ = w.cell? ⟨b', j, none⟩ := fun j => World.cell?_of_block (w := w) (Below.heap_setCell w _ v b' (hb _ rfl))
    rw [e]
    exact hc i hi
theorem SBox.setg {w : World} {b : Nat} {h : Hd} {g : Gz} (q : SBox w b h g) (z : Gz) : SBox ((((w.setCell ⟨b, 2, none⟩ (.int .u64 z.n)).setCell ⟨b, 3, none⟩ (.int .u64 z.nans)).setCell ⟨b, 4, none⟩ (.int .u64 z.lo)).setCell ⟨b, 5, none⟩ (.int .u64 z.hi)) b h z := by
  obtain ⟨l, ⟨c0, c1, c2, c3, c4, c5⟩, f⟩ := q
  exact ⟨by simp [go_sem, l], ⟨by simp [go_sem, c0], by simp [go_sem, c1], by simp [go_sem, c2], by simp [go_sem, c3], by simp [go_sem, c4], by simp [go_sem, c5]⟩, fun i => by simp [go_sem, f]⟩

/-- The document's own sketch that grows: its answer's box, its own box, its lists. -/
structure Rf (w W : World) (x y : Nat) (h : Hd) (s : Sp) : Prop where
  low : Below w.heap.size w W
  res : SBox W x hd0 g0
  box : SBox W y h s.g
  see : SeeP W h s
  ne : x ≠ y ∧ w.heap.size ≤ x ∧ w.heap.size ≤ y
  fa : ∀ b, h.a = some b → b.block ≠ x ∧ b.block ≠ y ∧ w.heap.size ≤ b.block
  fk : ∀ b, h.k = some b → b.block ≠ x ∧ b.block ≠ y ∧ w.heap.size ≤ b.block
section
variable {w W W' : World} {x y : Nat} {h : Hd} {s : Sp}
theorem Rf.below (q : Rf w W x y h s) (b : Below W.heap.size W W') : Rf w W' x y h s :=
  ⟨bel_to q.low (Nat.le_refl _) b, q.res.below b q.res.lt, q.box.below b q.box.lt, q.see.below b (Nat.le_refl _), q.ne, q.fa, q.fk⟩
theorem Rf.drew (q : Rf w W x y h s) : Rf w W.drew x y h s := q.below (Below.refl _ _).drew
theorem Rf.setH (q : Rf w W x y h s) {a : Option Addr} {n c base : Nat} {l : Bks} (o : OwnB W base a n c l) (hb : x < base ∧ y < base) (hg : Good l) : Rf w (W.setCell ⟨y, 0, none⟩ (.slice a n c)) x y ⟨a, n, c, h.k, h.m, h.d⟩ ⟨l, s.keys, s.g⟩ := by
  have hn : n ≤ 7424 := by rw [← o.len]; exact good_size hg
  have hr := o.row (by omega) (good_fit hg)
  have fa : ∀ b, a = some b → b.block ≠ x ∧ b.block ≠ y ∧ w.heap.size ≤ b.block := fun b e => by
    have := o.block b.block (by rw [e]; rfl)
    have := q.ne.2.1
    exact ⟨by omega, by omega, by omega⟩
  exact ⟨q.low.setCell (p := ⟨y, 0, none⟩) q.ne.2.2 _, q.res.far (p := ⟨y, 0, none⟩) (Ne.symm q.ne.1) _, q.box.seth a n c,
    ⟨hr.set (fun b e => (fa b e).2.1) 0 _, q.see.rk.set (fun b e => (q.fk b e).2.1) 0 _, q.see.g, o.capped.1, q.see.kc, fun e => (o.capped.2 e).2, q.see.nk, by show n * 16 ≤ _; omega, q.see.sk⟩, q.ne, fa, q.fk⟩
theorem Rf.setK (q : Rf w W x y h s) {a : Option Addr} {c : Nat} {l : List Int} (hr : Row .u64 W a l.length l) (hc : l.length ≤ c) (hn : a = none → c = 0) (hl : l.length ≤ 1024) (fk : ∀ b, a = some b → b.block ≠ x ∧ b.block ≠ y ∧ w.heap.size ≤ b.block) : Rf w (W.setCell ⟨y, 1, none⟩ (.slice a l.length c)) x y ⟨h.a, h.n, h.c, a, l.length, c⟩ ⟨s.hist, l, s.g⟩ :=
  ⟨q.low.setCell (p := ⟨y, 1, none⟩) q.ne.2.2 _, q.res.far (p := ⟨y, 1, none⟩) (Ne.symm q.ne.1) _, q.box.setk a l.length c,
    ⟨q.see.rh.set (fun b e => (q.fa b e).2.1) 1 _, hr.set (fun b e => (fk b e).2.1) 1 _, q.see.g, q.see.hc, hc, q.see.nh, hn, q.see.sh, by show l.length * 8 ≤ _; omega⟩, q.ne, q.fa, fk⟩
theorem Rf.setG (q : Rf w W x y h s) {z : Gz} (hz : GW z) : Rf w ((((W.setCell ⟨y, 2, none⟩ (.int .u64 z.n)).setCell ⟨y, 3, none⟩ (.int .u64 z.nans)).setCell ⟨y, 4, none⟩ (.int .u64 z.lo)).setCell ⟨y, 5, none⟩ (.int .u64 z.hi)) x y h ⟨s.hist, s.keys, z⟩ :=
  ⟨(((q.low.setCell (p := ⟨y, 2, none⟩) q.ne.2.2 _).setCell (p := ⟨y, 3, none⟩) q.ne.2.2 _).setCell (p := ⟨y, 4, none⟩) q.ne.2.2 _).setCell (p := ⟨y, 5, none⟩) q.ne.2.2 _,
    (((q.res.far (p := ⟨y, 2, none⟩) (Ne.symm q.ne.1) _).far (p := ⟨y, 3, none⟩) (Ne.symm q.ne.1) _).far (p := ⟨y, 4, none⟩) (Ne.symm q.ne.1) _).far (p := ⟨y, 5, none⟩) (Ne.symm q.ne.1) _, q.box.setg z,
    have fa := fun b e => (q.fa b e).2.1; have fk := fun b e => (q.fk b e).2.1; ⟨(((q.see.rh.set fa 2 _).set fa 3 _).set fa 4 _).set fa 5 _, (((q.see.rk.set fk 2 _).set fk 3 _).set fk 4 _).set fk 5 _, hz, q.see.hc, q.see.kc, q.see.nh, q.see.nk, q.see.sh, q.see.sk⟩, q.ne, q.fa, q.fk⟩
theorem Rf.done (q : Rf w W x y h s) : SeeP (put6 W x h s.g) h s ∧ Below w.heap.size w (put6 W x h s.g) := by
  have fa := fun b e => (q.fa b e).1
  have fk := fun b e => (q.fk b e).1
  exact ⟨⟨(((((q.see.rh.set fa 0 _).set fa 1 _).set fa 2 _).set fa 3 _).set fa 4 _).set fa 5 _, (((((q.see.rk.set fk 0 _).set fk 1 _).set fk 2 _).set fk 3 _).set fk 4 _).set fk 5 _, q.see.g, q.see.hc, q.see.kc, q.see.nh, q.see.nk, q.see.sh, q.see.sk⟩, below_put q.low q.ne.2.1 h s.g⟩
end

set_option maxHeartbeats 8000000 in
theorem refpof_at (a : Option Addr) (n cap : Nat) (l : List Ob) (w : World) (hr : RowO w a n l) :
    Calls Tryz.prog 99 #[.slice a n cap] w fun e w' => ∃ h, e = .returned (Value.agg #[.slice (Hd.a h) (Hd.n h) (Hd.c h), .slice (Hd.k h) (Hd.m h) (Hd.d h), .int .u64 (Gz.n ((ofP l).g)), .int .u64 (Gz.nans ((ofP l).g)), .int .u64 (Gz.lo ((ofP l).g)), .int .u64 (Gz.hi ((ofP l).g))]) ∧ SeeP w' h (ofP l) ∧ Below w.heap.size w w' ∧ (∀ b, h.a = some b → w.heap.size ≤ b.block) ∧ ∀ b, h.k = some b → w.heap.size ≤ b.block := by
  obtain ⟨w0, hw0⟩ : ∃ w0, Hid ((w.alloc (.cells #[.slice none 0 0, .slice none 0 0, .int .u64 0, .int .u64 0, .int .u64 0, .int .u64 0] 29)).alloc (.cells #[.slice none 0 0, .slice none 0 0, .int .u64 0, .int .u64 0, .int .u64 0, .int .u64 0] 29) = w0) := ⟨_, rfl⟩
  obtain ⟨x, hx⟩ : ∃ x, Hid (w.heap.size = x) := ⟨_, rfl⟩
  obtain ⟨y, hy⟩ : ∃ y, Hid (x + 1 = y) := ⟨_, rfl⟩
  have Q0 : Hid (Rf w w0 x y hd0 zeroP) := by
    refine ⟨?_, ?_, ?_, see_zero _, ⟨?_, ?_, ?_⟩, (fun b e => by simp [hd0] at e), (fun b e => by simp [hd0] at e)⟩
    · rw [← hw0.out]; exact bel2 _ _ _
    · rw [← hw0.out, ← hx.out]; exact (SBox.new w _ hd0 g0).alloc _
    · rw [← hw0.out, ← hy.out, ← hx.out]
      have := SBox.new (w.alloc (.cells #[.slice none 0 0, .slice none 0 0, .int .u64 0, .int .u64 0, .int .u64 0, .int .u64 0] 29)) 29 hd0 g0
      rwa [size_al] at this
    · rw [← hy.out]; omega
    · rw [hx.out]; exact Nat.le_refl _
    · rw [← hy.out, hx.out]; omega
  have HR := hide hr
  have HL := hide hr.1
  have hn := hr.2.1
  have OW : Hid (∀ o ∈ l, ObW o) := hr.2.2.1
  obtain ⟨sl, hsl⟩ : ∃ s, Hid (ofP l = s) := ⟨_, rfl⟩
  rw [hsl.out]
  clear hr
  go_enter Tryz.func99, Tryz.ntmps99
  go_upto_region 2 with fail
  rw [hw0.out, hx.out, hy.out]
  clear hw0 hx hy
  go_wp2_with fail
  go_loopw [4] (fun i wr => ∃ j : Nat, j ≤ n ∧ i = .int .i64 j ∧ ∃ h, Hid (Rf w wr x y h (ofP (l.take j)))) (fun i _ => n - (intOf i).toNat)
  case atStart => exact ⟨0, by omega, rfl, hd0, Q0⟩
  case round =>
    obtain ⟨j, hj, rfl, h, HT⟩ := hrel
    by_cases hlt : j < n
    · obtain ⟨bb, off, rfl, hc⟩ := rowO_at HR.out hlt
      have HC := hide hc
      have HO := hide (ob_getD OW.out j)
      have HS := hide (ofP_more (l := l) (k := j) (by rw [HL.out]; exact hlt))
      have OK := hide (Ok.of (l := l.take j) (fun o ho => OW.out o (List.mem_of_mem_take ho)))
      have OK2 := hide (OK.out.add HO.out)
      clear hc
      generalize l.getD j ob0 = o at *
      generalize ofP (l.take j) = s at *
      have i1 : (0 : Int) ≤ (j : Int) := by omega
      have i2 : (j : Int) < (n : Int) := by omega
      have BR := bucketS_range HO.out.1.1 HO.out.1.2
      have C1 := hide (fun W => refbucket_any o.v W HO.out.1)
      have EA : Hid (addN s.hist (bucketS o.v) 1 = insS (bucketS o.v) 1 s.hist) := by show _ = _; unfold addN; rw [if_neg (by decide)]
      have C2 := hide (fun W (q : SeeP W h s) => rhadd_any h.a h.n h.c s.hist (bucketS o.v) 1 W q.rh (by have := good_size OK.out.h; rw [q.rh.1] at this; omega) (bk_wf BR.1 BR.2) ⟨by decide, by decide⟩)
      rw [EA.out] at C2
      have G2 : Hid (Good (insS (bucketS o.v) 1 s.hist)) := OK2.out.h
      obtain ⟨l2, hl2⟩ : ∃ l2, Hid (insS (bucketS o.v) 1 s.hist = l2) := ⟨_, rfl⟩
      have HS2 : Hid (ofP (l.take (j + 1)) = ⟨l2, hashK 1024 s.keys (fnvOf (numsOf o.t)), addG s.g o.b⟩) := by rw [HS.out, ← hl2.out]; rfl
      have KU := hide (chk_up OK.out.k)
      have C3 := hide (fun W h' (q : SeeP W h' ⟨l2, s.keys, s.g⟩) => refkadd_any h'.k h'.m h'.d s.keys o.t W q.rk KU.out.1 (by have := KU.out.2; rw [q.rk.1] at this; exact this) q.kc q.nk HO.out.2.2)
      unfold BackU at C3
      have K2 := hide (hashK_len 1024 s.keys (fnvOf (numsOf o.t)))
      have C4 := hide (fun W => refgadd_any s.g o.b OK.out.g HO.out.2.1 W)
      have GG : Hid (GW (addG s.g o.b)) := addG_word OK.out.g HO.out.2.1
      rw [hl2.out] at C2 G2
      generalize hashK 1024 s.keys (fnvOf (numsOf o.t)) = l3 at *
      generalize addG s.g o.b = g3 at *
      generalize bucketS o.v = bk at *
      obtain ⟨n2, hn2⟩ : ∃ n2, Hid (l2.length = n2) := ⟨_, rfl⟩
      rw [hn2.out] at C2
      clear EA OK OK2 KU hl2 HS BR
      go_upto_region 5 with fail
      go_cut [4] (fun i wx => i = .int .i64 (j : Int) ∧ ∃ h', Hid (Rf w wx x y h' ⟨l2, s.keys, s.g⟩))
      case first =>
        have HD := hide HT.out.drew
        obtain ⟨c0, c1, c2, c3, c4, c5⟩ := HT.out.box.cells
        obtain ⟨f0, f1, f2⟩ := HC.out wr HT.out.low
        go_region_with (first
          | (go_at_call 170; with_reducible refine (C1.out _).mono ?_; rintro e w' ⟨rfl, rfl⟩)
          | (go_at_call 169; with_reducible refine (C2.out _ HD.out.see).mono ?_; rintro e v7 ⟨a7, c7, rfl, o7, b7⟩; have T7 := hide (HD.out.below b7); have O7 := hide o7; have z0 := T7.out.box.cells.1; have z1 := T7.out.box.free 0; have LT := hide (And.intro HD.out.res.lt HD.out.box.lt)))
        all_goals
          go_wp2_with fail
          go_meet
          case rel => exact ⟨rfl, _, T7.out.setH O7.out LT.out G2.out⟩
      case rest =>
        obtain ⟨rfl, h4, T8⟩ := hcut
        clear HT C1 C2 G2
        generalize wc = wr at T8 ⊢
        go_upto_region 6 with fail
        go_cut [4] (fun i wx => i = .int .i64 (j : Int) ∧ ∃ h', Hid (Rf w wx x y h' ⟨l2, l3, s.g⟩))
        case first =>
          have HD := hide T8.out.drew
          obtain ⟨c0, c1, c2, c3, c4, c5⟩ := T8.out.box.cells
          obtain ⟨f0, f1, f2⟩ := HC.out wr T8.out.low
          dsimp only at c2 c3 c4 c5
          go_region_with (first
            | (go_at_call 171; with_reducible refine (C3.out _ _ HD.out.see).mono ?_; rintro e v7 ⟨a7, c7, rfl, r7, n7, m7, b7, d7⟩; have T7 := hide (HD.out.below b7); have R7 := hide r7; have N7 := hide n7; have M7 := hide m7; have z0 := T7.out.box.cells.2.1; have z1 := T7.out.box.free 1; have D7 := hide d7; have LT := hide (And.intro HD.out.res.lt HD.out.box.lt); clear d7 m7 n7 r7 b7))
          all_goals
            go_wp2_with fail
            go_meet
            case rel =>
              refine ⟨rfl, _, T7.out.setK R7.out N7.out M7.out K2.out (fun b e => ?_)⟩
              rcases D7.out with d | d
              · exact T8.out.fk b (by rw [← d]; exact e)
              · have := (d b e).1
                have := LT.out
                have := T8.out.ne.2.1
                exact ⟨by omega, by omega, by omega⟩
        case rest =>
          obtain ⟨rfl, h5, T9⟩ := hcut
          clear T8 C3 K2
          generalize wc = wr at T9 ⊢
          go_upto_region 7 with fail
          have HD := hide T9.out.drew
          obtain ⟨c0, c1, c2, c3, c4, c5⟩ := T9.out.box.cells
          obtain ⟨f0, f1, f2⟩ := HC.out wr T9.out.low
          dsimp only at c2 c3 c4 c5
          go_region_with (first
            | (go_at_call 172; with_reducible refine (C4.out _).mono ?_; rintro e v7 ⟨rfl, b7⟩; have T7 := hide (HD.out.below b7); clear c0 c1 c2 c3 c4 c5; obtain ⟨c0, c1, c2, c3, c4, c5⟩ := T7.out.box.cells; have z2 := T7.out.box.free 2; have z3 := T7.out.box.free 3; have z4 := T7.out.box.free 4; have z5 := T7.out.box.free 5; dsimp only at c2 c3 c4 c5))
          all_goals
            have T10 := hide (T7.out.setG GG.out)
            have HE := hide HS2.out.symm
            dsimp only at T10
            rw [HE.out] at T10
            go_wp2
            go_roundw
            case rel => exact ⟨j + 1, by omega, by go_num, _, T10⟩
            case measure => simp [intOf]; omega
    · have hjn : j = n := by omega
      have e : l.take j = l := List.take_of_length_le (by rw [HL.out]; omega)
      rw [e, hsl.out] at HT
      have i3 : ¬ (j : Int) < (n : Int) := by omega
      obtain ⟨c0, c1, c2, c3, c4, c5⟩ := HT.out.box.cells
      have F := hide (HT.out.res.put h sl.g)
      have DN := hide HT.out.done
      have DA := hide (fun b e => (HT.out.fa b e).2.2)
      have DK := hide (fun b e => (HT.out.fk b e).2.2)
      obtain ⟨_, ⟨d0, d1, d2, d3, d4, d5⟩, df⟩ := HT.out.res
      have f0 := df 0
      have f1 := df 1
      have f2 := df 2
      have f3 := df 3
      have f4 := df 4
      have f5 := df 5
      clear df
      dsimp only [hd0, g0] at d0 d1 d2 d3 d4 d5
      go_wp2
      obtain ⟨_, ⟨e0, e1, e2, e3, e4, e5⟩, _⟩ := F.out
      unfold put6 at e0 e1 e2 e3 e4 e5
      exact bodyPost_ret (v := (Value.agg #[.slice (Hd.a h) (Hd.n h) (Hd.c h), .slice (Hd.k h) (Hd.m h) (Hd.d h), .int .u64 (Gz.n sl.g), .int .u64 (Gz.nans sl.g), .int .u64 (Gz.lo sl.g), .int .u64 (Gz.hi sl.g)])) (by simp [results, Tryz.results99, go_sem, e0, e1, e2, e3, e4, e5]) rfl ⟨h, rfl, DN.out.1, DN.out.2, DA.out, DK.out⟩
set_option linter.unusedVariables false
def lbV (x : Lb) : List Value := [.string x.1, .string x.2]
theorem lbV_len (x : Lb) : (lbV x).length = 2 := rfl
theorem lbV_one (x : Lb) : ∀ u ∈ lbV x, u.oneCell' = true := fun u hu => by
  simp [lbV] at hu
  rcases hu with rfl | rfl <;> rfl
theorem ownG_lit {α : Type} {fl : α → List Value} {sz : Nat} (hf : ∀ x, (fl x).length = sz) (w : World) (e : TypeId) (x : α) : OwnG e sz fl (w.alloc (.cells (fl x).toArray e)) w.heap.size (some ⟨w.heap.size, 0, none⟩) 1 1 [x] := by
  refine ⟨by rw [flatG_len hf]; rfl, Or.inr ⟨w.heap.size, 1, (fl x).toArray, rfl, Nat.le_refl _, heap_alloc_new w _, Nat.le_refl _, by decide, ?_, ?_⟩⟩
  · rw [List.size_toArray, hf, Nat.one_mul]
  · rw [Nat.one_mul]
    show (fl x).take sz = [x].flatMap fl
    rw [List.take_of_length_le (by rw [hf]; exact Nat.le_refl _)]
    simp
def cst12 : ByteArray := ⟨#[48, 49, 50, 51, 52, 53, 54, 55, 56, 57, 97, 98]⟩
def lbHost (k : Nat) : Lb := (⟨#[104, 111, 115, 116]⟩, ⟨#[104]⟩ ++ cst12.extract k (k + 1))
def lbZone (k : Nat) : Lb := (⟨#[122, 111, 110, 101]⟩, ⟨#[122]⟩ ++ cst12.extract (k / 3) (k / 3 + 1))
/-- A label set, by a number. -/
def setK (k : Nat) : List Lb := if k % 2 = 1 then [lbHost k, lbZone k] else [lbHost k]
def setN (n : Int) : List Lb := setK (n % 12).toNat
theorem setK_chk {k : Nat} (h : k < 12) : chkL (setK k) = true := by
  have : k = 0 ∨ k = 1 ∨ k = 2 ∨ k = 3 ∨ k = 4 ∨ k = 5 ∨ k = 6 ∨ k = 7 ∨ k = 8 ∨ k = 9 ∨ k = 10 ∨ k = 11 := by omega
  rcases this with rfl | rfl | rfl | rfl | rfl | rfl | rfl | rfl | rfl | rfl | rfl | rfl <;> decide +kernel
theorem setN_chk (n : Int) : chkL (setN n) = true := setK_chk (by omega)
theorem ext_size1 {k : Nat} (h : k < 12) : (cst12.extract k (k + 1)).size = 1 := by
  rw [ByteArray.size_extract]
  show min (k + 1) 12 - k = 1
  omega

set_option maxHeartbeats 4000000 in
theorem set_any (n : Int) (hn : (Lit.int .i64 n).wf = true) (w : World) :
    Calls Tryz.prog 98 #[.int .i64 n] w fun e w' => ∃ a c, e = .returned (.slice a (setN n).length c) ∧ OwnL w' w.heap.size a (setN n).length c (setN n) ∧ Below w.heap.size w w' := by
  have PL := hide (place_any n 12 (by decide) (by decide) w)
  obtain ⟨k, hk⟩ : ∃ k : Nat, n % 12 = k := ⟨(n % 12).toNat, by omega⟩
  have hk12 : k < 12 := by omega
  have HS : Hid (setN n = setK k) := by show _ = _; unfold setN; rw [hk, Int.toNat_natCast]
  rw [HS.out]
  rw [hk] at PL
  obtain ⟨i0, hi, hz0, hz1, hz2⟩ := info_parts Tryz.infoL
  have e1 := ext_size1 hk12
  have e2 := ext_size1 (k := k / 3) (by omega)
  by_cases hp : k % 2 = 1
  · have HK : Hid (setK k = [lbHost k, lbZone k]) := by show _ = _; unfold setK; rw [if_pos hp]
    rw [HK.out]
    have p1 : (k : Int) % 2 = 1 := by omega
    clear hk HS HK
    go_enter Tryz.func98, Tryz.ntmps98
    go_wp2_with fail
    with_reducible refine PL.out.mono ?_
    rintro e v1 ⟨rfl, hv⟩
    obtain rfl := hv.symm
    have O1 : Hid (OwnG 191 2 lbV ((w.alloc (.cells (lbV (lbHost k)).toArray 191)).alloc (.cells (lbV (lbZone k)).toArray 191)) w.heap.size (some ⟨w.heap.size, 0, none⟩) 1 1 [lbHost k]) := (ownG_lit lbV_len w _ _).alloc _
    have S1 : Hid ((w.alloc (.cells (lbV (lbHost k)).toArray 191)).heap.size = w.heap.size + 1) := size_al _ _
    have X2 : Hid (BoxV ((w.alloc (.cells (lbV (lbHost k)).toArray 191)).alloc (.cells (lbV (lbZone k)).toArray 191)) (w.heap.size + 1) 191 (lbV (lbZone k))) := by rw [← S1.out]; exact BoxV.new _ _ _
    have CP : Hid (∀ ad, some (⟨w.heap.size + 1, 0, none⟩ : Addr) = some ad → ∀ j u, ([lbZone k].flatMap lbV)[j]? = some u → ((w.alloc (.cells (lbV (lbHost k)).toArray 191)).alloc (.cells (lbV (lbZone k)).toArray 191)).cell? (ad.add j) = some u) := by
      intro ad e j u hj
      obtain rfl := Option.some.inj e
      rw [Addr.add_lit, Nat.zero_add]
      rw [List.flatMap_cons, List.flatMap_nil, List.append_nil] at hj
      exact X2.out.cell hj
    have B1 : Hid (Below w.heap.size w ((w.alloc (.cells (lbV (lbHost k)).toArray 191)).alloc (.cells (lbV (lbZone k)).toArray 191))) := bel2 _ _ _
    go_wp2_with (at_builtin; refine wpList_app_g lbV_len (by decide) lbV_one _ rfl _ _ 22 rfl w.heap.size i0 _ 32 Tryz.underlying22 hi hz0 hz1 hz2 rfl (some ⟨w.heap.size, 0, none⟩) 1 1 [lbHost k] rfl O1.out (some ⟨w.heap.size + 1, 0, none⟩) 1 1 [lbZone k] rfl rfl CP.out (fun e => by cases e) (by omega) (by omega) B1.out.size ?_)
    intro a2 c2 w3 o3 g3
    have O3 : Hid (OwnL w3 w.heap.size a2 2 c2 [lbHost k, lbZone k]) := o3
    have B3 : Hid (Below w.heap.size w w3) := B1.out.trans ((Ch.grown g3).below B1.out.size (fun j hj e => by have := (OwnG.cellsT O1.out j e).2; omega))
    clear o3 g3 O1 X2 CP B1
    go_wp2
    go_ret
    exact ⟨a2, c2, rfl, O3.out, B3.out⟩
  · have HK : Hid (setK k = [lbHost k]) := by show _ = _; unfold setK; rw [if_neg hp]
    rw [HK.out]
    have p1 : ¬ (k : Int) % 2 = 1 := by omega
    have O1 : Hid (OwnL (w.alloc (.cells (lbV (lbHost k)).toArray 191)) w.heap.size (some ⟨w.heap.size, 0, none⟩) 1 1 [lbHost k]) := ownG_lit lbV_len w _ _
    have B1 : Hid (Below w.heap.size w (w.alloc (.cells (lbV (lbHost k)).toArray 191))) := (Below.refl _ _).alloc (Nat.le_refl _) _
    clear hk HS HK
    go_enter Tryz.func98, Tryz.ntmps98
    go_wp2_with fail
    with_reducible refine PL.out.mono ?_
    rintro e v1 ⟨rfl, hv⟩
    obtain rfl := hv.symm
    go_wp2
    go_ret
    exact ⟨_, _, rfl, O1.out, B1.out⟩

/-! ### a write by numbers -/
def obN (at' : Int) : Ob := ⟨at' % 1000, ⟨#[120]⟩, 0⟩
def skN (at' : Int) : Sp := ofP [obN at']
/-- A write, by numbers. -/
def recN (seq at' : Int) : RecX := ⟨seq, 1, setN at', at', skN at', 0, mt0, 0, 0⟩
theorem obN_ok (at' : Int) : ObW (obN at') := ⟨by show Word (at' % 1000); constructor <;> omega, (⟨by decide, by decide⟩ : Word 0), by show (1 : Nat) ≤ _; decide⟩
theorem skN_ok (at' : Int) : Ok (skN at') := Ok.of (fun o ho => by obtain rfl := List.mem_singleton.1 ho; exact obN_ok at')
/-- A result in a box, alone. -/
theorem ret_box1 {P : Program} {fn : Func} {p : Tmp} {ty : TypeId} {a : Act} {w : World} {R : Ending → World → Prop} {b : Nat} {cs : List Value} {d : TypeDesc} (h : fn.results = #[.cell p ty]) (hp : a.tmps.getD p undef = .pointer (some ⟨b, 0, none⟩))
    (hc : w.rangeAt b 0 cs) (hu : P.underlying ty = some d) (hd : d.isRow = true) (hi : (P.info? ty).map (·.size) = some cs.length) (hD : a.defers = []) (hR : R (.returned (.agg cs.toArray)) w) : bodyPost P fn R .ret a w := by
  refine bodyPost_ret (v := .agg cs.toArray) ?_ hD hR
  have e := run_loadVar_mid (P := P) w b 0 ty cs d hc hu hd hi
  rw [Array.getD_eq_getD_getElem?] at hp
  simp only [results, h]
  simp [hp, asAddr, e]

set_option maxHeartbeats 8000000 in
theorem rec_any (seq at' : Int) (hs : (Lit.int .i64 seq).wf = true) (ha : (Lit.int .i64 at').wf = true) (w : World) :
    Calls Tryz.prog 35 #[.int .i64 seq, .int .i64 at'] w fun e w' => ∃ h, e = .returned (Value.agg #[.int .i64 (RecX.seq ((recN seq at'))), .int .i64 (RecX.kind ((recN seq at'))), .slice (RecH.la h) (RecH.ln h) (RecH.lc h), .int .i64 (RecX.at9 ((recN seq at'))), .slice (Hd.a (RecH.sk h)) (Hd.n (RecH.sk h)) (Hd.c (RecH.sk h)), .slice (Hd.k (RecH.sk h)) (Hd.m (RecH.sk h)) (Hd.d (RecH.sk h)), .int .u64 (Gz.n (Sp.g (RecX.sk ((recN seq at'))))), .int .u64 (Gz.nans (Sp.g (RecX.sk ((recN seq at'))))), .int .u64 (Gz.lo (Sp.g (RecX.sk ((recN seq at'))))), .int .u64 (Gz.hi (Sp.g (RecX.sk ((recN seq at'))))), .int .i64 (RecX.tseq ((recN seq at'))), .int .i64 (Hm.op (RecH.m h)), .string (Hm.nm (RecH.m h)), .string (Hm.vl (RecH.m h)), .slice (Hm.va (RecH.m h)) (Hm.vn (RecH.m h)) (Hm.vc (RecH.m h)), .slice (Hm.ka (RecH.m h)) (Hm.kn (RecH.m h)) (Hm.kc (RecH.m h)), .int .i64 (RecX.frm ((recN seq at'))), .int .i64 (RecX.till ((recN seq at')))]) ∧ SeeR (fun k => w.heap.size ≤ k) w' (recN seq at') h ∧ Below w.heap.size w w' := by
  obtain ⟨w0, hw0⟩ : ∃ w0, Hid (w.alloc (.cells ([.int .i64 (RecX.seq rx0), .int .i64 (RecX.kind rx0), .slice (RecH.la rh0) (RecH.ln rh0) (RecH.lc rh0), .int .i64 (RecX.at9 rx0), .slice (Hd.a (RecH.sk rh0)) (Hd.n (RecH.sk rh0)) (Hd.c (RecH.sk rh0)), .slice (Hd.k (RecH.sk rh0)) (Hd.m (RecH.sk rh0)) (Hd.d (RecH.sk rh0)), .int .u64 (Gz.n (Sp.g (RecX.sk rx0))), .int .u64 (Gz.nans (Sp.g (RecX.sk rx0))), .int .u64 (Gz.lo (Sp.g (RecX.sk rx0))), .int .u64 (Gz.hi (Sp.g (RecX.sk rx0))), .int .i64 (RecX.tseq rx0), .int .i64 (Hm.op (RecH.m rh0)), .string (Hm.nm (RecH.m rh0)), .string (Hm.vl (RecH.m rh0)), .slice (Hm.va (RecH.m rh0)) (Hm.vn (RecH.m rh0)) (Hm.vc (RecH.m rh0)), .slice (Hm.ka (RecH.m rh0)) (Hm.kn (RecH.m rh0)) (Hm.kc (RecH.m rh0)), .int .i64 (RecX.frm rx0), .int .i64 (RecX.till rx0)]).toArray 39) = w0) := ⟨_, rfl⟩
  obtain ⟨x, hx⟩ : ∃ x, Hid (w.heap.size = x) := ⟨_, rfl⟩
  have A0 : Hid (BoxV w0 x 39 [.int .i64 (RecX.seq rx0), .int .i64 (RecX.kind rx0), .slice (RecH.la rh0) (RecH.ln rh0) (RecH.lc rh0), .int .i64 (RecX.at9 rx0), .slice (Hd.a (RecH.sk rh0)) (Hd.n (RecH.sk rh0)) (Hd.c (RecH.sk rh0)), .slice (Hd.k (RecH.sk rh0)) (Hd.m (RecH.sk rh0)) (Hd.d (RecH.sk rh0)), .int .u64 (Gz.n (Sp.g (RecX.sk rx0))), .int .u64 (Gz.nans (Sp.g (RecX.sk rx0))), .int .u64 (Gz.lo (Sp.g (RecX.sk rx0))), .int .u64 (Gz.hi (Sp.g (RecX.sk rx0))), .int .i64 (RecX.tseq rx0), .int .i64 (Hm.op (RecH.m rh0)), .string (Hm.nm (RecH.m rh0)), .string (Hm.vl (RecH.m rh0)), .slice (Hm.va (RecH.m rh0)) (Hm.vn (RecH.m rh0)) (Hm.vc (RecH.m rh0)), .slice (Hm.ka (RecH.m rh0)) (Hm.kn (RecH.m rh0)) (Hm.kc (RecH.m rh0)), .int .i64 (RecX.frm rx0), .int .i64 (RecX.till rx0)]) := by rw [← hw0.out, ← hx.out]; exact BoxV.new _ _ _
  have L0 : Hid (Below w.heap.size w w0) := by rw [← hw0.out]; exact (Below.refl _ _).alloc (Nat.le_refl _) _
  dsimp only [rx0, rh0, zeroP, g0, hd0, hm0] at hw0 A0
  have SE := hide (set_any at' ha w0)
  have PL := hide (fun (v : World) => place_any at' 1000 (by decide) (by decide) v)
  obtain ⟨z, hz⟩ : ∃ z, Hid (at' % 1000 = z) := ⟨_, rfl⟩
  have z0 : 0 ≤ z := by rw [← hz.out]; omega
  have z1 : z < 1000 := by rw [← hz.out]; omega
  rw [hz.out] at PL
  have OB : Hid (obN at' = ⟨z, ⟨#[120]⟩, 0⟩) := by show _ = _; unfold obN; rw [hz.out]
  have OF := hide (fun (v : World) => refpof_at (some ⟨v.heap.size, 0, none⟩) 1 1 [⟨z, ⟨#[120]⟩, 0⟩] (v.alloc (.cells #[.int .u64 z, .string ⟨#[120]⟩, .int .u64 0] 170)) (by
    refine ⟨rfl, by decide, fun o ho => ?_, Or.inr ⟨v.heap.size, 0, rfl, fun i hi => ?_⟩⟩
    · obtain rfl := List.mem_singleton.1 ho
      have := obN_ok at'
      rw [OB.out] at this
      exact this
    · obtain rfl : i = 0 := by omega
      have q := BoxV.new v 170 [.int .u64 z, .string ⟨#[120]⟩, .int .u64 0]
      exact ⟨q.cell (i := 0) rfl, q.cell (i := 1) rfl, q.cell (i := 2) rfl⟩))
  have SK : Hid (ofP [⟨z, ⟨#[120]⟩, 0⟩] = skN at') := by show _ = _; unfold skN; rw [OB.out]
  rw [SK.out] at OF
  obtain ⟨sk, hsk⟩ : ∃ sk, Hid (skN at' = sk) := ⟨_, rfl⟩
  rw [hsk.out] at OF
  have HX : Hid (w.heap.size ≤ x) := by rw [hx.out]; exact Nat.le_refl _
  go_enter Tryz.func35, Tryz.ntmps35
  go_upto_region 1 with fail
  rw [hw0.out, hx.out]
  clear hw0 hx
  go_wp2_with fail
  with_reducible refine SE.out.mono ?_
  rintro e v1 ⟨a1, c1, rfl, o1, b1⟩
  have P1 := hide (PL.out v1)
  have O1 := hide o1
  have B1 := hide b1
  clear o1 b1 SE PL
  go_wp2_with fail
  with_reducible refine P1.out.mono ?_
  rintro e v2 ⟨rfl, hv⟩
  obtain rfl := hv.symm
  have F1 := hide (OF.out v1)
  have K2 : Hid (Below v1.heap.size v1 (v1.alloc (.cells #[.int .u64 z, .string ⟨#[120]⟩, .int .u64 0] 170))) := (Below.refl _ _).alloc (Nat.le_refl _) _
  clear P1 OF
  go_wp2_with fail
  with_reducible refine F1.out.mono ?_
  rintro e v3 ⟨h, rfl, s3, b3, fa, fk⟩
  have B3 := hide (bel_to K2.out (Nat.le_refl _) b3)
  have L1 := hide (bel_to L0.out (Nat.le_refl _) B1.out)
  have L3 := hide (bel_to L1.out (Nat.le_refl _) B3.out)
  have A3 := hide ((A0.out.below B1.out A0.out.lt).below B3.out (A0.out.below B1.out A0.out.lt).lt)
  have TX := hide (A3.out.there 0 18 (Nat.le_of_ble_eq_true rfl))
  obtain ⟨_, c2, c3⟩ := chkL_parts (setN_chk at')
  have RL : Hid (RowL v3 a1 (setN at').length (setN at')) := by
    refine RowL.below (OwnL.row O1.out (by omega) (fun y hy => ?_)) B3.out (Nat.le_refl _)
    have e1 := (c3 y hy).1
    unfold nameB at e1
    simp only [Bool.and_eq_true, decide_eq_true_eq] at e1
    have e2 := (c3 y hy).2.2
    exact ⟨by omega, by omega⟩
  have CA := OwnL.capped O1.out
  have SR0 : Hid (SeeR (fun k => w0.heap.size ≤ k) v3 (recN seq at') ⟨a1, (setN at').length, c1, h, hm0⟩) := by
    refine ⟨hs, by show (Lit.int .i64 1).wf = true; decide, ⟨RL.out, CA.1, fun e => (CA.2 e).2, Or.inr fun p e => OwnL.block O1.out p.block (by have e : a1 = some p := e; rw [e]; rfl), ha, ?_, Or.inr fun p e => ?_, Or.inr fun p e => ?_⟩, seeD_zero _ _ _ _ rfl rfl rfl rfl rfl⟩
    · show SeeP v3 h (skN at')
      rw [hsk.out]
      exact s3
    · exact Nat.le_trans (Nat.le_trans B1.out.size K2.out.size) (fa p e)
    · exact Nat.le_trans (Nat.le_trans B1.out.size K2.out.size) (fk p e)
  have LT := hide A0.out.lt
  have SR : Hid (SeeR (fun k => w.heap.size ≤ k) (v3.setCells x 0 [.int .i64 seq, .int .i64 1, .slice a1 (setN at').length c1, .int .i64 at', .slice (Hd.a h) (Hd.n h) (Hd.c h), .slice (Hd.k h) (Hd.m h) (Hd.d h), .int .u64 sk.g.n, .int .u64 sk.g.nans, .int .u64 sk.g.lo, .int .u64 sk.g.hi, .int .i64 0, .int .i64 0, .string ⟨#[]⟩, .string ⟨#[]⟩, .slice none 0 0, .slice none 0 0, .int .i64 0, .int .i64 0]) (recN seq at') ⟨a1, (setN at').length, c1, h, hm0⟩) := (SR0.out.ch (ch_sc v3 x 0 _) (fun k hk e => by have := LT.out; omega)).mono (fun k hk => Nat.le_trans L0.out.size hk)
  have RG : Hid (Below w.heap.size w (v3.setCells x 0 [.int .i64 seq, .int .i64 1, .slice a1 (setN at').length c1, .int .i64 at', .slice (Hd.a h) (Hd.n h) (Hd.c h), .slice (Hd.k h) (Hd.m h) (Hd.d h), .int .u64 sk.g.n, .int .u64 sk.g.nans, .int .u64 sk.g.lo, .int .u64 sk.g.hi, .int .i64 0, .int .i64 0, .string ⟨#[]⟩, .string ⟨#[]⟩, .slice none 0 0, .slice none 0 0, .int .i64 0, .int .i64 0]) ∧ (v3.setCells x 0 [.int .i64 seq, .int .i64 1, .slice a1 (setN at').length c1, .int .i64 at', .slice (Hd.a h) (Hd.n h) (Hd.c h), .slice (Hd.k h) (Hd.m h) (Hd.d h), .int .u64 sk.g.n, .int .u64 sk.g.nans, .int .u64 sk.g.lo, .int .u64 sk.g.hi, .int .i64 0, .int .i64 0, .string ⟨#[]⟩, .string ⟨#[]⟩, .slice none 0 0, .slice none 0 0, .int .i64 0, .int .i64 0]).rangeAt x 0 [.int .i64 seq, .int .i64 1, .slice a1 (setN at').length c1, .int .i64 at', .slice (Hd.a h) (Hd.n h) (Hd.c h), .slice (Hd.k h) (Hd.m h) (Hd.d h), .int .u64 sk.g.n, .int .u64 sk.g.nans, .int .u64 sk.g.lo, .int .u64 sk.g.hi, .int .i64 0, .int .i64 0, .string ⟨#[]⟩, .string ⟨#[]⟩, .slice none 0 0, .slice none 0 0, .int .i64 0, .int .i64 0]) := ⟨below_sc HX.out L3.out 0 _, World.rangeAt_setCells_same _ _ _ _ (A3.out.there 0 18 (Nat.le_of_ble_eq_true rfl))⟩
  clear s3 b3 fa fk F1 K2 A3 A0 O1 B1 B3 L1 RL SR0
  go_wp2_with ((with_reducible show wpList _ _ _ (Oper.mk _ (Op.store 39 _ _) _ _ _ _ :: _) _ _); refine wpStore rfl 39 _ _ rfl x 0 [.int .i64 seq, .int .i64 1, .slice a1 (setN at').length c1, .int .i64 at', .slice (Hd.a h) (Hd.n h) (Hd.c h), .slice (Hd.k h) (Hd.m h) (Hd.d h), .int .u64 sk.g.n, .int .u64 sk.g.nans, .int .u64 sk.g.lo, .int .u64 sk.g.hi, .int .i64 0, .int .i64 0, .string ⟨#[]⟩, .string ⟨#[]⟩, .slice none 0 0, .slice none 0 0, .int .i64 0, .int .i64 0] rfl rfl TX.out info_rec rfl ?_)
  refine ret_box1 rfl rfl RG.out.2 Tryz.underlying39 rfl info_rec rfl ⟨⟨a1, (setN at').length, c1, h, hm0⟩, ?_, SR.out, RG.out.1⟩
  show Ending.returned (.agg ([.int .i64 seq, .int .i64 1, .slice a1 (setN at').length c1, .int .i64 at', .slice (Hd.a h) (Hd.n h) (Hd.c h), .slice (Hd.k h) (Hd.m h) (Hd.d h), .int .u64 sk.g.n, .int .u64 sk.g.nans, .int .u64 sk.g.lo, .int .u64 sk.g.hi, .int .i64 0, .int .i64 0, .string ⟨#[]⟩, .string ⟨#[]⟩, .slice none 0 0, .slice none 0 0, .int .i64 0, .int .i64 0]).toArray) = .returned (Value.agg #[.int .i64 (RecX.seq ((recN seq at'))), .int .i64 (RecX.kind ((recN seq at'))), .slice (RecH.la ((⟨a1, (setN at').length, c1, h, hm0⟩ : RecH))) (RecH.ln ((⟨a1, (setN at').length, c1, h, hm0⟩ : RecH))) (RecH.lc ((⟨a1, (setN at').length, c1, h, hm0⟩ : RecH))), .int .i64 (RecX.at9 ((recN seq at'))), .slice (Hd.a (RecH.sk ((⟨a1, (setN at').length, c1, h, hm0⟩ : RecH)))) (Hd.n (RecH.sk ((⟨a1, (setN at').length, c1, h, hm0⟩ : RecH)))) (Hd.c (RecH.sk ((⟨a1, (setN at').length, c1, h, hm0⟩ : RecH)))), .slice (Hd.k (RecH.sk ((⟨a1, (setN at').length, c1, h, hm0⟩ : RecH)))) (Hd.m (RecH.sk ((⟨a1, (setN at').length, c1, h, hm0⟩ : RecH)))) (Hd.d (RecH.sk ((⟨a1, (setN at').length, c1, h, hm0⟩ : RecH)))), .int .u64 (Gz.n (Sp.g (RecX.sk ((recN seq at'))))), .int .u64 (Gz.nans (Sp.g (RecX.sk ((recN seq at'))))), .int .u64 (Gz.lo (Sp.g (RecX.sk ((recN seq at'))))), .int .u64 (Gz.hi (Sp.g (RecX.sk ((recN seq at'))))), .int .i64 (RecX.tseq ((recN seq at'))), .int .i64 (Hm.op (RecH.m ((⟨a1, (setN at').length, c1, h, hm0⟩ : RecH)))), .string (Hm.nm (RecH.m ((⟨a1, (setN at').length, c1, h, hm0⟩ : RecH)))), .string (Hm.vl (RecH.m ((⟨a1, (setN at').length, c1, h, hm0⟩ : RecH)))), .slice (Hm.va (RecH.m ((⟨a1, (setN at').length, c1, h, hm0⟩ : RecH)))) (Hm.vn (RecH.m ((⟨a1, (setN at').length, c1, h, hm0⟩ : RecH)))) (Hm.vc (RecH.m ((⟨a1, (setN at').length, c1, h, hm0⟩ : RecH)))), .slice (Hm.ka (RecH.m ((⟨a1, (setN at').length, c1, h, hm0⟩ : RecH)))) (Hm.kn (RecH.m ((⟨a1, (setN at').length, c1, h, hm0⟩ : RecH)))) (Hm.kc (RecH.m ((⟨a1, (setN at').length, c1, h, hm0⟩ : RecH)))), .int .i64 (RecX.frm ((recN seq at'))), .int .i64 (RecX.till ((recN seq at')))])
  rw [← hsk.out]
  rfl
/-- Records laid one behind the other are found, in their order. -/
theorem recsF_laid {D : Bool} : ∀ (gs : List (List Int)) (rs : List Rc), GoodFr gs → gs.map (getRc D) = rs.map some → ∀ (xs ys : List Int) (f : Nat), gs.length < f → findS (xs ++ (laidS gs ++ ys)) ((xs.length + (laidS gs).length : Nat) : Int) = none →
    recsF D (xs ++ (laidS gs ++ ys)) f xs.length = some (rs, xs.length + (laidS gs).length)
  | [], rs, hg, hr, xs, ys, f, hf, hno => by
    obtain rfl : rs = [] := by simpa using hr.symm
    obtain ⟨f, rfl⟩ : ∃ k, f = k + 1 := ⟨f - 1, by simp at hf; omega⟩
    unfold recsF
    have e : (laidS ([] : List (List Int))).length = 0 := rfl
    rw [e, Nat.add_zero] at hno ⊢
    rw [hno]
  | s :: t, rs, hg, hr, xs, ys, f, hf, hno => by
    cases rs with
    | nil => simp at hr
    | cons r rt =>
      simp only [List.map_cons, List.cons.injEq] at hr
      obtain ⟨hr1, hr2⟩ := hr
      have hs := hg s (by simp)
      obtain ⟨f, rfl⟩ : ∃ k, f = k + 1 := ⟨f - 1, by simp at hf; omega⟩
      have e0 : xs ++ (laidS (s :: t) ++ ys) = xs ++ (frameS s ++ (laidS t ++ ys)) := by rw [laidS_cons, List.append_assoc]
      have h1 := findS_at hs.1 hs.2.1 xs (laidS t ++ ys)
      rw [e0] at hno ⊢
      unfold recsF
      rw [h1]
      dsimp only
      have e2 : ((xs ++ (frameS s ++ (laidS t ++ ys))).drop (xs.length + (putS (s.length : Int)).length + 4)).take s.length = s := by
        have e3 : xs ++ (frameS s ++ (laidS t ++ ys)) = (xs ++ putS (s.length : Int) ++ sumB s) ++ (s ++ (laidS t ++ ys)) := by
          unfold frameS
          simp only [List.append_assoc]
        have e4 : xs.length + (putS (s.length : Int)).length + 4 = (xs ++ putS (s.length : Int) ++ sumB s).length := by
          simp only [List.length_append, sumB_len]
        rw [e3, e4, List.drop_left, List.take_left]
      rw [e2, hr1]
      dsimp only
      have e5 : xs.length + (putS (s.length : Int)).length + 4 + s.length = (xs ++ frameS s).length := by
        rw [List.length_append, frameS_len]
        omega
      have e6 : xs ++ (frameS s ++ (laidS t ++ ys)) = (xs ++ frameS s) ++ (laidS t ++ ys) := by rw [List.append_assoc]
      have e7 : (xs ++ frameS s).length + (laidS t).length = xs.length + (laidS (s :: t)).length := by
        rw [laidS_cons, List.length_append, List.length_append]
        omega
      rw [e5, e6, recsF_laid t rt hg.tail hr2 (xs ++ frameS s) ys f (by simp at hf; omega) (by rw [← e6, e7]; exact hno), e7]
      rfl
theorem recsW_laid {D : Bool} {gs : List (List Int)} {rs : List Rc} (hg : GoodFr gs) (hr : gs.map (getRc D) = rs.map some) (ys : List Int) (hno : findS (laidS gs ++ ys) ((laidS gs).length : Int) = none) : recsW D (laidS gs ++ ys) = some (rs, (laidS gs).length) := by
  have h := recsF_laid gs rs hg hr [] ys ((laidS gs ++ ys).length + 1) (by have := laidS_long gs; rw [List.length_append]; omega) (by simpa using hno)
  simpa [recsW] using h
theorem recsW_all {D : Bool} {gs : List (List Int)} {rs : List Rc} (hg : GoodFr gs) (hr : gs.map (getRc D) = rs.map some) : recsW D (laidS gs) = some (rs, (laidS gs).length) := by
  have h := recsW_laid hg hr [] (by rw [List.append_nil]; exact findS_end _)
  rwa [List.append_nil] at h

/-! ### the laws' own records -/
def rcN (seq at' : Int) : Rc := ⟨seq, .write (setN at') at' (skN at')⟩
theorem rcX_recN (seq at' : Int) : rcX (recN seq at') = rcN seq at' := rfl
def bodyN (seq at' : Int) : List Int := putRc (rcN seq at')
def I64 (z : Int) : Prop := -9223372036854775808 ≤ z ∧ z ≤ 9223372036854775807
theorem okN {seq at' : Int} (hs : I64 seq) (ha : I64 at') : OkRc (rcN seq at') := by
  obtain ⟨_, c2, c3⟩ := chkL_parts (setN_chk at')
  refine ⟨hs, ⟨setN_chk at', c2, fun y hy => ⟨?_, (c3 y hy).2.2⟩⟩, ha, skN_ok at'⟩
  have e1 := (c3 y hy).1
  unfold nameB at e1
  simp only [Bool.and_eq_true, decide_eq_true_eq] at e1
  omega
theorem backN' {seq at' : Int} (hs : I64 seq) (ha : I64 at') : getRc false (bodyN seq at') = some (rcN seq at') := getRc_back (okN hs ha)
theorem bodyN_fit {seq at' : Int} (hs : I64 seq) (ha : I64 at') : 1 ≤ (bodyN seq at').length ∧ (bodyN seq at').length ≤ 101000 ∧ Bytes8 (bodyN seq at') := by
  have h0 := putS_len (zig seq)
  have h1 := putS_len 1
  have h2 := putL_fit (smL_of (setN_chk at'))
  have h3 := putS_len (zig at')
  have h4 := putP_len (skN_ok at')
  have e : bodyN seq at' = putS (zig seq) ++ (putS 1 ++ (putL (setN at') ++ (putS (zig at') ++ putP (skN at')))) := rfl
  rw [e]
  refine ⟨by simp only [List.length_append]; omega, by simp only [List.length_append]; omega, ?_⟩
  exact Bytes8.append (putS_byte (zig_word hs.1 hs.2)) (Bytes8.append (putS_byte w64_sm) (Bytes8.append h2.2.2 (Bytes8.append (putS_byte (zig_word ha.1 ha.2)) (putP_byte (skN_ok at')))))

/-! ### the document's example -/
def exW1 : Fs := { fs0 with files := [⟨[], []⟩], sure := [⟨nmW 1, 0⟩], n := 3 }
def exW2 (b : List Int) : Fs := { fs0 with files := [⟨b, []⟩], sure := [⟨nmW 1, 0⟩], n := 5 }
theorem exW_ready : readyG fs0 ⟨1, 1, -1, false⟩ = (exW1, 0, ⟨1, 1, -1, true⟩) := by kernel_rfl
theorem exW_room : roomW exW1 1 = (exW1, 0, 1) := by kernel_rfl
theorem exW_append {b : List Int} (hb : b.length ≤ 1073741824) : appendF exW1 (nmW 1) b = ({ exW1 with files := [⟨[], moreU b⟩], n := 4 }, 0) := by
  have e1 : callF exW1 = ({ exW1 with n := 4 }, none) := by kernel_rfl
  have e2 : mayN (nmW 1) = true := by kernel_rfl
  have e3 : fileF { exW1 with n := 4 } (nmW 1) = some 0 := by kernel_rfl
  unfold appendF
  rw [e1]
  dsimp only
  rw [if_neg (by rw [e2]; decide), e3]
  dsimp only
  have e4 : (bytF (atF { exW1 with n := 4 } 0)).length = 0 := by kernel_rfl
  rw [e4, if_neg (by omega)]
  rfl
theorem exW_sync (b : List Int) : syncF { exW1 with files := [⟨[], moreU b⟩], n := 4 } (nmW 1) = (exW2 b, 0) := by
  have e1 : callF { exW1 with files := [⟨[], moreU b⟩], n := 4 } = ({ exW1 with files := [⟨[], moreU b⟩], n := 5 }, none) := by kernel_rfl
  have e2 : mayN (nmW 1) = true := by kernel_rfl
  have e3 : fileF { exW1 with files := [⟨[], moreU b⟩], n := 5 } (nmW 1) = some 0 := by kernel_rfl
  unfold syncF
  rw [e1]
  dsimp only
  rw [if_neg (by rw [e2]; decide), e3]
  dsimp only
  have e4 : bytF (atF { exW1 with files := [⟨[], moreU b⟩], n := 5 } 0) = b := by
    show unsB [] (moreU b) = b
    rw [unsB_more]
    rfl
  rw [e4]
  rfl
theorem exW_more {b : List Int} (h1 : b.length ≤ 1048576) : appendW exW1 1 b = (exW2 (frameS b), 0, 1) := by
  have hf : (frameS b).length ≤ 1073741824 := by have := (frameS_long b).2; omega
  unfold appendW
  rw [exW_room]
  dsimp only
  rw [if_pos rfl, if_neg (by omega), exW_append hf]
  dsimp only
  rw [if_pos rfl, exW_sync]
theorem exW_read (b : List Int) : readF (exW2 b) (nmW 1) = some b := by kernel_rfl
theorem exW_read2 (b : List Int) : readF (exW2 b) (nmW 2) = none := by kernel_rfl
theorem exW_read0 (s : ByteArray) : readF fs0 s = none := by
  have e : dirF fs0 = [] := by kernel_rfl
  unfold readF fileF
  rw [e]
  rfl
theorem exW_lim1 : LimB 3 exW1 := ⟨by decide, by decide, fun x hx => by
  obtain rfl := List.mem_singleton.1 hx
  decide, by decide⟩
theorem exW_lim2 {b : List Int} (h : b.length ≤ 200000) : LimB 200005 (exW2 b) := ⟨by show 1 ≤ 200005; decide, by show 1 + 0 ≤ 200005; decide, fun x hx => by
  obtain rfl := List.mem_singleton.1 hx
  show b.length + 0 ≤ 200005
  omega, by show (0 : Int) ≤ 5 ∧ (5 : Int) ≤ (200005 : Nat); decide⟩
end Go.Proofs.YtknghoecjobkiaaGreatDoor

namespace Go.Proofs.YtknghoecjobkiaaGreatDoor
open Go.RowKit Go.Maps
set_option maxRecDepth 20000
set_option linter.unusedVariables false
theorem onOpen_ok {base : Nat} {w u u' : World} {g : Nat} {F : Fs} {frm : Int} {e : Ending} {s : Ow} (h : OnOpen base w g F frm u e u') (h0 : ¬ nmW frm = ByteArray.empty) (ho : openW false F frm = some s) :
    ∃ q a c, e = .returned (.tuple #[.pointer (some ⟨q, 0, none⟩), .slice a s.recs.length c, .int .i64 0]) ∧ OnG base w u' g q F ⟨s.last, s.last, s.cut, false⟩ ∧ RecsAt u' u.heap.size a s.recs.length c s.recs := by
  unfold OnOpen at h
  rw [if_neg h0, ho] at h
  exact h
theorem RecsAt.cell {w : World} {base n c i : Nat} {a : Option Addr} {rs : List Rc} {r : Rc} (h : RecsAt w base a n c rs) (hi : rs[i]? = some r) :
    ∃ g, a = some ⟨g, 0, none⟩ ∧ i < n ∧ n ≤ c ∧ w.cell? ⟨g, i * 18, none⟩ = some (.int .i64 (ofRc r).seq) ∧ w.cell? ⟨g, i * 18 + 1, none⟩ = some (.int .i64 (ofRc r).kind) ∧ w.cell? ⟨g, i * 18 + 3, none⟩ = some (.int .i64 (ofRc r).at9) := by
  obtain ⟨l, h1, _, h3, _⟩ := h
  have e := congrArg (fun l => l[i]?) h3
  simp only [List.getElem?_map, hi, Option.map_some] at e
  cases hl : l[i]? with
  | none => rw [hl] at e; cases e
  | some p =>
    rw [hl] at e
    have e2 : p.1 = ofRc r := by simpa using e
    obtain ⟨g, q1, q2, q3, q4⟩ := OwnG.at recV_len (by decide) h1 hl
    rw [← e2]
    exact ⟨g, q1, q2, q3, q4 0 _ rfl, q4 1 _ rfl, q4 3 _ rfl⟩
theorem few_until {F : Fs} {frm : Int} (k : Nat) (hk : k ≤ 4096) (h : readF F (nmW (frm + k)) = none) : FewF F frm := fun j hj => by
  by_cases e : k < j
  · have := hj k e
    rw [h] at this
    cases this
  · omega
theorem nm1_ne : ¬ nmW 1 = ByteArray.empty := by
  rw [nmW_empty]
  omega
theorem exW_open0 : openW false fs0 1 = some (ow0 1) := goW_none (exW_read0 _) _
theorem exW_open2 {body : List Int} {r : Rc} (h1 : 1 ≤ body.length) (h2 : body.length ≤ 1048576) (hb : Bytes8 body) (hr : getRc false body = some r) : openW false (exW2 (frameS body)) 1 = some ⟨[r], -1, 1, true⟩ := by
  have e0 : laidS [body] = frameS body := by simp [laidS]
  have hw : recsW false (frameS body) = some ([r], (frameS body).length) := by
    have := recsW_all (D := false) (gs := [body]) (rs := [r]) (fun s hs => by obtain rfl := List.mem_singleton.1 hs; exact ⟨h1, h2, hb⟩) (by simp [hr])
    rwa [e0] at this
  unfold openW
  rw [goW_more (by omega) (by omega) (exW_read _)]
  have hst : stepW false (ow0 1) 1 (frameS body) = some ⟨[r], -1, 1, true⟩ := by
    unfold stepW
    rw [hw]
    dsimp only
    rw [if_pos (show (ow0 1).cut = -1 from rfl), if_neg (Nat.lt_irrefl _)]
    rfl
  rw [hst]
  exact goW_none (exW_read2 _) _

/-- The frame of a body that GetRec answers of: a walk over it comes by that body alone. -/
theorem reach_frame {b : List Int} (h1 : 1 ≤ b.length) (h2 : b.length ≤ 1048576) : ∀ {k : Nat}, ReachF (frameS b) k → k = 0 ∨ k = (frameS b).length := by
  intro k h
  induction h with
  | zero => exact Or.inl rfl
  | @next k st v h f ih =>
    have e0 := findS_at h1 h2 [] []
    simp only [List.nil_append, List.append_nil, List.length_nil, Nat.zero_add] at e0
    rcases ih with rfl | rfl
    · have e1 := f.symm.trans e0
      simp only [Option.some.injEq, Prod.mk.injEq] at e1
      refine Or.inr ?_
      rw [frameS_len]
      omega
    · rw [findS_end] at f
      cases f
theorem grF_frame {b : List Int} (h1 : 1 ≤ b.length) (h2 : b.length ≤ 1048576) (hT : GrT b) : GrF (frameS b) := by
  intro k st v hk f
  have e0 := findS_at h1 h2 [] []
  simp only [List.nil_append, List.append_nil, List.length_nil, Nat.zero_add] at e0
  rcases reach_frame h1 h2 hk with rfl | rfl
  · have e1 := f.symm.trans e0
    simp only [Option.some.injEq, Prod.mk.injEq] at e1
    obtain ⟨rfl, rfl⟩ := e1
    have e2 : ((frameS b).drop ((putS (b.length : Int)).length + 4)).take b.length = b := by
      have e3 : frameS b = (putS (b.length : Int) ++ sumB b) ++ b := by unfold frameS; simp only [List.append_assoc]
      have e4 : (putS (b.length : Int)).length + 4 = (putS (b.length : Int) ++ sumB b).length := by simp only [List.length_append, sumB_len]
      rw [e3, e4, List.drop_left, List.take_length]
    rw [e2]
    exact hT
  · rw [findS_end] at f
    cases f
theorem exW_file {b bs : List Int} {s : ByteArray} (h : readF (exW2 b) s = some bs) : bs = b := by
  have e : dirF (exW2 b) = [⟨nmW 1, 0⟩] := by kernel_rfl
  unfold readF fileF at h
  rw [e] at h
  cases hf : fileD [(⟨nmW 1, 0⟩ : Dn)] s with
  | none => rw [hf] at h; cases h
  | some k =>
    have hk : k = 0 := by
      unfold fileD at hf
      cases hj : findD [(⟨nmW 1, 0⟩ : Dn)] s with
      | none => rw [hj] at hf; cases hf
      | some j =>
        rw [hj] at hf
        cases j with
        | zero => exact (Option.some.inj hf).symm
        | succ j => cases hf
    rw [hf, hk] at h
    exact (Option.some.inj h).symm

set_option maxHeartbeats 16000000 in
theorem awakeW_any (w : World) (hT : TbP w) : Calls Tryz.prog 18 #[] w fun e w' => e = .returned (.bool true) ∧ Below w.heap.size w w' := by
  have HT := hide hT
  have BF := hide (bodyN_fit (seq := 1) (at' := 5) (by unfold I64; omega) (by unfold I64; omega))
  have BK := hide (backN' (seq := 1) (at' := 5) (by unfold I64; omega) (by unfold I64; omega))
  have LF : Hid ((frameS (bodyN 1 5)).length ≤ 200000) := by have := (frameS_long (bodyN 1 5)).2; have := BF.out.2.1; show _ ≤ _; omega
  have GF : Hid (∀ (n : Int) (bs : List Int), readF (exW2 (frameS (bodyN 1 5))) (nmW n) = some bs → GrF bs) := fun n bs h => by
    rw [exW_file h]
    exact grF_frame BF.out.1 (by have := BF.out.2.1; omega) (getRec_one BK.out)
  clear hT
  go_enter Tryz.func18, Tryz.ntmps18
  go_wp2_with fail
  with_reducible refine (lnew_any _).mono ?_
  rintro e u0 ⟨g, rfl, hm⟩
  have O0 := hide (on_open_of (onL_made hm) (fun n bs h => by rw [exW_read0] at h; cases h) HT.out (Nat.le_refl _) limB0 (by omega) 1 (by decide) (few_until 0 (by omega) (exW_read0 _)))
  clear hm
  go_wp2_with fail
  with_reducible refine O0.out.mono ?_
  rintro e u1 h1
  obtain ⟨q, a1, c1, rfl, hG1, hR1⟩ := onOpen_ok h1 nm1_ne exW_open0
  have R1 := hide (ong_ready hG1 limB0 (by omega))
  rw [show readyG fs0 ⟨(ow0 1).last, (ow0 1).last, (ow0 1).cut, false⟩ = (exW1, 0, ⟨1, 1, -1, true⟩) from exW_ready] at R1
  dsimp only [ow0, List.length_nil]
  clear h1 hG1 hR1 O0
  go_wp2_with fail
  with_reducible refine R1.out.mono ?_
  rintro e u2 ⟨rfl, hG2⟩
  have RC := hide (rec_any 1 5 (by decide) (by decide) u2)
  have G2 := hide hG2
  clear hG2 R1
  go_wp2_with fail
  with_reducible refine RC.out.mono ?_
  rintro e u3 ⟨hh, rfl, s3, b3⟩
  have A3 := hide (ong_append_of G2.out b3 exW_lim1 (by omega) s3 (fun k hk => Or.inr hk) (puts_one s3 rfl (setN_chk 5) (skN_ok 5).chk))
  rw [show appendW exW1 (Lg.mk 1 1 (-1) true).last (putRc (rcX (recN 1 5))) = (exW2 (frameS (bodyN 1 5)), 0, 1) from exW_more (b := bodyN 1 5) (by have := BF.out.2.1; omega)] at A3
  clear s3 b3 G2 RC
  go_wp2_with fail
  with_reducible refine A3.out.mono ?_
  rintro e u4 ⟨rfl, hG4⟩
  have O4 := hide (on_open_of hG4.fs GF.out HT.out (Nat.le_refl _) ((exW_lim2 LF.out)) (by omega) 1 (by decide) (few_until 1 (by omega) (exW_read2 _)))
  clear hG4 A3
  go_wp2_with fail
  with_reducible refine O4.out.mono ?_
  rintro e u5 h5
  obtain ⟨q5, a5, c5, rfl, hG5, hR5⟩ := onOpen_ok h5 nm1_ne (exW_open2 BF.out.1 (by have := BF.out.2.1; omega) BF.out.2.2 BK.out)
  obtain ⟨g5, e5, l5, l6, d0, _, d3⟩ := hR5.cell (i := 0) rfl
  have N5 := hide (wname_any 7 u5 (by decide) hG5.tab)
  rw [show nmW 7 = ⟨#[108, 111, 103, 45, 48, 48, 48, 48, 48, 48, 48, 55]⟩ by kernel_rfl] at N5
  have B5 := hide hG5.bel
  clear h5 hG5 hR5 O4
  subst e5
  dsimp only [List.length_cons, List.length_nil]
  go_wp2_with fail
  with_reducible refine N5.out.mono ?_
  rintro e u6 ⟨rfl, b6⟩
  have B6 : Hid (Below w.heap.size w u6) := B5.out.trans (b6.mono B5.out.size)
  clear b6 N5 B5
  go_wp2
  go_ret
  exact ⟨rfl, B6.out⟩
end Go.Proofs.YtknghoecjobkiaaGreatDoor

namespace Go.Proofs.YtknghoecjobkiaaGreatDoor
open Go.RowKit
set_option maxRecDepth 20000
set_option linter.unusedVariables false
/-- The first names from a number on. -/
def sureW (a : Int) (k : Nat) : List Dn := (List.range k).map fun i : Nat => ⟨nmW (a + i), i⟩
/-- Files from a number on; the first k names are certain. -/
def lgU (a : Int) (k : Nat) (fs : List Fi) (ts : List Tn) (X : Fs) : Fs := { X with files := fs, sure := sureW a k, turns := ts }
def cleanW (bs : List (List Int)) : List Fi := bs.map fun b => ⟨b, []⟩
/-- All of it certain. -/
def lgC (a : Int) (bs : List (List Int)) (X : Fs) : Fs := lgU a bs.length (cleanW bs) [] X
theorem sureW_len (a : Int) (k : Nat) : (sureW a k).length = k := by unfold sureW; simp
theorem sureW_at (a : Int) {k j : Nat} (h : j < k) : (sureW a k)[j]? = some ⟨nmW (a + j), j⟩ := by
  unfold sureW
  rw [List.getElem?_map, List.getElem?_range h]
  rfl
theorem sureW_mem {a : Int} {k : Nat} {d : Dn} (h : d ∈ sureW a k) : ∃ j : Nat, j < k ∧ d = ⟨nmW (a + j), j⟩ := by
  unfold sureW at h
  obtain ⟨j, hj, rfl⟩ := List.mem_map.1 h
  exact ⟨j, List.mem_range.1 hj, rfl⟩
theorem sureW_nm {a : Int} {k : Nat} (h0 : 0 ≤ a) (h1 : a + k ≤ 100000000) {n : Int} (hn : n < a ∨ a + k ≤ n) (hm : 0 ≤ n ∧ n ≤ 99999999) : ∀ d ∈ sureW a k, ¬ d.nm = nmW n := fun d hd e => by
  obtain ⟨j, hj, rfl⟩ := sureW_mem hd
  have := nmW_inj (by omega) hm (show nmW (a + j) = nmW n from e)
  omega
theorem findD_sure {a : Int} {k : Nat} (h0 : 0 ≤ a) (h1 : a + k ≤ 100000000) {j : Nat} (hj : j < k) : findD (sureW a k) (nmW (a + j)) = some j :=
  findD_at (sureW_at a hj) rfl fun i x hi hx e => by
    rw [sureW_at a (by omega)] at hx
    obtain rfl := Option.some.inj hx
    have := nmW_inj (by omega) (by omega) (show nmW (a + i) = nmW (a + j) from e)
    omega
theorem fileD_sure {a : Int} {k : Nat} (h0 : 0 ≤ a) (h1 : a + k ≤ 100000000) {j : Nat} (hj : j < k) : fileD (sureW a k) (nmW (a + j)) = some j := by
  unfold fileD
  rw [findD_sure h0 h1 hj]
  show Option.map _ _ = _
  rw [sureW_at a hj]
  rfl
theorem findD_past {a : Int} {k : Nat} (h0 : 0 ≤ a) (h1 : a + k ≤ 99999999) : findD (sureW a k) (nmW (a + k)) = none :=
  findD_none (sureW_nm h0 (by omega) (Or.inr (Int.le_refl _)) (by omega))
theorem fileD_past {a : Int} {k : Nat} (h0 : 0 ≤ a) (h1 : a + k ≤ 99999999) : fileD (sureW a k) (nmW (a + k)) = none := by
  unfold fileD
  rw [findD_past h0 h1]
  rfl
section
variable {a : Int} {k : Nat} {fs : List Fi} {X Y Z : Fs}
theorem fileF_lg (h0 : 0 ≤ a) (h1 : a + k ≤ 100000000) {j : Nat} (hj : j < k) : fileF (lgU a k fs [] X) (nmW (a + j)) = some j := fileD_sure h0 h1 hj
theorem fileF_past (h0 : 0 ≤ a) (h1 : a + k ≤ 99999999) : fileF (lgU a k fs [] X) (nmW (a + k)) = none := fileD_past h0 h1
theorem readF_lg (h0 : 0 ≤ a) (h1 : a + k ≤ 100000000) {j : Nat} (hj : j < k) : readF (lgU a k fs [] X) (nmW (a + j)) = some (bytF (fs.getD j emF)) := by
  unfold readF
  rw [fileF_lg h0 h1 hj]
  rfl
theorem readF_lgj (h0 : 0 ≤ a) {j : Nat} (hj : j < k) (h1 : a + j ≤ 99999999) : readF (lgU a k fs [] X) (nmW (a + j)) = some (bytF (fs.getD j emF)) := by
  have e : findD (sureW a k) (nmW (a + j)) = some j := findD_at (sureW_at a hj) rfl fun i x hi hx e => by
    rw [sureW_at a (by omega)] at hx
    obtain rfl := Option.some.inj hx
    have := nmW_inj (by omega) (by omega) (show nmW (a + i) = nmW (a + j) from e)
    omega
  have e2 : fileF (lgU a k fs [] X) (nmW (a + j)) = some j := by
    show fileD (sureW a k) (nmW (a + j)) = some j
    unfold fileD
    rw [e]
    show Option.map _ _ = _
    rw [sureW_at a hj]
    rfl
  unfold readF
  rw [e2]
  rfl
theorem readF_past (h0 : 0 ≤ a) (h1 : a + k ≤ 99999999) : readF (lgU a k fs [] X) (nmW (a + k)) = none := by
  unfold readF
  rw [fileF_past h0 h1]
  rfl
theorem readF_any {s : ByteArray} {zs : List Int} (h : readF (lgU a k fs [] X) s = some zs) : ∃ j : Nat, j < k ∧ s = nmW (a + j) ∧ zs = bytF (fs.getD j emF) := by
  unfold readF fileF at h
  rw [Option.map_eq_some_iff] at h
  obtain ⟨j, hj, rfl⟩ := h
  have hj : fileD (sureW a k) s = some j := hj
  unfold fileD at hj
  rw [Option.bind_eq_some_iff] at hj
  obtain ⟨i, hi, e⟩ := hj
  obtain ⟨d, d1, d2, d3⟩ := findD_some hi
  rw [sureW_len] at d3
  rw [sureW_at a d3] at d1 e
  obtain rfl := Option.some.inj d1
  obtain rfl : i = j := Option.some.inj e
  exact ⟨i, d3, d2.symm, rfl⟩
end
theorem cleanW_len (bs : List (List Int)) : (cleanW bs).length = bs.length := by unfold cleanW; simp
theorem cleanW_at (bs : List (List Int)) (j : Nat) : bytF ((cleanW bs).getD j emF) = bs.getD j [] := by
  unfold cleanW
  rw [List.getD_eq_getElem?_getD, List.getElem?_map, List.getD_eq_getElem?_getD]
  cases bs[j]? <;> rfl
section
variable {a : Int} {bs cs : List (List Int)} {z : List Int} {X Y Z : Fs}
theorem read_lgc (h0 : 0 ≤ a) (h1 : a + bs.length ≤ 100000000) {j : Nat} (hj : j < bs.length) : readF (lgC a bs X) (nmW (a + j)) = some (bs.getD j []) := by
  unfold lgC
  rw [readF_lg h0 h1 hj, cleanW_at]
theorem read_last (h0 : 0 ≤ a) (h1 : a + cs.length < 100000000) : readF (lgC a (cs ++ [z]) X) (nmW (a + cs.length)) = some z := by
  rw [read_lgc h0 (by rw [List.length_append, List.length_singleton]; omega) (by rw [List.length_append, List.length_singleton]; omega)]
  rw [List.getD_eq_getElem?_getD, List.getElem?_append_right (Nat.le_refl _), Nat.sub_self]
  rfl
theorem read_past (h0 : 0 ≤ a) (h1 : a + bs.length ≤ 99999999) : readF (lgC a bs X) (nmW (a + bs.length)) = none := readF_past h0 h1
theorem read_lgany {s : ByteArray} {zs : List Int} (h : readF (lgC a bs X) s = some zs) : ∃ j : Nat, j < bs.length ∧ s = nmW (a + j) ∧ zs = bs.getD j [] := by
  obtain ⟨j, h1, h2, h3⟩ := readF_any h
  exact ⟨j, h1, h2, by rw [h3, cleanW_at]⟩
end
/-! ### what an opening finds -/
theorem goW_pre {D : Bool} {a : Int} {X : Fs} (qs : List (List Int)) (f : Nat) : ∀ (xs : List (List Int × List Rc)) (ps : List (List Int)) (rs : List Rc) (last : Int) (th : Bool), 0 ≤ a → a + (ps.length + xs.length) ≤ 99999999 → (∀ x ∈ xs, recsW D x.1 = some (x.2, x.1.length)) →
    ∃ last' th', goW D (lgC a (ps ++ (xs.map (·.1) ++ qs)) X) (xs.length + f) (a + ps.length) ⟨rs, -1, last, th⟩ = goW D (lgC a (ps ++ (xs.map (·.1) ++ qs)) X) f (a + ps.length + xs.length) ⟨rs ++ xs.flatMap (·.2), -1, last', th'⟩
  | [], ps, rs, last, th, h0, h1, hx => ⟨last, th, by simp⟩
  | x :: t, ps, rs, last, th, h0, h1, hx => by
    rw [List.length_cons] at h1
    have e : ps ++ ((x :: t).map (·.1) ++ qs) = (ps ++ [x.1]) ++ (t.map (·.1) ++ qs) := by simp
    obtain ⟨la, tb, ih⟩ := goW_pre (D := D) (a := a) (X := X) qs f t (ps ++ [x.1]) (rs ++ x.2) (a + ps.length) true h0 (by rw [List.length_append, List.length_singleton]; omega) (fun y hy => hx y (by simp [hy]))
    refine ⟨la, tb, ?_⟩
    have hr : readF (lgC a (ps ++ ((x :: t).map (·.1) ++ qs)) X) (nmW (a + ps.length)) = some x.1 := by
      unfold lgC
      rw [readF_lgj h0 (by simp) (by omega), cleanW_at, List.getD_eq_getElem?_getD, List.getElem?_append_right (Nat.le_refl _), Nat.sub_self]
      rfl
    rw [show (x :: t).length + f = (t.length + f) + 1 by rw [List.length_cons]; omega]
    rw [goW, hr]
    dsimp only
    unfold stepW
    rw [hx x (by simp)]
    dsimp only
    rw [if_pos rfl, if_neg (Nat.lt_irrefl _)]
    dsimp only
    rw [e]
    rw [List.length_append, List.length_singleton] at ih
    rw [show a + (ps.length : Int) + 1 = a + ((ps.length + 1 : Nat) : Int) by omega, ih]
    simp only [List.flatMap_cons, List.append_assoc, List.length_cons]
    congr 1
    omega
/-- Files that hold whole records, and a last one that may be torn. -/
theorem openW_lgt {D : Bool} {a : Int} {X : Fs} {xs : List (List Int × List Rc)} {z : List Int} {rs : List Rc} {e : Nat} (h0 : 0 ≤ a) (h1 : a + xs.length + 1 ≤ 99999999) (hx : ∀ x ∈ xs, recsW D x.1 = some (x.2, x.1.length)) (hz : recsW D z = some (rs, e)) :
    openW D (lgC a (xs.map (·.1) ++ [z]) X) a = some ⟨xs.flatMap (·.2) ++ rs, if e < z.length then (e : Int) else -1, a + xs.length, true⟩ := by
  obtain ⟨la, tb, h⟩ := goW_pre (D := D) (a := a) (X := X) [z] ((100000000 - a).toNat - xs.length - 2 + 1 + 1) xs [] [] a false h0 (by simp; omega) hx
  simp only [List.nil_append, List.length_nil, Int.natCast_zero, Int.add_zero] at h
  unfold openW ow0
  rw [show (100000000 - a).toNat = xs.length + ((100000000 - a).toNat - xs.length - 2 + 1 + 1) by omega, h]
  have e0 : readF (lgC a (xs.map (·.1) ++ [z]) X) (nmW (a + xs.length)) = some z := by
    have := read_last (a := a) (cs := xs.map (·.1)) (z := z) (X := X) h0 (by rw [List.length_map]; omega)
    rwa [List.length_map] at this
  have e1 : readF (lgC a (xs.map (·.1) ++ [z]) X) (nmW (a + xs.length + 1)) = none := by
    have := read_past (a := a) (bs := xs.map (·.1) ++ [z]) (X := X) h0 (by rw [List.length_append, List.length_map, List.length_singleton]; omega)
    rw [List.length_append, List.length_map, List.length_singleton] at this
    rwa [show a + ((xs.length + 1 : Nat) : Int) = a + xs.length + 1 by omega] at this
  rw [goW, e0]
  dsimp only
  unfold stepW
  rw [hz]
  dsimp only
  rw [if_pos rfl]
  dsimp only
  rw [goW, e1]

/-! ### files of records -/
/-- A record as the laws make it. -/
structure GoodR (r : Rc) : Prop where
  ok : OkRc r
  wr : ∃ s l a sk, r = ⟨s, .write l a sk⟩
  lo : 1 ≤ (putRc r).length
  hi : (putRc r).length ≤ 101000
  by8 : Bytes8 (putRc r)
theorem goodR_of {s a : Int} {l : List Lb} {sk : Sp} (hs : I64 s) (ha : I64 a) (hl : chkL l = true) (hk : Ok sk) : GoodR ⟨s, .write l a sk⟩ := by
  obtain ⟨_, c2, c3⟩ := chkL_parts hl
  have h0 := putS_len (zig s)
  have h1 := putS_len 1
  have h2 := putL_fit (smL_of hl)
  have h3 := putS_len (zig a)
  have h4 := putP_len hk
  have e : putRc ⟨s, .write l a sk⟩ = putS (zig s) ++ (putS 1 ++ (putL l ++ (putS (zig a) ++ putP sk))) := rfl
  refine ⟨⟨hs, ⟨hl, c2, fun y hy => ⟨?_, (c3 y hy).2.2⟩⟩, ha, hk⟩, ⟨s, l, a, sk, rfl⟩, ?_, ?_, ?_⟩
  · have e1 := (c3 y hy).1
    unfold nameB at e1
    simp only [Bool.and_eq_true, decide_eq_true_eq] at e1
    omega
  · rw [e]; simp only [List.length_append]; omega
  · rw [e]; simp only [List.length_append]; omega
  · rw [e]
    exact Bytes8.append (putS_byte (zig_word hs.1 hs.2)) (Bytes8.append (putS_byte w64_sm) (Bytes8.append h2.2.2 (Bytes8.append (putS_byte (zig_word ha.1 ha.2)) (putP_byte hk))))
theorem goodN {seq at' : Int} (hs : I64 seq) (ha : I64 at') : GoodR (rcN seq at') := goodR_of hs ha (setN_chk at') (skN_ok at')
theorem GoodR.back {r : Rc} (h : GoodR r) : getRc false (putRc r) = some r := getRc_back h.ok
theorem GoodR.grt {r : Rc} (h : GoodR r) : GrT (putRc r) := by
  obtain ⟨s, l, a, sk, e⟩ := h.wr
  have := h.back
  rw [e] at this ⊢
  exact getRec_one this
/-- A file's bytes. -/
def fileR (l : List Rc) : List Int := laidS (l.map putRc)
theorem fileR_snoc (l : List Rc) (r : Rc) : fileR (l ++ [r]) = fileR l ++ frameS (putRc r) := by
  unfold fileR
  rw [List.map_append, laidS_append, List.map_singleton]
  simp [laidS]
theorem fileR_fr {l : List Rc} (h : ∀ r ∈ l, GoodR r) : GoodFr (l.map putRc) := fun s hs => by
  obtain ⟨r, hr, rfl⟩ := List.mem_map.1 hs
  have := h r hr
  exact ⟨this.lo, by have := this.hi; omega, this.by8⟩
theorem fileR_get {l : List Rc} (h : ∀ r ∈ l, GoodR r) : (l.map putRc).map (getRc false) = l.map some := by
  rw [List.map_map]
  exact List.map_congr_left fun r hr => (h r hr).back
theorem recsW_fileR {l : List Rc} (h : ∀ r ∈ l, GoodR r) : recsW false (fileR l) = some (l, (fileR l).length) := recsW_all (fileR_fr h) (fileR_get h)
theorem reach_laid {gs : List (List Int)} (hg : GoodFr gs) {ys : List Int} (hno : findS (laidS gs ++ ys) ((laidS gs).length : Int) = none) {k : Nat} (h : ReachF (laidS gs ++ ys) k) : ∃ j, j ≤ gs.length ∧ k = (laidS (gs.take j)).length := by
  induction h with
  | zero => exact ⟨0, Nat.zero_le _, rfl⟩
  | @next k st v h f ih =>
    obtain ⟨j, hj, rfl⟩ := ih
    by_cases e : j = gs.length
    · subst e
      rw [List.take_length, hno] at f
      cases f
    · have hlt : j < gs.length := by omega
      have hs := hg gs[j] (List.getElem_mem hlt)
      have e1 := findS_at hs.1 hs.2.1 (laidS (gs.take j)) (laidS (gs.drop (j + 1)) ++ ys)
      have e2 : laidS (gs.take j) ++ (frameS gs[j] ++ (laidS (gs.drop (j + 1)) ++ ys)) = laidS gs ++ ys := by
        rw [← List.append_assoc, ← List.append_assoc]
        congr 1
        rw [List.append_assoc, ← laidS_cons, ← laidS_append, ← List.drop_eq_getElem_cons hlt, List.take_append_drop]
      rw [e2] at e1
      have e3 := f.symm.trans e1
      simp only [Option.some.injEq, Prod.mk.injEq] at e3
      refine ⟨j + 1, hlt, ?_⟩
      rw [List.take_succ_eq_append_getElem hlt, laidS_append, List.length_append]
      have e4 : laidS [gs[j]] = frameS gs[j] := by simp [laidS]
      rw [e4, frameS_len]
      omega
theorem grF_laid {gs : List (List Int)} (hg : GoodFr gs) (hT : ∀ g ∈ gs, GrT g) {ys : List Int} (hno : findS (laidS gs ++ ys) ((laidS gs).length : Int) = none) : GrF (laidS gs ++ ys) := by
  intro k st v hk f
  obtain ⟨j, hj, rfl⟩ := reach_laid hg hno hk
  by_cases e : j = gs.length
  · subst e
    rw [List.take_length, hno] at f
    cases f
  · have hlt : j < gs.length := by omega
    have hs := hg gs[j] (List.getElem_mem hlt)
    have e1 := findS_at hs.1 hs.2.1 (laidS (gs.take j)) (laidS (gs.drop (j + 1)) ++ ys)
    have e2 : laidS (gs.take j) ++ (frameS gs[j] ++ (laidS (gs.drop (j + 1)) ++ ys)) = laidS gs ++ ys := by
      rw [← List.append_assoc, ← List.append_assoc]
      congr 1
      rw [List.append_assoc, ← laidS_cons, ← laidS_append, ← List.drop_eq_getElem_cons hlt, List.take_append_drop]
    rw [e2] at e1
    have e3 := f.symm.trans e1
    simp only [Option.some.injEq, Prod.mk.injEq] at e3
    obtain ⟨rfl, rfl⟩ := e3
    have e5 : ((laidS gs ++ ys).drop ((laidS (gs.take j)).length + (putS (gs[j].length : Int)).length + 4)).take gs[j].length = gs[j] := by
      have e6 : laidS gs ++ ys = (laidS (gs.take j) ++ putS (gs[j].length : Int) ++ sumB gs[j]) ++ (gs[j] ++ (laidS (gs.drop (j + 1)) ++ ys)) := by
        rw [← e2]
        unfold frameS
        simp only [List.append_assoc]
      have e7 : (laidS (gs.take j)).length + (putS (gs[j].length : Int)).length + 4 = (laidS (gs.take j) ++ putS (gs[j].length : Int) ++ sumB gs[j]).length := by
        simp only [List.length_append, sumB_len]
      rw [e6, e7, List.drop_left, List.take_left]
    rw [e5]
    exact hT _ (List.getElem_mem hlt)
/-- A file of records, and behind them what is no frame. -/
theorem grF_fileR {l : List Rc} (h : ∀ r ∈ l, GoodR r) {ys : List Int} (hno : findS (fileR l ++ ys) ((fileR l).length : Int) = none) : GrF (fileR l ++ ys) :=
  grF_laid (fileR_fr h) (fun g hg => by
    obtain ⟨r, hr, rfl⟩ := List.mem_map.1 hg
    exact (h r hr).grt) hno
theorem grF_all {l : List Rc} (h : ∀ r ∈ l, GoodR r) : GrF (fileR l) := by
  have := grF_fileR h (ys := []) (by rw [List.append_nil]; exact findS_end _)
  rwa [List.append_nil] at this
/-- A log of whole files and a last one, that may be torn. -/
def lgR (a : Int) (cs : List (List Rc)) (z : List Int) (X : Fs) : Fs := lgC a (cs.map fileR ++ [z]) X
theorem openR {a : Int} {cs : List (List Rc)} {z : List Int} {X : Fs} {rs : List Rc} {e : Nat} (h0 : 0 ≤ a) (h1 : a + cs.length + 1 ≤ 99999999) (hc : ∀ l ∈ cs, ∀ r ∈ l, GoodR r) (hz : recsW false z = some (rs, e)) :
    openW false (lgR a cs z X) a = some ⟨cs.flatten ++ rs, if e < z.length then (e : Int) else -1, a + cs.length, true⟩ := by
  have h := openW_lgt (D := false) (a := a) (X := X) (xs := cs.map fun l => (fileR l, l)) (z := z) (rs := rs) (e := e) h0 (by rw [List.length_map]; omega) (fun x hx => by
    obtain ⟨l, hl, rfl⟩ := List.mem_map.1 hx
    exact recsW_fileR (hc l hl)) hz
  rw [List.map_map, List.length_map, List.flatMap_map] at h
  unfold lgR
  rw [show ((fun x : List Int × List Rc => x.1) ∘ fun l : List Rc => (fileR l, l)) = fileR from rfl, show cs.flatMap (fun l : List Rc => ((fileR l, l) : List Int × List Rc).2) = cs.flatten from List.flatMap_id] at h
  exact h
theorem lgR_grF {a : Int} {cs : List (List Rc)} {z : List Int} {X : Fs} (hc : ∀ l ∈ cs, ∀ r ∈ l, GoodR r) (hz : GrF z) (n : Int) (bs : List Int) (h : readF (lgR a cs z X) (nmW n) = some bs) : GrF bs := by
  obtain ⟨j, h1, -, rfl⟩ := read_lgany h
  rw [List.getD_eq_getElem?_getD]
  by_cases e : j < cs.length
  · rw [List.getElem?_append_left (by rw [List.length_map]; exact e), List.getElem?_map, List.getElem?_eq_getElem e]
    exact grF_all (hc _ (List.getElem_mem e))
  · rw [List.length_append, List.length_map, List.length_singleton] at h1
    rw [List.getElem?_append_right (by rw [List.length_map]; omega), List.length_map, show j - cs.length = 0 by omega]
    exact hz
theorem lgR_few {a : Int} {cs : List (List Rc)} {z : List Int} {X : Fs} (h0 : 0 ≤ a) (h1 : a + cs.length + 1 ≤ 99999999) (h2 : cs.length < 4096) : FewF (lgR a cs z X) a := by
  refine few_until (cs.length + 1) (by omega) ?_
  have := read_past (a := a) (bs := cs.map fileR ++ [z]) (X := X) h0 (by rw [List.length_append, List.length_map, List.length_singleton]; omega)
  rwa [List.length_append, List.length_map, List.length_singleton] at this
/-- Within limits. -/
theorem lgU_lim {a : Int} {k m : Nat} {fs : List Fi} {ts : List Tn} {X : Fs} (h1 : fs.length ≤ m) (h2 : k + ts.length ≤ m) (h3 : ∀ x ∈ fs, x.sure.length + x.us.length ≤ m) (h4 : 0 ≤ X.n ∧ X.n ≤ m) : LimB m (lgU a k fs ts X) :=
  ⟨h1, by show (sureW a k).length + ts.length ≤ m; rw [sureW_len]; exact h2, h3, h4⟩
theorem lgR_lim {a : Int} {m : Nat} {cs : List (List Rc)} {z : List Int} {X : Fs} (h1 : cs.length + 1 ≤ m) (h3 : ∀ l ∈ cs, (fileR l).length ≤ m) (hz : z.length ≤ m) (h4 : 0 ≤ X.n ∧ X.n ≤ m) : LimB m (lgR a cs z X) := by
  unfold lgR lgC
  refine lgU_lim (by rw [cleanW_len, List.length_append, List.length_map, List.length_singleton]; exact h1) (by rw [List.length_append, List.length_map, List.length_singleton]; exact h1) (fun x hx => ?_) h4
  unfold cleanW at hx
  obtain ⟨b, hb, rfl⟩ := List.mem_map.1 hx
  rcases List.mem_append.1 hb with q | q
  · obtain ⟨l, hl, rfl⟩ := List.mem_map.1 q
    exact h3 l hl
  · obtain rfl := List.mem_singleton.1 q
    exact hz
end Go.Proofs.YtknghoecjobkiaaGreatDoor

namespace Go.Proofs.YtknghoecjobkiaaGreatDoor
open Go.RowKit Go.Maps
set_option maxRecDepth 20000
set_option linter.unusedVariables false
section
variable {cs : List (List Rc)} {l : List Rc}
end
theorem lgR_lim4 {a : Int} {cs : List (List Rc)} {z : List Int} {X : Fs} (h1 : cs.length ≤ 1000) (h3 : ∀ c ∈ cs, (fileR c).length ≤ 105200) (hz : z.length ≤ 400000) (h4 : 0 ≤ X.n ∧ X.n ≤ 400000) : LimB 400000 (lgR a cs z X) :=
  lgR_lim (by omega) (fun c hc => Nat.le_trans (h3 c hc) (by omega)) hz (by omega)
section
variable {rs : List Rc} {cs : List (List Rc)} {z : List Int} {l : List Rc} {e : Nat}
end
def recsT (n : Nat) : List Rc := (List.range n).map fun i : Nat => rcN ((i : Int) + 1) i
theorem recsT_succ (n : Nat) : recsT (n + 1) = recsT n ++ [rcN ((n : Int) + 1) n] := by
  unfold recsT
  rw [List.range_succ, List.map_append]
  rfl
theorem recsT_len (n : Nat) : (recsT n).length = n := by unfold recsT; simp
theorem goodT {i : Nat} (h : i ≤ 1000) : GoodR (rcN ((i : Int) + 1) i) := goodN ⟨by omega, by omega⟩ ⟨by omega, by omega⟩
theorem recsT_good {n : Nat} (h : n ≤ 1000) : ∀ r ∈ recsT n, GoodR r := fun r hr => by
  unfold recsT at hr
  obtain ⟨i, hi, rfl⟩ := List.mem_map.1 hr
  exact goodT (by have := List.mem_range.1 hi; omega)
theorem recsT_take (n : Nat) : ∀ m, m ≤ n → ∃ l, recsT n = recsT m ++ l := fun m h => by
  refine ⟨(recsT n).drop m, ?_⟩
  have e : recsT m = (recsT n).take m := by
    unfold recsT
    rw [← List.map_take, List.take_range, Nat.min_eq_left h]
  rw [e, List.take_append_drop]
def lenT (n : Nat) : Nat := (fileR (recsT n)).length
theorem lenT_succ (n : Nat) : lenT (n + 1) = lenT n + (frameS (putRc (rcN ((n : Int) + 1) n))).length := by
  unfold lenT
  rw [recsT_succ, fileR_snoc, List.length_append]
theorem sizeT_all : ((List.range 10).all fun i : Nat => decide ((frameS (putRc (rcN ((i : Int) + 1) i))).length ≤ 400)) = true := by decide +kernel
theorem sizeT {i : Nat} (h : i < 10) : (frameS (putRc (rcN ((i : Int) + 1) i))).length ≤ 400 := by
  have := List.all_eq_true.1 sizeT_all i (List.mem_range.2 h)
  exact of_decide_eq_true this
theorem lenT_le : ∀ {n : Nat}, n ≤ 10 → lenT n ≤ 400 * n
  | 0, _ => Nat.le_refl _
  | n + 1, h => by
    have h1 := lenT_le (n := n) (by omega)
    have h2 := sizeT (i := n) (by omega)
    rw [lenT_succ]
    omega
theorem lenT_mono {n : Nat} : ∀ {m : Nat}, m ≤ n → lenT m ≤ lenT n := by
  intro m h
  obtain ⟨l, e⟩ := recsT_take n m h
  unfold lenT
  rw [e]
  unfold fileR
  rw [List.map_append, laidS_append, List.length_append]
  omega
def endsT (n : Nat) : List Int := (List.range n).map fun j : Nat => (lenT (j + 1) : Int)
theorem endsT_succ (n : Nat) : endsT (n + 1) = endsT n ++ [(lenT (n + 1) : Int)] := by
  unfold endsT
  rw [List.range_succ, List.map_append]
  rfl
theorem endsT_at {n i : Nat} (h : i < n) : (endsT n).getD i 0 = (lenT (i + 1) : Int) := by
  unfold endsT
  rw [List.getD_eq_getElem?_getD, List.getElem?_map, List.getElem?_range h]
  rfl
section
variable {base : Nat} {w u v : World} {g q i e c : Nat} {a : Option Addr}
end
section
variable {w w' : World} {g b : Nat} {D : DataW Unit} {l : List Int} {top : Int}
end
/-- The blocks of a sketch. -/
def KS (g b : Nat) : Nat → Prop := fun k => k = g ∨ k = b
end Go.Proofs.YtknghoecjobkiaaGreatDoor
