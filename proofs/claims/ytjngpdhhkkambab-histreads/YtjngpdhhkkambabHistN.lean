/-
  The document's own answer of layer 7 (the laws' reference): bytes read as a list of buckets: a contract, for every world.
  Conditions: the slice shows its bytes.
-/
import Derived.Test.YtjngpdhhkkambabHistF
import Derived.Test.YtjngpdhhkkambabHistG
import Derived.Test.YtjngpdhhkkambabHistE
import Derived.Deep.CutBlock
import Derived.Deep.DeepCutAuto
namespace Go.Proofs.Ytjngpdhhkkambab
open Go.RowKit

/-- What the reader's Get leaves. -/
def GetP (g : Nat) (a : Option Addr) (n cap : Nat) (r : Option (Bks × Int)) (w w' : World) (e : Ending) : Prop :=
  Ch (fun k => k = g) w w' ∧ match r with
  | none => e = .returned (.slice none 0 0) ∧ ∃ p', RB w' g a n cap p' true
  | some q => (∃ a' c', e = .returned (.slice a' q.1.length c') ∧ OwnB w' w.heap.size a' q.1.length c' q.1) ∧ RB w' g a n cap q.2 false

/-- The reader, and the list that is being laid. -/
structure St (w wr : World) (g : Nat) (a : Option Addr) (n cap : Nat) (q : Int) (bad : Bool) (am : Option Addr) (nm cm : Nat) (pre : Bks) : Prop where
  rb : RB wr g a n cap q bad
  own : OwnB wr w.heap.size am nm cm pre
  ch : Ch (fun k => k = g) w wr
  lt : g < w.heap.size
  place : bad = false → -9223372036854775808 ≤ q ∧ q ≤ 9223372036854775807
  fits : ∀ x ∈ pre, fitB x
theorem St.wf {w wr : World} {g : Nat} {a : Option Addr} {n cap : Nat} {q : Int} {am : Option Addr} {nm cm : Nat} {pre : Bks} (h : St w wr g a n cap q false am nm cm pre) : (Lit.int .i64 q).wf = true := by
  have := h.place rfl
  exact i64_wf (by omega) (by omega)
theorem St.below {w wr : World} {g : Nat} {a : Option Addr} {n cap : Nat} {q : Int} {bad : Bool} {am : Option Addr} {nm cm : Nat} {pre : Bks} (h : St w wr g a n cap q bad am nm cm pre) {w0 : World} (hg : w0.heap.size ≤ g) (hb : Below w0.heap.size w0 w) : Below w0.heap.size w0 wr :=
  hb.trans (h.ch.below (by have := h.lt; omega) (fun k hk e => by omega))
theorem St.only {w wr w2 : World} {g : Nat} {a : Option Addr} {n cap : Nat} {q q2 : Int} {bad bad2 : Bool} {am : Option Addr} {nm cm : Nat} {pre : Bks} (h : St w wr g a n cap q bad am nm cm pre) (k : Only g wr w2) (hrb : RB w2 g a n cap q2 bad2) (hq : bad2 = false → -9223372036854775808 ≤ q2 ∧ q2 ≤ 9223372036854775807) : St w w2 g a n cap q2 bad2 am nm cm pre :=
  ⟨hrb, h.own.ch k.ch (fun g' hg' e => by have := h.own.block g' hg'; have := h.lt; omega), h.ch.trans k.ch, h.lt, hq, h.fits⟩
theorem St.drew {w wr : World} {g : Nat} {a : Option Addr} {n cap : Nat} {q : Int} {bad : Bool} {am : Option Addr} {nm cm : Nat} {pre : Bks} (h : St w wr g a n cap q bad am nm cm pre) : St w wr.drew g a n cap q bad am nm cm pre :=
  ⟨h.rb, h.own.below ((Below.refl wr.heap.size _).drew) (Nat.le_refl _), ⟨h.ch.os, h.ch.tape, h.ch.output, h.ch.size, h.ch.block⟩, h.lt, h.place, h.fits⟩
theorem St.spoil {w wr : World} {g : Nat} {a : Option Addr} {n cap : Nat} {q : Int} {bad : Bool} {am : Option Addr} {nm cm : Nat} {pre : Bks} (h : St w wr g a n cap q bad am nm cm pre) : St w (wr.setCell ⟨g, 2, none⟩ (.bool true)) g a n cap q true am nm cm pre :=
  h.only ((Only.refl g wr).setCell 2 _) h.rb.spoil (fun e => Bool.noConfusion e)
/-- One more bucket. -/
theorem St.push {w wr w2 : World} {g : Nat} {a : Option Addr} {n cap : Nat} {q : Int} {bad : Bool} {am am2 : Option Addr} {nm cm nm2 cm2 : Nat} {pre pre2 : Bks} (h : St w wr g a n cap q bad am nm cm pre) (o : Obj) (k : Below w.heap.size (wr.alloc o) w2) (ho : OwnB w2 w.heap.size am2 nm2 cm2 pre2) (hf : ∀ x ∈ pre2, fitB x) : St w w2 g a n cap q bad am2 nm2 cm2 pre2 := by
  have hs : wr.heap.size ≤ (wr.alloc o).heap.size := by simp
  have hgr : g < wr.heap.size := h.rb.lt'
  have hb : (w2.heap)[g]? = wr.heap[g]? := (k.block g h.lt).trans (Below.heap_alloc wr o g hgr)
  refine ⟨hb.trans h.rb, ho, ⟨k.os.trans h.ch.os, k.tape.trans h.ch.tape, k.output.trans h.ch.output, Nat.le_trans h.ch.size (Nat.le_trans hs k.size), fun j hj hn => ?_⟩, h.lt, h.place, hf⟩
  exact (k.block j hj).trans ((Below.heap_alloc wr o j (Nat.lt_of_lt_of_le hj h.ch.size)).trans (h.ch.block j hj hn))
theorem getS_place {zs : List Int} {n : Nat} (hz : Bytes8 zs) (hl : zs.length = n) (hn : n ≤ 281474976710656) {q v nx : Int} (h : getS zs q = some (v, nx)) : W64 v ∧ -9223372036854775808 ≤ nx ∧ nx ≤ 9223372036854775807 := by
  obtain ⟨hw, k', _, hk, hnx, hle, _⟩ := getS_some hz h
  exact ⟨hw, by omega, by omega⟩
/-- Where a list's bytes end. -/
theorem parSp_place {zs : List Int} (hz : Bytes8 zs) {c : Nat} {last : Int} {k : Nat} (hk : k ≤ zs.length) {l : Bks} {e : Int} (h : parSp zs c last k = some (l, e)) : ∃ m : Nat, e = m ∧ k ≤ m ∧ m ≤ zs.length := by
  induction c generalizing last k l e with
  | zero => simp [parSp] at h; exact ⟨k, h.2.symm, Nat.le_refl _, hk⟩
  | succ c ih =>
    rw [parSp] at h
    cases h1 : getS zs k with
    | none => rw [h1] at h; simp at h
    | some v =>
      obtain ⟨d, p1⟩ := v
      rw [h1] at h
      simp only at h
      obtain ⟨_, k1, e1, _, e2, e3, _⟩ := getS_some hz h1
      cases h2 : getS zs p1 with
      | none => rw [h2] at h; simp at h
      | some v =>
        obtain ⟨y, p2⟩ := v
        rw [h2] at h
        simp only at h
        obtain ⟨_, k2, e4, _, e5, e6, _⟩ := getS_some hz h2
        split at h
        · simp at h
        · cases h3 : parSp zs c (last + 1 + d) p2 with
          | none => rw [h3] at h; simp at h
          | some v =>
            obtain ⟨l', e'⟩ := v
            rw [h3] at h
            simp only [Option.map_some, Option.some.injEq, Prod.mk.injEq] at h
            rw [e5] at h3
            obtain ⟨m, m1, m2, m3⟩ := ih (by omega) h3
            exact ⟨m, by rw [← h.2]; exact m1, by omega, m3⟩
theorem parDn_place {zs : List Int} (hz : Bytes8 zs) {c : Nat} {f : Int} {k : Nat} (hk : k ≤ zs.length) {l : Bks} {e : Int} (h : parDn zs c f k = some (l, e)) : ∃ m : Nat, e = m ∧ k ≤ m ∧ m ≤ zs.length := by
  induction c generalizing f k l e with
  | zero => simp [parDn] at h; exact ⟨k, h.2.symm, Nat.le_refl _, hk⟩
  | succ c ih =>
    rw [parDn] at h
    cases h1 : getS zs k with
    | none => rw [h1] at h; simp at h
    | some v =>
      obtain ⟨y, p1⟩ := v
      rw [h1] at h
      simp only at h
      obtain ⟨_, k1, e1, _, e2, e3, _⟩ := getS_some hz h1
      cases h3 : parDn zs c (f + 1) p1 with
      | none => rw [h3] at h; simp at h
      | some v =>
        obtain ⟨l', e'⟩ := v
        rw [h3] at h
        simp only [Option.map_some, Option.some.injEq, Prod.mk.injEq] at h
        rw [e2] at h3
        obtain ⟨m, m1, m2, m3⟩ := ih (by omega) h3
        exact ⟨m, by rw [← h.2]; exact m1, by omega, m3⟩
theorem size_place {zs : List Int} (hz : Bytes8 zs) {p most v fr : Int} (h : sizeS zs p most = some (v, fr)) : ∃ k m : Nat, p = k ∧ fr = m ∧ k ≤ m ∧ m ≤ zs.length := by
  obtain ⟨h1, _⟩ := sizeS_some hz h
  obtain ⟨_, k1, e1, _, e2, e3, _⟩ := getS_some hz h1
  exact ⟨k1, _, e1, e2, by omega, e3⟩
theorem parH_place {zs : List Int} (hz : Bytes8 zs) {p : Int} {l : Bks} {e : Int} (h : parH zs p = some (l, e)) : ∃ k m : Nat, p = k ∧ e = m ∧ k ≤ m ∧ m ≤ zs.length := by
  unfold parH at h
  cases h1 : getS zs p with
  | none => rw [h1] at h; simp at h
  | some v =>
    obtain ⟨t, p1⟩ := v
    rw [h1] at h
    simp only at h
    obtain ⟨_, k1, e1, _, e2, e3, _⟩ := getS_some hz h1
    split at h
    · cases h2 : sizeS zs p1 7424 with
      | none => rw [h2] at h; simp at h
      | some v =>
        obtain ⟨c, p2⟩ := v
        rw [h2] at h
        simp only at h
        obtain ⟨k2, m2, f1, f2, f3, f4⟩ := size_place hz h2
        subst f2
        obtain ⟨m, m1, m2', m3⟩ := parSp_place hz f4 h
        exact ⟨k1, m, e1, m1, by omega, m3⟩
    · split at h
      · cases h2 : getS zs p1 with
        | none => rw [h2] at h; simp at h
        | some v =>
          obtain ⟨f, p2⟩ := v
          rw [h2] at h
          simp only at h
          obtain ⟨_, k2, d1, _, d2, d3, _⟩ := getS_some hz h2
          cases h3 : sizeS zs p2 7424 with
          | none => rw [h3] at h; simp at h
          | some v =>
            obtain ⟨c, p3⟩ := v
            rw [h3] at h
            simp only at h
            obtain ⟨k3, m3, f1, f2, f3, f4⟩ := size_place hz h3
            subst f2
            split at h
            · simp at h
            · obtain ⟨m, m1, m2', m3'⟩ := parDn_place hz f4 h
              exact ⟨k1, m, e1, m1, by omega, m3'⟩
      · simp at h

set_option maxRecDepth 100000 in
set_option maxHeartbeats 16000000 in
theorem refgetH_any (p : Int) (g : Nat) (a : Option Addr) (n cap : Nat) (zs : List Int) (w0 w : World) (hp : (Lit.int .i64 p).wf = true) (hc : n ≤ cap) (hr : Row .u8 w0 a n zs) (hg : w0.heap.size ≤ g) (hb : Below w0.heap.size w0 w) (hrb : RB w g a n cap p false) :
    Calls Try.prog 17 #[.pointer (some ⟨g, 0, none⟩)] w fun e w' => GetP g a n cap (getH zs p) w w' e := by
  have hn := hr.2.1
  obtain ⟨hp0, hp1⟩ := i64_of_wf hp
  have NUM := hide (fun wr q am nm cm pre (h : St w wr g a n cap q false am nm cm pre) => num_any q g a n cap zs w0 wr h.wf hr hg (h.below hg hb) h.rb)
  have CNT := hide (fun wr q am nm cm pre (h : St w wr g a n cap q false am nm cm pre) => rcount_any q 7424 g a n cap zs w0 wr h.wf (by decide) hc hr hg (h.below hg hb) h.rb)
  have NBAD := hide (fun wr q am nm cm pre (h : St w wr g a n cap q true am nm cm pre) => numbad_any g a n cap q wr h.rb)
  have CBAD := hide (fun wr q am nm cm pre (h : St w wr g a n cap q true am nm cm pre) => countbad_any g a n cap q 7424 wr h.rb)
  have GP := hide (fun q v nx h => getS_place hr.bytes hr.1 hn (q := q) (v := v) (nx := nx) h)
  have S0 : Hid (St w w g a n cap p false none 0 0 []) := ⟨hrb, ownB_nil _ _, Ch.refl _ _, hrb.lt', fun _ => ⟨hp0, hp1⟩, by simp⟩
  have HPL : Hid (∀ l e, parH zs p = some (l, e) → ∃ k m : Nat, p = k ∧ e = m ∧ k ≤ m ∧ m ≤ zs.length) := fun l e h => parH_place hr.bytes h
  obtain ⟨i0, hi0⟩ := info_parts Try.infoB
  have HI := hide hi0
  have HPH : Hid (getH zs p = match parH zs p with | none => none | some (l, e) => if checkS l = true ∧ putH l = (zs.drop p.toNat).take (e - p).toNat then some (l, e) else none) := rfl
  have HPP : Hid (parH zs p = match getS zs p with
    | none => none
    | some (t, p1) =>
      if t = 0 then match sizeS zs p1 7424 with
        | none => none
        | some (c, p2) => parSp zs c.toNat (-1) p2
      else if t = 1 then match getS zs p1 with
        | none => none
        | some (f, p2) => match sizeS zs p2 7424 with
          | none => none
          | some (c, p3) => if 7424 ≤ f then none else parDn zs c.toNat f p3
      else none) := rfl
  obtain ⟨c0, c1, c2, cf⟩ := hrb.cell
  have N := hide (NUM.out w p none 0 0 [] S0.out)
  generalize parH zs p = PH at *
  clear hrb hi0 cf c0 c2
  go_enter Try.func17, Try.ntmps17
  go_wp2_with fail
  refine N.out.mono ?_
  rintro e w1 hN
  have HN := hide hN
  clear N hN c1
  -- what the reader said first: a word, and whether it is bad
  obtain ⟨t, q1, bad1, rfl, S1, HT, ht0, ht1⟩ : ∃ (t q1 : Int) (bad1 : Bool), e = .returned (.int .u64 t) ∧ Hid (St w w1 g a n cap q1 bad1 none 0 0 []) ∧ Hid ((bad1 = true → t = 0 ∧ PH = none) ∧ (bad1 = false → getS zs p = some (t, q1))) ∧ 0 ≤ t ∧ t < 18446744073709551616 := by
    have h := HN.out
    unfold NumP at h
    cases hgs : getS zs p with
    | none =>
      rw [hgs] at h
      obtain ⟨h1, h2, p', h3⟩ := h
      refine ⟨0, p', true, h2, S0.out.only h1 h3 (fun e => Bool.noConfusion e), ⟨fun _ => ⟨rfl, by rw [HPP.out, hgs]⟩, fun h => by simp at h⟩, by omega, by omega⟩
    | some v =>
      obtain ⟨t, q1⟩ := v
      rw [hgs] at h
      obtain ⟨h1, h2, h3⟩ := h
      obtain ⟨hw, hpl⟩ := GP.out _ _ _ hgs
      exact ⟨t, q1, false, h2, S0.out.only h1 h3 (fun _ => hpl), ⟨fun h => by simp at h, fun _ => rfl⟩, hw.1, hw.2⟩
  go_upto_block 0 with fail
  go_cut [4] (fun x wx => ∃ (am : Option Addr) (nm cm : Nat) (pre : Bks) (q : Int) (bad : Bool), x = .slice am nm cm ∧ nm ≤ 7424 ∧ Hid (St w wx g a n cap q bad am nm cm pre) ∧ Hid ((bad = true → PH = none) ∧ (bad = false → PH = some (pre, q))))
  case first =>
    by_cases h0 : t = 0
    · subst h0
      obtain ⟨c, q2, bad2, hcC⟩ : ∃ (c q2 : Int) (bad2 : Bool), 0 ≤ c ∧ c ≤ 7424 ∧ Hid (Calls Try.prog 41 #[.pointer (some ⟨g, 0, none⟩), .int .i64 7424] w1 fun e w' => e = .returned (.int .i64 c) ∧ Only g w1 w' ∧ ∃ q', RB w' g a n cap q' bad2 ∧ (bad2 = false → q' = q2)) ∧ Hid ((bad2 = true → PH = none) ∧ (bad2 = false → parSp zs c.toNat (-1) q2 = PH ∧ -9223372036854775808 ≤ q2 ∧ q2 ≤ 9223372036854775807)) := by
        cases bad1
        · have hgs := HT.out.2 rfl
          have C := CNT.out w1 q1 none 0 0 [] S1.out
          rw [HPP.out, hgs]
          simp only [if_true]
          cases hs : sizeS zs q1 7424 with
          | none =>
            rw [hs] at C
            simp only [CountP] at C
            refine ⟨0, 0, true, by omega, by omega, C.mono ?_, ⟨fun _ => rfl, fun e => Bool.noConfusion e⟩⟩
            rintro e w' ⟨h1, h2, q', h3⟩
            exact ⟨h2, h1, q', h3, fun e => Bool.noConfusion e⟩
          | some v =>
            obtain ⟨c, q2⟩ := v
            rw [hs] at C
            simp only [CountP] at C
            obtain ⟨h1, h2, h3, h4, h5⟩ := sizeS_some hr.bytes hs
            have hln := hr.1
            refine ⟨c, q2, false, h2, h3, C.mono ?_, ⟨fun e => Bool.noConfusion e, fun _ => ⟨rfl, by omega, by omega⟩⟩⟩
            rintro e w' ⟨h1, h2, h3⟩
            exact ⟨h2, h1, q2, h3, fun _ => rfl⟩
        · have C := CBAD.out w1 q1 none 0 0 [] S1.out
          refine ⟨0, 0, true, by omega, by omega, C.mono ?_, ⟨fun _ => (HT.out.1 rfl).2, fun e => Bool.noConfusion e⟩⟩
          rintro e w' ⟨h1, h2, h3⟩
          exact ⟨h1, h2, q1, h3, fun e => Bool.noConfusion e⟩
      obtain ⟨hc0, hc1, CC, HCC⟩ := hcC
      have t0 : ((0 : Int) == 0) = true := rfl
      go_wp2_with fail
      refine CC.out.mono ?_
      rintro e w2 ⟨rfl, k2, q', hrb2, hq'⟩
      have S2 : Hid (St w w2 g a n cap q' bad2 none 0 0 []) := S1.out.only k2 hrb2 (fun h => by rw [hq' h]; exact (HCC.out.2 h).2)
      have HQ' := hide hq'
      clear k2 hrb2 hq' CC S1 HT HPP CNT CBAD S0 HN t0
      go_wp2_with fail
      go_loopw [4, 6, 7] (fun x la i wr => ∃ (am : Option Addr) (nm cm k : Nat) (L q : Int) (bad : Bool) (pre : Bks), x = .slice am nm cm ∧ la = .int .i64 L ∧ i = .int .i64 k ∧ (k : Int) ≤ c ∧ nm ≤ k ∧ -1 ≤ L ∧ L ≤ 7424 * k ∧ Hid (St w wr g a n cap q bad am nm cm pre) ∧ Hid ((bad = true → PH = none) ∧ (bad = false → (parSp zs (c.toNat - k) L q).map (fun r => (pre ++ r.1, r.2)) = PH))) (fun _ _ i _ => c.toNat - (intOf i).toNat)
      case atStart =>
        refine ⟨none, 0, 0, 0, -1, q', bad2, [], rfl, rfl, rfl, by omega, by omega, by omega, by omega, S2, ⟨HCC.out.1, fun h => ?_⟩⟩
        rw [Nat.sub_zero, HQ'.out h, (HCC.out.2 h).1]
        cases PH with
        | none => rfl
        | some v => rfl
      case round =>
        obtain ⟨am, nm, cm, k, L, q, bad, pre, rfl, rfl, rfl, hkc, hnk, hL0, hL1, HS, HPB⟩ := hrel
        obtain ⟨z0, z1, z2, zf⟩ := HS.out.rb.cell
        clear z0 z1 zf
        by_cases hk : (k : Int) < c
        · cases bad
          · have NM := hide (NUM.out wr q am nm cm pre HS.out)
            have hPS := HPB.out.2 rfl
            obtain ⟨j, hj⟩ : ∃ j, c.toNat - k = j + 1 := ⟨c.toNat - k - 1, by omega⟩
            have hj2 : c.toNat - (k + 1) = j := by omega
            rw [hj, parSp] at hPS
            unfold NumP at NM
            cases hg1 : getS zs q with
            | none =>
              rw [hg1] at NM hPS
              simp only [Option.map_none] at NM hPS
              have HPN : Hid (PH = none) := hPS.symm
              clear hPS HPB hg1 hj hj2
              go_wp2_with fail
              refine NM.out.mono ?_
              rintro e w3 ⟨k3, rfl, q3, hrb3⟩
              have HS3 : Hid (St w w3 g a n cap q3 true am nm cm pre) := HS.out.only k3 hrb3 (fun e => Bool.noConfusion e)
              have NB := hide (NBAD.out w3 q3 am nm cm pre HS3.out)
              clear k3 hrb3 NM z2
              go_wp2_with fail
              refine NB.out.mono ?_
              rintro e w4 ⟨rfl, k4, hrb4⟩
              have HS4 : Hid (St w w4 g a n cap q3 true am nm cm pre) := HS3.out.only k4 hrb4 (fun e => Bool.noConfusion e)
              have HNX0 := HPN
              have HFT : Hid (fitB (L + 1, 0)) := ⟨i64_wf (by omega) (by omega), wf_of_u64 ⟨by show (0 : Int) ≤ 0; omega, by show (0 : Int) < _; omega⟩⟩
              clear k4 hrb4 NB HS3 HS
              go_wp2_with (at_builtin; refine wpList_append_bks _ rfl _ _ 22 rfl w.heap.size i0 Try.underlying22 HI.out.1 HI.out.2.1 HI.out.2.2.1 HI.out.2.2.2 am nm cm pre rfl (OwnB.alloc (w := w4) (St.own HS4.out) _) ⟨w4.heap.size, 0, none⟩ 1 1 [(L + 1, 0)] rfl rfl (two_cells w4 (L + 1, 0) _) (by omega) (by have := (St.ch HS4.out).size; simp; omega) ?_)
              intro a5 c5 w5 o5 b5
              have HS5 : Hid (St w w5 g a n cap q3 true a5 (nm + 1) c5 (pre ++ [(L + 1, 0)])) := St.push HS4.out _ b5 o5 (fun z hz => by
                rcases List.mem_append.1 hz with h | h
                · exact (St.fits HS4.out) z h
                · simp at h; subst h; exact HFT.out)
              clear o5 b5
              go_wp2
              go_roundw
              case rel => exact ⟨a5, nm + 1, c5, k + 1, L + 1, q3, true, _, rfl, by go_num, by go_num, by omega, by omega, by omega, by omega, HS5, ⟨fun _ => HNX0.out, fun e => Bool.noConfusion e⟩⟩
              case measure => simp [intOf]; omega
            | some v =>
              obtain ⟨d, q3⟩ := v
              rw [hg1] at NM hPS
              simp only at NM hPS
              obtain ⟨hdw, hq3⟩ := GP.out _ _ _ hg1
              obtain ⟨dw0, dw1⟩ := hdw
              have HPS := hide hPS
              clear hPS HPB hg1
              go_wp2_with fail
              refine NM.out.mono ?_
              rintro e w3 ⟨k3, rfl, hrb3⟩
              have HS3 : Hid (St w w3 g a n cap q3 false am nm cm pre) := HS.out.only k3 hrb3 (fun _ => hq3)
              have NM2 := hide (NUM.out w3 q3 am nm cm pre HS3.out)
              clear k3 hrb3 NM z2 HS hq3
              unfold NumP at NM2
              have hPS := HPS.out
              clear HPS
              cases hg2 : getS zs q3 with
              | none =>
                rw [hg2] at NM2 hPS
                simp only [Option.map_none] at NM2 hPS
                have HPN : Hid (PH = none) := hPS.symm
                clear hPS hg2 hj hj2
                go_wp2_with fail
                refine NM2.out.mono ?_
                rintro e w4 ⟨k4, rfl, q4, hrb4⟩
                have HS4 : Hid (St w w4 g a n cap q4 true am nm cm pre) := HS3.out.only k4 hrb4 (fun e => Bool.noConfusion e)
                clear k4 hrb4 NM2 HS3
                by_cases hd : 7424 ≤ d
                · obtain ⟨_, _, y2, yf⟩ := HS4.out.rb.cell
                  have yf2 := yf 2
                  have R := hide HS4.out.spoil
                  clear yf
                  go_wp2_with fail
                  go_meet
                  case rel => exact ⟨am, nm, cm, pre, q4, true, rfl, by omega, R, ⟨fun _ => HPN.out, fun e => Bool.noConfusion e⟩⟩
                · have HNX0 := HPN
                  have HFT : Hid (fitB (L + 1 + d, 0)) := ⟨i64_wf (by omega) (by omega), wf_of_u64 ⟨by show (0 : Int) ≤ 0; omega, by show (0 : Int) < _; omega⟩⟩
                  go_wp2_with (at_builtin; refine wpList_append_bks _ rfl _ _ 22 rfl w.heap.size i0 Try.underlying22 HI.out.1 HI.out.2.1 HI.out.2.2.1 HI.out.2.2.2 am nm cm pre rfl (OwnB.alloc (w := w4) (St.own HS4.out) _) ⟨w4.heap.size, 0, none⟩ 1 1 [(L + 1 + d, 0)] rfl rfl (two_cells w4 (L + 1 + d, 0) _) (by omega) (by have := (St.ch HS4.out).size; simp; omega) ?_)
                  intro a5 c5 w5 o5 b5
                  have HS5 : Hid (St w w5 g a n cap q4 true a5 (nm + 1) c5 (pre ++ [(L + 1 + d, 0)])) := St.push HS4.out _ b5 o5 (fun z hz => by
                    rcases List.mem_append.1 hz with h | h
                    · exact (St.fits HS4.out) z h
                    · simp at h; subst h; exact HFT.out)
                  clear o5 b5
                  go_wp2
                  go_roundw
                  case rel => exact ⟨a5, nm + 1, c5, k + 1, L + 1 + d, q4, true, _, rfl, by go_num, by go_num, by omega, by omega, by omega, by omega, HS5, ⟨fun _ => HNX0.out, fun e => Bool.noConfusion e⟩⟩
                  case measure => simp [intOf]; omega
              | some v =>
                obtain ⟨y, q4⟩ := v
                rw [hg2] at NM2 hPS
                simp only at NM2 hPS
                obtain ⟨hyw, hq4⟩ := GP.out _ _ _ hg2
                have HYW := hide hyw
                have HPS := hide hPS
                clear hPS hg2 hyw
                go_wp2_with fail
                refine NM2.out.mono ?_
                rintro e w4 ⟨k4, rfl, hrb4⟩
                have HS4 : Hid (St w w4 g a n cap q4 false am nm cm pre) := HS3.out.only k4 hrb4 (fun _ => hq4)
                clear k4 hrb4 NM2 HS3 hq4
                by_cases hd : 7424 ≤ d
                · have HPN : Hid (PH = none) := by
                    have := HPS.out
                    rw [if_pos hd] at this
                    exact this.symm
                  obtain ⟨_, _, y2, yf⟩ := HS4.out.rb.cell
                  have yf2 := yf 2
                  have R := hide HS4.out.spoil
                  clear yf HPS hj hj2
                  go_wp2_with fail
                  go_meet
                  case rel => exact ⟨am, nm, cm, pre, q4, true, rfl, by omega, R, ⟨fun _ => HPN.out, fun e => Bool.noConfusion e⟩⟩
                · have HNX : Hid ((parSp zs (c.toNat - (k + 1)) (L + 1 + d) q4).map (fun r => (pre ++ [(L + 1 + d, y)] ++ r.1, r.2)) = PH) := by
                    show _ = _
                    have := HPS.out
                    rw [if_neg hd] at this
                    rw [hj2, ← this]
                    cases parSp zs j (L + 1 + d) q4 with
                    | none => rfl
                    | some r => simp
                  have HFT : Hid (fitB (L + 1 + d, y)) := ⟨i64_wf (by omega) (by omega), wf_of_u64 HYW.out⟩
                  clear HPS hj hj2
                  go_wp2_with (at_builtin; refine wpList_append_bks _ rfl _ _ 22 rfl w.heap.size i0 Try.underlying22 HI.out.1 HI.out.2.1 HI.out.2.2.1 HI.out.2.2.2 am nm cm pre rfl (OwnB.alloc (w := w4) (St.own HS4.out) _) ⟨w4.heap.size, 0, none⟩ 1 1 [(L + 1 + d, y)] rfl rfl (two_cells w4 (L + 1 + d, y) _) (by omega) (by have := (St.ch HS4.out).size; simp; omega) ?_)
                  intro a5 c5 w5 o5 b5
                  have HS5 : Hid (St w w5 g a n cap q4 false a5 (nm + 1) c5 (pre ++ [(L + 1 + d, y)])) := St.push HS4.out _ b5 o5 (fun z hz => by
                    rcases List.mem_append.1 hz with h | h
                    · exact (St.fits HS4.out) z h
                    · simp at h; subst h; exact HFT.out)
                  clear o5 b5
                  go_wp2
                  go_roundw
                  case rel => exact ⟨a5, nm + 1, c5, k + 1, L + 1 + d, q4, false, _, rfl, by go_num, by go_num, by omega, by omega, by omega, by omega, HS5, ⟨fun e => Bool.noConfusion e, fun _ => HNX.out⟩⟩
                  case measure => simp [intOf]; omega
          · have HE := hide (HPB.out.1 rfl)
            go_wp2_with fail
            go_meet
            case rel => exact ⟨am, nm, cm, pre, q, true, rfl, by omega, HS, ⟨fun _ => HE.out, fun e => Bool.noConfusion e⟩⟩
        · have hkE : c.toNat - k = 0 := by omega
          have HE : Hid ((bad = true → PH = none) ∧ (bad = false → PH = some (pre, q))) := by
            refine ⟨HPB.out.1, fun h => ?_⟩
            have := HPB.out.2 h
            rw [hkE, parSp] at this
            simpa using this.symm
          clear hkE
          go_wp2_with fail
          go_meet
          case rel => exact ⟨am, nm, cm, pre, q, bad, rfl, by omega, HS, HE⟩
    · have hb1 : bad1 = false := by
        cases bad1
        · rfl
        · exact absurd (HT.out.1 rfl).1 h0
      subst hb1
      have hgs := HT.out.2 rfl
      have tn0 : (t == 0) = false := by simpa using h0
      by_cases h1 : t = 1
      · subst h1
        have HPP2 : Hid (PH = match getS zs q1 with
          | none => none
          | some (f, p2) => match sizeS zs p2 7424 with
            | none => none
            | some (c, p3) => if 7424 ≤ f then none else parDn zs c.toNat f p3) := by
          show _ = _
          rw [HPP.out, hgs]
          simp only
          rw [if_neg (by omega), if_pos trivial]
        have t1 : ((1 : Int) == 1) = true := rfl
        have NM := hide (NUM.out w1 q1 none 0 0 [] S1.out)
        clear HPP HT hgs HN S0 h0
        go_wp2_with fail
        refine NM.out.mono ?_
        rintro e w2 hN2
        obtain ⟨f, q2, bad2, rfl, S2, HT2, hf0, hf1⟩ : ∃ (f q2 : Int) (bad2 : Bool), e = .returned (.int .u64 f) ∧ Hid (St w w2 g a n cap q2 bad2 none 0 0 []) ∧ Hid ((bad2 = true → PH = none) ∧ (bad2 = false → getS zs q1 = some (f, q2))) ∧ 0 ≤ f ∧ f < 18446744073709551616 := by
          unfold NumP at hN2
          cases hgs : getS zs q1 with
          | none =>
            rw [hgs] at hN2
            obtain ⟨h1, h2, p', h3⟩ := hN2
            exact ⟨0, p', true, h2, S1.out.only h1 h3 (fun e => Bool.noConfusion e), ⟨fun _ => by rw [HPP2.out, hgs], fun e => Bool.noConfusion e⟩, by omega, by omega⟩
          | some v =>
            obtain ⟨f, q2⟩ := v
            rw [hgs] at hN2
            obtain ⟨h1, h2, h3⟩ := hN2
            obtain ⟨hw, hpl⟩ := GP.out _ _ _ hgs
            exact ⟨f, q2, false, h2, S1.out.only h1 h3 (fun _ => hpl), ⟨fun e => Bool.noConfusion e, fun _ => rfl⟩, hw.1, hw.2⟩
        clear hN2 NM S1
        obtain ⟨c, q3, bad3, hcC⟩ : ∃ (c q3 : Int) (bad3 : Bool), 0 ≤ c ∧ c ≤ 7424 ∧ Hid (Calls Try.prog 41 #[.pointer (some ⟨g, 0, none⟩), .int .i64 7424] w2 fun e w' => e = .returned (.int .i64 c) ∧ Only g w2 w' ∧ ∃ q', RB w' g a n cap q' bad3 ∧ (bad3 = false → q' = q3)) ∧ Hid ((bad3 = true → PH = none) ∧ (bad3 = false → PH = (if 7424 ≤ f then none else parDn zs c.toNat f q3) ∧ -9223372036854775808 ≤ q3 ∧ q3 ≤ 9223372036854775807)) := by
          cases bad2
          · have hgs := HT2.out.2 rfl
            have C := CNT.out w2 q2 none 0 0 [] S2.out
            rw [HPP2.out, hgs]
            simp only
            cases hs : sizeS zs q2 7424 with
            | none =>
              rw [hs] at C
              simp only [CountP] at C
              refine ⟨0, 0, true, by omega, by omega, C.mono ?_, ⟨fun _ => rfl, fun e => Bool.noConfusion e⟩⟩
              rintro e w' ⟨h1, h2, q', h3⟩
              exact ⟨h2, h1, q', h3, fun e => Bool.noConfusion e⟩
            | some v =>
              obtain ⟨c, q3⟩ := v
              rw [hs] at C
              simp only [CountP] at C
              obtain ⟨_, h2, h3, h4, h5⟩ := sizeS_some hr.bytes hs
              have hln := hr.1
              refine ⟨c, q3, false, h2, h3, C.mono ?_, ⟨fun e => Bool.noConfusion e, fun _ => ⟨rfl, by omega, by omega⟩⟩⟩
              rintro e w' ⟨h1, h2, h3⟩
              exact ⟨h2, h1, q3, h3, fun _ => rfl⟩
          · have C := CBAD.out w2 q2 none 0 0 [] S2.out
            refine ⟨0, 0, true, by omega, by omega, C.mono ?_, ⟨fun _ => HT2.out.1 rfl, fun e => Bool.noConfusion e⟩⟩
            rintro e w' ⟨h1, h2, h3⟩
            exact ⟨h1, h2, q2, h3, fun e => Bool.noConfusion e⟩
        obtain ⟨hc0, hc1, CC, HCC⟩ := hcC
        go_wp2_with fail
        refine CC.out.mono ?_
        rintro e w3 ⟨rfl, k3, q', hrb3, hq'⟩
        have S3 : Hid (St w w3 g a n cap q' bad3 none 0 0 []) := S2.out.only k3 hrb3 (fun h => by rw [hq' h]; exact (HCC.out.2 h).2)
        have HQ' := hide hq'
        clear k3 hrb3 hq' CC S2 HT2 HPP2 CNT CBAD t1 tn0
        obtain ⟨_, _, y2, yf⟩ := S3.out.rb.cell
        have yf2 := yf 2
        have R3 := hide S3.out.spoil
        clear yf
        by_cases hf : 7424 ≤ f
        · have HPN : Hid (PH = none) := by
            cases bad3
            · have := (HCC.out.2 rfl).1
              rw [if_pos hf] at this
              exact this
            · exact HCC.out.1 rfl
          clear HCC HQ' S3
          go_wp2_with fail
          go_loopw [4, 12] (fun x i wr => x = .slice none 0 0 ∧ i = .int .i64 0 ∧ Hid (St w wr g a n cap q' true none 0 0 [])) (fun _ _ _ => 0)
          case atStart => exact ⟨rfl, rfl, R3⟩
          case round =>
            obtain ⟨rfl, rfl, HS⟩ := hrel
            obtain ⟨_, _, z2, zf⟩ := HS.out.rb.cell
            clear zf
            by_cases hk : (0 : Int) < c
            · go_wp2_with fail
              go_meet
              case rel => exact ⟨none, 0, 0, [], q', true, rfl, by omega, HS, ⟨fun _ => HPN.out, fun e => Bool.noConfusion e⟩⟩
            · go_wp2_with fail
              go_meet
              case rel => exact ⟨none, 0, 0, [], q', true, rfl, by omega, HS, ⟨fun _ => HPN.out, fun e => Bool.noConfusion e⟩⟩
        · have hf2 : f < 7424 := by omega
          clear R3
          go_wp2_with fail
          go_loopw [4, 12] (fun x i wr => ∃ (am : Option Addr) (nm cm k : Nat) (q : Int) (bad : Bool) (pre : Bks), x = .slice am nm cm ∧ i = .int .i64 k ∧ (k : Int) ≤ c ∧ nm ≤ k ∧ (bad = false → f < 7424) ∧ Hid (St w wr g a n cap q bad am nm cm pre) ∧ Hid ((bad = true → PH = none) ∧ (bad = false → (parDn zs (c.toNat - k) (f + k) q).map (fun r => (pre ++ r.1, r.2)) = PH))) (fun _ i _ => c.toNat - (intOf i).toNat)
          case atStart =>
            refine ⟨none, 0, 0, 0, q', bad3, [], rfl, rfl, by omega, by omega, fun _ => hf2, S3, ⟨HCC.out.1, fun h => ?_⟩⟩
            have := (HCC.out.2 h).1
            rw [if_neg (by omega)] at this
            rw [this, Nat.sub_zero, HQ'.out h]
            have e : f + ((0 : Nat) : Int) = f := by omega
            rw [e]
            cases parDn zs c.toNat f q3 with
            | none => rfl
            | some v => rfl
          case round =>
            obtain ⟨am, nm, cm, k, q, bad, pre, rfl, rfl, hkc, hnk, hff, HS, HPB⟩ := hrel
            obtain ⟨z0, z1, z2, zf⟩ := HS.out.rb.cell
            clear z0 z1 zf
            by_cases hk : (k : Int) < c
            · cases bad
              · have hf2 := hff rfl
                have NM := hide (NUM.out wr q am nm cm pre HS.out)
                have hPS := HPB.out.2 rfl
                obtain ⟨j, hj⟩ : ∃ j, c.toNat - k = j + 1 := ⟨c.toNat - k - 1, by omega⟩
                have hj2 : c.toNat - (k + 1) = j := by omega
                rw [hj, parDn] at hPS
                unfold NumP at NM
                cases hg1 : getS zs q with
                | none =>
                  rw [hg1] at NM hPS
                  simp only [Option.map_none] at NM hPS
                  have HPN : Hid (PH = none) := hPS.symm
                  clear hPS HPB hg1 hj hj2 hff
                  go_wp2_with fail
                  refine NM.out.mono ?_
                  rintro e w4 ⟨k4, rfl, q4, hrb4⟩
                  have HS4 : Hid (St w w4 g a n cap q4 true am nm cm pre) := HS.out.only k4 hrb4 (fun e => Bool.noConfusion e)
                  clear k4 hrb4 NM z2 HS
                  go_wp2
                  go_roundw
                  case rel => exact ⟨am, nm, cm, k + 1, q4, true, pre, rfl, by go_num, by omega, by omega, (fun e => Bool.noConfusion e), HS4, ⟨fun _ => HPN.out, fun e => Bool.noConfusion e⟩⟩
                  case measure => simp [intOf]; omega
                | some v =>
                  obtain ⟨y, q4⟩ := v
                  rw [hg1] at NM hPS
                  simp only at NM hPS
                  obtain ⟨hyw, hq4⟩ := GP.out _ _ _ hg1
                  have HYW := hide hyw
                  obtain ⟨yw0, yw1⟩ := hyw
                  have HPS := hide hPS
                  clear hPS HPB hg1 hff
                  go_wp2_with fail
                  refine NM.out.mono ?_
                  rintro e w4 ⟨k4, rfl, hrb4⟩
                  have HS4 : Hid (St w w4 g a n cap q4 false am nm cm pre) := HS.out.only k4 hrb4 (fun _ => hq4)
                  clear k4 hrb4 NM z2 HS hq4
                  by_cases hy : 0 < y
                  · have HNX : Hid ((parDn zs (c.toNat - (k + 1)) (f + ((k + 1 : Nat) : Int)) q4).map (fun r => (pre ++ [(f + k, y)] ++ r.1, r.2)) = PH) := by
                      have := HPS.out
                      have e : f + ((k + 1 : Nat) : Int) = f + k + 1 := by omega
                      show _ = _
                      rw [hj2, ← this, e]
                      cases parDn zs j (f + k + 1) q4 with
                      | none => rfl
                      | some r => simp [hy]
                    have HFT : Hid (fitB (f + (k : Int), y)) := ⟨i64_wf (by omega) (by omega), wf_of_u64 HYW.out⟩
                    clear HPS hj hj2
                    go_wp2_with (at_builtin; refine wpList_append_bks _ rfl _ _ 22 rfl w.heap.size i0 Try.underlying22 HI.out.1 HI.out.2.1 HI.out.2.2.1 HI.out.2.2.2 am nm cm pre rfl (OwnB.alloc (w := w4) (St.own HS4.out) _) ⟨w4.heap.size, 0, none⟩ 1 1 [(f + (k : Int), y)] rfl rfl (two_cells w4 (f + (k : Int), y) _) (by omega) (by have := (St.ch HS4.out).size; simp; omega) ?_)
                    intro a5 c5 w5 o5 b5
                    have HS5 : Hid (St w w5 g a n cap q4 false a5 (nm + 1) c5 (pre ++ [(f + (k : Int), y)])) := St.push HS4.out _ b5 o5 (fun z hz => by
                      rcases List.mem_append.1 hz with h | h
                      · exact (St.fits HS4.out) z h
                      · simp at h; subst h; exact HFT.out)
                    clear o5 b5
                    go_wp2
                    go_roundw
                    case rel => exact ⟨a5, nm + 1, c5, k + 1, q4, false, _, rfl, by go_num, by omega, by omega, fun _ => hf2, HS5, ⟨fun e => Bool.noConfusion e, fun _ => HNX.out⟩⟩
                    case measure => simp [intOf]; omega
                  · have HNX : Hid ((parDn zs (c.toNat - (k + 1)) (f + ((k + 1 : Nat) : Int)) q4).map (fun r => (pre ++ r.1, r.2)) = PH) := by
                      have := HPS.out
                      have e : f + ((k + 1 : Nat) : Int) = f + k + 1 := by omega
                      show _ = _
                      rw [hj2, ← this, e]
                      cases parDn zs j (f + k + 1) q4 with
                      | none => rfl
                      | some r => simp [hy]
                    clear HPS hj hj2
                    go_wp2
                    go_roundw
                    case rel => exact ⟨am, nm, cm, k + 1, q4, false, pre, rfl, by go_num, by omega, by omega, fun _ => hf2, HS4, ⟨fun e => Bool.noConfusion e, fun _ => HNX.out⟩⟩
                    case measure => simp [intOf]; omega
              · have HE := hide (HPB.out.1 rfl)
                clear hff
                go_wp2_with fail
                go_meet
                case rel => exact ⟨am, nm, cm, pre, q, true, rfl, by omega, HS, ⟨fun _ => HE.out, fun e => Bool.noConfusion e⟩⟩
            · have hkE : c.toNat - k = 0 := by omega
              have HE : Hid ((bad = true → PH = none) ∧ (bad = false → PH = some (pre, q))) := by
                refine ⟨HPB.out.1, fun h => ?_⟩
                have := HPB.out.2 h
                rw [hkE, parDn] at this
                simpa using this.symm
              clear hkE hff
              go_wp2_with fail
              go_meet
              case rel => exact ⟨am, nm, cm, pre, q, bad, rfl, by omega, HS, HE⟩
      · have tn1 : (t == 1) = false := by simpa using h1
        have HPN : Hid (PH = none) := by
          show _ = _
          rw [HPP.out, hgs]
          simp only
          rw [if_neg h0, if_neg h1]
        obtain ⟨_, _, y2, yf⟩ := S1.out.rb.cell
        have yf2 := yf 2
        have R := hide S1.out.spoil
        clear yf HPP HT hgs HN S0 h0 h1
        go_wp2_with fail
        go_meet
        case rel => exact ⟨none, 0, 0, [], q1, true, rfl, by omega, R, ⟨fun _ => HPN.out, fun e => Bool.noConfusion e⟩⟩
  case rest =>
    obtain ⟨am, nm, cm, pre, q, bad, rfl, hnm, HS, HPB⟩ := hcut
    obtain ⟨d0, d1, d2, df⟩ := HS.out.rb.cell
    have df2 := df 2
    clear df NUM CNT NBAD CBAD GP S1 HT HN S0 HPP
    cases bad
    · have hPH := HPB.out.2 rfl
      obtain ⟨k, m, rfl, rfl, hkm, hmn⟩ := HPL.out pre q hPH
      rw [hPH] at HPH
      simp only at HPH
      have hln := hr.1
      have CK := hide (refcheck_any am nm cm pre wc (HS.out.own.row (by omega) HS.out.fits))
      have HSP : Hid (∀ j, St w ((wc.drewN j).setCell ⟨g, 2, none⟩ (.bool true)) g a n cap (m : Int) true am nm cm pre) := fun j => (HS.out.only ((Only.refl g wc).drewN j) (HS.out.rb.drewN j) HS.out.place).spoil
      by_cases hck : checkS pre = true
      · rw [hck] at CK
        go_wp2_with fail
        refine CK.out.mono ?_
        rintro e w3 ⟨rfl, j3, hj3⟩
        have HS3 : Hid (St w w3 g a n cap (m : Int) false am nm cm pre) := by rw [hj3]; exact HS.out.only ((Only.refl g wc).drewN j3) (HS.out.rb.drewN j3) HS.out.place
        clear hj3 CK HSP d0 d1 d2 df2
        obtain ⟨d0, d1, d2, df⟩ := HS3.out.rb.cell
        have df2 := df 2
        clear df
        have hBw3 := HS3.out.below hg hb
        have HRW := hide (hr.below hBw3 (Nat.le_refl _))
        have F := hide (fun (W : World) (h : Row .u8 W a n zs) => row_string (cap := cap - k) ((h.from k (by omega) hc).to (m - k) (by omega)))
        have hsl := slice_mid a n cap k m hkm (by omega)
        have PU := hide (refputH_any am nm cm pre w3.drew (HS3.out.own.row (by omega) HS3.out.fits).drew hck)
        have HG8 : Good pre := ⟨hck, fit_words HS3.out.fits⟩
        have HPL8 := (putH_len HG8).1
        have hlp : pre.length ≤ 7424 := good_len HG8
        have HB8 := hide (putH_byte HG8)
        have HB9 : Hid (∀ z ∈ (zs.drop k).take (m - k), (Lit.int .u8 z).wf = true) := fun z hz => hr.2.2.1 z (List.mem_of_mem_drop (List.mem_of_mem_take hz))
        have HEQ : Hid (strOfNums (putH pre) = strOfNums ((zs.drop k).take (m - k)) → putH pre = (zs.drop k).take (m - k)) := fun h => strOf_inj (fits_wf HB8.out) HB9.out h
        rw [show ((m : Int) - (k : Int)).toNat = m - k by omega, Int.toNat_natCast] at HPH
        have HOK : Hid (putH pre = (zs.drop k).take (m - k) → getH zs (k : Int) = some (pre, (m : Int))) := fun h => by rw [HPH.out, if_pos ⟨hck, h⟩]
        have HNO : Hid (¬ putH pre = (zs.drop k).take (m - k) → getH zs (k : Int) = none) := fun h => by rw [HPH.out, if_neg (fun h' => h h'.2)]
        have HEQ2 : Hid (putH pre = (zs.drop k).take (m - k) → strOfNums (putH pre) = strOfNums ((zs.drop k).take (m - k))) := fun h => by rw [h]
        generalize (zs.drop k).take (m - k) = MID at *
        generalize m - k = len at *
        generalize (if cap = k then a else a.map (·.add k)) = amid at *
        generalize hPX : putH pre = PX at *
        have HPX := hide hPX
        clear hPX
        generalize hPN : PX.length = LP at *
        have HPN := hide hPN
        clear hPN hBw3
        have SS : Hid (∀ W, St w W g a n cap (m : Int) false am nm cm pre → W.cell? ⟨g, 0, none⟩ = some (.slice a n cap) ∧ W.cell? ⟨g, 1, none⟩ = some (.int .i64 (m : Int)) ∧ (convert 23 9 (.slice amid len (cap - k))).run Try.prog W = .ok (.string (strOfNums MID)) W) := fun W h => ⟨h.rb.cell.1, h.rb.cell.2.1, F.out W (hr.below (h.below hg hb) (Nat.le_refl _))⟩
        have HS3D := hide HS3.out.drew
        clear F HRW d0 d1 df2
        generalize strOfNums MID = X2 at *
        go_upto_region 31 with fail
        refine wp_region_held_drew (S := fun W => W.cell? ⟨g, 0, none⟩ = some (.slice a n cap) ∧ W.cell? ⟨g, 1, none⟩ = some (.int .i64 (m : Int)) ∧ (convert 23 9 (.slice amid len (cap - k))).run Try.prog W = .ok (.string X2) W) (by kernel_rfl) (SS.out _ HS3D.out) (fun hHeld => ?_)
        refine held_take (i := 0) (d := (some 107)) (v := ?_) rfl rfl (by kernel_rfl) (by kernel_rfl) (by kernel_rfl) (fun _ _ _ h => h) (Or.inl ⟨by rfl, ?_⟩) (by first | assumption | rfl | trivial) ?_
        rotate_left 1
        · (intro w hSw; (try dsimp only at hSw); (try subst hSw); go_simp; try with_reducible rfl)
        simp only [Act.put, List.setIfInBounds_toArray, List.set_cons_zero, List.set_cons_succ]
        refine held_take (i := 3) (d := (some 110)) (v := ?_) rfl rfl (by kernel_rfl) (by kernel_rfl) (by kernel_rfl) (fun _ _ _ h => h) (Or.inl ⟨by rfl, ?_⟩) (by first | assumption | rfl | trivial) ?_
        rotate_left 1
        · (intro w hSw; (try dsimp only at hSw); (try subst hSw); go_simp; try with_reducible rfl)
        simp only [Act.put, List.setIfInBounds_toArray, List.set_cons_zero, List.set_cons_succ]
        refine held_take (i := 4) (d := (some 111)) (v := ?_) rfl rfl (by kernel_rfl) (by kernel_rfl) (by kernel_rfl) (fun _ _ _ h => h) (Or.inl ⟨by rfl, ?_⟩) (by first | assumption | rfl | trivial) ?_
        rotate_left 1
        · (intro w hSw; (try dsimp only at hSw); (try subst hSw); go_simp; try with_reducible rfl)
        simp only [Act.put, List.setIfInBounds_toArray, List.set_cons_zero, List.set_cons_succ]
        refine held_take (i := 5) (d := (some 112)) (v := ?_) rfl rfl (by kernel_rfl) (by kernel_rfl) (by kernel_rfl) (fun _ _ _ h => h) (Or.inl ⟨by rfl, ?_⟩) (by first | assumption | rfl | trivial) ?_
        rotate_left 1
        · (intro w hSw; (try dsimp only at hSw); (try subst hSw); go_simp; try with_reducible rfl)
        simp only [Act.put, List.setIfInBounds_toArray, List.set_cons_zero, List.set_cons_succ]
        refine held_take (i := 6) (d := (some 113)) (v := ?_) rfl rfl (by kernel_rfl) (by kernel_rfl) (by kernel_rfl) (fun _ _ _ h => h) (Or.inl ⟨by rfl, ?_⟩) (by first | assumption | rfl | trivial) ?_
        rotate_left 1
        · (intro w hSw; (try dsimp only at hSw); (try subst hSw); go_simp; try with_reducible rfl)
        simp only [Act.put, List.setIfInBounds_toArray, List.set_cons_zero, List.set_cons_succ]
        refine held_take (i := 7) (d := (some 114)) (v := ?_) rfl rfl (by kernel_rfl) (by kernel_rfl) (by kernel_rfl) (fun _ _ _ h => h) (Or.inl ⟨by rfl, ?_⟩) (by first | assumption | rfl | trivial) ?_
        rotate_left 1
        · (intro w hSw; (try dsimp only at hSw); (try subst hSw); go_simp; try with_reducible rfl)
        simp only [Act.put, List.setIfInBounds_toArray, List.set_cons_zero, List.set_cons_succ]
        refine held_take (i := 8) (d := (some 115)) (v := ?_) rfl rfl (by kernel_rfl) (by kernel_rfl) (by kernel_rfl) (fun _ _ _ h => h) (Or.inl ⟨by rfl, ?_⟩) (by first | assumption | rfl | trivial) ?_
        rotate_left 1
        · (intro w hSw; (try dsimp only at hSw); (try subst hSw); go_simp; try with_reducible rfl)
        simp only [Act.put, List.setIfInBounds_toArray, List.set_cons_zero, List.set_cons_succ]
        refine held_take (i := 9) (d := (some 116)) (v := ?_) rfl rfl (by kernel_rfl) (by kernel_rfl) (by kernel_rfl) (fun _ _ _ h => h) (Or.inl ⟨by rfl, ?_⟩) (by first | assumption | rfl | trivial) ?_
        rotate_left 1
        · (intro w hSw; (try dsimp only at hSw); (try subst hSw); go_simp; try with_reducible rfl)
        simp only [Act.put, List.setIfInBounds_toArray, List.set_cons_zero, List.set_cons_succ]
        refine held_take (i := 10) (d := (some 117)) (v := ?_) rfl rfl (by kernel_rfl) (by kernel_rfl) (by kernel_rfl) (fun _ _ _ h => h) (Or.inl ⟨by rfl, ?_⟩) (by first | assumption | rfl | trivial) ?_
        rotate_left 1
        · (intro w hSw; (try dsimp only at hSw); (try subst hSw); go_simp; try with_reducible rfl)
        simp only [Act.put, List.setIfInBounds_toArray, List.set_cons_zero, List.set_cons_succ]
        refine held_take (i := 11) (d := (some 118)) (v := ?_) rfl rfl (by kernel_rfl) (by kernel_rfl) (by kernel_rfl) (fun _ _ _ h => h) (Or.inl ⟨by rfl, ?_⟩) (by first | assumption | rfl | trivial) ?_
        rotate_left 1
        · (intro w hSw; (try dsimp only at hSw); (try subst hSw); go_simp; try with_reducible rfl)
        simp only [Act.put, List.setIfInBounds_toArray, List.set_cons_zero, List.set_cons_succ]
        refine held_take (i := 12) (d := (some 119)) (v := ?_) rfl rfl (by kernel_rfl) (by kernel_rfl) (by kernel_rfl) (fun _ _ _ h => h) (Or.inl ⟨by rfl, ?_⟩) (by first | assumption | rfl | trivial) ?_
        rotate_left 1
        · (intro w hSw; (try dsimp only at hSw); (try subst hSw); go_simp; try with_reducible rfl)
        simp only [Act.put, List.setIfInBounds_toArray, List.set_cons_zero, List.set_cons_succ]
        refine held_take (i := 13) (d := (some 120)) (v := ?_) rfl rfl (by kernel_rfl) (by kernel_rfl) (by kernel_rfl) (fun _ _ _ h => h) (Or.inl ⟨by rfl, ?_⟩) (by first | assumption | rfl | trivial) ?_
        rotate_left 1
        · (intro w hSw; (try dsimp only at hSw); (try subst hSw); go_simp; try with_reducible rfl)
        simp only [Act.put, List.setIfInBounds_toArray, List.set_cons_zero, List.set_cons_succ]
        refine held_call (i := 1) (by kernel_rfl) rfl (by rfl) (fun K hK => ?_)
        go_simp
        refine PU.out.mono ?_
        rintro e w4 ⟨ap, cp, rfl, o4, k4⟩
        have HS4 : Hid (St w w4 g a n cap (m : Int) false am nm cm pre) := by
          have h := HS3D.out
          refine ⟨(k4.block g h.rb.lt').trans h.rb, h.own.below k4 (Nat.le_refl _), ⟨k4.os.trans h.ch.os, k4.tape.trans h.ch.tape, k4.output.trans h.ch.output, Nat.le_trans h.ch.size k4.size, fun j hj hn => (k4.block j (Nat.lt_of_lt_of_le hj h.ch.size)).trans (h.ch.block j hj hn)⟩, h.lt, h.place, h.fits⟩
        have hst := mine_string o4 (by omega) HB8.out
        have hS4 := SS.out w4 HS4.out
        clear o4 k4 PU hHeld
        generalize strOfNums PX = X1 at *
        go_wp2_with fail
        refine hK.out _ _ hS4 ?_
        clear hK SS
        by_cases hX : X1 = X2
        · have tq : (X1.toList == X2.toList) = true := by rw [hX]; simp
          have tq' : (X1.toList != X2.toList) = false := by rw [hX]; simp
          have HE := hide (HOK.out (HEQ.out hX))
          have HPL5 : Hid (nm = pre.length) := HS4.out.own.len.symm
          clear hX HOK HNO HEQ HEQ2
          refine held_take (i := 2) (d := (some 109)) (v := ?_) rfl rfl (by kernel_rfl) (by kernel_rfl) (by kernel_rfl) (fun _ _ _ h => h) (Or.inl ⟨by rfl, ?_⟩) (by first | assumption | rfl | trivial) ?_
          rotate_left 1
          · (intro w hSw; (try dsimp only at hSw); (try subst hSw); go_simp; try with_reducible rfl)
          simp only [Act.put, List.setIfInBounds_toArray, List.set_cons_zero, List.set_cons_succ]
          refine held_take (i := 14) (d := (some 121)) (v := ?_) rfl rfl (by kernel_rfl) (by kernel_rfl) (by kernel_rfl) (fun _ _ _ h => h) (Or.inl ⟨by rfl, ?_⟩) (by first | assumption | rfl | trivial) ?_
          rotate_left 1
          · (intro w hSw; (try dsimp only at hSw); (try subst hSw); go_simp; try with_reducible rfl)
          simp only [Act.put, List.setIfInBounds_toArray, List.set_cons_zero, List.set_cons_succ]
          refine wpAnyH_done (by kernel_rfl) ?_ _
          go_wp2
          go_ret
          rw [HE.out]
          refine ⟨HS4.out.ch, ⟨am, cm, ?_, ?_⟩, HS4.out.rb⟩
          · show Ending.returned (.slice am nm cm) = .returned (.slice am pre.length cm)
            rw [← HPL5.out]
          · show OwnB _ _ am pre.length cm pre
            rw [← HPL5.out]; exact HS4.out.own
        · have hX' : X1.toList ≠ X2.toList := fun h => hX (by
            rw [ByteArray.toList_eq, ByteArray.toList_eq] at h
            exact ByteArray.ext (Array.toList_inj.1 h))
          have tq : (X1.toList == X2.toList) = false := by simpa using hX'
          have tq' : (X1.toList != X2.toList) = true := by simpa using hX'
          have HE : Hid (getH zs (k : Int) = none) := HNO.out (fun h => hX (HEQ2.out h))
          have R := hide HS4.out.spoil
          obtain ⟨_, _, z2, zf⟩ := HS4.out.rb.cell
          have zf2 := zf 2
          clear hX hX' HOK HNO HEQ HEQ2 zf
          refine held_take (i := 2) (d := (some 109)) (v := ?_) rfl rfl (by kernel_rfl) (by kernel_rfl) (by kernel_rfl) (fun _ _ _ h => h) (Or.inl ⟨by rfl, ?_⟩) (by first | assumption | rfl | trivial) ?_
          rotate_left 1
          · (intro w hSw; (try dsimp only at hSw); (try subst hSw); go_simp; try with_reducible rfl)
          simp only [Act.put, List.setIfInBounds_toArray, List.set_cons_zero, List.set_cons_succ]
          refine held_take (i := 14) (d := (some 121)) (v := ?_) rfl rfl (by kernel_rfl) (by kernel_rfl) (by kernel_rfl) (fun _ _ _ h => h) (Or.inl ⟨by rfl, ?_⟩) (by first | assumption | rfl | trivial) ?_
          rotate_left 1
          · (intro w hSw; (try dsimp only at hSw); (try subst hSw); go_simp; try with_reducible rfl)
          simp only [Act.put, List.setIfInBounds_toArray, List.set_cons_zero, List.set_cons_succ]
          refine wpAnyH_done (by kernel_rfl) ?_ _
          go_wp2
          go_ret
          rw [HE.out]
          exact ⟨R.out.ch, rfl, _, R.out.rb⟩
      · have hck' : checkS pre = false := by simpa using hck
        rw [hck'] at CK
        have HE : Hid (getH zs (k : Int) = none) := by show _ = _; rw [HPH.out, if_neg (fun h => hck h.1)]
        go_wp2_with fail
        refine CK.out.mono ?_
        rintro e w3 ⟨rfl, j3, hj3⟩
        subst hj3
        have R := hide (HSP.out j3)
        clear CK HSP
        go_wp2
        go_ret
        rw [HE.out]
        exact ⟨R.out.ch, rfl, _, R.out.rb⟩
    · have hPH := HPB.out.1 rfl
      have HE : Hid (getH zs p = none) := by show _ = _; rw [HPH.out, hPH]
      have R := hide HS.out.spoil
      go_wp2
      go_ret
      rw [HE.out]
      exact ⟨R.out.ch, rfl, _, R.out.rb⟩
end Go.Proofs.Ytjngpdhhkkambab
