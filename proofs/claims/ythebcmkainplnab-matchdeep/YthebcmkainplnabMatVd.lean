/-
  The law MatchDeep, walked: a matcher may be nested just so deep, and have just so many parts; so may its text; the document's examples hold (written by gen/matv2.gen.py).
  Conditions: none.
-/
import Derived.Test.YthebcmkainplnabMatJ
import Derived.Test.YthebcmkainplnabMatR
import Derived.Test.YthebcmkainplnabMatTz
import Derived.Test.YthebcmkainplnabPlace
namespace Go.Proofs.Ythebcmkainplnab
open Go.RowKit
set_option maxRecDepth 20000

/-- All, under so many Nots. -/
def notN : Nat → Mt
  | 0 => zeroM
  | n + 1 => .mk 7 .empty .empty [] [notN n]
def isA : Mt := .mk 1 ⟨#[97]⟩ .empty [] []
def hmA : Hm := ⟨1, ⟨#[97]⟩, ⟨#[]⟩, none, 0, 0, none, 0, 0⟩
def orK (k : Nat) : Mt := .mk 6 .empty .empty [] (List.replicate k isA)
def opens : Nat → List UInt8
  | 0 => []
  | n + 1 => opens n ++ [33, 40]
def shuts : Nat → List UInt8
  | 0 => []
  | n + 1 => shuts n ++ [41]
def deepT (n : Nat) : List UInt8 := opens n ++ [42] ++ shuts n
def wantD (n : Nat) : Int := if 8 < n then 18 else if n = 8 then 17 else 0
theorem opens_len (n : Nat) : (opens n).length = n * 2 := by
  induction n with
  | zero => rfl
  | succ n ih => rw [opens, List.length_append, ih]; simp; omega
theorem shuts_len (n : Nat) : (shuts n).length = n := by
  induction n with
  | zero => rfl
  | succ n ih => rw [shuts, List.length_append, ih]; rfl
theorem notN_chk : ∀ n, n < 14 → chkM (notN n) = decide (n + 1 ≤ 8) := by decide +kernel
theorem orK_chk : ∀ k, k < 80 → chkM (orK k) = decide (k + 1 ≤ 64) := by decide +kernel
theorem deepT_dp : ∀ n, n < 14 → dpS 0 0 (deepT n) = decide (8 < n) := by decide +kernel
theorem deepT_ps : ∀ n, n < 14 → (parseM (deepT n)).isSome = decide (n < 8) := by decide +kernel
theorem deep_er {n : Nat} (hn : n < 14) {er : Int} {m : Mt} (h : (dpS 0 0 (deepT n) = true ∧ m = zeroM ∧ er = 18) ∨ (dpS 0 0 (deepT n) = false ∧ parseM (deepT n) = none ∧ m = zeroM ∧ er = 17) ∨ (dpS 0 0 (deepT n) = false ∧ parseM (deepT n) = some m ∧ er = 0)) : er = wantD n := by
  have h1 := deepT_dp n hn
  have h2 := deepT_ps n hn
  unfold wantD
  rcases h with ⟨h3, -, rfl⟩ | ⟨h3, h4, -, rfl⟩ | ⟨h3, h4, rfl⟩
  · rw [h3] at h1
    rw [if_pos (of_decide_eq_true h1.symm)]
  · rw [h3] at h1
    rw [h4] at h2
    have a1 := of_decide_eq_false h1.symm
    have a2 := of_decide_eq_false (show decide (n < 8) = false from h2.symm)
    rw [if_neg a1, if_pos (by omega)]
  · rw [h3] at h1
    rw [h4] at h2
    have a1 := of_decide_eq_false h1.symm
    have a2 := of_decide_eq_true (show decide (n < 8) = true from h2.symm)
    rw [if_neg a1, if_neg (by omega)]
theorem deep_ba (a b : ByteArray) : (a ++ b).toList = a.toList ++ b.toList := by
  rw [ByteArray.toList_eq, ByteArray.toList_eq, ByteArray.toList_eq, ByteArray.data_append, Array.toList_append]
theorem isA_see (S : Nat → Prop) (w : World) : SeeM S w isA hmA := by
  rw [seeM_iff]
  refine ⟨rfl, rfl, rfl, ⟨by decide, by decide, by decide, by decide, fun _ => rfl, by decide, by decide, fun _ => rfl⟩, ⟨rfl, by decide, ?_, Or.inl rfl⟩, rfl, Or.inl rfl⟩
  intro s hs
  cases hs
/-- A box that shows so many Nots; all else as it was. -/
structure DeepS (w u : World) (j : Nat) (h : Hm) : Prop where
  box : BoxM u w.heap.size h
  see : SeeM (fun b => w.heap.size < b) u (notN j) h
  bel : Below w.heap.size w u
theorem DeepS.start {w u : World} (hu : w.alloc (.cells #[.int .i64 0, .string ⟨#[]⟩, .string ⟨#[]⟩, .slice none 0 0, .slice none 0 0] 25) = u) : DeepS w u 0 ⟨0, ⟨#[]⟩, ⟨#[]⟩, none, 0, 0, none, 0, 0⟩ := by
  rw [← hu]
  exact ⟨boxM_new w ⟨0, ⟨#[]⟩, ⟨#[]⟩, none, 0, 0, none, 0, 0⟩, seeM_zero _ _, (Below.refl _ _).alloc (Nat.le_refl _) _⟩
theorem DeepS.step {w u v : World} {j : Nat} {h : Hm} (d : DeepS w u j h) (hv : put5 (u.alloc (.cells #[.int .i64 h.op, .string h.nm, .string h.vl, .slice h.va h.vn h.vc, .slice h.ka h.kn h.kc] 25)) w.heap.size ⟨7, ⟨#[]⟩, ⟨#[]⟩, none, 0, 0, some ⟨u.heap.size, 0, none⟩, 1, 1⟩ = v) : DeepS w v (j + 1) ⟨7, ⟨#[]⟩, ⟨#[]⟩, none, 0, 0, some ⟨u.heap.size, 0, none⟩, 1, 1⟩ := by
  have hlt := d.box.lt
  have b1 : BoxM (u.alloc (.cells #[.int .i64 h.op, .string h.nm, .string h.vl, .slice h.va h.vn h.vc, .slice h.ka h.kn h.kc] 25)) w.heap.size h := d.box.block (Below.heap_alloc _ _ _ hlt)
  have c5 := ch_put5 (u.alloc (.cells #[.int .i64 h.op, .string h.nm, .string h.vl, .slice h.va h.vn h.vc, .slice h.ka h.kn h.kc] 25)) w.heap.size ⟨7, ⟨#[]⟩, ⟨#[]⟩, none, 0, 0, some ⟨u.heap.size, 0, none⟩, 1, 1⟩
  have f1 := five_new u h 25
  rw [← hv]
  refine ⟨b1.put _, ?_, ?_⟩
  · refine see_kids (hs := [h]) (by decide) rfl (by decide) hlt ?_
    intro i k hi
    match i, hi with
    | 0, hi =>
      obtain rfl : notN j = k := by simpa using hi
      exact ⟨h, rfl, by rw [Nat.zero_mul]; exact f1.block (c5.block _ f1.lt (by omega)), (d.see.alloc _).ch c5 (fun b hb e => by omega)⟩
    | i + 1, hi => simp at hi
  · exact (d.bel.trans ((Below.refl _ _).alloc d.bel.size _)).trans (c5.below (by have := d.bel.size; simp; omega) (fun k hk e => by omega))
/-- And a box that shows so many kids under an Or. -/
structure WideS (w v u : World) (n : Nat) (h : Hm) (a : Option Addr) (j c : Nat) : Prop where
  box : BoxM u w.heap.size h
  see : SeeM (fun b => b < v.heap.size) u (notN n) h
  own : OwnM u (v.heap.size + 1) a j c (List.replicate j hmA)
  mb : BoxM u v.heap.size ⟨6, ⟨#[]⟩, ⟨#[]⟩, none, 0, 0, a, j, c⟩
  bel : Below w.heap.size w u
  lt : w.heap.size < v.heap.size
theorem WideS.start {w v u : World} {n : Nat} {h : Hm} (d : DeepS w v n h) (hu : v.alloc (.cells #[.int .i64 6, .string ⟨#[]⟩, .string ⟨#[]⟩, .slice none 0 0, .slice none 0 0] 25) = u) : WideS w v u n h none 0 0 := by
  have hlt := d.box.lt
  rw [← hu]
  exact ⟨d.box.block (Below.heap_alloc _ _ _ hlt), (d.see.mono (fun b hb _ => hb)).alloc _, ownM_nil _ _, boxM_new v ⟨6, ⟨#[]⟩, ⟨#[]⟩, none, 0, 0, none, 0, 0⟩, d.bel.trans ((Below.refl _ _).alloc d.bel.size _), hlt⟩
theorem WideS.step {w v u u4 : World} {n : Nat} {h : Hm} {a : Option Addr} {j c g' c' : Nat} (d : WideS w v u n h a j c) (o : OwnM u4 (v.heap.size + 1) (some ⟨g', 0, none⟩) (j + 1) c' (List.replicate j hmA ++ [hmA])) (b4 : Below (v.heap.size + 1) (u.alloc (.cells #[.int .i64 1, .string ⟨#[97]⟩, .string ⟨#[]⟩, .slice none 0 0, .slice none 0 0] 25)) u4) : WideS w v (u4.setCell ⟨v.heap.size, 4, none⟩ (.slice (some ⟨g', 0, none⟩) (j + 1) c')) n h (some ⟨g', 0, none⟩) (j + 1) c' := by
  have hlt := d.lt
  have hu := d.mb.lt
  have bb : Below (v.heap.size + 1) u u4 := ((Below.refl _ _).alloc hu _).trans b4
  have cs := ch_set u4 v.heap.size 4 (.slice (some ⟨g', 0, none⟩) (j + 1) c')
  have b1 := d.box.block (bb.block _ (by omega))
  have m1 := d.mb.block (bb.block _ (by omega))
  refine ⟨b1.block (cs.block _ b1.lt (by omega)), ?_, ?_, m1.kids _ _ _, ?_, hlt⟩
  · have s1 : SeeM (fun b => b < v.heap.size) u4 (notN n) h := d.see.ch (C := fun b => v.heap.size + 1 ≤ b) ⟨bb.os, bb.tape, bb.output, bb.size, fun k _ hn => bb.block k (by omega)⟩ (fun b hb e => by omega)
    exact s1.ch cs (fun b hb e => by omega)
  · rw [List.replicate_succ']
    exact o.ch cs (fun b hb e => by have := (o.block b hb).1; omega)
  · exact (d.bel.trans (bb.mono (by omega))).trans (cs.below (by have := d.bel.size; have := bb.size; omega) (fun k hk e => by omega))
theorem WideS.or {w v u : World} {n : Nat} {h : Hm} {a : Option Addr} {j c : Nat} (d : WideS w v u n h a j c) (hj : j ≤ 80) : SeeM (fun _ => True) u (orK j) ⟨6, ⟨#[]⟩, ⟨#[]⟩, none, 0, 0, a, j, c⟩ := by
  have hcap := d.own.capped
  rw [seeM_iff]
  refine ⟨rfl, rfl, rfl, ⟨show (Lit.int .i64 6).wf = true by decide, by show (0 : Nat) ≤ _; decide, by show (0 : Nat) ≤ _; decide, Nat.le_refl _, fun _ => rfl, by show j * 88 ≤ _; omega, hcap.1, fun e => (hcap.2 e).2⟩, ⟨rfl, by show (0 : Nat) * 16 ≤ _; omega, fun x hx => (by cases hx), Or.inl rfl⟩, by show (List.replicate j isA).length = j; simp, ?_⟩
  by_cases h0 : j = 0
  · exact Or.inl h0
  · right
    have hx : (List.replicate j hmA)[0]? = some hmA := by rw [List.getElem?_replicate, if_pos (by omega)]
    obtain ⟨b, hb, -, -⟩ := d.own.kid hx
    refine ⟨b, 0, hb, trivial, fun i kd hi => ?_⟩
    have hi2 : (List.replicate j isA)[i]? = some kd := hi
    rw [List.getElem?_replicate] at hi2
    split at hi2
    · rename_i hlt
      simp only [Option.some.injEq] at hi2
      subst hi2
      have hy : (List.replicate j hmA)[i]? = some hmA := by rw [List.getElem?_replicate, if_pos hlt]
      obtain ⟨b2, hb2, -, f2⟩ := d.own.kid hy
      rw [hb] at hb2
      simp only [Option.some.injEq, Addr.mk.injEq, and_true] at hb2
      subst hb2
      exact ⟨hmA, f2, isA_see _ _⟩
    · cases hi2
theorem WideS.bel' {w v u u' : World} {n : Nat} {h : Hm} {a : Option Addr} {j c : Nat} (d : WideS w v u n h a j c) (b : Below u.heap.size u u') : WideS w v u' n h a j c :=
  ⟨d.box.block (b.block _ d.box.lt), d.see.below b, d.own.below b (Nat.le_refl _), d.mb.block (b.block _ d.mb.lt), d.bel.trans (b.mono d.bel.size), d.lt⟩

set_option maxHeartbeats 16000000 in
theorem deepM_any (x y : Int) (w : World) :
    Calls Try.prog 5 #[.int .i64 x, .int .i64 y] w fun e w' => e = .returned (.bool true) ∧ Below w.heap.size w w' := by
  obtain ⟨i0, hi, hz0, hz1, hz2⟩ := info_parts Try.infoM
  obtain ⟨n, hn⟩ : ∃ n : Nat, x % 14 = n := ⟨(x % 14).toNat, by omega⟩
  obtain ⟨k, hk⟩ : ∃ k : Nat, y % 80 = k := ⟨(y % 80).toNat, by omega⟩
  have hn14 : n < 14 := by omega
  have hk80 : k < 80 := by omega
  have P1 := hide (fun u => place_any x 14 (by decide) (by decide) u)
  have P2 := hide (fun u => place_any y 80 (by decide) (by decide) u)
  rw [hn] at P1
  rw [hk] at P2
  have AW := hide awakeM_any
  clear hn hk
  go_enter Try.func5, Try.ntmps5
  go_wp2_with fail
  with_reducible refine (P1.out _).mono ?_
  rintro e v1 ⟨rfl, hw1⟩
  rw [hw1]
  clear hw1 v1 P1
  go_wp2_with fail
  with_reducible refine (P2.out _).mono ?_
  rintro e v2 ⟨rfl, hw2⟩
  rw [hw2]
  clear hw2 v2 P2
  go_upto_region 4 with fail
  obtain ⟨W, hW⟩ : ∃ W, Hid (w.alloc (.cells #[.int .i64 0, .string ⟨#[]⟩, .string ⟨#[]⟩, .slice none 0 0, .slice none 0 0] 25) = W) := ⟨_, rfl⟩
  have D0 := hide (DeepS.start hW.out)
  rw [hW.out]
  clear hW
  go_wp2
  go_loopw [8] (fun i wr => ∃ j : Nat, j ≤ n ∧ i = .int .i64 j ∧ Hid (∃ h, DeepS w wr j h)) (fun i _ => n - (intOf i).toNat)
  case atStart => exact ⟨0, by omega, rfl, ⟨_, D0.out⟩⟩
  case round =>
    obtain ⟨j, hj, rfl, HD⟩ := hrel
    obtain ⟨u, rfl⟩ : ∃ u, u = wr := ⟨wr, rfl⟩
    clear D0
    obtain ⟨⟨op, nm, vl, va, vn, vc, ka, kn, kc⟩, hd⟩ := HD.out
    have D := hide hd
    clear hd HD
    obtain ⟨b0, b1, b2, b3, b4, bf⟩ := D.out.box.all
    dsimp only at b0 b1 b2 b3 b4
    by_cases hlt : j < n
    · have i2 : (j : Int) < (n : Int) := by omega
      have BA : Hid (BoxM (u.alloc (.cells #[.int .i64 op, .string nm, .string vl, .slice va vn vc, .slice ka kn kc] 25)) w.heap.size ⟨op, nm, vl, va, vn, vc, ka, kn, kc⟩) := D.out.box.block (Below.heap_alloc _ _ _ D.out.box.lt)
      obtain ⟨c0, c1, c2, c3, c4, cf⟩ := BA.out.all
      have f0 := cf 0
      have f1 := cf 1
      have f2 := cf 2
      have f3 := cf 3
      have f4 := cf 4
      dsimp only at c0 c1 c2 c3 c4
      clear bf cf
      obtain ⟨V, hV⟩ : ∃ V, Hid (put5 (u.alloc (.cells #[.int .i64 op, .string nm, .string vl, .slice va vn vc, .slice ka kn kc] 25)) w.heap.size ⟨7, ⟨#[]⟩, ⟨#[]⟩, none, 0, 0, some ⟨u.heap.size, 0, none⟩, 1, 1⟩ = V) := ⟨_, rfl⟩
      have D1 := hide (D.out.step hV.out)
      have hV' := hV
      unfold put5 at hV'
      dsimp only at hV'
      go_upto_region 6 with fail
      rw [hV'.out]
      clear hV hV' BA b0 b1 b2 b3 b4 c0 c1 c2 c3 c4 f0 f1 f2 f3 f4 D
      go_wp2
      go_roundw
      case rel => exact ⟨j + 1, by omega, by go_num, ⟨_, D1.out⟩⟩
      case measure => simp [intOf]; omega
    · have hjn : j = n := by omega
      subst hjn
      have i2 : ¬ (j : Int) < (j : Int) := by omega
      clear hlt bf
      obtain ⟨V, hV⟩ : ∃ V, Hid (u.alloc (.cells #[.int .i64 6, .string ⟨#[]⟩, .string ⟨#[]⟩, .slice none 0 0, .slice none 0 0] 25) = V) := ⟨_, rfl⟩
      have W0 := hide (WideS.start D.out hV.out)
      obtain ⟨g, hg⟩ : ∃ g, g = u.heap.size := ⟨_, rfl⟩
      go_upto_region 9 with fail
      rw [hV.out]
      clear hV b0 b1 b2 b3 b4 hg g
      go_wp2
      go_loopw [10] (fun i wr => ∃ (p : Nat) (a : Option Addr) (c : Nat), p ≤ k ∧ i = .int .i64 p ∧ Hid (WideS w u wr j ⟨op, nm, vl, va, vn, vc, ka, kn, kc⟩ a p c)) (fun i _ => k - (intOf i).toNat)
      case atStart => exact ⟨0, none, 0, by omega, rfl, W0.out⟩
      case round =>
        obtain ⟨p, a, c, hp, rfl, HW⟩ := hrel
        obtain ⟨v, rfl⟩ : ∃ v, v = wr := ⟨wr, rfl⟩
        clear W0
        obtain ⟨c0, c1, c2, c3, c4, cf⟩ := HW.out.mb.all
        dsimp only at c0 c1 c2 c3 c4
        by_cases hlt : p < k
        · have i2 : (p : Int) < (k : Int) := by omega
          have O6 : Hid (OwnM (v.alloc (.cells #[.int .i64 1, .string ⟨#[97]⟩, .string ⟨#[]⟩, .slice none 0 0, .slice none 0 0] 25)) (u.heap.size + 1) a p c (List.replicate p hmA)) := HW.out.own.alloc _
          have HCC : Hid (∀ j q, hmA.cells[j]? = some q → (v.alloc (.cells #[.int .i64 1, .string ⟨#[97]⟩, .string ⟨#[]⟩, .slice none 0 0, .slice none 0 0] 25)).cell? ((⟨v.heap.size, 0, none⟩ : Addr).add j) = some q) := fun j q hq => by
            rw [Addr.add_lit]
            exact five_new v hmA 25 j q hq
          have HBS : Hid (u.heap.size + 1 ≤ (v.alloc (.cells #[.int .i64 1, .string ⟨#[97]⟩, .string ⟨#[]⟩, .slice none 0 0, .slice none 0 0] 25)).heap.size) := by have := HW.out.mb.lt; show _ ≤ _; simp; omega
          have MB : Hid (BoxM (v.alloc (.cells #[.int .i64 1, .string ⟨#[97]⟩, .string ⟨#[]⟩, .slice none 0 0, .slice none 0 0] 25)) u.heap.size ⟨6, ⟨#[]⟩, ⟨#[]⟩, none, 0, 0, a, p, c⟩) := HW.out.mb.block (Below.heap_alloc _ _ _ HW.out.mb.lt)
          obtain ⟨d0, d1, d2, d3, d4, df⟩ := MB.out.all
          dsimp only at d0 d1 d2 d3 d4
          have BV : Hid (Below v.heap.size v (v.alloc (.cells #[.int .i64 1, .string ⟨#[97]⟩, .string ⟨#[]⟩, .slice none 0 0, .slice none 0 0] 25))) := (Below.refl _ _).alloc (Nat.le_refl _) _
          clear cf df
          go_wp2_with (at_builtin; refine wpList_pushM _ rfl _ _ 23 rfl (u.heap.size + 1) i0 Try.underlying23 hi hz0 hz1 hz2 a p c (List.replicate p hmA) rfl O6.out ⟨v.heap.size, 0, none⟩ 1 hmA rfl HCC.out (by omega) HBS.out ?_)
          intro g4 c4' u4 o4 ch4 b4 wh4
          have M4 : Hid (BoxM u4 u.heap.size ⟨6, ⟨#[]⟩, ⟨#[]⟩, none, 0, 0, a, p, c⟩) := MB.out.block (b4.block _ (by omega))
          have W4 := hide (HW.out.step o4 b4)
          obtain ⟨e0, e1, e2, e3, e4, ef⟩ := M4.out.all
          have ef4 := ef 4
          dsimp only at e0 e1 e2 e3 e4
          clear o4 ch4 b4 wh4 O6 HCC HBS MB BV M4 ef c0 c1 c2 c3 c4 d0 d1 d2 d3 d4
          go_wp2
          go_roundw
          case rel => exact ⟨p + 1, _, _, by omega, by go_num, W4⟩
          case measure => simp [intOf]; omega
        · have hpk : p = k := by omega
          subst hpk
          have i2 : ¬ (p : Int) < (p : Int) := by omega
          clear hlt c0 c1 c2 c3 c4 cf
          go_wp2
          go_loopw [11, 12] (fun s i wr => ∃ (q : Nat) (t : ByteArray), q ≤ j ∧ i = .int .i64 q ∧ s = .string t ∧ t.size ≤ 40 ∧ Hid (t.toList = opens q) ∧ Hid (wr = v)) (fun _ i _ => j - (intOf i).toNat)
          case atStart => exact ⟨0, _, by omega, rfl, rfl, by decide, by show _ = _; rw [ByteArray.toList_eq]; rfl, rfl⟩
          case round =>
            obtain ⟨q, t, hq, rfl, rfl, hts, HT, HW1⟩ := hrel
            have hw1 := HW1.out
            subst hw1
            clear HW1
            obtain ⟨v, rfl⟩ : ∃ v, v = wr := ⟨wr, rfl⟩
            by_cases hlt : q < j
            · have i2 : (q : Int) < (j : Int) := by omega
              have HT2 : Hid ((t ++ ⟨#[33, 40]⟩ : ByteArray).toList = opens (q + 1)) := by
                show _ = _
                rw [deep_ba, HT.out, opens, ByteArray.toList_eq]
              have hs2 : (t ++ ⟨#[33, 40]⟩ : ByteArray).size ≤ 40 := by
                rw [← ba_len, HT2.out, opens_len]
                omega
              go_wp2
              go_roundw
              case rel => exact ⟨q + 1, _, by omega, by go_num, rfl, hs2, HT2, trivial⟩
              case measure => simp [intOf]; omega
            · have hqn : q = j := by omega
              subst hqn
              have i3 : ¬ (q : Int) < (q : Int) := by omega
              clear hlt
              have HT3 : Hid ((t ++ ⟨#[42]⟩ : ByteArray).toList = opens q ++ [42] ++ shuts 0) := by
                show _ = _
                rw [deep_ba, HT.out, shuts, ByteArray.toList_eq ⟨#[42]⟩, List.append_nil]
              have hs3 : (t ++ ⟨#[42]⟩ : ByteArray).size ≤ 60 := by
                rw [← ba_len, HT3.out, List.length_append, List.length_append, opens_len, shuts_len]
                simp
                omega
              go_wp2
              go_loopw [11, 13] (fun s i wr => ∃ (r : Nat) (t : ByteArray), r ≤ q ∧ i = .int .i64 r ∧ s = .string t ∧ t.size ≤ 60 ∧ Hid (t.toList = opens q ++ [42] ++ shuts r) ∧ Hid (wr = v)) (fun _ i _ => q - (intOf i).toNat)
              case atStart => exact ⟨0, _, by omega, rfl, rfl, hs3, HT3, rfl⟩
              case round =>
                obtain ⟨r, t2, hr, rfl, rfl, hts2, HT4, HW1⟩ := hrel
                have hw1 := HW1.out
                subst hw1
                clear HW1 hs3 HT3
                obtain ⟨v, rfl⟩ : ∃ v, v = wr := ⟨wr, rfl⟩
                by_cases hlt : r < q
                · have i2 : (r : Int) < (q : Int) := by omega
                  have HT5 : Hid ((t2 ++ ⟨#[41]⟩ : ByteArray).toList = opens q ++ [42] ++ shuts (r + 1)) := by
                    show _ = _
                    rw [deep_ba, HT4.out, shuts, ByteArray.toList_eq ⟨#[41]⟩, List.append_assoc _ (shuts r)]
                  have hs5 : (t2 ++ ⟨#[41]⟩ : ByteArray).size ≤ 60 := by
                    rw [← ba_len, HT5.out, List.length_append, List.length_append, opens_len, shuts_len]
                    simp
                    omega
                  go_wp2
                  go_roundw
                  case rel => exact ⟨r + 1, _, by omega, by go_num, rfl, hs5, HT5, trivial⟩
                  case measure => simp [intOf]; omega
                · have hrq : r = q := by omega
                  subst hrq
                  have i4 : ¬ (r : Int) < (r : Int) := by omega
                  clear hlt
                  have TP := hide (parseT_any t2 v (by omega))
                  rw [HT4.out] at TP
                  go_wp2_with fail
                  with_reducible refine TP.out.mono ?_
                  rintro e v5 ⟨k5, ⟨op3, nm3, vl3, va3, vn3, vc3, ka3, kn3, kc3⟩, m3, er, rfl, -, hcase⟩
                  have HER : Hid (er = wantD r) := deep_er hn14 hcase
                  dsimp only
                  obtain ⟨v6, hv6⟩ : ∃ v6, Hid (v5.alloc (.cells #[.int .i64 op3, .string nm3, .string vl3, .slice va3 vn3 vc3, .slice ka3 kn3 kc3] 25) = v6) := ⟨_, rfl⟩
                  have A6 : Hid (Below v5.heap.size v5 v6) := by rw [← hv6.out]; exact (Below.refl _ _).alloc (Nat.le_refl _) _
                  have W6 := hide ((HW.out.bel' k5).bel' A6.out)
                  clear hcase k5 A6 TP HW
                  go_upto_region 24 with fail
                  rw [hv6.out]
                  clear hv6
                  have S1 := hide W6.out.see
                  have S2 := hide (W6.out.or (by omega))
                  obtain ⟨b0, b1, b2, b3, b4, _⟩ := W6.out.box.all
                  obtain ⟨c0, c1, c2, c3, c4, _⟩ := W6.out.mb.all
                  dsimp only at b0 b1 b2 b3 b4 c0 c1 c2 c3 c4
                  have X1 := hide (chkM_any _ (notN r) _ v6 S1.out)
                  rw [notN_chk r hn14] at X1
                  have X2 := hide (fun z (hz : Below v6.heap.size v6 z) => chkM_any _ (orK p) _ z (S2.out.below hz))
                  rw [orK_chk p hk80] at X2
                  dsimp only at X1 X2
                  by_cases h8 : r = 8
                  · have hw8 : er = 17 := by rw [HER.out, h8]; rfl
                    subst hw8
                    have n1 : (r : Int) = 8 := by omega
                    have n2 : ¬ (8 : Int) < (r : Int) := by omega
                    have n3 : ¬ (r : Int) + 1 ≤ 8 := by omega
                    have n4 : ((r : Int) == 8) = true := by simp; omega
                    rw [decide_eq_false (show ¬ r + 1 ≤ 8 by omega)] at X1
                    clear HER h8
                    by_cases hk1 : p + 1 ≤ 64
                    · have j1 : (p : Int) + 1 ≤ 64 := by omega
                      rw [decide_eq_true hk1] at X2
                      clear hk1
                      go_wp2_with fail
                      with_reducible refine X1.out.mono ?_
                      rintro e z1 ⟨rfl, kk⟩
                      have K1 := hide kk
                      have W7 := hide (W6.out.bel' kk)
                      clear kk b0 b1 b2 b3 b4 c0 c1 c2 c3 c4 W6 X1
                      obtain ⟨c0, c1, c2, c3, c4, _⟩ := W7.out.mb.all
                      dsimp only at c0 c1 c2 c3 c4
                      go_wp2_with fail
                      with_reducible refine (X2.out _ K1.out).mono ?_
                      rintro e z2 ⟨rfl, kk⟩
                      have W8 := hide (W7.out.bel' kk)
                      clear kk c0 c1 c2 c3 c4 W7 X2
                      go_wp2_with fail
                      with_reducible refine (AW.out _).mono ?_
                      rintro e z3 ⟨rfl, kk⟩
                      have LZ := hide (bel_to W8.out.bel (Nat.le_refl _) kk)
                      clear kk
                      go_wp2
                      go_ret
                      exact ⟨rfl, LZ.out⟩
                    · have j1 : ¬ (p : Int) + 1 ≤ 64 := by omega
                      have j2 : decide ((p : Int) + 1 ≤ 64) = false := decide_eq_false j1
                      rw [decide_eq_false hk1] at X2
                      clear hk1
                      go_wp2_with fail
                      with_reducible refine X1.out.mono ?_
                      rintro e z1 ⟨rfl, kk⟩
                      have K1 := hide kk
                      have W7 := hide (W6.out.bel' kk)
                      clear kk b0 b1 b2 b3 b4 c0 c1 c2 c3 c4 W6 X1
                      obtain ⟨c0, c1, c2, c3, c4, _⟩ := W7.out.mb.all
                      dsimp only at c0 c1 c2 c3 c4
                      go_wp2_with fail
                      with_reducible refine (X2.out _ K1.out).mono ?_
                      rintro e z2 ⟨rfl, kk⟩
                      have W8 := hide (W7.out.bel' kk)
                      clear kk c0 c1 c2 c3 c4 W7 X2
                      go_wp2_with fail
                      with_reducible refine (AW.out _).mono ?_
                      rintro e z3 ⟨rfl, kk⟩
                      have LZ := hide (bel_to W8.out.bel (Nat.le_refl _) kk)
                      clear kk
                      go_wp2
                      go_ret
                      exact ⟨rfl, LZ.out⟩
                  · by_cases h9 : 8 < r
                    · have hw8 : er = 18 := by rw [HER.out]; unfold wantD; rw [if_pos h9]
                      subst hw8
                      have n1 : ¬ (r : Int) = 8 := by omega
                      have n2 : (8 : Int) < (r : Int) := by omega
                      have n3 : ¬ (r : Int) + 1 ≤ 8 := by omega
                      have n5 : decide ((r : Int) + 1 ≤ 8) = false := decide_eq_false n3
                      have n4 : ((r : Int) == 8) = false := by rw [beq_eq_false_iff_ne]; exact n1
                      rw [decide_eq_false (show ¬ r + 1 ≤ 8 by omega)] at X1
                      clear HER h8 h9
                      by_cases hk1 : p + 1 ≤ 64
                      · have j1 : (p : Int) + 1 ≤ 64 := by omega
                        rw [decide_eq_true hk1] at X2
                        clear hk1
                        go_wp2_with fail
                        with_reducible refine X1.out.mono ?_
                        rintro e z1 ⟨rfl, kk⟩
                        have K1 := hide kk
                        have W7 := hide (W6.out.bel' kk)
                        clear kk b0 b1 b2 b3 b4 c0 c1 c2 c3 c4 W6 X1
                        obtain ⟨c0, c1, c2, c3, c4, _⟩ := W7.out.mb.all
                        dsimp only at c0 c1 c2 c3 c4
                        go_wp2_with fail
                        with_reducible refine (X2.out _ K1.out).mono ?_
                        rintro e z2 ⟨rfl, kk⟩
                        have W8 := hide (W7.out.bel' kk)
                        clear kk c0 c1 c2 c3 c4 W7 X2
                        go_wp2_with fail
                        with_reducible refine (AW.out _).mono ?_
                        rintro e z3 ⟨rfl, kk⟩
                        have LZ := hide (bel_to W8.out.bel (Nat.le_refl _) kk)
                        clear kk
                        go_wp2
                        go_ret
                        exact ⟨rfl, LZ.out⟩
                      · have j1 : ¬ (p : Int) + 1 ≤ 64 := by omega
                        have j2 : decide ((p : Int) + 1 ≤ 64) = false := decide_eq_false j1
                        rw [decide_eq_false hk1] at X2
                        clear hk1
                        go_wp2_with fail
                        with_reducible refine X1.out.mono ?_
                        rintro e z1 ⟨rfl, kk⟩
                        have K1 := hide kk
                        have W7 := hide (W6.out.bel' kk)
                        clear kk b0 b1 b2 b3 b4 c0 c1 c2 c3 c4 W6 X1
                        obtain ⟨c0, c1, c2, c3, c4, _⟩ := W7.out.mb.all
                        dsimp only at c0 c1 c2 c3 c4
                        go_wp2_with fail
                        with_reducible refine (X2.out _ K1.out).mono ?_
                        rintro e z2 ⟨rfl, kk⟩
                        have W8 := hide (W7.out.bel' kk)
                        clear kk c0 c1 c2 c3 c4 W7 X2
                        go_wp2_with fail
                        with_reducible refine (AW.out _).mono ?_
                        rintro e z3 ⟨rfl, kk⟩
                        have LZ := hide (bel_to W8.out.bel (Nat.le_refl _) kk)
                        clear kk
                        go_wp2
                        go_ret
                        exact ⟨rfl, LZ.out⟩
                    · have hw8 : er = 0 := by rw [HER.out]; unfold wantD; rw [if_neg h9, if_neg h8]
                      subst hw8
                      have n1 : ¬ (r : Int) = 8 := by omega
                      have n2 : ¬ (8 : Int) < (r : Int) := by omega
                      have n3 : (r : Int) + 1 ≤ 8 := by omega
                      have n4 : ((r : Int) == 8) = false := by rw [beq_eq_false_iff_ne]; exact n1
                      rw [decide_eq_true (show r + 1 ≤ 8 by omega)] at X1
                      clear HER h8 h9
                      by_cases hk1 : p + 1 ≤ 64
                      · have j1 : (p : Int) + 1 ≤ 64 := by omega
                        rw [decide_eq_true hk1] at X2
                        clear hk1
                        go_wp2_with fail
                        with_reducible refine X1.out.mono ?_
                        rintro e z1 ⟨rfl, kk⟩
                        have K1 := hide kk
                        have W7 := hide (W6.out.bel' kk)
                        clear kk b0 b1 b2 b3 b4 c0 c1 c2 c3 c4 W6 X1
                        obtain ⟨c0, c1, c2, c3, c4, _⟩ := W7.out.mb.all
                        dsimp only at c0 c1 c2 c3 c4
                        go_wp2_with fail
                        with_reducible refine (X2.out _ K1.out).mono ?_
                        rintro e z2 ⟨rfl, kk⟩
                        have W8 := hide (W7.out.bel' kk)
                        clear kk c0 c1 c2 c3 c4 W7 X2
                        go_wp2_with fail
                        with_reducible refine (AW.out _).mono ?_
                        rintro e z3 ⟨rfl, kk⟩
                        have LZ := hide (bel_to W8.out.bel (Nat.le_refl _) kk)
                        clear kk
                        go_wp2
                        go_ret
                        exact ⟨rfl, LZ.out⟩
                      · have j1 : ¬ (p : Int) + 1 ≤ 64 := by omega
                        have j2 : decide ((p : Int) + 1 ≤ 64) = false := decide_eq_false j1
                        rw [decide_eq_false hk1] at X2
                        clear hk1
                        go_wp2_with fail
                        with_reducible refine X1.out.mono ?_
                        rintro e z1 ⟨rfl, kk⟩
                        have K1 := hide kk
                        have W7 := hide (W6.out.bel' kk)
                        clear kk b0 b1 b2 b3 b4 c0 c1 c2 c3 c4 W6 X1
                        obtain ⟨c0, c1, c2, c3, c4, _⟩ := W7.out.mb.all
                        dsimp only at c0 c1 c2 c3 c4
                        go_wp2_with fail
                        with_reducible refine (X2.out _ K1.out).mono ?_
                        rintro e z2 ⟨rfl, kk⟩
                        have W8 := hide (W7.out.bel' kk)
                        clear kk c0 c1 c2 c3 c4 W7 X2
                        go_wp2_with fail
                        with_reducible refine (AW.out _).mono ?_
                        rintro e z3 ⟨rfl, kk⟩
                        have LZ := hide (bel_to W8.out.bel (Nat.le_refl _) kk)
                        clear kk
                        go_wp2
                        go_ret
                        exact ⟨rfl, LZ.out⟩
end Go.Proofs.Ythebcmkainplnab
