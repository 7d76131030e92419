/-
  A sketch's bytes in plain words, there and back; what the landed code's Put and Get come to: contracts, for every world.
  Conditions: put: the sketch may be one; the slices show their bytes.
-/
import Derived.Test.YtadcaonkmncgoaaGreatPairJ
import Derived.Test.YtadcaonkmncgoaaGreatHistBz
import Derived.Test.YtadcaonkmncgoaaGreatKmvG
import Derived.Test.YtadcaonkmncgoaaGreatGaugeBz
import Derived.Deep.RegionHeld3
namespace Go.Proofs.YtadcaonkmncgoaaGreat
open Go.RowKit
set_option maxRecDepth 20000

def putP (s : Sp) : List Int := putH s.hist ++ (putR s.keys ++ putG s.g)
def getP (zs : List Int) (p : Int) : Option (Sp × Int) :=
  match dGet zs p with
  | none => none
  | some (l, q) => match riseS zs q 1024 with
    | none => none
    | some (ks, r) => match getG zs r with
      | none => none
      | some (g, t) => some (⟨l, ks, g⟩, t)
theorem putRk_len (l : List Int) : (putR l).length ≤ 10 * l.length + 10 := by
  have h1 := (putS_len (l.length : Int)).2
  have h2 := (riseB_len 18446744073709551615 l).2
  unfold putR
  rw [List.length_append]; omega
theorem putP_len {s : Sp} (a : Ok s) : 1 ≤ (putP s).length ∧ (putP s).length ≤ 100000 := by
  have h1 := putH_len a.h
  have h2 := good_size a.h
  have h3 := putRk_len s.keys
  have h4 := (chk_up a.k).2
  have h5 := putG_len s.g
  unfold putP
  rw [List.length_append, List.length_append]
  omega
theorem putP_byte {s : Sp} (a : Ok s) : Bytes8 (putP s) :=
  Bytes8.append (putH_byte a.h) (Bytes8.append (putR_byte (by have := (chk_up a.k).2; omega)) (putG_byte a.g))
/-- A sketch that may be, behind any bytes, is got back. -/
theorem getP_back {s : Sp} (a : Ok s) (xs : List Int) : getP (xs ++ putP s) xs.length = some (s, ((xs.length + (putP s).length : Nat) : Int)) := by
  have hk := chk_up a.k
  have e1 := dGet_at a.h xs (putR s.keys ++ putG s.g)
  have e2 := riseS_most (most := 1024) (by omega) (by omega) (up_rises hk.1 (fun x hx => by have := (a.w x hx).1; omega)) a.w (xs ++ putH s.hist) (putG s.g)
  have e3 := getG_back a.g a.c (xs ++ (putH s.hist ++ putR s.keys))
  have q1 : xs ++ putP s = xs ++ (putH s.hist ++ (putR s.keys ++ putG s.g)) := rfl
  have q2 : xs ++ putP s = xs ++ putH s.hist ++ (putR s.keys ++ putG s.g) := by unfold putP; rw [List.append_assoc]
  have q3 : xs ++ putP s = xs ++ (putH s.hist ++ putR s.keys) ++ putG s.g := by unfold putP; simp only [List.append_assoc]
  rw [← q1] at e1
  rw [← q2, List.length_append] at e2
  rw [← q3, List.length_append, List.length_append] at e3
  unfold getP
  rw [e1]
  simp only
  rw [e2]
  simp only
  rw [show ((xs.length + (putH s.hist).length + (putR s.keys).length : Nat) : Int) = ((xs.length + ((putH s.hist).length + (putR s.keys).length) : Nat) : Int) by omega, e3]
  simp only [Option.some.injEq, Prod.mk.injEq]
  refine ⟨trivial, ?_⟩
  unfold putP
  simp only [List.length_append]
  omega
/-- What is got lies within the bytes. -/
theorem dGet_in {zs : List Int} (hz : Bytes8 zs) {p e : Int} {l : Bks} (h : dGet zs p = some (l, e)) : Good l ∧ 0 ≤ e ∧ e ≤ zs.length := by
  have L := dGet_lies hz h
  refine ⟨L.1, ?_⟩
  obtain ⟨xs, ys, rfl, rfl, rfl⟩ := L.parts
  simp only [List.length_append]
  omega
theorem rise_in {zs : List Int} (hz : Bytes8 zs) {p e : Int} {l : List Int} (h : riseS zs p 1024 = some (l, e)) : (∀ x ∈ l, W64 x) ∧ l.length ≤ 1024 ∧ 0 ≤ e ∧ e ≤ zs.length := by
  obtain ⟨_, h2, h3, _, k, _, h5, h6, _⟩ := riseS_back hz h
  exact ⟨h2, by omega, by omega, h6⟩

theorem hput0_any (a : Option Addr) (n cap : Nat) (l : Bks) (w : World) (hr : RowB w a n l) (hc : n ≤ cap) (hg : Good l) :
    Calls Tryz.prog 18 #[.slice none 0 0, .slice a n cap] w fun e w' => ∃ a' c', e = .returned (.slice a' (putH l).length c') ∧ Mine w' w.heap.size a' (putH l).length c' (putH l) ∧ Below w.heap.size w w' := by
  refine (hput_any none 0 0 [] a n cap l w (nil_row _ _ _) hr hc (by have := good_size hg; rw [hr.1] at this; omega) (by omega)).mono ?_
  rintro e w' ⟨a', m, c', Z, rfl, h1, h2, _, h4, _, h6⟩
  have hZ := h6 hg.check
  subst hZ
  subst h4
  rw [Nat.zero_add, List.nil_append] at h1
  exact ⟨a', c', by rw [Nat.zero_add], h1, h2⟩

theorem keepS {w0 v v' : World} {k B : Nat} {h : Hd} {g : Gz} (hb : Below v.heap.size v v') (q : ((World.cell? v ⟨k, 0, none⟩ = some (.slice (Hd.a h) (Hd.n h) (Hd.c h))) ∧ (World.cell? v ⟨k, 1, none⟩ = some (.slice (Hd.k h) (Hd.m h) (Hd.d h))) ∧ (World.cell? v ⟨k, 2, none⟩ = some (.int .u64 (Gz.n g))) ∧ (World.cell? v ⟨k, 3, none⟩ = some (.int .u64 (Gz.nans g))) ∧ (World.cell? v ⟨k, 4, none⟩ = some (.int .u64 (Gz.lo g))) ∧ (World.cell? v ⟨k, 5, none⟩ = some (.int .u64 (Gz.hi g)))) ∧ Hid (k < B ∧ B ≤ v.heap.size ∧ Below B w0 v)) : ((World.cell? v' ⟨k, 0, none⟩ = some (.slice (Hd.a h) (Hd.n h) (Hd.c h))) ∧ (World.cell? v' ⟨k, 1, none⟩ = some (.slice (Hd.k h) (Hd.m h) (Hd.d h))) ∧ (World.cell? v' ⟨k, 2, none⟩ = some (.int .u64 (Gz.n g))) ∧ (World.cell? v' ⟨k, 3, none⟩ = some (.int .u64 (Gz.nans g))) ∧ (World.cell? v' ⟨k, 4, none⟩ = some (.int .u64 (Gz.lo g))) ∧ (World.cell? v' ⟨k, 5, none⟩ = some (.int .u64 (Gz.hi g)))) ∧ Hid (k < B ∧ B ≤ v'.heap.size ∧ Below B w0 v') := by
  obtain ⟨⟨c0, c1, c2, c3, c4, c5⟩, l1, l2, l3⟩ := q
  have hl : k < v.heap.size := by omega
  exact ⟨⟨(hb.cell hl).trans c0, (hb.cell hl).trans c1, (hb.cell hl).trans c2, (hb.cell hl).trans c3, (hb.cell hl).trans c4, (hb.cell hl).trans c5⟩, l1, Nat.le_trans l2 hb.size, l3.trans (hb.mono l2)⟩

set_option maxHeartbeats 4000000 in
theorem pput_any (a : Option Addr) (n cap : Nat) (zs : List Int) (h : Hd) (s : Sp) (w : World) (hr : Row .u8 w a n zs) (hn : n ≤ 140737488355328) (q : SeeP w h s) (ok : Ok s) :
    Calls Tryz.prog 5 #[.slice a n cap, (Value.agg #[.slice (Hd.a h) (Hd.n h) (Hd.c h), .slice (Hd.k h) (Hd.m h) (Hd.d h), .int .u64 (Gz.n s.g), .int .u64 (Gz.nans s.g), .int .u64 (Gz.lo s.g), .int .u64 (Gz.hi s.g)])] w fun e w' => ∃ a' c', e = .returned (.slice a' (n + (putP s).length) c') ∧ Mine w' w.heap.size a' (n + (putP s).length) c' (zs ++ putP s) ∧ Below w.heap.size w w' := by
  have hP := putP_len ok
  have hh := putH_len ok.h
  have hs1 := good_size ok.h
  have hk1 := (chk_up ok.k).2
  have hR := putRk_len s.keys
  have hG := putG_len s.g
  have BY := hide (putP_byte ok)
  have BH := hide (putH_byte ok.h)
  have BR := hide (putR_byte (l := s.keys) (by omega))
  have HLm := hide (q.rk.1)
  obtain ⟨w0, hw0⟩ : ∃ w0, Hid (w.alloc (.cells #[.slice h.a h.n h.c, .slice h.k h.m h.d, .int .u64 s.g.n, .int .u64 s.g.nans, .int .u64 s.g.lo, .int .u64 s.g.hi] 28) = w0) := ⟨_, rfl⟩
  have B : Hid (SBox w0 w.heap.size h s.g) := by rw [← hw0.out]; exact SBox.new w _ _ _
  have L : Hid (Below w.heap.size w w0) := by rw [← hw0.out]; exact (Below.refl _ _).alloc (Nat.le_refl _) _
  have Q := hide (q.below L.out (Nat.le_refl _))
  have R0 := hide (hr.below L.out (Nat.le_refl _))
  have C1 := hide (fun W (x : SeeP W h s) => hput0_any h.a h.n h.c s.hist W x.rh x.hc ok.h)
  have C2 := hide (fun W a1 c1 (x : SeeP W h s) (y : Mine W w0.heap.size a1 (putH s.hist).length c1 (putH s.hist)) => kput_any a1 (putH s.hist).length c1 (putH s.hist) h.k h.m h.d s.keys W (by rw [x.rk.1] at hk1; omega) y.capped.1 (y.row (by omega) (fits_wf BH.out)) x.rk)
  have C3 := hide (fun W a2 c2 (y : Mine W w0.heap.size a2 ((putH s.hist).length + (putR s.keys).length) c2 (putH s.hist ++ putR s.keys)) => gput_any a2 ((putH s.hist).length + (putR s.keys).length) c2 (putH s.hist ++ putR s.keys) s.g W ok.g (by omega) (y.row (by omega) (fits_wf (Bytes8.append BH.out BR.out))))
  have EP : Hid ((putH s.hist ++ putR s.keys) ++ putG s.g = putP s) := by show _ = _; unfold putP; rw [List.append_assoc]
  have EL : Hid ((putH s.hist).length + (putR s.keys).length + (putG s.g).length = (putP s).length) := by show _ = _; unfold putP; simp only [List.length_append]; omega
  rw [EP.out, EL.out] at C3
  have CC := hide (fun W a3 c3 (x : Row .u8 W a n zs) (y : Row .u8 W a3 (putP s).length (putP s)) => concat_two a n cap zs a3 (putP s).length c3 (putP s) W x y (by omega) (by omega))
  obtain ⟨k, hk⟩ : ∃ k, Hid (w.heap.size = k) := ⟨_, rfl⟩
  rw [hk.out] at B
  have S0 : Hid (((World.cell? w0.drew ⟨k, 0, none⟩ = some (.slice (Hd.a h) (Hd.n h) (Hd.c h))) ∧ (World.cell? w0.drew ⟨k, 1, none⟩ = some (.slice (Hd.k h) (Hd.m h) (Hd.d h))) ∧ (World.cell? w0.drew ⟨k, 2, none⟩ = some (.int .u64 (Gz.n s.g))) ∧ (World.cell? w0.drew ⟨k, 3, none⟩ = some (.int .u64 (Gz.nans s.g))) ∧ (World.cell? w0.drew ⟨k, 4, none⟩ = some (.int .u64 (Gz.lo s.g))) ∧ (World.cell? w0.drew ⟨k, 5, none⟩ = some (.int .u64 (Gz.hi s.g)))) ∧ Hid (k < w0.heap.size ∧ w0.heap.size ≤ w0.drew.heap.size ∧ Below w0.heap.size w0 w0.drew)) := ⟨B.out.cells, B.out.lt, Nat.le_refl _, (Below.refl _ _).drew⟩
  have QD := hide Q.out.drew
  have RD := hide R0.out.drew
  have ZZ : Hid (w0.heap.size ≤ w0.drew.heap.size) := Nat.le_refl _
  obtain ⟨LH, hLH⟩ : ∃ x, Hid ((putH s.hist).length = x) := ⟨_, rfl⟩
  obtain ⟨LK, hLK⟩ : ∃ x, Hid ((putR s.keys).length = x) := ⟨_, rfl⟩
  obtain ⟨LP, hLP⟩ : ∃ x, Hid ((putP s).length = x) := ⟨_, rfl⟩
  rw [hLH.out] at C1 C2 C3
  rw [hLK.out] at C2 C3
  rw [hLP.out] at C3 CC hP
  rw [hLP.out]
  clear q hr ok EP EL hR hG hh hs1 hk1 B Q R0 HLm
  go_enter Tryz.func5, Tryz.ntmps5
  go_upto_region 1 with fail
  rw [hw0.out, hk.out]
  clear hw0
  go_region_held3 (fun w' => ((World.cell? w' ⟨k, 0, none⟩ = some (.slice (Hd.a h) (Hd.n h) (Hd.c h))) ∧ (World.cell? w' ⟨k, 1, none⟩ = some (.slice (Hd.k h) (Hd.m h) (Hd.d h))) ∧ (World.cell? w' ⟨k, 2, none⟩ = some (.int .u64 (Gz.n s.g))) ∧ (World.cell? w' ⟨k, 3, none⟩ = some (.int .u64 (Gz.nans s.g))) ∧ (World.cell? w' ⟨k, 4, none⟩ = some (.int .u64 (Gz.lo s.g))) ∧ (World.cell? w' ⟨k, 5, none⟩ = some (.int .u64 (Gz.hi s.g)))) ∧ Hid (k < w0.heap.size ∧ w0.heap.size ≤ w'.heap.size ∧ Below w0.heap.size w0 w')) (first | with_reducible exact S0.out | with_reducible exact keepS (by assumption) (by assumption)) (first
    | (go_at_call 18; with_reducible refine (C1.out _ QD.out).mono ?_; rintro e v1 ⟨a1, c1, rfl, o1, b1⟩; have O1 := hide (o1.mono ZZ.out); have Q1 := hide (QD.out.below b1 (Nat.le_refl _)); have R1 := hide (RD.out.below b1 (Nat.le_refl _)))
    | (go_at_call 17; with_reducible refine (C2.out _ _ _ Q1.out O1.out).mono ?_; rintro e v2 ⟨a2, c2, rfl, o2, b2⟩; have O2 := hide (o2.mono (Nat.le_trans ZZ.out b1.size)); have R2 := hide (R1.out.below b2 (Nat.le_refl _)))
    | (go_at_call 16; with_reducible refine (C3.out _ _ _ O2.out).mono ?_; rintro e v3 ⟨a3, c3, rfl, o3, b3⟩; have O3 := hide o3; have R3 := hide (R2.out.below b3 (Nat.le_refl _))))
  have L3 : Hid (Below w.heap.size w v3) := bel_to (bel_to (bel_to L.out.drew (Nat.le_refl _) b1) (Nat.le_refl _) b2) (Nat.le_refl _) b3
  have P3 := hide (O3.out.row (by omega) (fits_wf BY.out))
  clear b1 b2 b3 o1 o2 o3 O1 O2 O3 Q1 R1 R2 C1 C2 C3 S0 QD RD
  go_wp2_with fail
  with_reducible refine (CC.out _ _ _ R3.out P3.out).mono ?_
  rintro e v4 ⟨a4, c4, rfl, o4, b4⟩
  have O4 := hide (o4.mono L3.out.size)
  have L4 : Hid (Below w.heap.size w v4) := bel_to L3.out (Nat.le_refl _) b4
  clear o4 b4
  go_wp2
  go_ret
  exact ⟨a4, c4, rfl, O4.out, L4.out⟩

/-- What Get tells. -/
def GotS (r : Option (Sp × Int)) (w' : World) (e : Ending) : Prop :=
  match r with
  | none => e = .returned (.tuple #[.agg #[.slice none 0 0, .slice none 0 0, .int .u64 0, .int .u64 0, .int .u64 0, .int .u64 0], .int .i64 0, .bool false])
  | some q => ∃ h, e = .returned (.tuple #[(Value.agg #[.slice (Hd.a h) (Hd.n h) (Hd.c h), .slice (Hd.k h) (Hd.m h) (Hd.d h), .int .u64 (Gz.n q.1.g), .int .u64 (Gz.nans q.1.g), .int .u64 (Gz.lo q.1.g), .int .u64 (Gz.hi q.1.g)]), .int .i64 q.2, .bool true]) ∧ SeeP w' h q.1

set_option maxHeartbeats 4000000 in
theorem pget_any (p : Int) (a : Option Addr) (n cap : Nat) (zs : List Int) (w : World) (hp : (Lit.int .i64 p).wf = true) (hc : n ≤ cap) (hr : Row .u8 w a n zs) :
    Calls Tryz.prog 8 #[.slice a n cap, .int .i64 p] w fun e w' => GotS (getP zs p) w' e ∧ Below w.heap.size w w' := by
  have HZ : Hid (Bytes8 zs) := hr.bytes
  have hl := hr.1
  have hn := hr.2.1
  obtain ⟨w0, hw0⟩ : ∃ w0, Hid (w.alloc (.cells #[.slice none 0 0, .slice none 0 0, .int .u64 0, .int .u64 0, .int .u64 0, .int .u64 0] 28) = w0) := ⟨_, rfl⟩
  obtain ⟨x, hx⟩ : ∃ x, Hid (w.heap.size = x) := ⟨_, rfl⟩
  have A0 : Hid (SBox w0 x hd0 g0) := by rw [← hw0.out, ← hx.out]; exact SBox.new _ _ hd0 g0
  have L0 : Hid (Below w.heap.size w w0) := by rw [← hw0.out]; exact (Below.refl _ _).alloc (Nat.le_refl _) _
  have HX : Hid (w.heap.size ≤ x) := by rw [hx.out]; exact Nat.le_refl _
  have RR := hide (fun W (b : Below w.heap.size w W) => hr.below b (Nat.le_refl _))
  have C1 := hide (hget_any p a n cap zs w0 hp hc (RR.out _ L0.out))
  have C2 := hide (fun q (hq : (Lit.int .i64 q).wf = true) W (b : Below w.heap.size w W) => kget_any q a n cap zs W hq hc (RR.out _ b))
  have C3 := hide (fun q (hq : (Lit.int .i64 q).wf = true) W (b : Below w.heap.size w W) => gget_any q a n cap zs W hq hc (RR.out _ b))
  have ZR : Hid (∀ W, SBox W x hd0 g0 → Below w.heap.size w W → SBox (put6 W x hd0 g0) x hd0 g0 ∧ Below w.heap.size w (put6 W x hd0 g0)) := fun W q b => ⟨q.put hd0 g0, below_put b HX.out hd0 g0⟩
  dsimp only [hd0, g0] at ZR
  unfold put6 at ZR
  dsimp only at ZR
  clear hr hp
  cases h1 : dGet zs p with
  | none =>
    have EP : getP zs p = none := by unfold getP; rw [h1]
    rw [EP]
    rw [h1] at C1
    simp only [GotL] at C1
    simp only [GotS]
    clear EP h1 C2 C3
    go_enter Tryz.func8, Tryz.ntmps8
    go_upto_region 1 with fail
    rw [hw0.out, hx.out]
    clear hw0 hx
    go_wp2_with fail
    with_reducible refine C1.out.mono ?_
    rintro e v1 ⟨rfl, b1⟩
    have L1 : Hid (Below w.heap.size w v1) := bel_to L0.out (Nat.le_refl _) b1
    have A1 := hide (A0.out.below b1 A0.out.lt)
    have F := hide (ZR.out _ A1.out L1.out)
    obtain ⟨_, ⟨d0, d1, d2, d3, d4, d5⟩, df⟩ := A1.out
    have f0 := df 0
    have f1 := df 1
    have f2 := df 2
    have f3 := df 3
    have f4 := df 4
    have f5 := df 5
    clear df b1
    dsimp only [hd0, g0] at d0 d1 d2 d3 d4 d5
    go_wp2
    obtain ⟨_, ⟨e0, e1, e2, e3, e4, e5⟩, _⟩ := F.out.1
    dsimp only at e0 e1 e2 e3 e4 e5
    exact bodyPost_ret (v := .tuple #[.agg #[.slice none 0 0, .slice none 0 0, .int .u64 0, .int .u64 0, .int .u64 0, .int .u64 0], .int .i64 0, .bool false]) (by simp [results, Tryz.results8, go_sem, e0, e1, e2, e3, e4, e5]) rfl ⟨rfl, F.out.2⟩
  | some q1 =>
    obtain ⟨l, nx⟩ := q1
    obtain ⟨hg, n0, n1⟩ := dGet_in HZ.out h1
    have GF := hide (good_fit hg)
    have GS := hide (good_size hg)
    rw [h1] at C1
    simp only [GotL] at C1
    have D2 := hide (C2.out nx (i64_wf (by omega) (by omega)))
    obtain ⟨LH, hLH⟩ : ∃ x, Hid (l.length = x) := ⟨_, rfl⟩
    rw [hLH.out] at C1 GS
    clear C2 n0 n1 hg
    cases h2 : riseS zs nx 1024 with
    | none =>
      have EP : getP zs p = none := by unfold getP; rw [h1]; simp only; rw [h2]
      rw [EP]
      rw [h2] at D2
      simp only [RiseP] at D2
      simp only [GotS]
      clear EP h1 h2 C3
      go_enter Tryz.func8, Tryz.ntmps8
      go_upto_region 1 with fail
      rw [hw0.out, hx.out]
      clear hw0 hx
      go_wp2_with fail
      with_reducible refine C1.out.mono ?_
      rintro e v1 ⟨⟨a1, c1, rfl, _, _, _⟩, b1⟩
      have L1 : Hid (Below w.heap.size w v1) := bel_to L0.out (Nat.le_refl _) b1
      have A1 := hide (A0.out.below b1 A0.out.lt)
      clear b1 C1
      go_wp2_with fail
      with_reducible refine (D2.out _ L1.out).mono ?_
      rintro e v2 ⟨rfl, b2⟩
      have L2 : Hid (Below w.heap.size w v2) := bel_to L1.out (Nat.le_refl _) b2
      have A2 := hide (A1.out.below b2 A1.out.lt)
      have F := hide (ZR.out _ A2.out L2.out)
      obtain ⟨_, ⟨d0, d1, d2, d3, d4, d5⟩, df⟩ := A2.out
      have f0 := df 0
      have f1 := df 1
      have f2 := df 2
      have f3 := df 3
      have f4 := df 4
      have f5 := df 5
      clear df b2
      dsimp only [hd0, g0] at d0 d1 d2 d3 d4 d5
      go_wp2
      obtain ⟨_, ⟨e0, e1, e2, e3, e4, e5⟩, _⟩ := F.out.1
      dsimp only at e0 e1 e2 e3 e4 e5
      exact bodyPost_ret (v := .tuple #[.agg #[.slice none 0 0, .slice none 0 0, .int .u64 0, .int .u64 0, .int .u64 0, .int .u64 0], .int .i64 0, .bool false]) (by simp [results, Tryz.results8, go_sem, e0, e1, e2, e3, e4, e5]) rfl ⟨rfl, F.out.2⟩
    | some q2 =>
      obtain ⟨ks, ny⟩ := q2
      obtain ⟨kw, kl, n0, n1⟩ := rise_in HZ.out h2
      have KW := hide kw
      rw [h2] at D2
      simp only [RiseP] at D2
      have D3 := hide (C3.out ny (i64_wf (by omega) (by omega)))
      obtain ⟨LK, hLK⟩ : ∃ x, Hid (ks.length = x) := ⟨_, rfl⟩
      rw [hLK.out] at D2 kl
      clear C3 n0 n1 kw
      cases h3 : getG zs ny with
      | none =>
        have EP : getP zs p = none := by unfold getP; rw [h1]; simp only; rw [h2]; simp only; rw [h3]
        rw [EP]
        rw [h3] at D3
        simp only [gotG] at D3
        simp only [GotS]
        clear EP h1 h2 h3
        go_enter Tryz.func8, Tryz.ntmps8
        go_upto_region 1 with fail
        rw [hw0.out, hx.out]
        clear hw0 hx
        go_wp2_with fail
        with_reducible refine C1.out.mono ?_
        rintro e v1 ⟨⟨a1, c1, rfl, _, _, _⟩, b1⟩
        have L1 : Hid (Below w.heap.size w v1) := bel_to L0.out (Nat.le_refl _) b1
        have A1 := hide (A0.out.below b1 A0.out.lt)
        clear b1 C1
        go_wp2_with fail
        with_reducible refine (D2.out _ L1.out).mono ?_
        rintro e v2 ⟨⟨a2, c2, rfl, _⟩, b2⟩
        have L2 : Hid (Below w.heap.size w v2) := bel_to L1.out (Nat.le_refl _) b2
        have A2 := hide (A1.out.below b2 A1.out.lt)
        clear b2 D2
        go_wp2_with fail
        with_reducible refine (D3.out _ L2.out).mono ?_
        rintro e v3 ⟨rfl, b3⟩
        have L3 : Hid (Below w.heap.size w v3) := bel_to L2.out (Nat.le_refl _) b3
        have A3 := hide (A2.out.below b3 A2.out.lt)
        clear b3 D3
        go_upto_region 8 with fail
        have L4 := hide (L3.out.alloc L3.out.size (.cells #[.int .u64 0, .int .u64 0, .int .u64 0, .int .u64 0] 26))
        have A4 := hide (A3.out.alloc (.cells #[.int .u64 0, .int .u64 0, .int .u64 0, .int .u64 0] 26))
        generalize v3.alloc (.cells #[.int .u64 0, .int .u64 0, .int .u64 0, .int .u64 0] 26) = v4 at L4 A4 ⊢
        have F := hide (ZR.out _ A4.out L4.out)
        obtain ⟨_, ⟨d0, d1, d2, d3, d4, d5⟩, df⟩ := A4.out
        have f0 := df 0
        have f1 := df 1
        have f2 := df 2
        have f3 := df 3
        have f4 := df 4
        have f5 := df 5
        clear df
        dsimp only [hd0, g0] at d0 d1 d2 d3 d4 d5
        go_wp2
        obtain ⟨_, ⟨e0, e1, e2, e3, e4, e5⟩, _⟩ := F.out.1
        dsimp only at e0 e1 e2 e3 e4 e5
        exact bodyPost_ret (v := .tuple #[.agg #[.slice none 0 0, .slice none 0 0, .int .u64 0, .int .u64 0, .int .u64 0, .int .u64 0], .int .i64 0, .bool false]) (by simp [results, Tryz.results8, go_sem, e0, e1, e2, e3, e4, e5]) rfl ⟨rfl, F.out.2⟩
      | some q3 =>
        obtain ⟨g, nz⟩ := q3
        have GG := hide (getG_some HZ.out h3)
        have EP : getP zs p = some (⟨l, ks, g⟩, nz) := by unfold getP; rw [h1]; simp only; rw [h2]; simp only; rw [h3]
        rw [EP]
        rw [h3] at D3
        simp only [gotG] at D3
        simp only [GotS]
        clear EP h1 h2 h3
        go_enter Tryz.func8, Tryz.ntmps8
        go_upto_region 1 with fail
        rw [hw0.out, hx.out]
        clear hw0 hx
        go_wp2_with fail
        with_reducible refine C1.out.mono ?_
        rintro e v1 ⟨⟨a1, c1, rfl, o1, _, _⟩, b1⟩
        have L1 : Hid (Below w.heap.size w v1) := bel_to L0.out (Nat.le_refl _) b1
        have A1 := hide (A0.out.below b1 A0.out.lt)
        have O1 := hide o1
        have Z1 := hide b1.size
        clear b1 o1 C1
        go_wp2_with fail
        with_reducible refine (D2.out _ L1.out).mono ?_
        rintro e v2 ⟨⟨a2, c2, rfl, o2⟩, b2⟩
        have L2 : Hid (Below w.heap.size w v2) := bel_to L1.out (Nat.le_refl _) b2
        have A2 := hide (A1.out.below b2 A1.out.lt)
        have O2 := hide (O1.out.below b2 (Nat.le_refl _))
        have U2 := hide o2
        clear b2 o2 D2 O1
        go_wp2_with fail
        with_reducible refine (D3.out _ L2.out).mono ?_
        rintro e v3 ⟨rfl, b3⟩
        have L3 : Hid (Below w.heap.size w v3) := bel_to L2.out (Nat.le_refl _) b3
        have A3 := hide (A2.out.below b3 A2.out.lt)
        have O3 := hide (O2.out.below b3 (Nat.le_refl _))
        have U3 := hide (Own.below U2.out b3 (Nat.le_refl _))
        clear b3 D3 O2 U2
        go_upto_region 8 with fail
        obtain ⟨y, hy⟩ : ∃ y, Hid (v3.heap.size = y) := ⟨_, rfl⟩
        have BG := hide (GBox.new v3 26 g.n g.nans g.lo g.hi)
        have L4 := hide (L3.out.alloc L3.out.size (.cells #[.int .u64 g.n, .int .u64 g.nans, .int .u64 g.lo, .int .u64 g.hi] 26))
        have A4 := hide (A3.out.alloc (.cells #[.int .u64 g.n, .int .u64 g.nans, .int .u64 g.lo, .int .u64 g.hi] 26))
        have O4 := hide (O3.out.alloc (.cells #[.int .u64 g.n, .int .u64 g.nans, .int .u64 g.lo, .int .u64 g.hi] 26))
        have U4 := hide (Own.alloc U3.out (.cells #[.int .u64 g.n, .int .u64 g.nans, .int .u64 g.lo, .int .u64 g.hi] 26))
        generalize v3.alloc (.cells #[.int .u64 g.n, .int .u64 g.nans, .int .u64 g.lo, .int .u64 g.hi] 26) = v4 at BG L4 A4 O4 U4 ⊢
        rw [hy.out] at BG
        rw [hy.out]
        clear hy L3 A3 O3 U3
        obtain ⟨_, g0', g1', g2', g3', _, _, _, _⟩ := BG.out
        have F := hide (A4.out.put ⟨a1, LH, c1, a2, LK, c2⟩ g)
        have XW := hide A0.out.lt
        have M := hide (made_of (w := put6 v4 x ⟨a1, LH, c1, a2, LK, c2⟩ g) (base := w0.heap.size) (h := ⟨a1, LH, c1, a2, LK, c2⟩) (s := ⟨l, ks, g⟩) (ownb_put O4.out XW.out _ _) (Own.mono (ownu_put U4.out (Nat.lt_of_lt_of_le XW.out Z1.out) _ _) Z1.out) GF.out KW.out GG.out (by have := GS.out; show LH * 16 ≤ _; omega) (by show LK * 8 ≤ _; omega))
        have LF := hide (below_put L4.out HX.out ⟨a1, LH, c1, a2, LK, c2⟩ g)
        obtain ⟨_, ⟨d0, d1, d2, d3, d4, d5⟩, df⟩ := A4.out
        have f0 := df 0
        have f1 := df 1
        have f2 := df 2
        have f3 := df 3
        have f4 := df 4
        have f5 := df 5
        clear df
        dsimp only [hd0, g0] at d0 d1 d2 d3 d4 d5
        go_wp2
        obtain ⟨_, ⟨e0, e1, e2, e3, e4, e5⟩, _⟩ := F.out
        unfold put6 at e0 e1 e2 e3 e4 e5
        dsimp only at e0 e1 e2 e3 e4 e5
        exact bodyPost_ret (v := .tuple #[.agg #[.slice a1 LH c1, .slice a2 LK c2, .int .u64 g.n, .int .u64 g.nans, .int .u64 g.lo, .int .u64 g.hi], .int .i64 nz, .bool true]) (by simp [results, Tryz.results8, go_sem, e0, e1, e2, e3, e4, e5]) rfl ⟨⟨⟨a1, LH, c1, a2, LK, c2⟩, rfl, M.out.see⟩, LF.out⟩
end Go.Proofs.YtadcaonkmncgoaaGreat
