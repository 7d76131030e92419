/-
  A record's bytes: what the landed putRow, putTomb, PutRec come to: contracts, for every world. The landed file system: a file's bytes with so many of its pending units done (upTo): a contract, for every world (written by gen/vfsdk.gen.py). The landed file system: its names in order (List); names in the order of their files (what Crash sorts): contracts, for every world. The landed file system: Crash: a contract, for every world (written by gen/vfsdp.gen.py). What the laws of layer 16 share: a copy of bytes, the document's example (awake): contracts, for every world. What the laws of layer 16 share: the calls that turn names, what goes wrong, and a copy of numbers: contracts, for every world. What frame.Put comes to: contracts, for every world. A log in memory, as landed: its five cells, and the file system that it lies in; what its calls leave: Turn, makeRoom, mend, Ready, Append, Last: contracts, for every world.
  Conditions: as each theorem says.
-/
import Derived.Test.YtknghoecjobkiabGreatDoorZti
import Derived.Test.YtknghoecjobkiabGreatDoorZtb
import Derived.Test.YtknghoecjobkiabGreatDoorZtj
import Derived.Deep.RegionHeld3
import Derived.Deep.DeepCutAuto
import Derived.Deep.CutBlock
import Derived.Test.YtknghoecjobkiabGreatDoorZtg
import Derived.Test.YtknghoecjobkiabGreatDoorZte
import Derived.Test.YtknghoecjobkiabGreatDoorIter
import Derived.Lib.SmallJoins
import Derived.Test.YtknghoecjobkiabGreatDoorZtc
import Derived.Test.YtknghoecjobkiabGreatDoorZta
import Derived.Lib.SlBytesConst
import Derived.Test.YtknghoecjobkiabGreatDoorZtf
import Derived.Lib.AppendZeros
namespace Go.Proofs.YtknghoecjobkiabGreatDoor
open Go.RowKit
set_option maxRecDepth 20000
set_option linter.unusedVariables false

/-- Bytes that came in are put behind others: what is told of it. -/
def PutP (n : Nat) (zs out : List Int) (w : World) (e : Ending) (w' : World) : Prop :=
  ∃ a' c', e = .returned (.slice a' (n + out.length) c') ∧ Mine w' w.heap.size a' (n + out.length) c' (zs ++ out) ∧ Below w.heap.size w w'
theorem smL_of {l : List Lb} (h : chkL l = true) : SmL l := by
  obtain ⟨_, e2, e3⟩ := chkL_parts h
  refine ⟨e2, fun y hy => ⟨?_, (e3 y hy).2.2⟩⟩
  have := (e3 y hy).1
  unfold nameB at this
  simp only [Bool.and_eq_true, decide_eq_true_eq] at this
  omega
theorem zig_b8 {v : Int} (h : (Lit.int .i64 v).wf = true) : Bytes8 (putS (zig v)) := putS_byte (zig_word (i64_of_wf h).1 (i64_of_wf h).2)
theorem keepW {w0 v v' : World} {k B : Nat} {x : RecX} {h : RecH} (hb : Below v.heap.size v v') (q : ((World.cell? v ⟨k, 0, none⟩ = some (.slice (RecH.la h) (RecH.ln h) (RecH.lc h))) ∧ (World.cell? v ⟨k, 1, none⟩ = some (.int .i64 (RecX.at9 x))) ∧ (World.cell? v ⟨k, 2, none⟩ = some (.slice (Hd.a (RecH.sk h)) (Hd.n (RecH.sk h)) (Hd.c (RecH.sk h)))) ∧ (World.cell? v ⟨k, 3, none⟩ = some (.slice (Hd.k (RecH.sk h)) (Hd.m (RecH.sk h)) (Hd.d (RecH.sk h)))) ∧ (World.cell? v ⟨k, 4, none⟩ = some (.int .u64 (Gz.n (Sp.g (RecX.sk x))))) ∧ (World.cell? v ⟨k, 5, none⟩ = some (.int .u64 (Gz.nans (Sp.g (RecX.sk x))))) ∧ (World.cell? v ⟨k, 6, none⟩ = some (.int .u64 (Gz.lo (Sp.g (RecX.sk x))))) ∧ (World.cell? v ⟨k, 7, none⟩ = some (.int .u64 (Gz.hi (Sp.g (RecX.sk x)))))) ∧ Hid (k < B ∧ B ≤ v.heap.size ∧ Below B w0 v)) : ((World.cell? v' ⟨k, 0, none⟩ = some (.slice (RecH.la h) (RecH.ln h) (RecH.lc h))) ∧ (World.cell? v' ⟨k, 1, none⟩ = some (.int .i64 (RecX.at9 x))) ∧ (World.cell? v' ⟨k, 2, none⟩ = some (.slice (Hd.a (RecH.sk h)) (Hd.n (RecH.sk h)) (Hd.c (RecH.sk h)))) ∧ (World.cell? v' ⟨k, 3, none⟩ = some (.slice (Hd.k (RecH.sk h)) (Hd.m (RecH.sk h)) (Hd.d (RecH.sk h)))) ∧ (World.cell? v' ⟨k, 4, none⟩ = some (.int .u64 (Gz.n (Sp.g (RecX.sk x))))) ∧ (World.cell? v' ⟨k, 5, none⟩ = some (.int .u64 (Gz.nans (Sp.g (RecX.sk x))))) ∧ (World.cell? v' ⟨k, 6, none⟩ = some (.int .u64 (Gz.lo (Sp.g (RecX.sk x))))) ∧ (World.cell? v' ⟨k, 7, none⟩ = some (.int .u64 (Gz.hi (Sp.g (RecX.sk x)))))) ∧ Hid (k < B ∧ B ≤ v'.heap.size ∧ Below B w0 v') := by
  obtain ⟨⟨c0, c1, c2, c3, c4, c5, c6, c7⟩, l1, l2, l3⟩ := q
  have hl : k < v.heap.size := by omega
  exact ⟨⟨(hb.cell hl).trans c0, (hb.cell hl).trans c1, (hb.cell hl).trans c2, (hb.cell hl).trans c3, (hb.cell hl).trans c4, (hb.cell hl).trans c5, (hb.cell hl).trans c6, (hb.cell hl).trans c7⟩, l1, Nat.le_trans l2 hb.size, l3.trans (hb.mono l2)⟩

set_option maxHeartbeats 4000000 in
theorem putRow_any (S : Nat → Prop) (a : Option Addr) (n cap : Nat) (zs : List Int) (x : RecX) (h : RecH) (w : World) (hr : Row .u8 w a n zs) (hn : n ≤ 1099511627776) (q : SeeW S w x h) (hl : chkL x.l = true) (ok : Ok x.sk) :
    Calls Tryz.prog 60 #[.slice a n cap, (Value.agg #[.slice (RecH.la h) (RecH.ln h) (RecH.lc h), .int .i64 (RecX.at9 x), .slice (Hd.a (RecH.sk h)) (Hd.n (RecH.sk h)) (Hd.c (RecH.sk h)), .slice (Hd.k (RecH.sk h)) (Hd.m (RecH.sk h)) (Hd.d (RecH.sk h)), .int .u64 (Gz.n (Sp.g (RecX.sk x))), .int .u64 (Gz.nans (Sp.g (RecX.sk x))), .int .u64 (Gz.lo (Sp.g (RecX.sk x))), .int .u64 (Gz.hi (Sp.g (RecX.sk x)))])] w fun e w' => PutP n zs (putL x.l ++ (putS (zig x.at9) ++ putP x.sk)) w e w' := by
  have hs := smL_of hl
  have hL := putL_fit hs
  have hA := putS_len (zig x.at9)
  have BL := hide hL.2.2
  have BA := hide (zig_b8 q.wat)
  have BZ : Hid (Bytes8 zs) := hr.bytes
  obtain ⟨w0, hw0⟩ : ∃ w0, Hid (w.alloc (.cells ([.slice (RecH.la h) (RecH.ln h) (RecH.lc h), .int .i64 (RecX.at9 x), .slice (Hd.a (RecH.sk h)) (Hd.n (RecH.sk h)) (Hd.c (RecH.sk h)), .slice (Hd.k (RecH.sk h)) (Hd.m (RecH.sk h)) (Hd.d (RecH.sk h)), .int .u64 (Gz.n (Sp.g (RecX.sk x))), .int .u64 (Gz.nans (Sp.g (RecX.sk x))), .int .u64 (Gz.lo (Sp.g (RecX.sk x))), .int .u64 (Gz.hi (Sp.g (RecX.sk x)))]).toArray 42) = w0) := ⟨_, rfl⟩
  have B : Hid (BoxV w0 w.heap.size 42 [.slice (RecH.la h) (RecH.ln h) (RecH.lc h), .int .i64 (RecX.at9 x), .slice (Hd.a (RecH.sk h)) (Hd.n (RecH.sk h)) (Hd.c (RecH.sk h)), .slice (Hd.k (RecH.sk h)) (Hd.m (RecH.sk h)) (Hd.d (RecH.sk h)), .int .u64 (Gz.n (Sp.g (RecX.sk x))), .int .u64 (Gz.nans (Sp.g (RecX.sk x))), .int .u64 (Gz.lo (Sp.g (RecX.sk x))), .int .u64 (Gz.hi (Sp.g (RecX.sk x)))]) := by rw [← hw0.out]; exact BoxV.new w _ _
  have L : Hid (Below w.heap.size w w0) := by rw [← hw0.out]; exact (Below.refl _ _).alloc (Nat.le_refl _) _
  have Q := hide (q.below L.out (Nat.le_refl _))
  have R0 := hide (hr.below L.out (Nat.le_refl _))
  have C1 := hide (fun W (y : Row .u8 W a n zs) (x' : SeeW S W x h) => lput_any a n cap zs h.la h.ln h.lc x.l W (by omega) y x'.rl hs)
  have C2 := hide (fun W a1 c1 (y : Mine W w0.heap.size a1 (n + (putL x.l).length) c1 (zs ++ putL x.l)) => putint_any x.at9 a1 (n + (putL x.l).length) c1 (zs ++ putL x.l) W q.wat (by omega) y.capped.1 (y.row (by omega) (fits_wf (Bytes8.append BZ.out BL.out))))
  have C3 := hide (fun W a2 c2 (y : Mine W w0.heap.size a2 (n + (putL x.l).length + (putS (zig x.at9)).length) c2 (zs ++ putL x.l ++ putS (zig x.at9))) (x' : SeeW S W x h) => pput_any a2 (n + (putL x.l).length + (putS (zig x.at9)).length) c2 (zs ++ putL x.l ++ putS (zig x.at9)) h.sk x.sk W (y.row (by omega) (fits_wf (Bytes8.append (Bytes8.append BZ.out BL.out) BA.out))) (by omega) x'.sk ok)
  have EP : Hid (zs ++ putL x.l ++ putS (zig x.at9) ++ putP x.sk = zs ++ (putL x.l ++ (putS (zig x.at9) ++ putP x.sk))) := by show _ = _; simp only [List.append_assoc]
  have EL : Hid (n + (putL x.l).length + (putS (zig x.at9)).length + (putP x.sk).length = n + (putL x.l ++ (putS (zig x.at9) ++ putP x.sk)).length) := by show _ = _; simp only [List.length_append]; omega
  rw [EP.out, EL.out] at C3
  generalize putL x.l ++ (putS (zig x.at9) ++ putP x.sk) = OUT at *
  obtain ⟨k, hk⟩ : ∃ k, Hid (w.heap.size = k) := ⟨_, rfl⟩
  rw [hk.out] at B
  have S0 : Hid (((World.cell? w0.drew ⟨k, 0, none⟩ = some (.slice (RecH.la h) (RecH.ln h) (RecH.lc h))) ∧ (World.cell? w0.drew ⟨k, 1, none⟩ = some (.int .i64 (RecX.at9 x))) ∧ (World.cell? w0.drew ⟨k, 2, none⟩ = some (.slice (Hd.a (RecH.sk h)) (Hd.n (RecH.sk h)) (Hd.c (RecH.sk h)))) ∧ (World.cell? w0.drew ⟨k, 3, none⟩ = some (.slice (Hd.k (RecH.sk h)) (Hd.m (RecH.sk h)) (Hd.d (RecH.sk h)))) ∧ (World.cell? w0.drew ⟨k, 4, none⟩ = some (.int .u64 (Gz.n (Sp.g (RecX.sk x))))) ∧ (World.cell? w0.drew ⟨k, 5, none⟩ = some (.int .u64 (Gz.nans (Sp.g (RecX.sk x))))) ∧ (World.cell? w0.drew ⟨k, 6, none⟩ = some (.int .u64 (Gz.lo (Sp.g (RecX.sk x))))) ∧ (World.cell? w0.drew ⟨k, 7, none⟩ = some (.int .u64 (Gz.hi (Sp.g (RecX.sk x)))))) ∧ Hid (k < w0.heap.size ∧ w0.heap.size ≤ w0.drew.heap.size ∧ Below w0.heap.size w0 w0.drew)) :=
    ⟨⟨B.out.cell rfl, B.out.cell rfl, B.out.cell rfl, B.out.cell rfl, B.out.cell rfl, B.out.cell rfl, B.out.cell rfl, B.out.cell rfl⟩, B.out.lt, Nat.le_refl _, (Below.refl _ _).drew⟩
  have QD := hide (Q.out.below (Below.refl w0.heap.size w0).drew (Nat.le_refl _))
  have RD := hide R0.out.drew
  have ZZ : Hid (w0.heap.size ≤ w0.drew.heap.size) := Nat.le_refl _
  clear q hr ok EP EL hL hA hs hl B Q R0 BL BA BZ
  go_enter Tryz.func60, Tryz.ntmps60
  go_upto_region 1 with fail
  rw [hw0.out, hk.out]
  clear hw0
  go_region_held3 (fun w' => ((World.cell? w' ⟨k, 0, none⟩ = some (.slice (RecH.la h) (RecH.ln h) (RecH.lc h))) ∧ (World.cell? w' ⟨k, 1, none⟩ = some (.int .i64 (RecX.at9 x))) ∧ (World.cell? w' ⟨k, 2, none⟩ = some (.slice (Hd.a (RecH.sk h)) (Hd.n (RecH.sk h)) (Hd.c (RecH.sk h)))) ∧ (World.cell? w' ⟨k, 3, none⟩ = some (.slice (Hd.k (RecH.sk h)) (Hd.m (RecH.sk h)) (Hd.d (RecH.sk h)))) ∧ (World.cell? w' ⟨k, 4, none⟩ = some (.int .u64 (Gz.n (Sp.g (RecX.sk x))))) ∧ (World.cell? w' ⟨k, 5, none⟩ = some (.int .u64 (Gz.nans (Sp.g (RecX.sk x))))) ∧ (World.cell? w' ⟨k, 6, none⟩ = some (.int .u64 (Gz.lo (Sp.g (RecX.sk x))))) ∧ (World.cell? w' ⟨k, 7, none⟩ = some (.int .u64 (Gz.hi (Sp.g (RecX.sk x)))))) ∧ Hid (k < w0.heap.size ∧ w0.heap.size ≤ w'.heap.size ∧ Below w0.heap.size w0 w')) (first | with_reducible exact S0.out | with_reducible exact keepW (by assumption) (by assumption)) (first
    | (go_at_call 95; with_reducible refine (C1.out _ RD.out QD.out).mono ?_; rintro e v1 ⟨a1, c1, rfl, o1, b1⟩; have O1 := hide (o1.mono ZZ.out); have Q1 := hide (QD.out.below b1 (Nat.le_refl _)))
    | (go_at_call 59; with_reducible refine (C2.out _ _ _ O1.out).mono ?_; rintro e v2 ⟨a2, c2, rfl, o2, b2⟩; have O2 := hide (o2.mono (Nat.le_trans ZZ.out b1.size)); have Q2 := hide (Q1.out.below b2 (Nat.le_refl _)))
    | (go_at_call 94; with_reducible refine (C3.out _ _ _ O2.out Q2.out).mono ?_; rintro e v3 ⟨a3, c3, rfl, o3, b3⟩; have O3 := hide (o3.mono (Nat.le_trans ZZ.out (Nat.le_trans b1.size b2.size)))))
  have L3 : Hid (Below w.heap.size w v3) := bel_to (bel_to (bel_to L.out.drew (Nat.le_refl _) b1) (Nat.le_refl _) b2) (Nat.le_refl _) b3
  clear b1 b2 b3 o1 o2 o3 O1 O2 Q1 Q2 C1 C2 C3 S0 QD RD
  go_wp2
  go_ret
  exact ⟨a3, c3, rfl, O3.out.mono L.out.size, L3.out⟩

theorem putint0_any (v : Int) (w : World) (hv : (Lit.int .i64 v).wf = true) :
    Calls Tryz.prog 59 #[.slice none 0 0, .int .i64 v] w fun e w' => ∃ a' c', e = .returned (.slice a' (putS (zig v)).length c') ∧ Mine w' w.heap.size a' (putS (zig v)).length c' (putS (zig v)) ∧ Below w.heap.size w w' := by
  refine (putint_any v none 0 0 [] w hv (by omega) (by omega) (nil_row _ _ _)).mono ?_
  rintro e w' ⟨a', c', rfl, h1, h2⟩
  rw [Nat.zero_add, List.nil_append] at h1
  exact ⟨a', c', by rw [Nat.zero_add], h1, h2⟩
theorem w64_sm {v : Int} (h : 0 ≤ v ∧ v ≤ 2 := by decide) : W64 v := ⟨h.1, by omega⟩
theorem putRc_fit1 {S : Nat → Prop} {w : World} {x : RecX} {h : RecH} (q : SeeR S w x h) (hl : chkL x.l = true) (hp : chkP x.sk = true) (e : putRc (rcX x) = putS (zig x.seq) ++ (putS 1 ++ (putL x.l ++ (putS (zig x.at9) ++ putP x.sk)))) : 1 ≤ (putRc (rcX x)).length ∧ (putRc (rcX x)).length ≤ 101000 ∧ Bytes8 (putRc (rcX x)) := by
  have h0 := putS_len (zig x.seq)
  have b0 := zig_b8 q.wsq
  have ok := ok_of q.row.sk hp
  have h1 := putS_len 1
  have h2 := putL_fit (smL_of hl)
  have h3 := putS_len (zig x.at9)
  have h4 := putP_len ok
  rw [e]
  refine ⟨by simp only [List.length_append]; omega, by simp only [List.length_append]; omega, b0.append (Bytes8.append (putS_byte w64_sm) (h2.2.2.append ((zig_b8 q.row.wat).append (putP_byte ok))))⟩
theorem keepX {w0 v v' : World} {k B : Nat} {c0 c1 : Value} (hb : Below v.heap.size v v') (q : (v.cell? ⟨k, 0, none⟩ = some c0 ∧ v.cell? ⟨k, 1, none⟩ = some c1) ∧ Hid (k < B ∧ B ≤ v.heap.size ∧ Below B w0 v)) : (v'.cell? ⟨k, 0, none⟩ = some c0 ∧ v'.cell? ⟨k, 1, none⟩ = some c1) ∧ Hid (k < B ∧ B ≤ v'.heap.size ∧ Below B w0 v') := by
  obtain ⟨⟨c0, c1⟩, l1, l2, l3⟩ := q
  have hl : k < v.heap.size := by omega
  exact ⟨⟨(hb.cell hl).trans c0, (hb.cell hl).trans c1⟩, l1, Nat.le_trans l2 hb.size, l3.trans (hb.mono l2)⟩

set_option maxHeartbeats 8000000 in
theorem putRec_one (S : Nat → Prop) (a : Option Addr) (n cap : Nat) (zs : List Int) (x : RecX) (h : RecH) (w : World) (hr : Row .u8 w a n zs) (hn : n ≤ 1099511627776) (q : SeeR S w x h) (h1 : x.kind = 1) (hl : chkL x.l = true) (hp : chkP x.sk = true) (e : putRc (rcX x) = putS (zig x.seq) ++ (putS 1 ++ (putL x.l ++ (putS (zig x.at9) ++ putP x.sk)))) :
    Calls Tryz.prog 27 #[.slice a n cap, (Value.agg #[.int .i64 (RecX.seq x), .int .i64 (RecX.kind x), .slice (RecH.la h) (RecH.ln h) (RecH.lc h), .int .i64 (RecX.at9 x), .slice (Hd.a (RecH.sk h)) (Hd.n (RecH.sk h)) (Hd.c (RecH.sk h)), .slice (Hd.k (RecH.sk h)) (Hd.m (RecH.sk h)) (Hd.d (RecH.sk h)), .int .u64 (Gz.n (Sp.g (RecX.sk x))), .int .u64 (Gz.nans (Sp.g (RecX.sk x))), .int .u64 (Gz.lo (Sp.g (RecX.sk x))), .int .u64 (Gz.hi (Sp.g (RecX.sk x))), .int .i64 (RecX.tseq x), .int .i64 (Hm.op (RecH.m h)), .string (Hm.nm (RecH.m h)), .string (Hm.vl (RecH.m h)), .slice (Hm.va (RecH.m h)) (Hm.vn (RecH.m h)) (Hm.vc (RecH.m h)), .slice (Hm.ka (RecH.m h)) (Hm.kn (RecH.m h)) (Hm.kc (RecH.m h)), .int .i64 (RecX.frm x), .int .i64 (RecX.till x)])] w fun e w' => PutP n zs (putRc (rcX x)) w e w' := by
  have FT := hide (putRc_fit1 q hl hp e)
  have hs := putS_len (zig x.seq)
  have BS := hide (zig_b8 q.wsq)
  obtain ⟨w0, hw0⟩ : ∃ w0, Hid (w.alloc (.cells ([.int .i64 (RecX.seq x), .int .i64 (RecX.kind x), .slice (RecH.la h) (RecH.ln h) (RecH.lc h), .int .i64 (RecX.at9 x), .slice (Hd.a (RecH.sk h)) (Hd.n (RecH.sk h)) (Hd.c (RecH.sk h)), .slice (Hd.k (RecH.sk h)) (Hd.m (RecH.sk h)) (Hd.d (RecH.sk h)), .int .u64 (Gz.n (Sp.g (RecX.sk x))), .int .u64 (Gz.nans (Sp.g (RecX.sk x))), .int .u64 (Gz.lo (Sp.g (RecX.sk x))), .int .u64 (Gz.hi (Sp.g (RecX.sk x))), .int .i64 (RecX.tseq x), .int .i64 (Hm.op (RecH.m h)), .string (Hm.nm (RecH.m h)), .string (Hm.vl (RecH.m h)), .slice (Hm.va (RecH.m h)) (Hm.vn (RecH.m h)) (Hm.vc (RecH.m h)), .slice (Hm.ka (RecH.m h)) (Hm.kn (RecH.m h)) (Hm.kc (RecH.m h)), .int .i64 (RecX.frm x), .int .i64 (RecX.till x)]).toArray 50) = w0) := ⟨_, rfl⟩
  have B : Hid (BoxV w0 w.heap.size 50 [.int .i64 (RecX.seq x), .int .i64 (RecX.kind x), .slice (RecH.la h) (RecH.ln h) (RecH.lc h), .int .i64 (RecX.at9 x), .slice (Hd.a (RecH.sk h)) (Hd.n (RecH.sk h)) (Hd.c (RecH.sk h)), .slice (Hd.k (RecH.sk h)) (Hd.m (RecH.sk h)) (Hd.d (RecH.sk h)), .int .u64 (Gz.n (Sp.g (RecX.sk x))), .int .u64 (Gz.nans (Sp.g (RecX.sk x))), .int .u64 (Gz.lo (Sp.g (RecX.sk x))), .int .u64 (Gz.hi (Sp.g (RecX.sk x))), .int .i64 (RecX.tseq x), .int .i64 (Hm.op (RecH.m h)), .string (Hm.nm (RecH.m h)), .string (Hm.vl (RecH.m h)), .slice (Hm.va (RecH.m h)) (Hm.vn (RecH.m h)) (Hm.vc (RecH.m h)), .slice (Hm.ka (RecH.m h)) (Hm.kn (RecH.m h)) (Hm.kc (RecH.m h)), .int .i64 (RecX.frm x), .int .i64 (RecX.till x)]) := by rw [← hw0.out]; exact BoxV.new w _ _
  have L : Hid (Below w.heap.size w w0) := by rw [← hw0.out]; exact (Below.refl _ _).alloc (Nat.le_refl _) _
  have Q := hide (q.below L.out (Nat.le_refl _))
  have R0 := hide (hr.below L.out (Nat.le_refl _))
  obtain ⟨k, hk⟩ : ∃ k, Hid (w.heap.size = k) := ⟨_, rfl⟩
  rw [hk.out] at B
  have S0 : Hid ((w0.drew.cell? ⟨k, 0, none⟩ = some (.int .i64 x.seq) ∧ w0.drew.cell? ⟨k, 1, none⟩ = some (.int .i64 x.kind)) ∧ Hid (k < w0.heap.size ∧ w0.heap.size ≤ w0.drew.heap.size ∧ Below w0.heap.size w0 w0.drew)) :=
    ⟨⟨B.out.cell rfl, B.out.cell rfl⟩, B.out.lt, Nat.le_refl _, (Below.refl _ _).drew⟩
  have ZZ : Hid (w0.heap.size ≤ w0.drew.heap.size) := Nat.le_refl _
  have C1 := hide (fun W => putint0_any x.seq W q.wsq)
  obtain ⟨kd, hkd⟩ : ∃ kd, x.kind = kd := ⟨_, rfl⟩
  have C2 := hide (fun (v : Int) (hv : W64 v) W a1 c1 (y : Mine W w0.heap.size a1 (putS (zig x.seq)).length c1 (putS (zig x.seq))) => put_any v a1 (putS (zig x.seq)).length c1 (putS (zig x.seq)) W hv (by omega) y.capped.1 (y.row (by omega) (fits_wf BS.out)))
  have CC := hide (fun W a3 c3 (L : Nat) (hL : (putRc (rcX x)).length = L) (y : Row .u8 W a n zs) (z : Mine W w0.heap.size a3 L c3 (putRc (rcX x))) => concat_two a n cap zs a3 L c3 (putRc (rcX x)) W y (z.row (by have := FT.out.2.1; omega) (fits_wf FT.out.2.2)) (by have := FT.out.1; omega) (by have := FT.out.2.1; omega))
  have C3 := hide (fun W a2 c2 (y : Mine W w0.heap.size a2 ((putS (zig x.seq)).length + (putS 1).length) c2 (putS (zig x.seq) ++ putS 1)) (x' : SeeW S W x h) => putRow_any S a2 ((putS (zig x.seq)).length + (putS 1).length) c2 (putS (zig x.seq) ++ putS 1) x h W (y.row (by have := putS_len 1; omega) (fits_wf (BS.out.append (putS_byte w64_sm)))) (by have := putS_len 1; omega) x' hl (ok_of x'.sk hp))
  unfold PutP at C3
  have EP : Hid (putS (zig x.seq) ++ putS 1 ++ (putL x.l ++ (putS (zig x.at9) ++ putP x.sk)) = putRc (rcX x)) := by show _ = _; rw [e]; simp only [List.append_assoc]
  have EL : Hid ((putS (zig x.seq)).length + (putS 1).length + (putL x.l ++ (putS (zig x.at9) ++ putP x.sk)).length = (putRc (rcX x)).length) := by show _ = _; rw [e]; simp only [List.length_append]; omega
  rw [EP.out, EL.out] at C3
  have D2 := hide (C2.out 1 w64_sm)
  have EW : Hid (IntKind.u64.wrap 1 = 1) := by show _ = _; decide
  unfold PutP
  clear q hr e EP EL hl hp C2 BS hs
  rw [h1] at hw0 B S0 ⊢
  go_enter Tryz.func27, Tryz.ntmps27
  go_upto_region 1 with fail
  rw [hw0.out, hk.out]
  clear hw0
  go_region_held3 (fun w' => (w'.cell? ⟨k, 0, none⟩ = some (.int .i64 x.seq) ∧ w'.cell? ⟨k, 1, none⟩ = some (.int .i64 1)) ∧ Hid (k < w0.heap.size ∧ w0.heap.size ≤ w'.heap.size ∧ Below w0.heap.size w0 w')) (first | with_reducible exact S0.out | with_reducible exact keepX (by assumption) (by assumption)) (first
    | (go_at_call 59; with_reducible refine (C1.out _).mono ?_; rintro e v1 ⟨a1, c1, rfl, o1, b1⟩; have O1 := hide (o1.mono ZZ.out))
    | (go_at_call 56; rw [EW.out]; with_reducible refine (D2.out _ _ _ O1.out).mono ?_; rintro e v2 ⟨a2, c2, rfl, o2, b2⟩; have O2 := hide (o2.mono (Nat.le_trans ZZ.out b1.size))))
  have L2 : Hid (Below w0.heap.size w0 v2) := bel_to (bel_to (Below.refl w0.heap.size w0).drew (Nat.le_refl _) b1) (Nat.le_refl _) b2
  have B2 := hide (B.out.below L2.out B.out.lt)
  have Q2 := hide (Q.out.below L2.out (Nat.le_refl _))
  have R2 := hide (R0.out.below L2.out (Nat.le_refl _))
  have d1 := B2.out.cell (i := 1) rfl
  have d2 := B2.out.cell (i := 2) rfl
  have d3 := B2.out.cell (i := 3) rfl
  have d4 := B2.out.cell (i := 4) rfl
  have d5 := B2.out.cell (i := 5) rfl
  have d6 := B2.out.cell (i := 6) rfl
  have d7 := B2.out.cell (i := 7) rfl
  have d8 := B2.out.cell (i := 8) rfl
  have d9 := B2.out.cell (i := 9) rfl
  clear b1 b2 o1 o2 O1 C1 S0 B
  go_wp2_with fail
  with_reducible refine (C3.out _ _ _ O2.out Q2.out.row).mono ?_
  rintro e v3 ⟨a3, c3, rfl, o3, b3⟩
  have O3 := hide (o3.mono L2.out.size)
  have R3 := hide (R2.out.below b3 (Nat.le_refl _))
  have L3 := hide (L2.out.trans (b3.mono L2.out.size))
  have C4 := hide (CC.out v3 a3 c3 _ rfl R3.out O3.out)
  clear b3 o3 C3 O2 Q2 R2 L2 B2 CC
  go_wp2_with fail
  with_reducible refine C4.out.mono ?_
  rintro e v4 ⟨a4, c4, rfl, o4, b4⟩
  have O4 := hide (o4.mono (Nat.le_trans L.out.size L3.out.size))
  have L4 := hide (bel_to (L.out.trans (L3.out.mono L.out.size)) (Nat.le_refl _) b4)
  clear o4 b4 C4
  go_wp2
  go_ret
  exact ⟨a4, c4, rfl, O4.out, L4.out⟩

end Go.Proofs.YtknghoecjobkiabGreatDoor

namespace Go.Proofs.YtknghoecjobkiabGreatDoor
open Go.RowKit Go.Maps
set_option maxRecDepth 20000
set_option linter.unusedVariables false

theorem vnumber_any (p : Pu) (a : Option Addr) (m c : Nat) (w : World) (hp : p.1 ≤ 4294967296) :
    Calls Tryz.prog 81 #[.agg #[.int .i64 (p.1 : Int), .slice a m c]] w fun e w' => e = .returned (.int .i64 (puN p : Int)) ∧ Below w.heap.size w w' := by
  obtain ⟨n, x⟩ := p
  dsimp only at hp ⊢
  obtain ⟨W, hW⟩ : ∃ W, Hid (w.alloc (.cells #[.int .i64 (n : Int), .slice a m c] 151) = W) := ⟨_, rfl⟩
  have LW : Hid (Below w.heap.size w W) := by rw [← hW.out]; exact (Below.refl _ _).alloc (Nat.le_refl _) _
  have x0 : W.cell? ⟨w.heap.size, 0, none⟩ = some (.int .i64 (n : Int)) := by rw [← hW.out, World.cell?_alloc_mark]; rfl
  by_cases h : 0 < n
  · have e : puN (n, x) = n := by unfold puN; rw [if_pos h]
    rw [e]
    have d1 : (0 : Int) < (n : Int) := by omega
    go_enter Tryz.func81, Tryz.ntmps81
    go_upto_region 1 with fail
    rw [hW.out]
    clear hW
    go_wp2
    go_ret
    exact ⟨rfl, LW.out⟩
  · have e : puN (n, x) = 1 := by unfold puN; rw [if_neg h]
    rw [e]
    have d1 : ¬ (0 : Int) < (n : Int) := by omega
    go_enter Tryz.func81, Tryz.ntmps81
    go_upto_region 1 with fail
    rw [hW.out]
    clear hW
    go_wp2
    go_ret
    exact ⟨rfl, LW.out⟩
theorem Pd.small {b : List Int} {us : List Un} {ps : List Pu} (h : Pd b us ps) : ∀ r ∈ ps, r.1 ≤ us.length ∧ r.2.length ≤ b.length + us.length := by
  induction h with
  | nil => intro r hr; simp at hr
  | app us ps l h1 h2 ih =>
    intro r hr
    rcases List.mem_append.1 hr with e | e
    · have := ih r e
      rw [List.length_append]; omega
    · obtain rfl := List.mem_singleton.1 e
      rw [List.length_append, moreU_len]
      simp
  | cut us ps n h1 h2 ih =>
    intro r hr
    rcases List.mem_append.1 hr with e | e
    · have := ih r e
      rw [List.length_append]; omega
    · obtain rfl := List.mem_singleton.1 e
      have := unsB_len us b
      simp
      omega
theorem bkJ_len {b : List Int} {us : List Un} {ps : List Pu} {q i : Nat} {back : Int} {d : List Int} (h : BkJ b us ps q i back d) : d.length ≤ b.length + us.length := by
  rcases h with ⟨_, rfl⟩ | ⟨_, us', vs, rfl, _, _, rfl⟩
  · have := unsB_len (us.take q) b
    rw [List.length_take] at this
    omega
  · have := unsB_len us' b
    rw [List.length_append]
    omega
theorem vsum_take {l : List Pu} {i : Nat} {p : Pu} (h : l[i]? = some p) : ((l.take (i + 1)).map puN).sum = ((l.take i).map puN).sum + puN p := by
  obtain ⟨hk, e⟩ := List.getElem?_eq_some_iff.1 h
  rw [List.take_succ_eq_append_getElem hk, List.map_append, List.sum_append, e]
  simp
theorem vsum_le (l : List Pu) (i : Nat) : ((l.take i).map puN).sum ≤ (l.map puN).sum := by
  conv => rhs; rw [← List.take_append_drop i l, List.map_append, List.sum_append]
  omega

set_option maxHeartbeats 8000000 in
theorem upto_any (w : World) (h : Fh) (k : Nat) (b su : List Int) (us : List Un) (m : FlP w h k b su us) (hbu : b = unsB su us) (p : Int) (hpw : (Lit.int .i64 p).wf = true) (hb : b.length ≤ 4294967296) (hsu : su.length ≤ 4294967296) (hus : us.length ≤ 4294967296) (hby : ∀ z ∈ b, 0 ≤ z ∧ z ≤ 255) :
    Calls Tryz.prog 45 #[.pointer (some ⟨h.b, 0, none⟩), .int .i64 p] w fun e w' => ∃ a' n' c', e = .returned (.slice a' n' c') ∧ n' = (unsB su (us.take (cutN p))).length ∧ OwnVb w' w.heap.size a' n' c' (unsB su (us.take (cutN p))) ∧ Below w.heap.size w w' := by
  obtain ⟨i0, hi0, hz00, hz01, hz02⟩ := info_parts Tryz.infoU8
  obtain ⟨p0, p1⟩ := i64_of_wf hpw
  have hbd : ∀ (i : Nat) (r : Pu), h.ps[i]? = some r → r.1 ≤ 4294967296 ∧ r.2.length ≤ 8589934592 := fun i r h2 => by
    have := m.pd.small r (List.mem_of_getElem? h2)
    omega
  have M := hide m
  have c1 := m.c1
  have c2 := m.c2
  have hdl := OwnG.len byV_len (by decide) m.data
  have hdc := (OwnG.capped m.data).2
  have hpl := OwnG.len puV_len (by decide) m.pend
  have hP : h.p.2.1 ≤ 4294967296 := by rw [← hpl, m.len]; exact Nat.le_trans m.pd.len hus
  have hsum := m.pd.sum
  obtain ⟨da, dn, dc, hd⟩ : ∃ da dn dc, h.d = (da, dn, dc) := ⟨_, _, _, rfl⟩
  obtain ⟨pa, pn, pc, hp⟩ : ∃ pa pn pc, h.p = (pa, pn, pc) := ⟨_, _, _, rfl⟩
  have OD := hide m.data
  have OP := hide m.pend
  rw [hd] at c1 hdl OD hdc
  rw [hp] at c2 hP OP hpl
  dsimp only at c1 c2 hdl hP OD OP hdc hpl
  have CL := hide (fun u (hu : Below w.heap.size w u) => clone8_any da dn dc b u ((ownB_row OD.out (by omega) hby).below hu (Nat.le_refl _)) (by omega) (fun e => (hdc e).2))
  have KS : Hid (∀ u, Below w.heap.size w u → u.cell? ⟨h.b, 1, none⟩ = some (.slice da dn dc) ∧ u.cell? ⟨h.b, 2, none⟩ = some (.slice pa pn pc)) := fun u hu =>
    ⟨(hu.cell (p := ⟨h.b, 1, none⟩) (World.block_lt_of_cell? w _ c1)).trans c1, (hu.cell (p := ⟨h.b, 2, none⟩) (World.block_lt_of_cell? w _ c2)).trans c2⟩
  have HPL := hide hpl
  have HLN := hide M.out.len
  have PAT : Hid (∀ u, Below w.heap.size w u → ∀ i, i < pn → ∃ gp q r, pa = some ⟨gp, 0, none⟩ ∧ pn ≤ pc ∧ h.hp[i]? = some q ∧ h.ps[i]? = some r ∧ q.1 = r.1 ∧ r.1 ≤ 4294967296 ∧ r.2.length ≤ 8589934592 ∧ u.cell? ⟨gp, i * 2, none⟩ = some (.int .i64 (r.1 : Int)) ∧ u.cell? ⟨gp, i * 2 + 1, none⟩ = some (.slice q.2.1 q.2.2.1 q.2.2.2) ∧ OwnVb u 0 q.2.1 q.2.2.1 q.2.2.2 r.2) := fun u hu i hi => by
    have hq : h.hp[i]? = some (h.hp[i]'(by rw [HPL.out]; exact hi)) := List.getElem?_eq_getElem _
    have hr : h.ps[i]? = some (h.ps[i]'(by rw [← HLN.out, HPL.out]; exact hi)) := List.getElem?_eq_getElem _
    obtain ⟨gp, e1, -, e3, e4⟩ := OwnG.at puV_len (by decide) (OwnG.below OP.out hu (Nat.le_refl _)) hq
    obtain ⟨f1, f2, -⟩ := M.out.each i _ _ hq hr
    obtain ⟨z1, z2⟩ := hbd i _ hr
    exact ⟨gp, _, _, e1, e3, hq, hr, f1, z1, z2, by rw [← f1]; exact e4 0 _ rfl, e4 1 _ rfl, OwnG.below f2 hu (Nat.le_refl _)⟩
  have HSL : Hid (∀ j, ((h.ps.take j).map puN).sum ≤ us.length) := fun j => by rw [← hsum]; exact vsum_le _ _
  have HSE : Hid (((h.ps.take pn).map puN).sum = us.length) := by
    show _ = _
    rw [← hsum, List.take_of_length_le (by rw [← HLN.out, HPL.out]; exact Nat.le_refl _)]
  have BK := hide (bkJ_start (b := su) m.pd (cutN p))
  rw [← hbu] at BK
  have hpsl : h.ps.length = pn := by rw [← HLN.out, HPL.out]
  rw [hpsl] at BK
  obtain ⟨hbl, hhb⟩ : ∃ hb, h.b = hb := ⟨_, rfl⟩
  rw [hhb] at c1 c2 KS ⊢
  clear m hbu hby hdl hpl hsum hdc hd hp hhb c1 c2 hpsl hbd
  have c2 := (KS.out w (Below.refl _ _)).2
  go_enter Tryz.func45, Tryz.ntmps45
  go_wp2
  go_loopw [17, 5] (fun i x wr => ∃ j s : Nat, j ≤ pn ∧ i = .int .i64 (j : Int) ∧ x = .int .i64 (s : Int) ∧ Hid (((h.ps.take j).map puN).sum = s) ∧ Hid (Below w.heap.size w wr)) (fun i _ _ => pn - (intOf i).toNat)
  case atStart => exact ⟨0, 0, by omega, rfl, rfl, rfl, Below.refl _ _⟩
  case round =>
    obtain ⟨j, s, hj, rfl, rfl, HS, HB⟩ := hrel
    obtain ⟨v, rfl⟩ : ∃ v, v = wr := ⟨wr, rfl⟩
    have hs : s ≤ 4294967296 := by have := HSL.out j; have := HS.out; omega
    by_cases hlt : j < pn
    · obtain ⟨gp, q, r, rfl, hpc, hq, hr, -, hr1, hr2, e0, e1, -⟩ := PAT.out v HB.out j hlt
      have i1 : (0 : Int) ≤ (j : Int) := by omega
      have i2 : (j : Int) < (pn : Int) := by omega
      have HS2 : Hid (((h.ps.take (j + 1)).map puN).sum = s + puN r) := by show _ = _; rw [vsum_take hr, HS.out]
      have hs2 : s + puN r ≤ 4294967296 := by have := HSL.out (j + 1); have := HS2.out; omega
      have NB := hide (fun u => vnumber_any r q.2.1 q.2.2.1 q.2.2.2 u hr1)
      obtain ⟨nr, hnr⟩ : ∃ nr, puN r = nr := ⟨_, rfl⟩
      rw [hnr] at HS2 hs2 NB
      obtain ⟨r1, r2⟩ := r
      obtain ⟨qn, qa, qm, qc⟩ := q
      dsimp only at e0 e1 NB
      have sw : IntKind.i64.wrap ((s : Int) + (nr : Int)) = (s : Int) + (nr : Int) := by rw [IntKind.wrap_i64]; omega
      have SZ : Hid (w.heap.size ≤ v.heap.size) := HB.out.size
      clear hq hr hr1 hr2 HS hnr
      go_wp2_with fail
      with_reducible refine (NB.out _).mono ?_
      rintro e u ⟨rfl, bu⟩
      have B2 : Hid (Below w.heap.size w u) := bel_to HB.out (Nat.le_refl _) (bel_to (bel_al (Below.refl _ _) (Nat.le_refl _) _) (Nat.le_refl _) bu)
      clear bu NB HB e0 e1
      go_wp2
      go_roundw
      case rel => exact ⟨j + 1, s + nr, by omega, by go_num, by go_num, HS2, B2⟩
      case measure => first | (simp [intOf]; done) | (simp [intOf]; omega)
    · obtain rfl : j = pn := by omega
      have hse : (s : Int) = (us.length : Int) := by have := HSE.out; have := HS.out; omega
      have i2 : ¬ (j : Int) < (j : Int) := by omega
      have KV := hide (KS.out v HB.out)
      have HB1 := hide HB.out
      obtain ⟨N, hN⟩ : ∃ N, us.length = N := ⟨_, rfl⟩
      rw [hN] at hse BK hus
      rw [hse]
      clear HS HSE HSL hse
      go_upto_region 7 with fail
      go_cut [8] (fun x wx => x = .int .i64 ((N : Int) - (cutN p : Int)) ∧ Hid (wx = v))
      case first =>
        clear BK CL M OD OP PAT
        have hpp : (cutN p : Int) = if p < 0 then 0 else p := by unfold cutN; split <;> omega
        by_cases hp0 : p < 0
        · rw [if_pos hp0] at hpp
          have w1 : IntKind.i64.wrap ((N : Int) - 0) = (N : Int) - 0 := by rw [IntKind.wrap_i64]; omega
          have w2 : IntKind.i64.wrap (N : Int) = (N : Int) := by rw [IntKind.wrap_i64]; omega
          have d1 : decide (p < 0) = true := decide_eq_true hp0
          have d2 : decide (0 < p) = false := decide_eq_false (by omega)
          go_wp2_with fail
          go_meet
          case rel => exact ⟨by congr 1; omega, rfl⟩
        · rw [if_neg hp0] at hpp
          have w1 : IntKind.i64.wrap ((N : Int) - p) = (N : Int) - p := by rw [IntKind.wrap_i64]; omega
          have d1 : decide (p < 0) = false := decide_eq_false hp0
          go_wp2_with fail
          go_meet
          case rel => exact ⟨by congr 1; omega, rfl⟩
      case rest =>
        obtain ⟨rfl, HV⟩ := hcut
        obtain ⟨bk, hbk⟩ : ∃ bk : Int, (N : Int) - (cutN p : Int) = bk := ⟨_, rfl⟩
        rw [hbk] at BK ⊢
        rw [HV.out]
        clear HV
        have bk1 : bk ≤ 4294967296 := by omega
        obtain ⟨k1, k2⟩ := KV.out
        have CV := hide (CL.out v HB1.out)
        clear CL KV
        go_wp2_with fail
        with_reducible refine CV.out.mono ?_
        rintro e u0 ⟨xa, xc, rfl, ox, bx⟩
        have OX : Hid (OwnVb u0 w.heap.size xa dn xc b) := OwnG.mono ox HB1.out.size
        have BX : Hid (Below w.heap.size w u0) := bel_to HB1.out (Nat.le_refl _) bx
        obtain ⟨k1', k2'⟩ := KS.out u0 BX.out
        have w3 : IntKind.i64.wrap ((j : Int) - 1) = (j : Int) - 1 := by rw [IntKind.wrap_i64]; omega
        clear ox bx CV HB1 k1 k2 hbk
        go_wp2
        go_loopw [8, 9, 10] (fun x y z wr => ∃ (i : Nat) (bk : Int) (a' : Option Addr) (n' c' : Nat) (d : List Int), i ≤ j ∧ bk ≤ 4294967296 ∧ x = .int .i64 bk ∧ y = .slice a' n' c' ∧ z = .int .i64 ((i : Int) - 1) ∧ Hid (BkJ su us h.ps (cutN p) i bk d) ∧ Hid (OwnVb wr w.heap.size a' n' c' d) ∧ Hid (Below w.heap.size w wr)) (fun _ _ z _ => ((intOf z) + 1).toNat)
        case atStart => exact ⟨j, bk, xa, dn, xc, b, Nat.le_refl _, bk1, rfl, rfl, rfl, BK.out, OX.out, BX.out⟩
        case round =>
          clear BK OX BX k1' k2' bk1
          obtain ⟨i, bk, a', n', c', d, hi, bk1, rfl, rfl, rfl, HJ, HO, HB⟩ := hrel
          obtain ⟨y, rfl⟩ : ∃ y, y = wr := ⟨wr, rfl⟩
          obtain ⟨k1, k2⟩ := KS.out y HB.out
          have HDN : Hid (d.length = n') := OwnG.len byV_len (by decide) HO.out
          by_cases hb0 : 0 < bk
          · obtain ⟨i, rfl⟩ : ∃ i', i = i' + 1 := ⟨i - 1, by have := bkJ_pos HJ.out hb0; omega⟩
            obtain ⟨gp, q, r, rfl, hpc, hq, hr, -, hr1, hr2, e0, e1, ol⟩ := PAT.out y HB.out i (by omega)
            have STP := hide (bkJ_step HJ.out hb0 hr)
            have hdle : n' ≤ 8589934592 := by have := bkJ_len HJ.out; have := HDN.out; omega
            have HLL : Hid (r.2.length = q.2.2.1) := OwnG.len byV_len (by decide) ol
            have OL := hide ol
            have NB := hide (fun u => vnumber_any r q.2.1 q.2.2.1 q.2.2.2 u hr1)
            obtain ⟨r1, r2⟩ := r
            obtain ⟨qn, qa, qm, qc⟩ := q
            dsimp only at e0 e1 NB STP HLL OL hr1 hr2
            have n1 : (0 : Int) ≤ (i : Int) := by omega
            have n2 : (i : Int) < (j : Int) := by omega
            have n3 : IntKind.i64.wrap (((i + 1 : Nat) : Int) - 1 - 1) = (i : Int) - 1 := by rw [IntKind.wrap_i64]; omega
            have n4 : ((i + 1 : Nat) : Int) - 1 = (i : Int) := by omega
            have n5 : IntKind.i64.wrap ((i : Int) - 1) = (i : Int) - 1 := by rw [IntKind.wrap_i64]; omega
            rw [n4]
            clear hq hr ol HJ
            by_cases hr0 : 0 < r1
            · have P1 := hide (STP.out.1 hr0)
              have hpn : puN (r1, r2) = r1 := by unfold puN; rw [if_pos hr0]
              rw [hpn] at NB
              have d0 : (0 : Int) < (r1 : Int) := by omega
              by_cases hmn : (r1 : Int) < bk
              · have hmin : min bk (r1 : Int) = (r1 : Int) := by omega
                rw [hmin] at P1
                obtain ⟨v', hv'⟩ : ∃ v' : Nat, (r1 : Int) = (v' : Int) := ⟨((r1 : Int)).toNat, by omega⟩
                have hvn : v' ≤ n' := by have := P1.out.1; have := HDN.out; omega
                have m1 : decide ((r1 : Int) < bk) = true := decide_eq_true hmn
                have m2 : IntKind.i64.wrap ((n' : Int) - (r1 : Int)) = ((n' - v' : Nat) : Int) := by rw [IntKind.wrap_i64]; omega
                have m3 : IntKind.i64.wrap (bk - (r1 : Int)) = bk - (r1 : Int) := by rw [IntKind.wrap_i64]; omega
                have m4 : (n' : Int) - (r1 : Int) = ((n' - v' : Nat) : Int) := by omega
                obtain ⟨nv, hnv⟩ : ∃ nv : Nat, n' - v' = nv := ⟨_, rfl⟩
                rw [hnv] at m2 m4
                have sl := fun u => slice_to16 a' n' c' nv (by have := (OwnG.capped HO.out).1; omega) u
                have HJ2 : Hid (BkJ su us h.ps (cutN p) i (bk - (r1 : Int)) (d.take nv)) := by
                  have := P1.out.2
                  rw [HDN.out, show ((r1 : Int)).toNat = v' by omega, hnv] at this
                  exact this
                have HO2 : Hid (OwnVb y w.heap.size a' nv c' (d.take nv)) := OwnG.cut byV_len (by decide) HO.out (by omega)
                have hbk2 : bk - (r1 : Int) ≤ 4294967296 := by omega
                have SZ : Hid (w.heap.size ≤ y.heap.size) := HB.out.size
                clear P1 STP HO HDN OL HLL hv'
                go_wp2_with fail
                with_reducible refine (NB.out _).mono ?_
                rintro e u ⟨rfl, bu⟩
                have BU : Hid (Below y.heap.size y u) := bel_to (bel_al (Below.refl _ _) (Nat.le_refl _) _) (Nat.le_refl _) bu
                have HO3 : Hid (OwnVb u w.heap.size a' nv c' (d.take nv)) := OwnG.below HO2.out BU.out (Nat.le_refl _)
                have B2 : Hid (Below w.heap.size w u) := bel_to HB.out (Nat.le_refl _) BU.out
                clear bu NB HB HO2 BU e0 e1 k1 k2 SZ
                go_wp2
                go_roundw
                case rel => exact ⟨i, bk - (r1 : Int), a', nv, c', d.take nv, by omega, hbk2, rfl, rfl, rfl, HJ2, HO3, B2⟩
                case measure => first | (simp [intOf]; done) | (simp [intOf]; omega)
              · have hmin : min bk (r1 : Int) = bk := by omega
                rw [hmin] at P1
                obtain ⟨v', hv'⟩ : ∃ v' : Nat, bk = (v' : Int) := ⟨(bk).toNat, by omega⟩
                have hvn : v' ≤ n' := by have := P1.out.1; have := HDN.out; omega
                have m1 : decide ((r1 : Int) < bk) = false := decide_eq_false hmn
                have m2 : IntKind.i64.wrap ((n' : Int) - bk) = ((n' - v' : Nat) : Int) := by rw [IntKind.wrap_i64]; omega
                have m3 : IntKind.i64.wrap 0 = 0 := by rw [IntKind.wrap_i64]; omega
                have m4 : (n' : Int) - bk = ((n' - v' : Nat) : Int) := by omega
                obtain ⟨nv, hnv⟩ : ∃ nv : Nat, n' - v' = nv := ⟨_, rfl⟩
                rw [hnv] at m2 m4
                have sl := fun u => slice_to16 a' n' c' nv (by have := (OwnG.capped HO.out).1; omega) u
                have HJ2 : Hid (BkJ su us h.ps (cutN p) i 0 (d.take nv)) := by
                  have := P1.out.2
                  rw [HDN.out, show (bk).toNat = v' by omega, hnv, Int.sub_self] at this
                  exact this
                have HO2 : Hid (OwnVb y w.heap.size a' nv c' (d.take nv)) := OwnG.cut byV_len (by decide) HO.out (by omega)
                have hbk2 : (0 : Int) ≤ 4294967296 := by omega
                have SZ : Hid (w.heap.size ≤ y.heap.size) := HB.out.size
                clear P1 STP HO HDN OL HLL hv'
                go_wp2_with fail
                with_reducible refine (NB.out _).mono ?_
                rintro e u ⟨rfl, bu⟩
                have BU : Hid (Below y.heap.size y u) := bel_to (bel_al (Below.refl _ _) (Nat.le_refl _) _) (Nat.le_refl _) bu
                have HO3 : Hid (OwnVb u w.heap.size a' nv c' (d.take nv)) := OwnG.below HO2.out BU.out (Nat.le_refl _)
                have B2 : Hid (Below w.heap.size w u) := bel_to HB.out (Nat.le_refl _) BU.out
                clear bu NB HB HO2 BU e0 e1 k1 k2 SZ
                go_wp2
                go_roundw
                case rel => exact ⟨i, 0, a', nv, c', d.take nv, by omega, hbk2, rfl, rfl, rfl, HJ2, HO3, B2⟩
                case measure => first | (simp [intOf]; done) | (simp [intOf]; omega)
            · have P1 := hide (STP.out.2 (by omega))
              have hpn : puN (r1, r2) = 1 := by unfold puN; rw [if_neg hr0]
              rw [hpn] at NB
              have d0 : ¬ (0 : Int) < (r1 : Int) := by omega
              by_cases hmn : (1 : Int) < bk
              · have hmin : min bk (1 : Int) = 1 := by omega
                rw [hmin] at P1
                have m1 : decide ((1 : Int) < bk) = true := decide_eq_true hmn
                have m3 : IntKind.i64.wrap (bk - 1) = bk - 1 := by rw [IntKind.wrap_i64]; omega
                have hbk2 : bk - 1 ≤ 4294967296 := by omega
                have SZ : Hid (w.heap.size ≤ y.heap.size) := HB.out.size
                obtain ⟨u6, hu6⟩ : ∃ u6, Hid (y.alloc (.cells #[.int .i64 (r1 : Int), .slice qa qm qc] 151) = u6) := ⟨_, rfl⟩
                have B6 : Hid (Below y.heap.size y u6) := by rw [← hu6.out]; exact bel_al (Below.refl _ _) (Nat.le_refl _) _
                have x6 : u6.cell? ⟨y.heap.size, 0, none⟩ = some (.int .i64 (r1 : Int)) := by rw [← hu6.out, World.cell?_alloc_mark]; rfl
                have x7 : u6.cell? ⟨y.heap.size, 1, none⟩ = some (.slice qa qm qc) := by rw [← hu6.out, World.cell?_alloc_mark]; rfl
                have H6 : Hid (u6.heap[y.heap.size]? = some (.cells #[.int .i64 (r1 : Int), .slice qa qm qc] 151 (0, 0))) := by rw [← hu6.out]; exact heap_alloc_new y _
                have OL6 := hide (OwnG.cellsAll (OwnG.below OL.out B6.out (Nat.le_refl _)))
                have CP6 := hide (OwnG.capped OL.out).2
                clear STP
                go_upto_region 13 with fail
                rw [hu6.out]
                clear hu6 e0 e1
                go_wp2_with (at_builtin; refine wpList_app_g byV_len (by decide) byV_one1 _ rfl _ _ 57 rfl w.heap.size i0 (.int .u8 0) 1 Tryz.underlying57 hi0 hz00 hz01 hz02 rfl a' n' c' d rfl (OwnG.below HO.out B6.out (Nat.le_refl _)) qa qm qc r2 rfl HLL.out OL6.out CP6.out (by have := HLL.out; omega) (by have := HLL.out; omega) (by have := B6.out.size; have := SZ.out; omega) ?_)
                intro a3 c3 w3 o3 g3
                have O3 : Hid (OwnVb w3 w.heap.size a3 (n' + qm) c3 (d ++ r2)) := o3
                have K3 : Hid (Below w.heap.size u6 w3) := (Ch.grown g3).below (by have := B6.out.size; have := SZ.out; omega) (fun j hj e => by have := (OwnG.cellsT HO.out j e).2; omega)
                have H7 : w3.heap[y.heap.size]? = some (.cells #[.int .i64 (r1 : Int), .slice qa qm qc] 151 (0, 0)) := ((Ch.grown g3).block _ (Array.getElem?_eq_some_iff.1 H6.out).1 (fun e => by have := (OwnG.cellsT HO.out _ e).1.lt; omega)).trans H6.out
                have y6 : w3.cell? ⟨y.heap.size, 0, none⟩ = some (.int .i64 (r1 : Int)) := by rw [cell_of_row w3 y.heap.size 0 _ _ (0, 0) H7]; rfl
                have y7 : w3.cell? ⟨y.heap.size, 1, none⟩ = some (.slice qa qm qc) := by rw [cell_of_row w3 y.heap.size 1 _ _ (0, 0) H7]; rfl
                have B7 : Hid (Below w.heap.size w w3) := HB.out.trans ((B6.out.mono SZ.out).trans K3.out)
                have HJ2 : Hid (BkJ su us h.ps (cutN p) i (bk - 1) (d ++ r2)) := P1.out
                clear o3 g3 H7 H6 K3 B6 HO HDN OL HLL OL6 CP6 P1 HB x6 x7 k1 k2
                go_wp2_with fail
                with_reducible refine (NB.out _).mono ?_
                rintro e u ⟨rfl, bu⟩
                have HO3 : Hid (OwnVb u w.heap.size a3 (n' + qm) c3 (d ++ r2)) := OwnG.below O3.out bu (Nat.le_refl _)
                have B2 : Hid (Below w.heap.size w u) := bel_to B7.out (Nat.le_refl _) bu
                clear bu NB O3 B7 y6 y7
                go_wp2
                go_roundw
                case rel => exact ⟨i, bk - 1, a3, n' + qm, c3, d ++ r2, by omega, hbk2, rfl, rfl, rfl, HJ2, HO3, B2⟩
                case measure => first | (simp [intOf]; done) | (simp [intOf]; omega)
              · have hmin : min bk (1 : Int) = bk := by omega
                rw [hmin] at P1
                have m1 : decide ((1 : Int) < bk) = false := decide_eq_false hmn
                have m3 : IntKind.i64.wrap 0 = 0 := by rw [IntKind.wrap_i64]; omega
                have hbk2 : (0 : Int) ≤ 4294967296 := by omega
                have SZ : Hid (w.heap.size ≤ y.heap.size) := HB.out.size
                obtain ⟨u6, hu6⟩ : ∃ u6, Hid (y.alloc (.cells #[.int .i64 (r1 : Int), .slice qa qm qc] 151) = u6) := ⟨_, rfl⟩
                have B6 : Hid (Below y.heap.size y u6) := by rw [← hu6.out]; exact bel_al (Below.refl _ _) (Nat.le_refl _) _
                have x6 : u6.cell? ⟨y.heap.size, 0, none⟩ = some (.int .i64 (r1 : Int)) := by rw [← hu6.out, World.cell?_alloc_mark]; rfl
                have x7 : u6.cell? ⟨y.heap.size, 1, none⟩ = some (.slice qa qm qc) := by rw [← hu6.out, World.cell?_alloc_mark]; rfl
                have H6 : Hid (u6.heap[y.heap.size]? = some (.cells #[.int .i64 (r1 : Int), .slice qa qm qc] 151 (0, 0))) := by rw [← hu6.out]; exact heap_alloc_new y _
                have OL6 := hide (OwnG.cellsAll (OwnG.below OL.out B6.out (Nat.le_refl _)))
                have CP6 := hide (OwnG.capped OL.out).2
                clear STP
                go_upto_region 13 with fail
                rw [hu6.out]
                clear hu6 e0 e1
                go_wp2_with (at_builtin; refine wpList_app_g byV_len (by decide) byV_one1 _ rfl _ _ 57 rfl w.heap.size i0 (.int .u8 0) 1 Tryz.underlying57 hi0 hz00 hz01 hz02 rfl a' n' c' d rfl (OwnG.below HO.out B6.out (Nat.le_refl _)) qa qm qc r2 rfl HLL.out OL6.out CP6.out (by have := HLL.out; omega) (by have := HLL.out; omega) (by have := B6.out.size; have := SZ.out; omega) ?_)
                intro a3 c3 w3 o3 g3
                have O3 : Hid (OwnVb w3 w.heap.size a3 (n' + qm) c3 (d ++ r2)) := o3
                have K3 : Hid (Below w.heap.size u6 w3) := (Ch.grown g3).below (by have := B6.out.size; have := SZ.out; omega) (fun j hj e => by have := (OwnG.cellsT HO.out j e).2; omega)
                have H7 : w3.heap[y.heap.size]? = some (.cells #[.int .i64 (r1 : Int), .slice qa qm qc] 151 (0, 0)) := ((Ch.grown g3).block _ (Array.getElem?_eq_some_iff.1 H6.out).1 (fun e => by have := (OwnG.cellsT HO.out _ e).1.lt; omega)).trans H6.out
                have y6 : w3.cell? ⟨y.heap.size, 0, none⟩ = some (.int .i64 (r1 : Int)) := by rw [cell_of_row w3 y.heap.size 0 _ _ (0, 0) H7]; rfl
                have y7 : w3.cell? ⟨y.heap.size, 1, none⟩ = some (.slice qa qm qc) := by rw [cell_of_row w3 y.heap.size 1 _ _ (0, 0) H7]; rfl
                have B7 : Hid (Below w.heap.size w w3) := HB.out.trans ((B6.out.mono SZ.out).trans K3.out)
                have HJ2 : Hid (BkJ su us h.ps (cutN p) i 0 (d ++ r2)) := by have := P1.out; rw [Int.sub_self] at this; exact this
                clear o3 g3 H7 H6 K3 B6 HO HDN OL HLL OL6 CP6 P1 HB x6 x7 k1 k2
                go_wp2_with fail
                with_reducible refine (NB.out _).mono ?_
                rintro e u ⟨rfl, bu⟩
                have HO3 : Hid (OwnVb u w.heap.size a3 (n' + qm) c3 (d ++ r2)) := OwnG.below O3.out bu (Nat.le_refl _)
                have B2 : Hid (Below w.heap.size w u) := bel_to B7.out (Nat.le_refl _) bu
                clear bu NB O3 B7 y6 y7
                go_wp2
                go_roundw
                case rel => exact ⟨i, 0, a3, n' + qm, c3, d ++ r2, by omega, hbk2, rfl, rfl, rfl, HJ2, HO3, B2⟩
                case measure => first | (simp [intOf]; done) | (simp [intOf]; omega)
          · have HE := hide (bkJ_end HJ.out (by omega))
            go_wp2
            go_ret
            exact ⟨a', n', c', rfl, by rw [← HE.out, HDN.out], by rw [← HE.out]; exact HO.out, HB.out⟩
end Go.Proofs.YtknghoecjobkiabGreatDoor

namespace Go.Proofs.YtknghoecjobkiabGreatDoor
open Go.RowKit Go.Maps
set_option maxRecDepth 20000
set_option linter.unusedVariables false

theorem flat_st (l : List ByteArray) : l.flatMap stV = l.map Value.string := by
  induction l with
  | nil => rfl
  | cons z t ih => rw [List.flatMap_cons, ih]; rfl
theorem enc_names (l : List ByteArray) : (l.map (·.toList)).map encStr = l.map Value.string := by
  rw [List.map_map]
  refine List.map_congr_left (fun y _ => ?_)
  show encStr y.toList = _
  unfold encStr
  rw [ByteArray.toList_eq]
theorem keysV_any (mb : Option Nat) (w : World) :
    Calls Tryz.prog 32 #[.map mb] w fun e w' => e = .returned (.func (.func 69) #[] #[.pointer (some ⟨w.heap.size, 0, none⟩)]) ∧ w' = w.alloc (.cells #[.map mb] 67) :=
  callsIn_wide.1 (Tryz.maps_Keys_32 mb w)
/-- The names of a map in order. -/
theorem sortedV_any (b n : Nat) (fb : List Nat) (D : List Dn) (hD : NamesD D) (w : World) (hM : MapS w b n (nmV fb D)) (hl : D.length ≤ 4294967296) :
    Calls Tryz.prog 31 #[.func (.func 69) #[] #[.pointer (some ⟨w.heap.size, 0, none⟩)]] (w.alloc (.cells #[.map (some b)] 67)) fun e w' =>
      ∃ a c, e = .returned (.slice a (listD D).length c) ∧ OwnVs w' w.heap.size a (listD D).length c (listD D) ∧ Below w.heap.size w w' := by
  have b1 : Below w.heap.size w (w.alloc (.cells #[.map (some b)] 67)) := (Below.refl _ _).alloc (Nat.le_refl _) _
  have s1 : w.heap.size ≤ (w.alloc (.cells #[.map (some b)] 67)).heap.size := b1.size
  obtain ⟨X, hX, hR⟩ := hM
  obtain ⟨esz, hperm0⟩ := size_of hX hR hD.once (names_mem hD)
  rw [List.length_map] at esz
  obtain ⟨hn, hm⟩ := keys_mem hX
  obtain ⟨l1, l2, l3⟩ := listD_names hD
  refine (callsIn_wide.1 (Tryz.slices_Sorted_keys_31_32 b n X heldE w hX (by unfold maxLen; omega) (by omega))).mono ?_
  rintro e w' ⟨v, ss, rfl, hperm, hrow, -, hb⟩
  have e1 : ss.mergeSort (fun x y => decide (x ≤ y)) = (listD D).map (·.toList) := by
    refine sorted_keys hperm hn ?_ (fun x => ?_)
    · rw [List.pairwise_map]
      exact l2
    · rw [hm, ← ba_of', hR.has, nmV_some, List.mem_map]
      constructor
      · rintro ⟨y, hy, rfl⟩
        rw [show (⟨y.toList.toArray⟩ : ByteArray) = y from ba_ext (by rw [ByteArray.toList_eq, ByteArray.toList_eq])]
        exact (l1 y).1 hy
      · intro h
        exact ⟨_, (l1 _).2 h, by rw [ByteArray.toList_eq]⟩
  have hlen : ss.length = (listD D).length := by
    have := congrArg List.length e1
    rw [List.length_mergeSort, List.length_map] at this
    exact this
  rw [e1, enc_names, hlen] at hrow
  obtain ⟨a, c, rfl⟩ := row_form hrow
  refine ⟨a, c, rfl, ?_, bel_to b1 (Nat.le_refl _) hb⟩
  have := Joins.ownsRow_le hrow s1
  show OwnG _ _ _ _ _ _ _ _ _
  unfold OwnG
  rw [flat_st]
  exact this

set_option maxHeartbeats 2000000 in
theorem llist_any (g : Nat) (S : Nat → Prop) (F : Fs) (m : Nat) (w : World) (hF : LAt w g S F) (hL : Lim m F) (hm : m ≤ 1073741824) :
    Calls Tryz.prog 13 #[.pointer (some ⟨g, 0, none⟩)] w fun e w' => ∃ a c, e = .returned (.slice a (listF F).length c) ∧ OwnVs w' w.heap.size a (listF F).length c (listF F) ∧ Below w.heap.size w w' := by
  obtain ⟨hV, hN, fb, fh, bn, bc, at', ct, B⟩ := hF
  have c0 := B.c0
  have hdl : (dirF F).length ≤ 4294967296 := by
    have := turnsD_len F.turns F.sure
    have h1 := hL.sure
    have h2 := hL.turns
    unfold dirF
    omega
  have SV := hide (sortedV_any bn _ fb (dirF F) hN.dir w B.names hdl)
  rw [show listD (dirF F) = listF F from rfl] at SV
  generalize listF F = LF at SV ⊢
  generalize LF.length = lf at SV ⊢
  clear B hV hN hL hdl
  go_enter Tryz.func13, Tryz.ntmps13
  go_wp2_with fail
  with_reducible refine (keysV_any _ _).mono ?_
  rintro e u ⟨rfl, hu⟩
  rw [hu]
  clear hu
  go_wp2_with fail
  with_reducible refine SV.out.mono ?_
  rintro e u ⟨a, c, rfl, o, b⟩
  have O := hide o
  have B := hide b
  clear o b SV
  go_wp2
  go_ret
  exact ⟨a, c, rfl, O.out, B.out⟩

/-! ### Names in the order of their files -/
def cmpI (x y : Int) : Int := if x < y then -1 else if y < x then 1 else 0
theorem isnanI_any (x : Int) (w : World) : Calls Tryz.prog 80 #[.int .i64 x] w fun e w' => e = .returned (.bool false) ∧ w' = w := by
  go_enter Tryz.func80, Tryz.ntmps80
  go_wp2
  go_ret
  exact ⟨rfl, rfl⟩
theorem compareI_any (x y : Int) (w : World) : Calls Tryz.prog 44 #[.int .i64 x, .int .i64 y] w fun e w' => e = .returned (.int .i64 (cmpI x y)) ∧ w' = w := by
  obtain ⟨r, hr⟩ : ∃ r, cmpI x y = r := ⟨_, rfl⟩
  rw [hr]
  unfold cmpI at hr
  by_cases h1 : x < y
  · rw [if_pos h1] at hr
    subst hr
    go_enter Tryz.func44, Tryz.ntmps44
    go_wp2_with fail
    with_reducible refine (isnanI_any x _).mono ?_
    rintro e u ⟨rfl, hu⟩
    rw [hu]
    clear hu
    go_wp2_with fail
    with_reducible refine (isnanI_any y _).mono ?_
    rintro e u ⟨rfl, hu⟩
    rw [hu]
    clear hu
    go_wp2
    go_ret
    exact ⟨rfl, rfl⟩
  · rw [if_neg h1] at hr
    by_cases h2 : y < x
    · rw [if_pos h2] at hr
      subst hr
      go_enter Tryz.func44, Tryz.ntmps44
      go_wp2_with fail
      with_reducible refine (isnanI_any x _).mono ?_
      rintro e u ⟨rfl, hu⟩
      rw [hu]
      clear hu
      go_wp2_with fail
      with_reducible refine (isnanI_any y _).mono ?_
      rintro e u ⟨rfl, hu⟩
      rw [hu]
      clear hu
      go_wp2
      go_ret
      exact ⟨rfl, rfl⟩
    · rw [if_neg h2] at hr
      subst hr
      go_enter Tryz.func44, Tryz.ntmps44
      go_wp2_with fail
      with_reducible refine (isnanI_any x _).mono ?_
      rintro e u ⟨rfl, hu⟩
      rw [hu]
      clear hu
      go_wp2_with fail
      with_reducible refine (isnanI_any y _).mono ?_
      rintro e u ⟨rfl, hu⟩
      rw [hu]
      clear hu
      go_wp2
      go_ret
      exact ⟨rfl, rfl⟩

set_option maxHeartbeats 2000000 in
theorem birth_any (W : World) (bx b px py : Nat) (x y : ByteArray) (fx fy : Int) (c0 : W.cell? ⟨bx, 0, none⟩ = some (.map (some b)))
    (lx : ∀ n, (Instr.lookup 67 (.map (some b)) (.string x) false).run Tryz.prog (W.drewN n) = .ok (.pointer (some ⟨px, 0, none⟩)) (W.drewN n)) (ly : ∀ n, (Instr.lookup 67 (.map (some b)) (.string y) false).run Tryz.prog (W.drewN n) = .ok (.pointer (some ⟨py, 0, none⟩)) (W.drewN n))
    (cx : W.cell? ⟨px, 0, none⟩ = some (.int .i64 fx)) (cy : W.cell? ⟨py, 0, none⟩ = some (.int .i64 fy)) :
    Calls Tryz.prog 43 #[.string x, .string y, .pointer (some ⟨bx, 0, none⟩)] W fun e w' => e = .returned (.int .i64 (cmpI fx fy)) ∧ ∃ q, w' = W.drewN q := by
  have CI := hide (fun u => compareI_any fx fy u)
  generalize cmpI fx fy = r at CI ⊢
  have lx1 := lx 1
  have ly1 := ly 1
  clear lx ly
  go_enter Tryz.func43, Tryz.ntmps43
  go_upto_region 1 with fail
  refine wp_region_held_drew (S := fun u => u.cell? ⟨bx, 0, none⟩ = some (.map (some b)) ∧ u.cell? ⟨px, 0, none⟩ = some (.int .i64 fx) ∧ u.cell? ⟨py, 0, none⟩ = some (.int .i64 fy) ∧ (Instr.lookup 67 (.map (some b)) (.string x) false).run Tryz.prog u = .ok (.pointer (some ⟨px, 0, none⟩)) u ∧ (Instr.lookup 67 (.map (some b)) (.string y) false).run Tryz.prog u = .ok (.pointer (some ⟨py, 0, none⟩)) u) (by kernel_rfl) ⟨c0, cx, cy, lx1, ly1⟩ (fun hHeld => ?_)
  refine held_tk 0 (some 6) rfl rfl ?_
  refine held_tk 1 (some 7) rfl rfl ?_
  refine held_tk 2 (some 8) rfl rfl ?_
  refine held_tk 3 (some 9) rfl rfl ?_
  refine held_tk 4 (some 10) rfl rfl ?_
  refine held_tk 5 (some 11) rfl rfl ?_
  refine held_tk 6 (some 12) rfl rfl ?_
  refine held_tk 7 (some 13) rfl rfl ?_
  refine held_tk 8 (some 14) rfl rfl ?_
  refine held_tk 9 (some 15) rfl rfl ?_
  refine held_tk 10 (some 16) rfl rfl ?_
  refine held_tk 11 (some 17) rfl rfl ?_
  refine held_next (i := 12) (by kernel_rfl) rfl (by rfl) (fun K1 hK1 => ?_)
  go_simp
  with_reducible refine (CI.out _).mono ?_
  rintro e u ⟨rfl, hu⟩
  rw [hu]
  clear hu CI
  go_wp2_with fail
  refine hK1.out _ _ ⟨c0, cx, cy, lx1, ly1⟩ ?_
  clear hK1
  refine held_tk 13 (some 5) rfl rfl ?_
  clear hHeld
  refine wpAnyH_done (by kernel_rfl) ?_ _
  go_wp2
  go_ret
  exact ⟨rfl, 1, rfl⟩

/-- A name of these. -/
abbrev NmD (D : List Dn) := { p : Dn // p ∈ D }
def encD {D : List Dn} (p : NmD D) : Value := .string p.1.nm
def cmpD {D : List Dn} (x y : NmD D) : Int := cmpI (x.1.f : Int) (y.1.f : Int)
theorem ltD' {D : List Dn} (x y : NmD D) : ltOf cmpD x y = decide (x.1.f < y.1.f) := by
  unfold ltOf cmpD cmpI
  by_cases h1 : (x.1.f : Int) < (y.1.f : Int)
  · rw [if_pos h1, decide_eq_true (show x.1.f < y.1.f by omega)]; rfl
  · rw [if_neg h1, decide_eq_false (show ¬ x.1.f < y.1.f by omega)]
    by_cases h2 : (y.1.f : Int) < (x.1.f : Int)
    · rw [if_pos h2]; rfl
    · rw [if_neg h2]; rfl
theorem swoD {D : List Dn} : Go.Sort.SWO (ltOf (cmpD (D := D))) where
  irrefl x := by rw [ltD']; simp
  trans x y z h1 h2 := by rw [ltD', decide_eq_true_eq] at *; omega
  ntrans x y z h1 h2 := by rw [ltD', decide_eq_false_iff_not] at *; omega
theorem map_surj {α β : Type} (f : α → β) : ∀ {l : List β}, (∀ x ∈ l, ∃ p, f p = x) → ∃ r : List α, r.map f = l := by
  intro l
  induction l with
  | nil => intro _; exact ⟨[], rfl⟩
  | cons x t ih =>
    intro h
    obtain ⟨p, hp⟩ := h x (by simp)
    obtain ⟨r, hr⟩ := ih (fun y hy => h y (by simp [hy]))
    exact ⟨p :: r, by rw [List.map_cons, hp, hr]⟩
theorem sorted_kept {D : List Dn} (hD : NamesD D) {m : Nat} (hm : FilesIn m D) {l : List (NmD D)} {ss : List (List UInt8)} (hl : l.map (fun p => p.1.nm.toList) = ss) (hn : ss.Nodup) (hmem : ∀ p ∈ D, p.nm.toList ∈ ss) :
    (l.mergeSort fun x y => !(ltOf cmpD) y x).map (·.1) = keptF D m := by
  have hp := List.mergeSort_perm l (fun x y => !(ltOf cmpD) y x)
  have hs : (l.mergeSort fun x y => !(ltOf cmpD) y x).Pairwise (fun x y => x.1.f ≤ y.1.f) := by
    have := List.pairwise_mergeSort (le := fun x y : NmD D => !(ltOf cmpD) y x) (fun x y z h1 h2 => by
      simp only [ltD', Bool.not_eq_true', decide_eq_false_iff_not] at *
      omega) (fun x y => by
      simp only [ltD', Bool.or_eq_true, Bool.not_eq_true', decide_eq_false_iff_not]
      omega) l
    exact this.imp (fun h => by simp only [ltD', Bool.not_eq_true', decide_eq_false_iff_not] at h; omega)
  have hnd : (l.mergeSort fun x y => !(ltOf cmpD) y x).Nodup := by
    refine hp.nodup_iff.2 ?_
    rw [← hl] at hn
    exact (List.pairwise_map.1 hn).imp (fun h e => h (by rw [e]))
  have hst : (l.mergeSort fun x y => !(ltOf cmpD) y x).Pairwise (fun x y => x.1.f < y.1.f) := by
    refine (hs.and hnd).imp (fun {x y} h => ?_)
    have : x.1.f ≠ y.1.f := fun e => h.2 (Subtype.ext (inj_of_nodup hD.files x.2 y.2 e))
    have := h.1
    omega
  refine sorted_one (·.f) (List.pairwise_map.2 hst) (keptF_sorted hD.files m) (fun x => ?_)
  rw [keptF_mem hm, List.mem_map]
  constructor
  · rintro ⟨p, _, rfl⟩
    exact p.2
  · intro hx
    have h1 := hmem x hx
    rw [← hl, List.mem_map] at h1
    obtain ⟨p, hp1, e⟩ := h1
    have : p.1 = x := by
      refine inj_of_nodup hD.once p.2 hx (ba_ext e)
    exact ⟨p, hp.mem_iff.2 hp1, this⟩
theorem sortedV_below {α : Type} [Inhabited α] {enc : α → Value} {w : World} {base g m : Nat} {d : Array α} {os : Array Obj} (hg : base ≤ g) (hB : base ≤ w.heap.size) : Below base w (sortWorld enc w g 0 m d os) := by
  refine ⟨rfl, rfl, rfl, ?_, fun k hk => ?_⟩
  · show w.heap.size ≤ (w.heap.modify g _ ++ os).size
    rw [Array.size_append, Array.size_modify]
    omega
  · show (w.heap.modify g _ ++ os)[k]? = w.heap[k]?
    rw [Array.getElem?_append_left (by rw [Array.size_modify]; omega), Array.getElem?_modify, if_neg (by omega)]
theorem holds_names {D : List Dn} [Inhabited (NmD D)] {w : World} {g n c : Nat} {l : List (NmD D)} (h : w.ownsRow 0 9 1 (.slice (some ⟨g, 0, none⟩) n c) n (l.map encD)) : Go.Sort.Holds encD w g 0 l.toArray := by
  have hl : l.length = n := by simpa using h.1
  intro j hj
  have hj' : j < n := by simpa [hl] using hj
  have hjl : j < l.length := by omega
  refine ⟨?_, h.frozenAt _⟩
  have := h.cellAt j (by omega)
  rw [Nat.zero_add, this, List.getElem?_map, List.getElem?_eq_getElem hjl, getElem!_pos l.toArray j hj]
  simp

set_option maxHeartbeats 4000000 in
theorem byBirth_any (D : List Dn) (hD : NamesD D) (m : Nat) (hm : FilesIn m D) (b n : Nat) (fb : List Nat) (bx : Nat) (w : World) (hM : MapS w b n (nmV fb D)) (hbx : w.cell? ⟨bx, 0, none⟩ = some (.map (some b))) (hf : ∀ d ∈ D, w.cell? ⟨fb.getD d.f 0, 0, none⟩ = some (.int .i64 (d.f : Int))) (hl : D.length ≤ 4294967296) :
    Calls Tryz.prog 42 #[.func (.func 69) #[] #[.pointer (some ⟨w.heap.size, 0, none⟩)], .func (.func 43) #[] #[.pointer (some ⟨bx, 0, none⟩)]] (w.alloc (.cells #[.map (some b)] 67)) fun e w' =>
      ∃ a k c, e = .returned (.slice a k c) ∧ RowX w' a k ((keptF D m).map (·.nm)) ∧ Below w.heap.size w w' := by
  have b1 : Below w.heap.size w (w.alloc (.cells #[.map (some b)] 67)) := (Below.refl _ _).alloc (Nat.le_refl _) _
  have s1 : w.heap.size ≤ (w.alloc (.cells #[.map (some b)] 67)).heap.size := b1.size
  have HM := hide hM
  obtain ⟨X, hX, hR⟩ := hM
  obtain ⟨esz, -⟩ := size_of hX hR hD.once (names_mem hD)
  rw [List.length_map] at esz
  obtain ⟨hn, hmx⟩ := keys_mem hX
  have CO := hide ((callsIn_wide.1 (Tryz.slices_Collect_keys b n X heldE w hX (by unfold maxLen; omega) (by omega))).mono (R' := fun e w' => ∃ (v : Value) (l : List (NmD D)), e = .returned v ∧ w'.ownsRow w.heap.size 9 1 v l.length (l.map encD) ∧ (l.mergeSort fun x y => !(ltOf cmpD) y x).map (·.1) = keptF D m ∧ l.length ≤ 4294967296 ∧ Below w.heap.size w w') (by
    rintro e w' ⟨v, ss, rfl, hperm, hrow, -, hb⟩
    have hsn : ss.Nodup := hperm.nodup_iff.2 hn
    have hmem : ∀ x, x ∈ ss ↔ ∃ p ∈ D, p.nm.toList = x := fun x => by
      rw [hperm.mem_iff, hmx, ← ba_of', hR.has, ← names_mem hD, List.mem_map]
      constructor
      · rintro ⟨p, hp, e⟩
        exact ⟨p, hp, by rw [e, ByteArray.toList_eq]⟩
      · rintro ⟨p, hp, rfl⟩
        exact ⟨p, hp, ba_ext (by rw [ByteArray.toList_eq, ByteArray.toList_eq])⟩
    obtain ⟨l, hl2⟩ := map_surj (fun p : NmD D => p.1.nm.toList) (l := ss) (fun x hx => by
      obtain ⟨p, hp, e⟩ := (hmem x).1 hx
      exact ⟨⟨p, hp⟩, e⟩)
    have hll : ss.length = l.length := by rw [← hl2, List.length_map]
    have hlD : l.length ≤ 4294967296 := by
      rw [← hll, hperm.length_eq, strKeys_len hX, esz]; exact hl
    have he : ss.map encStr = l.map encD := by
      rw [← hl2, List.map_map]
      refine List.map_congr_left (fun p _ => ?_)
      show encStr p.1.nm.toList = .string p.1.nm
      unfold encStr
      rw [ByteArray.toList_eq]
    rw [he, hll] at hrow
    exact ⟨v, l, rfl, Joins.ownsRow_le hrow s1, sorted_kept hD hm hl2 hsn (fun p hp => (hmem _).2 ⟨p, hp, rfl⟩), hlD, bel_to b1 (Nat.le_refl _) hb⟩))
  have HF := hide hf
  have HBX := hide hbx
  have HD := hide hD
  clear hX hR hn hmx esz hD hm hf hl b1 s1
  go_enter Tryz.func42, Tryz.ntmps42
  go_wp2_with fail
  with_reducible refine CO.out.mono ?_
  rintro e w2 ⟨v, l, rfl, hrow, hk, hlen, b2⟩
  have hr0 := hrow
  rcases hrow.2 with ⟨rfl, hz⟩ | ⟨gb, cap, cur, rfl, hbase, hgb, r1, r2, r3, r4⟩
  · have hl0 : l = [] := List.length_eq_zero_iff.1 hz
    subst hl0
    have SF := hide (Tryz.slices_SortFunc_empty none 0 (.func (.func 43) #[] #[.pointer (some ⟨bx, 0, none⟩)]) w2)
    have HK : Hid ((keptF D m).map (·.nm) = []) := by show _ = _; rw [← hk]; simp
    have B2 := hide b2
    clear hrow hr0 hk b2 CO hz
    go_wp2_with fail
    with_reducible refine SF.out.mono ?_
    rintro e u ⟨rfl, hu⟩
    rw [hu]
    clear hu SF
    go_wp2
    go_ret
    exact ⟨none, 0, 0, rfl, by rw [HK.out]; exact ⟨rfl, by omega, Or.inl rfl⟩, B2.out⟩
  · cases l with
    | nil =>
      have SF := hide (Tryz.slices_SortFunc_empty (some ⟨gb, 0, none⟩) cap (.func (.func 43) #[] #[.pointer (some ⟨bx, 0, none⟩)]) w2)
      have HK : Hid ((keptF D m).map (·.nm) = []) := by show _ = _; rw [← hk]; simp
      have B2 := hide b2
      clear hrow hr0 hk b2 CO r1 r2 r3 r4 hgb
      go_wp2_with fail
      with_reducible refine SF.out.mono ?_
      rintro e u ⟨rfl, hu⟩
      rw [hu]
      clear hu SF
      go_wp2
      go_ret
      exact ⟨some ⟨gb, 0, none⟩, 0, cap, rfl, by rw [HK.out]; exact ⟨rfl, by omega, Or.inl rfl⟩, B2.out⟩
    | cons p0 t =>
      have iN : Inhabited (NmD D) := ⟨p0⟩
      generalize p0 :: t = l at *
      have hgl : gb < w2.heap.size := (Array.getElem?_eq_some_iff.1 hgb).1
      have hH : Go.Sort.Holds encD w2 gb 0 l.toArray := holds_names (row_mono hr0 (Nat.zero_le _))
      have hcmp : CmpLays1 Tryz.prog 43 #[.pointer (some ⟨bx, 0, none⟩)] (encD (D := D)) cmpD gb 0 l.toArray.size w2 := by
        intro mm os dk _ x y
        have bw : Below w.heap.size w (sortWorld encD w2 gb 0 mm dk os) := b2.trans (sortedV_below hbase b2.size)
        have mw := HM.out.below bw
        have lk : ∀ (z : NmD D) (q : Nat), (Instr.lookup 67 (.map (some b)) (.string z.1.nm) false).run Tryz.prog ((sortWorld encD w2 gb 0 mm dk os).drewN q) = .ok (.pointer (some ⟨fb.getD z.1.f 0, 0, none⟩)) ((sortWorld encD w2 gb 0 mm dk os).drewN q) := fun z q => by
          have := look_name1 (mw.drewN q) (mayN_max (HD.out.may _ z.2))
          rw [fileD_at HD.out z.2] at this
          exact this
        refine (birth_any (sortWorld encD w2 gb 0 mm dk os) bx b (fb.getD x.1.f 0) (fb.getD y.1.f 0) x.1.nm y.1.nm (x.1.f : Int) (y.1.f : Int) ((bw.cell (p := ⟨bx, 0, none⟩) (World.block_lt_of_cell? w _ HBX.out)).trans HBX.out) (lk x) (lk y) ?_ ?_).mono ?_
        · exact (bw.cell (p := ⟨fb.getD x.1.f 0, 0, none⟩) (World.block_lt_of_cell? w _ (HF.out _ x.2))).trans (HF.out _ x.2)
        · exact (bw.cell (p := ⟨fb.getD y.1.f 0, 0, none⟩) (World.block_lt_of_cell? w _ (HF.out _ y.2))).trans (HF.out _ y.2)
        · rintro e w' ⟨rfl, q, rfl⟩
          exact ⟨rfl, q, #[], by rw [Go.Sort.grow_empty]⟩
      have SF := hide (Tryz.slices_SortFunc_laid (α := NmD D) encD (fun p => rfl) cmpD swoD 43 #[.pointer (some ⟨bx, 0, none⟩)] gb 0 cap l.toArray w2 (enters_of Tryz.func43 (by kernel_rfl) rfl) hcmp hH hgl (by rw [List.size_toArray]; omega) (fun x y h1 h2 => by
        rw [ltD', decide_eq_false_iff_not] at h1 h2
        exact Subtype.ext (inj_of_nodup HD.out.files x.2 y.2 (by omega))))
      rw [List.size_toArray] at SF
      have FIN : Hid (∀ (n : Nat) (os : Array Obj), RowX (sortWorld encD w2 gb 0 n (l.toArray.toList.mergeSort fun x y => !(ltOf cmpD) y x).toArray os) (some ⟨gb, 0, none⟩) l.length ((keptF D m).map (·.nm)) ∧ Below w.heap.size w (sortWorld encD w2 gb 0 n (l.toArray.toList.mergeSort fun x y => !(ltOf cmpD) y x).toArray os)) := fun n os => by
        rw [List.toList_toArray, ← hk]
        refine ⟨⟨by rw [List.length_map, List.length_map, List.length_mergeSort], by omega, Or.inr ⟨gb, 0, rfl, fun i hi => ?_⟩⟩, b2.trans (sortedV_below hbase b2.size)⟩
        have hh := holds_sortWorld encD w2 gb 0 n l.toArray (l.mergeSort fun x y => !(ltOf cmpD) y x).toArray os hgl hH (by simp)
        have hi2 : i < (l.mergeSort fun x y => !(ltOf cmpD) y x).length := by rw [List.length_mergeSort]; exact hi
        have := (hh i (by simpa using hi2)).1
        rw [this, getElem!_pos _ i (by simpa using hi2), List.getD_eq_getElem?_getD, List.getElem?_map, List.getElem?_map, List.getElem?_eq_getElem hi2]
        rfl
      obtain ⟨ln, hln⟩ : ∃ ln, l.length = ln := ⟨_, rfl⟩
      rw [hln] at SF FIN ⊢
      clear hrow hr0 hk b2 CO r1 r2 r3 r4 hgb hcmp hH HM HF HBX
      go_wp2_with fail
      with_reducible refine SF.out.mono ?_
      rintro e u ⟨rfl, nn, os, hu⟩
      have F1 := hide (FIN.out nn os)
      rw [← hu] at F1
      clear hu SF FIN
      go_wp2
      go_ret
      exact ⟨some ⟨gb, 0, none⟩, ln, cap, rfl, F1.out.1, F1.out.2⟩
end Go.Proofs.YtknghoecjobkiabGreatDoor

namespace Go.Proofs.YtknghoecjobkiabGreatDoor
open Go.RowKit Go.Maps
set_option maxRecDepth 20000
set_option linter.unusedVariables false

/-- What is left of a file. -/
def leftF (F : Fs) (ps : List Int) (i : Nat) (x : Dn) : List Int := unsB (atF F x.f).sure ((atF F x.f).us.take (cutN (pickF ps i)))
/-- The first k files that are left. -/
def crashK (F : Fs) (d : List Dn) (ps : List Int) (k : Nat) : Fs := { fs0 with files := (d.take k).mapIdx fun i x => ⟨leftF F ps i x, []⟩, sure := (d.take k).mapIdx fun i x => ⟨x.nm, i⟩ }
theorem crashK_zero (F : Fs) (d : List Dn) (ps : List Int) : crashK F d ps 0 = fs0 := by unfold crashK; simp [fs0]
theorem crashK_step {F : Fs} {d : List Dn} {ps : List Int} {k : Nat} {x : Dn} (hx : d[k]? = some x) : layF (crashK F d ps k) x.nm (leftF F ps k x) = crashK F d ps (k + 1) := by
  obtain ⟨h1, e1⟩ := List.getElem?_eq_some_iff.1 hx
  unfold layF crashK
  dsimp only
  rw [List.take_succ_eq_append_getElem h1, e1, List.mapIdx_append, List.mapIdx_append, List.length_mapIdx, List.length_take, Nat.min_eq_left (by omega)]
  simp
theorem crashK_end (F : Fs) (ops : Int) (ps : List Int) : crashF F ops ps = crashK F (keptF (turnsD F.sure (F.turns.take (cutN ops))) F.files.length) ps (keptF (turnsD F.sure (F.turns.take (cutN ops))) F.files.length).length := by
  unfold crashF crashK leftF
  dsimp only
  rw [List.take_length]
theorem crashK_name {F : Fs} {d : List Dn} {ps : List Int} {k : Nat} {x : Dn} (h : (d.map (·.nm)).Nodup) (hx : d[k]? = some x) : fileD (crashK F d ps k).sure x.nm = none := by
  cases hf : fileD (crashK F d ps k).sure x.nm with
  | none => rfl
  | some f =>
    have hm := fileD_mem hf
    obtain ⟨h1, e1⟩ := List.getElem?_eq_some_iff.1 hx
    obtain ⟨i, hi, e⟩ := List.mem_mapIdx.1 hm
    have es : (d.take k)[i].nm = x.nm := by simpa using congrArg Dn.nm e
    have hik : i < k := by rw [List.length_take] at hi; omega
    have := List.pairwise_iff_getElem.1 h i k (by rw [List.length_map]; omega) (by rw [List.length_map]; exact h1) hik
    rw [List.getElem_map, List.getElem_map, e1] at this
    rw [List.getElem_take] at es
    exact absurd es this
theorem leftF_len {F : Fs} {m : Nat} (h : Lim m F) (ps : List Int) (i : Nat) (x : Dn) : (leftF F ps i x).length ≤ 2 * m := by
  unfold leftF
  have h1 := unsB_len ((atF F x.f).us.take (cutN (pickF ps i))) (atF F x.f).sure
  rw [List.length_take] at h1
  have h2 : (atF F x.f).sure.length ≤ m ∧ (atF F x.f).us.length ≤ m := by
    unfold atF
    rw [List.getD_eq_getElem?_getD]
    cases e : F.files[x.f]? with
    | none => simp [emF]
    | some y => exact h.each y (List.mem_of_getElem? e)
  omega
theorem leftF_byte {F : Fs} (h : GoodV F) (ps : List Int) (i : Nat) (x : Dn) : ∀ z ∈ leftF F ps i x, 0 ≤ z ∧ z ≤ 255 := by
  unfold leftF
  have hb : (∀ z ∈ (atF F x.f).sure, 0 ≤ z ∧ z ≤ 255) ∧ ∀ u ∈ (atF F x.f).us, (0 ≤ u.b ∧ u.b ≤ 255) := by
    unfold atF
    rw [List.getD_eq_getElem?_getD]
    cases e : F.files[x.f]? with
    | none => exact ⟨fun z hz => by simp [emF] at hz, fun z hz => by simp [emF] at hz⟩
    | some y => exact h.byte y (List.mem_of_getElem? e)
  exact unsB_byte hb.1 (fun u hu => hb.2 u (List.mem_of_mem_take hu))
theorem crashK_lim {F : Fs} {m M : Nat} (h : Lim m F) {d : List Dn} (hd : d.length ≤ 2 * m) (hM : 2 * m ≤ M) (ps : List Int) (k : Nat) : Lim M (crashK F d ps k) := by
  refine ⟨?_, ?_, ?_, ?_, by show (0 : Int) ≤ 0 ∧ (0 : Int) ≤ _; omega⟩
  · show ((d.take k).mapIdx _).length ≤ _
    rw [List.length_mapIdx, List.length_take]; omega
  · show ((d.take k).mapIdx _).length ≤ _
    rw [List.length_mapIdx, List.length_take]; omega
  · show ([] : List Tn).length ≤ _
    simp
  · intro x hx
    obtain ⟨i, hi, rfl⟩ := List.mem_mapIdx.1 hx
    have := leftF_len h ps i (d.take k)[i]
    exact ⟨by dsimp only; omega, by simp⟩
theorem slice_toTu (a : Option Addr) (n cap k : Nat) (hk : k ≤ cap) (w : World) :
    (Instr.slice 68 (.slice a n cap) none (some (.int .i64 (k : Int))) none).run Tryz.prog w = .ok (.slice a k cap) w := by
  rw [run_slice_h (P := Tryz.prog) w 68 a n cap Tryz.underlying68 .i64 (k : Int) (by omega) (by omega)]
  have hs : (sizeOf (Tryz.prog.elem 68)).run Tryz.prog w = .ok 4 w := by kernel_rfl
  rw [hs]
  simp only [Result.andThen, sliced, Int.toNat_natCast, Nat.zero_mul, Nat.sub_zero]
  cases a with
  | none => simp
  | some x => simp [Addr.add]
theorem MapS.heap {w : World} {b n : Nat} {f : ByteArray → Option Value} (h : MapS w b n f) : ∃ es clock, w.heap[b]? = some (.map es clock) := h.isMap
/-- A turn's cells. -/
theorem tu_at {fb : List Nat} {w : World} {a : Option Addr} {n c : Nat} {l : List Tn} (h : OwnTu fb w 0 a n c l) {i : Nat} {t : Tn} (hi : l[i]? = some t) : ∃ g k s u p, a = some ⟨g, 0, none⟩ ∧ i < n ∧ n ≤ c ∧ tuV fb t = [.int .i64 k, .string s, .string u, .pointer p] ∧ w.cell? ⟨g, i * 4, none⟩ = some (.int .i64 k) ∧ w.cell? ⟨g, i * 4 + 1, none⟩ = some (.string s) ∧ w.cell? ⟨g, i * 4 + 2, none⟩ = some (.string u) ∧ w.cell? ⟨g, i * 4 + 3, none⟩ = some (.pointer p) := by
  obtain ⟨g, e1, e2, e3, e4⟩ := OwnG.at (tuV_len fb) (by decide) h hi
  obtain ⟨k, s, u, p, e0⟩ := tuV_four fb t
  rw [e0] at e4
  exact ⟨g, k, s, u, p, e1, e2, e3, e0, e4 0 _ rfl, e4 1 _ rfl, e4 2 _ rfl, e4 3 _ rfl⟩

set_option maxHeartbeats 16000000 in
theorem lcrash_any (g : Nat) (S : Nat → Prop) (F : Fs) (ops : Int) (a : Option Addr) (n c : Nat) (ps : List Int) (m : Nat) (w : World) (hF : LAt w g S F) (hL : Lim m F) (hm : m ≤ 536870912) (ho : (Lit.int .i64 ops).wf = true) (hr : Row .i64 w a n ps) (hn : n ≤ 281474976710656) :
    Calls Tryz.prog 19 #[.pointer (some ⟨g, 0, none⟩), .int .i64 ops, .slice a n c] w fun e w' => ∃ g', e = .returned (.pointer (some ⟨g', 0, none⟩)) ∧ MadeV LAt w w' g' (crashF F ops ps) := by
  obtain ⟨hV, hN, fb, fh, bn, bc, at', ct, B⟩ := hF
  obtain ⟨o0, o1⟩ := i64_of_wf ho
  obtain ⟨es, ck, hes⟩ := B.certain.heap
  have CLN := hide (Tryz.maps_Clone_laid bc es ck w hes)
  have c1 := B.c1
  have c2 := B.c2
  have hsl := hL.sure
  have htl := hL.turns
  obtain ⟨NT, hNT⟩ : ∃ NT, F.turns.length = NT := ⟨_, rfl⟩
  rw [hNT] at c2 htl
  have RV := hide B
  have GV := hide hV
  have GN := hide hN
  have LM := hide hL
  have HR := hide hr
  have HNT := hide hNT
  obtain ⟨w1, hw1⟩ : ∃ w1, Hid (w.alloc (.map es ck) = w1) := ⟨_, rfl⟩
  have B1 : Hid (Below w.heap.size w w1) := by rw [← hw1.out]; exact (Below.refl _ _).alloc (Nat.le_refl _) _
  have M1 : Hid (MapS w1 w.heap.size F.sure.length (nmV fb F.sure)) := by rw [← hw1.out]; exact B.certain.copied hes
  have s1 : w1.heap.size = w.heap.size + 1 := by rw [← hw1.out]; simp
  obtain ⟨w2, hw2⟩ : ∃ w2, Hid (w1.alloc (.cells #[.map (some w.heap.size)] 67) = w2) := ⟨_, rfl⟩
  have B2 : Hid (Below w1.heap.size w1 w2) := by rw [← hw2.out]; exact (Below.refl _ _).alloc (Nat.le_refl _) _
  have X2 : Hid (w2.heap[w.heap.size + 1]? = some (.cells #[.map (some w.heap.size)] 67 (0, 0))) := by rw [← s1, ← hw2.out]; exact heap_alloc_new w1 _
  have BW2 : Hid (Below w.heap.size w w2) := bel_to B1.out (Nat.le_refl _) B2.out
  have M2 : Hid (MapS w2 w.heap.size F.sure.length (nmV fb F.sure)) := M1.out.below B2.out
  have d2 : w2.cell? ⟨g, 2, none⟩ = some (.slice at' NT ct) := (BW2.out.cell (p := ⟨g, 2, none⟩) (World.block_lt_of_cell? w _ c2)).trans c2
  obtain ⟨K, hK⟩ : ∃ K, min (cutN ops) NT = K := ⟨_, rfl⟩
  have hKn : K ≤ NT := by omega
  have HTK : Hid (F.turns.take (cutN ops) = F.turns.take K) := by
    show _ = _
    rw [← hK, ← hNT]
    by_cases q : cutN ops ≤ F.turns.length
    · rw [Nat.min_eq_left q]
    · rw [Nat.min_eq_right (by omega), List.take_length, List.take_of_length_le (by omega)]
  clear B hV hN hL hr hNT hes M1 B1 B2
  go_enter Tryz.func19, Tryz.ntmps19
  go_wp2_with fail
  with_reducible refine CLN.out.mono ?_
  rintro e u ⟨rfl, hu⟩
  rw [hu, hw1.out]
  clear hu CLN hw1 c1 c2
  go_upto_region 2 with fail
  rw [hw2.out]
  clear hw2 s1
  obtain ⟨bx, hbx⟩ : ∃ bx, w.heap.size + 1 = bx := ⟨_, rfl⟩
  obtain ⟨b', hb'⟩ : ∃ b', w.heap.size = b' := ⟨_, rfl⟩
  rw [hbx] at X2
  rw [hbx, hb']
  have OTS := hide RV.out.turns
  rw [HNT.out] at OTS
  have hct : NT ≤ ct := (OwnG.capped OTS.out).1
  go_cut [32, 33, 34] (fun x y z wx => x = .slice at' K ct ∧ y = .int .i64 (K : Int) ∧ z = .int .i64 0 ∧ Hid (Below w2.heap.size w2 wx))
  case first =>
    have sl := fun u => slice_toTu at' NT ct K (by omega) u
    have BD : Hid (∀ q : Nat, Below w2.heap.size w2 (w2.drewN q)) := fun q => bel_drewN (Below.refl _ _) q
    have hKc : (K : Int) = min (max ops 0) (NT : Int) := by rw [← hK]; unfold cutN; omega
    clear M2 X2 BW2 GV GN LM HR RV OTS HTK
    by_cases q0 : ops < 0
    · have hm0 : max ops 0 = 0 := by omega
      have hk0 : (K : Int) = 0 := by omega
      have hkn : K = 0 := by omega
      have e1 : ¬ (NT : Int) < 0 := by omega
      have e2 : decide ((NT : Int) < 0) = false := decide_eq_false e1
      have e3 : decide (ops < 0) = true := decide_eq_true q0
      subst hkn
      have hmin : min (0 : Int) (NT : Int) = 0 := by omega
      clear hKc hk0 hK
      go_quiet (fail)
      go_wp2_with fail
      go_meet
      case rel => exact ⟨by rfl, by rfl, rfl, BD.out _⟩
    · have hm0 : max ops 0 = ops := by omega
      have e3 : decide (ops < 0) = false := decide_eq_false q0
      by_cases q1 : (NT : Int) < ops
      · have hk0 : (NT : Int) = (K : Int) := by omega
        have e2 : decide ((NT : Int) < ops) = true := decide_eq_true q1
        have hmin : min ops (NT : Int) = (K : Int) := by omega
        have hkn : NT = K := by omega
        subst hkn
        clear hKc hk0 hK
        go_quiet (fail)
        go_wp2_with fail
        go_meet
        case rel => exact ⟨by rfl, by rfl, rfl, BD.out _⟩
      · have hk0 : ops = (K : Int) := by omega
        have e2 : decide ((NT : Int) < ops) = false := decide_eq_false q1
        have hmin : min ops (NT : Int) = (K : Int) := by omega
        subst hk0
        clear hKc hK hm0
        have hm1 : max (K : Int) 0 = (K : Int) := by omega
        go_quiet (fail)
        go_wp2_with fail
        go_meet
        case rel => exact ⟨by rfl, by rfl, rfl, BD.out _⟩
  case rest =>
    obtain ⟨rfl, rfl, rfl, BQ⟩ := hcut
    obtain ⟨v2, rfl⟩ : ∃ v2, v2 = wc := ⟨wc, rfl⟩
    have M3 : Hid (MapS v2 b' F.sure.length (nmV fb F.sure)) := by rw [← hb']; exact M2.out.below BQ.out
    have X3 : Hid (v2.heap[bx]? = some (.cells #[.map (some b')] 67 (0, 0))) := by rw [← hb']; exact (BQ.out.block bx (Array.getElem?_eq_some_iff.1 X2.out).1).trans X2.out
    have B3 : Hid (Below w.heap.size w v2) := bel_to BW2.out (Nat.le_refl _) BQ.out
    have hne : Hid (bx ≠ b') := by show bx ≠ b'; omega
    have HB' := hide hb'
    clear M2 X2 BW2 BQ d2 hK
    go_wp2
    go_loopw [34] (fun i wr => ∃ j : Nat, j ≤ K ∧ i = .int .i64 (j : Int) ∧ Hid (MapS wr b' (F.sure.length + j) (nmV fb (turnsD F.sure (F.turns.take j)))) ∧ Hid (wr.heap[bx]? = some (.cells #[.map (some b')] 67 (0, 0))) ∧ Hid (Below w.heap.size w wr)) (fun i _ => K - (intOf i).toNat)
    case atStart => exact ⟨0, by omega, rfl, by rw [List.take_zero]; exact M3.out, X3, B3⟩
    case round =>
      clear M3 X3 B3
      obtain ⟨j, hj, rfl, HM, HX, HB⟩ := hrel
      obtain ⟨v, rfl⟩ : ∃ v, v = wr := ⟨wr, rfl⟩
      by_cases hlt : j < K
      · obtain ⟨t, ht⟩ : ∃ t, F.turns[j]? = some t := ⟨_, List.getElem?_eq_getElem (by have := HNT.out; omega)⟩
        obtain ⟨gt, tk, ts, tu, tp, rfl, hjn, -, etu, t0, t1, t2, t3⟩ := tu_at (OwnG.below OTS.out HB.out (Nat.le_refl _)) ht
        have okt := okT_at GN.out.turns ht
        have kt := (GV.out.turns t (List.mem_of_getElem? ht)).1
        have DO := hide (fun u (hu : Below v.heap.size v u) => ldo_any u b' (F.sure.length + j) fb _ t (HM.out.below hu) okt kt (by omega))
        rw [etu, ← turnsD_take ht] at DO
        have NXT : Hid (∀ u u2, Below v.heap.size v u → Ch (fun i => i = b') u u2 → u2.heap[bx]? = some (.cells #[.map (some b')] 67 (0, 0)) ∧ Below w.heap.size w u2) := fun u u2 h1 h2 => by
          have hl := (Array.getElem?_eq_some_iff.1 HX.out).1
          have z1 := h1.size
          have z2 := HB.out.size
          refine ⟨(h2.block bx (by omega) hne.out).trans ((h1.block bx hl).trans HX.out), (bel_to HB.out (Nat.le_refl _) h1).trans (h2.below (by omega) (fun i hi e => by have := HB'.out; omega))⟩
        have XC : Hid (∀ u, Below v.heap.size v u → u.cell? ⟨bx, 0, none⟩ = some (.map (some b'))) := fun u hu => by
          have e := (hu.block bx (Array.getElem?_eq_some_iff.1 HX.out).1).trans HX.out
          rw [cell_of_row u bx 0 _ _ (0, 0) e]; rfl
        have i1 : (0 : Int) ≤ (j : Int) := by omega
        have i2 : (j : Int) < (K : Int) := by omega
        obtain ⟨vA, hvA⟩ : ∃ vA, Hid (v.alloc (.cells #[.int .i64 tk, .string ts, .string tu, .pointer tp] 102) = vA) := ⟨_, rfl⟩
        have BA : Hid (Below v.heap.size v vA) := by rw [← hvA.out]; exact (Below.refl _ _).alloc (Nat.le_refl _) _
        have a0 : vA.cell? ⟨v.heap.size, 0, none⟩ = some (.int .i64 tk) := by rw [← hvA.out, World.cell?_alloc_mark]; rfl
        have a1 : vA.cell? ⟨v.heap.size, 1, none⟩ = some (.string ts) := by rw [← hvA.out, World.cell?_alloc_mark]; rfl
        have a2 : vA.cell? ⟨v.heap.size, 2, none⟩ = some (.string tu) := by rw [← hvA.out, World.cell?_alloc_mark]; rfl
        have a3 : vA.cell? ⟨v.heap.size, 3, none⟩ = some (.pointer tp) := by rw [← hvA.out, World.cell?_alloc_mark]; rfl
        have xc := XC.out vA BA.out
        clear ht okt kt etu HM HX HB XC
        go_upto_region 5 with fail
        rw [hvA.out]
        clear hvA t0 t1 t2 t3
        go_wp2_with fail
        with_reducible refine (DO.out _ BA.out).mono ?_
        rintro e u ⟨rfl, mu, ku⟩
        have MU := hide mu
        have NU := hide (NXT.out _ _ BA.out ku)
        have N1 : Hid (u.heap[bx]? = some (.cells #[.map (some b')] 67 (0, 0))) := NU.out.1
        have N2 : Hid (Below w.heap.size w u) := NU.out.2
        clear mu ku DO NXT NU a0 a1 a2 a3 xc BA
        go_wp2
        go_roundw
        case rel => exact ⟨j + 1, by omega, by go_num, MU, N1, N2⟩
        case measure => simp [intOf]; omega
      · obtain rfl : j = K := by omega
        have i2 : ¬ (j : Int) < (j : Int) := by omega
        obtain ⟨D, hD0⟩ : ∃ D, turnsD F.sure (F.turns.take j) = D := ⟨_, rfl⟩
        have HD : Hid (NamesD D) := by rw [← hD0]; exact GN.out.sure.turns (okT_take GN.out.turns j)
        have HFI : Hid (FilesIn F.files.length D) := by rw [← hD0]; exact FilesIn.turns (fun t ht => (GV.out.turns t (List.mem_of_mem_take ht)).2) GV.out.sure
        have hDl : D.length ≤ 2 * m := by
          have h1 := turnsD_len (F.turns.take j) F.sure
          rw [hD0, List.length_take] at h1
          omega
        obtain ⟨L, hL0⟩ : ∃ L, keptF D F.files.length = L := ⟨_, rfl⟩
        have HKL : Hid (∀ x, x ∈ L ↔ x ∈ D) := fun x => by rw [← hL0]; exact keptF_mem HFI.out x
        have hLl : L.length ≤ 2 * m := by rw [← hL0]; exact Nat.le_trans (keptF_len D _) hDl
        have HLN : Hid ((L.map (·.nm)).Nodup) := by
          have h1 := keptF_sorted HD.out.files F.files.length
          rw [hL0] at h1
          refine List.pairwise_map.2 (h1.imp_of_mem (fun {x y} hx hy hlt e => ?_))
          have := inj_of_nodup HD.out.once ((HKL.out x).1 hx) ((HKL.out y).1 hy) e
          rw [this] at hlt
          omega
        have HCE : Hid (crashF F ops ps = crashK F L ps L.length) := by
          show _ = _
          rw [crashK_end, HTK.out, hD0, hL0]
        rw [hD0] at HM
        have XC : Hid (∀ u, Below v.heap.size v u → u.cell? ⟨bx, 0, none⟩ = some (.map (some b'))) := fun u hu => by
          have e := (hu.block bx (Array.getElem?_eq_some_iff.1 HX.out).1).trans HX.out
          rw [cell_of_row u bx 0 _ _ (0, 0) e]; rfl
        have FA : Hid (∀ u, Below w.heap.size w u → ∀ d ∈ D, ∃ h, FlM u h d.f (atF F d.f) ∧ fb.getD d.f 0 = h.b) := fun u hu d hd => by
          obtain ⟨h, _, mh, eb⟩ := (RV.out.below hu).fileAt (HFI.out d hd)
          exact ⟨h, mh, eb⟩
        have BB := hide (byBirth_any D HD.out F.files.length HFI.out b' _ fb bx v HM.out (XC.out v (Below.refl _ _)) (fun d hd => by
          obtain ⟨h, mh, eb⟩ := FA.out v HB.out d hd
          rw [eb]
          exact mh.c0) (by omega))
        rw [hL0] at BB
        have hbxc := XC.out v (Below.refl _ _)
        clear HTK hD0 hL0 HNT OTS RV GN hct hKn htl hsl
        go_wp2_with fail
        with_reducible refine (keysV_any _ _).mono ?_
        rintro e u ⟨rfl, hu⟩
        rw [hu]
        clear hu
        go_wp2_with fail
        with_reducible refine BB.out.mono ?_
        rintro e v0 ⟨aB, kB, cB, rfl, rowB, bB⟩
        have RB' := hide rowB
        have hkB : L.length = kB := by have := rowB.1; rw [List.length_map] at this; exact this
        have B0 : Hid (Below w.heap.size w v0) := bel_to HB.out (Nat.le_refl _) bB
        have M0 : Hid (MapS v0 b' (F.sure.length + j) (nmV fb D)) := HM.out.below bB
        have X0 : Hid (∀ u, Below v0.heap.size v0 u → u.cell? ⟨bx, 0, none⟩ = some (.map (some b'))) := fun u hu => XC.out u (bel_to bB (Nat.le_refl _) hu)
        rw [hkB] at HCE
        clear rowB bB BB HM XC hbxc HX HB
        go_wp2_with fail
        with_reducible refine (lnew_any _).mono ?_
        rintro e v1 ⟨gl, rfl, hmade⟩
        have MV := hide hmade
        clear hmade
        go_wp2
        go_loopw [49] (fun i wr => ∃ k : Nat, k ≤ kB ∧ i = .int .i64 (k : Int) ∧ Hid (MadeV LAt v0 wr gl (crashK F L ps k))) (fun i _ => kB - (intOf i).toNat)
        case atStart => exact ⟨0, by omega, rfl, by rw [crashK_zero]; exact MV.out⟩
        case round =>
          clear MV
          obtain ⟨k, hk, rfl, HM⟩ := hrel
          obtain ⟨y, rfl⟩ : ∃ y, y = wr := ⟨wr, rfl⟩
          by_cases hlt2 : k < kB
          · obtain ⟨S', ⟨hV', hN', fb', fh', bn', bc', at2, ct2, B'⟩, hSb, hbv⟩ := HM.out
            obtain ⟨bo, off, rfl, hc⟩ := RB'.out.2.2.resolve_left (by omega)
            have cs := hc k hlt2
            have cs := (hbv.cell (p := ⟨bo, off + k, none⟩) (World.block_lt_of_cell? v0 _ cs)).trans cs
            obtain ⟨x, hx⟩ : ∃ x, L[k]? = some x := ⟨_, List.getElem?_eq_getElem (by rw [hkB]; exact hlt2)⟩
            have hxD := (HKL.out x).1 (List.mem_of_getElem? hx)
            have hxn : (L.map (·.nm)).getD k ByteArray.empty = x.nm := by rw [List.getD_eq_getElem?_getD, List.getElem?_map, hx]; rfl
            rw [hxn] at cs
            have hmay := HD.out.may x hxD
            have BY : Hid (Below w.heap.size w y) := bel_to B0.out (Nat.le_refl _) hbv
            obtain ⟨h, mh, eb⟩ := FA.out y BY.out x hxD
            have lk := fun u (hu : Below y.heap.size y u) => look_name1 ((M0.out.below hbv).below hu) (mayN_max hmay)
            rw [fileD_at HD.out hxD] at lk
            dsimp only [Option.map_some, Option.getD_some] at lk
            unfold ptrV at lk
            rw [eb] at lk
            have lk0 := lk y (Below.refl _ _)
            have hbxc := X0.out y hbv
            have hpw : (Lit.int .i64 (pickF ps k)).wf = true := by
              unfold pickF
              split
              · decide
              · rename_i hne
                rw [List.getD_eq_getElem?_getD, List.getElem?_eq_getElem (Nat.mod_lt _ (by omega))]
                exact HR.out.2.2.1 _ (List.getElem_mem _)
            have hkf := HFI.out x hxD
            obtain ⟨hbl, hul⟩ := bytF_len LM.out hkf
            have hsl' := (LM.out.each _ (atF_mem hkf)).1
            have UP := hide (fun u (hu : Below y.heap.size y u) => upto_any u h x.f _ _ _ (mh.below hu) rfl (pickF ps k) hpw (by omega) (by omega) (by omega) (bytF_byte GV.out hkf))
            rw [show unsB (atF F x.f).sure ((atF F x.f).us.take (cutN (pickF ps k))) = leftF F ps k x from rfl] at UP
            have hnn := crashK_name (F := F) (ps := ps) HLN.out hx
            have LY := hide (fun u (hu : Below y.heap.size y u) (xa : Option Addr) (n' xc : Nat) (hn' : n' = (leftF F ps k x).length) (ox : OwnVb u y.heap.size xa n' xc (leftF F ps k x)) => lay_any u gl S' (crashK F L ps k) fb' fh' bn' bc' at2 ct2 (2 * m) x.nm (xa, n', xc) (leftF F ps k x) (B'.below hu) hV' hN' rfl (crashK_lim LM.out hLl (Nat.le_refl _) ps k) (by omega) hmay hnn (leftF_byte GV.out ps k x) (OwnG.mono ox (Nat.zero_le _)) (fun i hi hS => by
              have h1 := (OwnG.cellsT ox i hi).2
              have h2 := B'.lt i hS
              omega))
            have ST := hide (crashK_step (F := F) (ps := ps) hx)
            have NX : Hid (∀ (u u2 : World) (xa : Option Addr) (n' xc : Nat), Below y.heap.size y u → OwnVb u y.heap.size xa n' xc (leftF F ps k x) → (∃ S2 fb2 fh2, LB u2 gl S2 (layF (crashK F L ps k) x.nm (leftF F ps k x)) fb2 fh2 bn' bc' at2 ct2 ∧ (∀ i, S2 i → S' i ∨ u.heap.size ≤ i ∨ (h3V (xa, n', xc)).ownBlock = some i) ∧ Ch S' u u2) → MadeV LAt v0 u2 gl (crashK F L ps (k + 1))) := fun u u2 xa n' xc hu ox hq => by
              obtain ⟨S2, fb2, fh2, q1, q2, q3⟩ := hq
              rw [← ST.out]
              have z1 := hbv.size
              have z2 := hu.size
              refine ⟨S2, ⟨hV'.lay _ (leftF_byte GV.out ps k x), GoodN.lay hV' hN' rfl hmay hnn _, _, _, _, _, _, _, q1⟩, fun i hi => ?_, (hbv.trans (hu.mono z1)).trans (q3.below (by omega) (fun i hi hS => by have := hSb i hS; omega))⟩
              rcases q2 i hi with e | e | e
              · exact hSb i e
              · omega
              · have := (OwnG.cellsT ox i e).2
                omega
            have i1 : (0 : Int) ≤ (k : Int) := by omega
            have i2 : (k : Int) < (kB : Int) := by omega
            have RP := hide (HR.out.below BY.out (Nat.le_refl _))
            obtain ⟨hb, hhb⟩ : ∃ hb, h.b = hb := ⟨_, rfl⟩
            rw [hhb] at lk0 UP
            obtain ⟨nm, hnm⟩ : ∃ nm, x.nm = nm := ⟨_, rfl⟩
            rw [hnm] at cs lk0 LY NX
            clear HM hV' hN' B' hSb hbv hc hx hxD hxn hmay BY mh eb lk hkf hbl hul hsl' hnn ST hpw hhb hnm
            by_cases hn0 : n = 0
            · have hpk : pickF ps k = 0 := by unfold pickF; rw [if_pos (by rw [RP.out.1]; exact hn0)]
              subst hn0
              have e1 : ¬ (0 : Int) < 0 := by omega
              rw [hpk] at UP
              go_wp2_with fail
              with_reducible refine (UP.out _ (Below.refl _ _)).mono ?_
              rintro e u ⟨xa, n', xc, rfl, hn', ox, bu⟩
              have LY2 := hide (LY.out u bu xa n' xc hn' ox)
              have NX2 := hide (fun u2 => NX.out u u2 xa n' xc bu ox)
              clear ox bu hn' UP LY NX cs lk0 hbxc
              go_wp2_with fail
              with_reducible refine LY2.out.mono ?_
              rintro e u2 ⟨rfl, hq⟩
              have HM2 := hide (NX2.out u2 hq)
              clear hq LY2 NX2
              go_wp2
              go_roundw
              case rel => exact ⟨k + 1, by omega, by go_num, HM2⟩
              case measure => simp [intOf]; omega
            · obtain ⟨bp, offp, rfl, hcp⟩ := RP.out.2.2.2.resolve_left hn0
              obtain ⟨q, hq⟩ : ∃ q, k % n = q := ⟨_, rfl⟩
              have hqn : q < n := by rw [← hq]; exact Nat.mod_lt _ (by omega)
              have cq := hcp q hqn
              have hpk : pickF ps k = ps.getD q 0 := by unfold pickF; rw [if_neg (by rw [RP.out.1]; exact hn0), RP.out.1, hq]
              obtain ⟨pz, hpz⟩ : ∃ pz, pickF ps k = pz := ⟨_, rfl⟩
              rw [← hpk, hpz] at cq
              rw [hpz] at UP
              have e1 : (0 : Int) < (n : Int) := by omega
              have e2 : ((n : Int) == 0) = false := by simp; omega
              have e3 : (k : Int).tmod (n : Int) = (q : Int) := by rw [Int.tmod_eq_emod_of_nonneg (by omega)]; omega
              have e4 : (k : Int) % (n : Int) = (q : Int) := by omega
              have e5 : (0 : Int) ≤ (q : Int) := by omega
              have e6 : (q : Int) < (n : Int) := by omega
              have e7 : IntKind.i64.wrap (q : Int) = (q : Int) := by rw [IntKind.wrap_i64]; omega
              clear hcp hpk hpz hq RP
              go_wp2_with fail
              with_reducible refine (UP.out _ (Below.refl _ _)).mono ?_
              rintro e u ⟨xa, n', xc, rfl, hn', ox, bu⟩
              have LY2 := hide (LY.out u bu xa n' xc hn' ox)
              have NX2 := hide (fun u2 => NX.out u u2 xa n' xc bu ox)
              clear ox bu hn' UP LY NX cs lk0 hbxc
              go_wp2_with fail
              with_reducible refine LY2.out.mono ?_
              rintro e u2 ⟨rfl, hq⟩
              have HM2 := hide (NX2.out u2 hq)
              clear hq LY2 NX2
              go_wp2
              go_roundw
              case rel => exact ⟨k + 1, by omega, by go_num, HM2⟩
              case measure => simp [intOf]; omega
          · obtain rfl : k = kB := by omega
            have i3 : ¬ (k : Int) < (k : Int) := by omega
            have FIN : Hid (MadeV LAt w y gl (crashF F ops ps)) := by
              obtain ⟨S', q1, q2, q3⟩ := HM.out
              rw [HCE.out]
              exact ⟨S', q1, fun i hi => Nat.le_trans B0.out.size (q2 i hi), bel_to B0.out (Nat.le_refl _) q3⟩
            clear HM M0 X0 FA
            go_wp2
            go_ret
            exact ⟨gl, rfl, FIN.out⟩
end Go.Proofs.YtknghoecjobkiabGreatDoor

namespace Go.Proofs.YtknghoecjobkiabGreatDoor
open Go.RowKit Go.Maps
set_option maxRecDepth 20000
set_option linter.unusedVariables false

set_option maxHeartbeats 1000000 in
theorem bytes8_any (a : Option Addr) (n cap : Nat) (zs : List Int) (w : World) (hr : Row .u8 w a n zs) (hc : a = none → cap = 0) (hn : n ≤ 1099511627776) :
    Calls Tryz.prog 18 #[.slice a n cap] w fun e w' => ∃ a' cap', e = .returned (.slice a' n cap') ∧ OwnVb w' w.heap.size a' n cap' zs ∧ Below w.heap.size w w' := by
  obtain ⟨i0, hi, hz0, hz1, hz2⟩ := info_parts Tryz.infoU8
  have hl := hr.1
  cases a with
  | none =>
    obtain rfl := hc rfl
    have h0 := hr.nz rfl
    subst h0
    have hz : zs = [] := List.length_eq_zero_iff.1 hl
    subst hz
    go_enter Tryz.func18, Tryz.ntmps18
    go_wp2_with (at_builtin; refine wpList_app_g byV_len (by decide) byV_one1 _ rfl _ _ 57 rfl w.heap.size i0 (.int .u8 0) 1 Tryz.underlying57 hi hz0 hz1 hz2 rfl none 0 0 [] rfl (ownG_nil _ _) none 0 0 [] rfl rfl (fun ad' e => by cases e) (fun _ => ⟨rfl, rfl⟩) (by omega) (by omega) (Nat.le_refl _) ?_)
    intro a2 c2 w1 o1 g1
    have O1 := hide o1
    have B1 : Hid (Below w.heap.size w w1) := (Below.refl _ w).grown g1 (Nat.le_refl _) (by intro k hk; simp [Value.ownBlock] at hk)
    clear o1 g1
    go_wp2
    go_ret
    exact ⟨a2, c2, by simp, by first | exact O1.out | simpa using O1.out, B1.out⟩
  | some ad =>
    have HR := hide (fun j u (hj : (zs.flatMap byV)[j]? = some u) => hr.cells j u (by rw [flat_by] at hj; exact hj))
    clear hr
    go_enter Tryz.func18, Tryz.ntmps18
    go_wp2_with (at_builtin; refine wpList_app_g byV_len (by decide) byV_one1 _ rfl _ _ 57 rfl w.heap.size i0 (.int .u8 0) 1 Tryz.underlying57 hi hz0 hz1 hz2 rfl none 0 0 [] rfl (ownG_nil _ _) (some ad) n cap zs rfl hl (fun ad' e => by cases e; exact HR.out) (fun e => by cases e) (by omega) (by omega) (Nat.le_refl _) ?_)
    intro a2 c2 w1 o1 g1
    have O1 : Hid (OwnVb w1 w.heap.size a2 n c2 zs) := by
      first
        | exact o1
        | (have := o1; simp only [Nat.zero_add, List.nil_append] at this; exact this)
    have B1 : Hid (Below w.heap.size w w1) := (Below.refl _ w).grown g1 (Nat.le_refl _) (by intro k hk; simp [Value.ownBlock] at hk)
    clear o1 g1 HR
    go_wp2
    go_ret
    exact ⟨a2, c2, by simp, O1.out, B1.out⟩

/-- A file system that lies from here on. -/
def OnL (base : Nat) (w u : World) (g : Nat) (F : Fs) : Prop := ∃ S, LAt u g S F ∧ (∀ k, S k → base ≤ k) ∧ Below base w u ∧ base ≤ u.heap.size
theorem onL_made {w u : World} {g : Nat} {F : Fs} (h : MadeV LAt w u g F) : OnL w.heap.size w u g F := by
  obtain ⟨S, q1, q2, q3⟩ := h
  exact ⟨S, q1, q2, q3, q3.size⟩
theorem OnL.below {base : Nat} {w u v : World} {g : Nat} {F : Fs} (h : OnL base w u g F) (b : Below u.heap.size u v) : OnL base w v g F := by
  obtain ⟨S, q1, q2, q3, q4⟩ := h
  exact ⟨S, q1.below b, q2, q3.trans (b.mono q4), Nat.le_trans q4 b.size⟩
section
variable {base : Nat} {w u : World} {g : Nat} {F : Fs} {m : Nat}
theorem on_read (h : OnL base w u g F) (hL : LimB m F) (hm : m < 1073741824) (s : ByteArray) (hs : s.size ≤ maxLen) : Calls Tryz.prog 15 #[.pointer (some ⟨g, 0, none⟩), .string s] u fun e u' => ReadVp (readF F s) u e u' := by
  obtain ⟨S, q1, q2, q3, q4⟩ := h
  exact lread_any g S F s m u q1 hL.lim (by omega) hs
theorem on_crash (h : OnL base w u g F) (hL : LimB m F) (hm : m ≤ 536870912) (ops : Int) (ho : (Lit.int .i64 ops).wf = true) (a : Option Addr) (n c : Nat) (ps : List Int) (hr : Row .i64 u a n ps) (hn : n ≤ 281474976710656) : Calls Tryz.prog 19 #[.pointer (some ⟨g, 0, none⟩), .int .i64 ops, .slice a n c] u fun e u' => ∃ g', e = .returned (.pointer (some ⟨g', 0, none⟩)) ∧ Below u.heap.size u u' ∧ OnL base w u' g' (crashF F ops ps) := by
  obtain ⟨S, q1, q2, q3, q4⟩ := h
  refine (lcrash_any g S F ops a n c ps m u q1 hL.lim hm ho hr hn).mono ?_
  rintro e u' ⟨g', he, S', r1, r2, r3⟩
  exact ⟨g', he, r3, S', r1, fun k hk => Nat.le_trans q4 (r2 k hk), q3.trans (r3.mono q4), Nat.le_trans q4 r3.size⟩
end
end Go.Proofs.YtknghoecjobkiabGreatDoor

namespace Go.Proofs.YtknghoecjobkiabGreatDoor
open Go.RowKit Go.Maps
set_option maxRecDepth 20000
set_option linter.unusedVariables false

section
variable {base : Nat} {w u : World} {g : Nat} {F : Fs} {m : Nat}
end
theorem onL_from' {w v u : World} {g : Nat} {F : Fs} (b : Below w.heap.size w v) (h : MadeV LAt v u g F) : OnL w.heap.size w u g F := by
  obtain ⟨S, q1, q2, q3⟩ := h
  exact ⟨S, q1, fun k hk => Nat.le_trans b.size (q2 k hk), b.trans (q3.mono b.size), Nat.le_trans b.size q3.size⟩
end Go.Proofs.YtknghoecjobkiabGreatDoor

namespace Go.Proofs.YtknghoecjobkiabGreatDoor
open Go.RowKit
set_option maxRecDepth 20000

set_option maxHeartbeats 2000000 in
set_option maxRecDepth 100000 in
theorem put_frame (a : Option Addr) (n cap : Nat) (zs : List Int) (b : Option Addr) (m capb : Nat) (bs : List Int) (w : World) (hr : Row .u8 w a n zs) (hs : Row .u8 w b m bs) (hn : n ≤ 140737488355328) (hm0 : 1 ≤ m) (hm : m ≤ 1048576) :
    Calls Tryz.prog 26 #[.slice a n cap, .slice b m capb] w fun e w' => ∃ a' cap', e = .returned (.tuple #[.slice a' (n + (frameS bs).length) cap', .int .i64 0]) ∧ Mine w' w.heap.size a' (n + (frameS bs).length) cap' (zs ++ frameS bs) ∧ Below w.heap.size w w' := by
  have P := hide (put_any (m : Int) none 0 0 [] w (w64_len (by omega)) (by omega) (by omega) (nil_row .u8 w none))
  have HA := hide hr
  have HB := hide hs
  have hq := putS_len (m : Int)
  have HQ : Hid (Bytes8 (putS (m : Int))) := putS_byte (w64_len (by omega))
  have HF : Hid (frameS bs = putS (m : Int) ++ (quad (moreS 0 bs) ++ bs)) := by show _ = _; unfold frameS sumB; rw [hs.1]
  have HFL : Hid ((frameS bs).length = (putS (m : Int)).length + 4 + m) := by show _ = _; rw [frameS_len, hs.1, Nat.add_assoc]
  rw [List.nil_append, Nat.zero_add] at P
  clear hr hs
  generalize putS (m : Int) = p at *
  generalize frameS bs = F at *
  obtain ⟨q, hqq⟩ : ∃ q, p.length = q := ⟨_, rfl⟩
  rw [hqq] at P hq HFL
  clear hqq
  have t1 : ((m : Int) == 0) = false := by simp; omega
  have t2 : ¬ ((1048576 : Int) < m) := by omega
  go_enter Tryz.func26, Tryz.ntmps26
  go_wp2_with fail
  refine P.out.mono ?_
  rintro e w1 ⟨a1, c1, rfl, o1, k1⟩
  have R1 := hide (o1.row (by omega) (fits_wf HQ.out))
  have K1 := hide k1
  have RA := hide (HA.out.below k1 (Nat.le_refl _))
  have RB := hide (HB.out.below k1 (Nat.le_refl _))
  clear o1 k1 P HA HB
  have S := hide (sumbytes_any b m capb bs w1 RB.out)
  go_wp2_with fail
  refine S.out.mono ?_
  rintro e w2 ⟨rfl, rfl⟩
  have RQ := hide (four_row (w1.alloc tbl) (moreS 0 bs))
  rw [World.size_alloc] at RQ
  have R1' := hide ((R1.out.alloc tbl).alloc (four_ (moreS 0 bs)))
  have RA' := hide ((RA.out.alloc tbl).alloc (four_ (moreS 0 bs)))
  have RB' := hide ((RB.out.alloc tbl).alloc (four_ (moreS 0 bs)))
  have K2 : Hid (Below w.heap.size w ((w1.alloc tbl).alloc (four_ (moreS 0 bs)))) := bel_al (bel_al K1.out (Nat.le_refl _) _) (Nat.le_refl _) _
  clear S R1 RA RB K1
  obtain ⟨g, hg⟩ : ∃ g, w1.heap.size + 1 = g := ⟨_, rfl⟩
  rw [hg] at RQ ⊢
  clear hg
  generalize (w1.alloc tbl).alloc (four_ (moreS 0 bs)) = W at *
  obtain ⟨L, hL⟩ : ∃ L : List Sl, L = [(a, n, cap, zs), (a1, q, c1, p), (some ⟨g, 0, none⟩, 4, 4, quad (moreS 0 bs)), (b, m, capb, bs)] := ⟨_, rfl⟩
  obtain ⟨O, hO⟩ : ∃ O : Obj, O = .cells #[.slice a n cap, .slice a1 q c1, .slice (some ⟨g, 0, none⟩) 4 4, .slice b m capb] 57 := ⟨_, rfl⟩
  have HP : Hid (parts L 4 = zs ++ F) := by show _ = _; rw [hL, HF.out]; simp [parts]
  have C := hide (concat_any W.heap.size L (W.alloc O) (by rw [hL]; simp only [List.length_cons, List.length_nil]; omega)
    (by
      rw [hL, hO]
      intro i hi
      rw [World.cell?_alloc_mark]
      match i, hi with
      | 0, _ => rfl
      | 1, _ => rfl
      | 2, _ => rfl
      | 3, _ => rfl
      | n + 4, h => simp at h; omega)
    (by
      rw [hL]
      intro i hi
      match i, hi with
      | 0, _ => exact RA'.out.alloc O
      | 1, _ => exact R1'.out.alloc O
      | 2, _ => exact RQ.out.alloc O
      | 3, _ => exact RB'.out.alloc O
      | n + 4, h => simp at h; omega)
    (by rw [hL] at HP ⊢; show 0 < (parts _ 4).length; rw [HP.out, List.length_append, HFL.out]; omega)
    (by rw [hL] at HP ⊢; show (parts _ 4).length ≤ _; rw [HP.out, List.length_append, HFL.out, RA'.out.1]; omega))
  have h4 : L.length = 4 := by rw [hL]; rfl
  rw [h4, HP.out, List.length_append, RA'.out.1] at C
  rw [hO] at C
  clear hL h4 hO HP
  go_wp2_with fail
  refine C.out.mono ?_
  rintro e w3 ⟨a3, c3, rfl, o3, k3⟩
  have O3 : Hid (Mine w3 w.heap.size a3 (n + F.length) c3 (zs ++ F)) := o3.mono (by have := K2.out.size; rw [World.size_alloc]; omega)
  have K3 : Hid (Below w.heap.size w w3) := bel_to (bel_al K2.out (Nat.le_refl _) _) (Nat.le_refl _) k3
  clear o3 k3 C
  go_wp2
  go_ret2
  exact ⟨a3, c3, rfl, O3, K3⟩
end Go.Proofs.YtknghoecjobkiabGreatDoor

namespace Go.Proofs.YtknghoecjobkiabGreatDoor
open Go.RowKit Go.Maps
set_option maxRecDepth 20000
set_option linter.unusedVariables false

/-- A log's own cells. -/
structure Lg where
  last : Int
  found : Int
  torn : Int
  rd : Bool
structure LgW (L : Lg) : Prop where
  l0 : 0 ≤ L.last
  l1 : L.last ≤ 99999999
  f0 : 0 ≤ L.found
  f1 : L.found ≤ 99999999
  t0 : -1 ≤ L.torn
  t1 : L.torn ≤ 9223372036854775807
def logC (g : Nat) (L : Lg) : List Value := [.pointer (some ⟨g, 0, none⟩), .int .i64 L.last, .int .i64 L.found, .int .i64 L.torn, .bool L.rd]
/-- The table's block. -/
def gPw : Nat := 0
theorem TbP.lt {w : World} (q : TbP w) : gPw < w.heap.size := by
  unfold TbP Lib.TabIs World.var? at q
  rw [gPow] at q
  rcases Nat.lt_or_ge gPw w.heap.size with h | h
  · exact h
  · have : w.heap[0]? = none := Array.getElem?_eq_none h
    simp [this] at q
theorem TbP.ch {w u : World} {C : Nat → Prop} (q : TbP w) (c : Ch C w u) (hn : ¬ C gPw) : TbP u := by
  have hl := q.lt
  unfold TbP Lib.TabIs World.var? at q ⊢
  rw [gPow] at q ⊢
  simp only [Option.bind_some] at q ⊢
  have e := c.block gPw hl hn
  unfold gPw at e
  rw [e]
  exact q
theorem ch_far {S S0 : Nat → Prop} {w u v : World} (h : Ch S w u) (k : Ch S0 u v) (hs : ∀ j, S0 j → S j ∨ w.heap.size ≤ j) : Ch S w v :=
  ⟨k.os.trans h.os, k.tape.trans h.tape, k.output.trans h.output, Nat.le_trans h.size k.size, fun i hi hn => (k.block i (Nat.lt_of_lt_of_le hi h.size) (fun e => by
    rcases hs i e with e | e
    · exact hn e
    · omega)).trans (h.block i hi hn)⟩
/-- A log that lies in memory, its file system with it. -/
def GAt (g : Nat) (w : World) (q : Nat) (S : Nat → Prop) (X : Fs × Lg) : Prop :=
  ∃ S0 : Nat → Prop, LAt w g S0 X.1 ∧ BoxV w q 74 (logC g X.2) ∧ ¬ S0 q ∧ TbP w ∧ ¬ S gPw ∧ (∀ k, S k ↔ S0 k ∨ k = q) ∧ LgW X.2
/-- What the calls of a log have left so far. -/
def Rn (g q : Nat) (S : Nat → Prop) (w u : World) (F : Fs) (L : Lg) : Prop := StepV (GAt g) w u q S (F, L)
section
variable {g q m : Nat} {S : Nat → Prop} {w u v : World} {F F' : Fs} {L L' : Lg}
theorem rn_refl (h : GAt g w q S (F, L)) : Rn g q S w w F L := ⟨S, h, fun k hk => Or.inl hk, Ch.refl _ _⟩
theorem Rn.box (h : Rn g q S w u F L) : BoxV u q 74 (logC g L) := by
  obtain ⟨_, ⟨_, _, b, _⟩, _⟩ := h
  exact b
theorem Rn.tab (h : Rn g q S w u F L) : TbP u := by
  obtain ⟨_, ⟨_, _, _, _, t, _⟩, _⟩ := h
  exact t
theorem Rn.wf (h : Rn g q S w u F L) : LgW L := by
  obtain ⟨_, ⟨_, _, _, _, _, _, _, t⟩, _⟩ := h
  exact t
theorem Rn.good (h : Rn g q S w u F L) : GoodV F ∧ GoodN F := by
  obtain ⟨_, ⟨_, ⟨a, b, _⟩, _⟩, _⟩ := h
  exact ⟨a, b⟩
/-- Nothing of it has turned. -/
theorem Rn.below (h : Rn g q S w u F L) (b : Below u.heap.size u v) : Rn g q S w v F L := by
  obtain ⟨S1, ⟨S0, h1, h2, h3, h4, h5, h6, h7⟩, h8, h9⟩ := h
  exact ⟨S1, ⟨S0, h1.below b, h2.below b h2.lt, h3, h4.bel b, h5, h6, h7⟩, h8, h9.trans ((Ch.of_below b).more fun _ _ e => e.elim)⟩
/-- A step of the file system. -/
theorem Rn.split (h : Rn g q S w u F L) : ∃ S0, LAt u g S0 F ∧ ∀ v F', StepV LAt u v g S0 F' → Rn g q S w v F' L := by
  obtain ⟨S1, ⟨S0, h1, h2, h3, h4, h5, h6, h7⟩, h8, h9⟩ := h
  refine ⟨S0, h1, ?_⟩
  rintro v F' ⟨S2, k1, k2, k3⟩
  have hq := h2.lt
  have hp := h4.lt
  have n0 : ¬ S0 gPw := fun e => h5 ((h6 _).2 (Or.inl e))
  have nq : ¬ gPw = q := fun e => h5 ((h6 _).2 (Or.inr e))
  refine ⟨fun k => S2 k ∨ k = q, ⟨S2, k1, h2.ch k3 h3, fun e => ?_, h4.ch k3 n0, fun e => ?_, fun k => Iff.rfl, h7⟩, fun k hk => ?_, ch_far h9 k3 (fun k hk => h8 k ((h6 k).2 (Or.inl hk)))⟩
  · rcases k2 q e with e | e
    · exact h3 e
    · omega
  · rcases e with e | e
    · rcases k2 _ e with e | e
      · exact n0 e
      · omega
    · exact nq e
  · rcases hk with hk | rfl
    · rcases k2 k hk with e | e
      · exact h8 k ((h6 k).2 (Or.inl e))
      · exact Or.inr (Nat.le_trans h9.size e)
    · exact h8 k ((h6 k).2 (Or.inr rfl))
/-- A cell of its own is written. -/
theorem Rn.set (h : Rn g q S w u F L) (i : Nat) (x : Value) (hL : LgW L') (e : (logC g L).set i x = logC g L') : Rn g q S w (u.setCell ⟨q, i, none⟩ x) F L' := by
  obtain ⟨S1, ⟨S0, h1, h2, h3, h4, h5, h6, h7⟩, h8, h9⟩ := h
  have c := ch_set u q i x
  have nq : ¬ gPw = q := fun e => h5 ((h6 _).2 (Or.inr e))
  have b := h2.set i x
  rw [e] at b
  exact ⟨S1, ⟨S0, h1.keep c (fun k hk e => h3 (e ▸ hk)), b, h3, h4.ch c nq, h5, h6, hL⟩, fun k hk => by
    rcases h8 k hk with e | e
    · exact Or.inl e
    · exact Or.inr e, ch_far h9 c (fun k hk => h8 k ((h6 k).2 (Or.inr hk)))⟩
theorem rn_create (h : Rn g q S w u F L) (hL : LimB m F) (hm : m < 1073741824) (s : ByteArray) (hs : s.size ≤ 9223372036854775807) : Calls Tryz.prog 24 #[.pointer (some ⟨g, 0, none⟩), .string s] u fun e u' => e = .returned (.int .i64 (createF F s).2) ∧ Rn g q S w u' (createF F s).1 L := by
  obtain ⟨S0, h1, hk⟩ := h.split
  exact (lcreate_any g S0 F s m u h1 hL.lim hm hs).mono (fun e u' ⟨he, st⟩ => ⟨he, hk _ _ st⟩)
theorem rn_append (h : Rn g q S w u F L) (hL : LimB m F) (hm : m < 1073741824) (s : ByteArray) (hs : s.size ≤ 9223372036854775807) (a : Option Addr) (n c : Nat) (zs : List Int) (hr : Row .u8 u a n zs) (hn : n ≤ 4294967296) (hnc : n ≤ c) : Calls Tryz.prog 28 #[.pointer (some ⟨g, 0, none⟩), .string s, .slice a n c] u fun e u' => e = .returned (.int .i64 (appendF F s zs).2) ∧ Rn g q S w u' (appendF F s zs).1 L := by
  obtain ⟨S0, h1, hk⟩ := h.split
  exact (lappend_any g S0 F s a n c zs m u h1 hL.lim hm hs hr hn hnc).mono (fun e u' ⟨he, st⟩ => ⟨he, hk _ _ st⟩)
theorem rn_cut (h : Rn g q S w u F L) (hL : LimB m F) (hm : m < 1073741824) (s : ByteArray) (hs : s.size ≤ 9223372036854775807) (z : Int) (hz : (Lit.int .i64 z).wf = true) : Calls Tryz.prog 49 #[.pointer (some ⟨g, 0, none⟩), .string s, .int .i64 z] u fun e u' => e = .returned (.int .i64 (cutF F s z).2) ∧ Rn g q S w u' (cutF F s z).1 L := by
  obtain ⟨S0, h1, hk⟩ := h.split
  exact (lcut_any g S0 F s z m u h1 hL.lim hm hs hz).mono (fun e u' ⟨he, st⟩ => ⟨he, hk _ _ st⟩)
theorem rn_sync (h : Rn g q S w u F L) (hL : LimB m F) (hm : m < 1073741824) (s : ByteArray) (hs : s.size ≤ 9223372036854775807) : Calls Tryz.prog 22 #[.pointer (some ⟨g, 0, none⟩), .string s] u fun e u' => e = .returned (.int .i64 (syncF F s).2) ∧ Rn g q S w u' (syncF F s).1 L := by
  obtain ⟨S0, h1, hk⟩ := h.split
  exact (lsync_any g S0 F s m u h1 hL.lim hm hs).mono (fun e u' ⟨he, st⟩ => ⟨he, hk _ _ st⟩)
theorem rn_syncdir (h : Rn g q S w u F L) (hL : LimB m F) (hm : m < 1073741824) : Calls Tryz.prog 23 #[.pointer (some ⟨g, 0, none⟩)] u fun e u' => e = .returned (.int .i64 (syncdirF F).2) ∧ Rn g q S w u' (syncdirF F).1 L := by
  obtain ⟨S0, h1, hk⟩ := h.split
  exact (lsyncdir_any g S0 F m u h1 hL.lim hm).mono (fun e u' ⟨he, st⟩ => ⟨he, hk _ _ st⟩)
theorem rn_read (h : Rn g q S w u F L) (hL : LimB m F) (hm : m < 1073741824) (s : ByteArray) (hs : s.size ≤ maxLen) : Calls Tryz.prog 15 #[.pointer (some ⟨g, 0, none⟩), .string s] u fun e u' => ReadVp (readF F s) u e u' ∧ Rn g q S w u' F L := by
  obtain ⟨S0, h1, hk⟩ := h.split
  exact (lread_any g S0 F s m u h1 hL.lim (by omega) hs).mono (fun e u' he => ⟨he, h.below he.1⟩)
theorem rn_list (h : Rn g q S w u F L) (hL : LimB m F) (hm : m < 1073741824) : Calls Tryz.prog 13 #[.pointer (some ⟨g, 0, none⟩)] u fun e u' => (∃ a c, e = .returned (.slice a (listF F).length c) ∧ OwnVs u' u.heap.size a (listF F).length c (listF F)) ∧ Rn g q S w u' F L := by
  obtain ⟨S0, h1, hk⟩ := h.split
  exact (llist_any g S0 F m u h1 hL.lim (by omega)).mono (fun e u' ⟨a, c, he, ho, hb⟩ => ⟨⟨a, c, he, ho⟩, h.below hb⟩)
theorem rn_name (h : Rn g q S w u F L) (n : Int) (hn : (Lit.int .i64 n).wf = true) : Calls Tryz.prog 16 #[.int .i64 n] u fun e u' => e = .returned (.string (nmW n)) ∧ Rn g q S w u' F L :=
  (wname_any n u hn h.tab).mono (fun e u' ⟨he, hb⟩ => ⟨he, h.below hb⟩)
end

end Go.Proofs.YtknghoecjobkiabGreatDoor
