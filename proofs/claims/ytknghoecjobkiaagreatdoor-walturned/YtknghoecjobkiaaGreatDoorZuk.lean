/-
  The records of a file's bytes, as the landed code reads them: a contract, for every world. Names of log files: what the landed Name and Number and the document's tell: contracts, for every world. A record's bytes: what the landed putRow, putTomb, PutRec come to: contracts, for every world. The landed file system: its names in order (List); names in the order of their files (what Crash sorts): contracts, for every world. What the laws of layer 16 share: a copy of bytes, the document's example (awake): contracts, for every world. What the laws of layer 16 share: the calls that turn names, what goes wrong, and a copy of numbers: contracts, for every world. What frame.Put comes to: contracts, for every world. A log in memory, as landed: its five cells, and the file system that it lies in; what its calls leave: Turn, makeRoom, mend, Ready, Append, Last: contracts, for every world. The landed log: Turn, makeRoom: contracts, for every world.
  Conditions: as each theorem says.
-/
import Derived.Test.YtknghoecjobkiaaGreatDoorZui
import Derived.Test.YtknghoecjobkiaaGreatDoorZuj
import Derived.Test.YtknghoecjobkiaaGreatDoorZuc
import Derived.Test.YtknghoecjobkiaaGreatDoorZua
import Derived.WalkKit
import Derived.Test.YtknghoecjobkiaaGreatDoorProg
import Derived.Test.YtknghoecjobkiaaGreatDoorZuSh
import Derived.Test.YtknghoecjobkiaaGreatDoorZub
import Derived.Lib.SmallJoins
import Derived.Lib.AtoiBound
import Derived.Lib.LaidTab
import Derived.Lib.AppendIntMem
import Derived.Deep.RegionHeld3
import Derived.Deep.DeepCutAuto
import Derived.Deep.CutBlock
import Derived.Test.YtknghoecjobkiaaGreatDoorZug
import Derived.Test.YtknghoecjobkiaaGreatDoorZue
import Derived.Test.YtknghoecjobkiaaGreatDoorIter
import Derived.Lib.SlBytesConst
import Derived.Test.YtknghoecjobkiaaGreatDoorZuf
import Derived.Lib.AppendZeros
import Derived.WalkMore
import Derived.ScopeJumps
import Derived.Deep.RegionHeld
namespace Go.Proofs.YtknghoecjobkiaaGreatDoor
open Go.RowKit
set_option maxRecDepth 20000
set_option linter.unusedVariables false
/-- What is told of a file's records. -/
def RecsP (r : Option (List Rc × Nat)) (w : World) (e : Ending) (w' : World) : Prop := Below w.heap.size w w' ∧ match r with
  | none => e = .returned (.tuple #[.slice none 0 0, .int .i64 0, .bool false])
  | some q => ∃ a c, e = .returned (.tuple #[.slice a q.1.length c, .int .i64 (q.2 : Int), .bool true]) ∧ RecsAt w' w.heap.size a q.1.length c q.1
theorem getFP_none {zs : List Int} {n k base : Nat} {w' : World} {e : Ending} (hk : k ≤ n) (hf : findS zs k = none) (h : getFP zs n k base w' e) : ∃ err : Int, err ≠ 0 ∧ e = .returned (.tuple #[.slice none 0 0, .int .i64 0, .int .i64 err]) := by
  unfold getFP at h
  rw [if_neg (by omega)] at h
  split at h
  · exact ⟨3, by decide, h⟩
  · rw [hf] at h
    exact ⟨4, by decide, h⟩
theorem getFP_some {zs : List Int} {n k base : Nat} {w' : World} {e : Ending} {p : Nat × Nat} (hk : k < n) (hf : findS zs k = some p) (h : getFP zs n k base w' e) : ∃ a' cap', e = .returned (.tuple #[.slice a' p.2 cap', .int .i64 ((p.1 + p.2 : Nat) : Int), .int .i64 0]) ∧ Mine w' base a' p.2 cap' ((zs.drop p.1).take p.2) := by
  unfold getFP at h
  rw [if_neg (by omega), if_neg (by omega), hf] at h
  exact h
theorem recsF_end {zs : List Int} {f k : Nat} (h : findS zs k = none) : recsF false zs (f + 1) k = some ([], k) := by
  unfold recsF
  rw [h]
theorem recsF_bad {zs : List Int} {f k st v : Nat} (h : findS zs k = some (st, v)) (hr : getRc false ((zs.drop st).take v) = none) : recsF false zs (f + 1) k = none := by
  unfold recsF
  rw [h]
  dsimp only
  rw [hr]
theorem recsF_more {zs : List Int} (hz : Bytes8 zs) {k st v : Nat} {r : Rc} (h : findS zs k = some (st, v)) (hr : getRc false ((zs.drop st).take v) = some r) : recsF false zs (zs.length + 1) k = (recsF false zs (zs.length + 1) (st + v)).map fun x => (r :: x.1, x.2) := by
  have hs := findS_some hz h
  obtain ⟨h1, h2, h3, k', e1, e2, _⟩ := hs
  rw [recsF, h]
  dsimp only
  rw [hr]
  dsimp only
  rw [recsF_fuel hz zs.length (zs.length + 1) (st + v) (by omega) (by omega)]

/-- Where a walk over frames comes by. -/
inductive ReachF (zs : List Int) : Nat → Prop
  | zero : ReachF zs 0
  | next {k st v : Nat} (h : ReachF zs k) (f : findS zs (k : Int) = some (st, v)) : ReachF zs (st + v)
/-- GetRec answers as it should of all bodies that the walk comes by. -/
def GrF (zs : List Int) : Prop := ∀ k st v : Nat, ReachF zs k → findS zs (k : Int) = some (st, v) → GrT ((zs.drop st).take v)

set_option maxHeartbeats 16000000 in
theorem records_of (a : Option Addr) (n cap : Nat) (zs : List Int) (w : World) (hT : GrF zs) (hc : n ≤ cap) (hr : Row .u8 w a n zs) (hn : n ≤ 536870912) :
    Calls Tryz.prog 97 #[.slice a n cap] w fun e w' => RecsP (recsW false zs) w e w' := by
  have HZ : Hid (Bytes8 zs) := hr.bytes
  have HN : Hid (zs.length = n) := hr.1
  have HR := hide hr
  have HTF := hide hT
  obtain ⟨i0, hi, hz0, hz1, hz2⟩ := info_parts Tryz.infoRc
  clear hr hT
  go_enter Tryz.func97, Tryz.ntmps97
  go_wp2
  go_loopw [5, 6] (fun r i wr => ∃ (k : Nat) (pre : List Rc) (b : Option Addr) (c : Nat), k ≤ n ∧ Hid (ReachF zs k) ∧ i = .int .i64 k ∧ r = .slice b pre.length c ∧ pre.length ≤ k ∧ Hid (recsW false zs = (recsF false zs (zs.length + 1) k).map fun x => (pre ++ x.1, x.2)) ∧ Hid (RecsAt wr w.heap.size b pre.length c pre) ∧ Hid (Below w.heap.size w wr)) (fun _ i _ => n + 1 - (intOf i).toNat)
  case atStart => exact ⟨0, [], none, 0, by omega, ReachF.zero, rfl, rfl, by simp, by
    show _ = _
    unfold recsW
    cases recsF false zs (zs.length + 1) 0 <;> rfl, recs_nil _ _, Below.refl _ _⟩
  case round =>
    obtain ⟨k, pre, b, c, hk, HRE, rfl, rfl, hpk, HI, HA, HB⟩ := hrel
    obtain ⟨v0, rfl⟩ : ∃ v, v = wr := ⟨wr, rfl⟩
    have GF := hide (getframe_any k a n cap zs v0 (i64_wf (by omega) (by omega)) hc (HR.out.below HB.out (Nat.le_refl _)))
    cases hf : findS zs k with
    | none =>
      have HE : Hid (recsW false zs = some (pre, k)) := by
        show _ = _
        rw [HI.out, recsF_end hf]
        simp
      have FN := hide (fun e v h => getFP_none (e := e) (w' := v) (base := v0.heap.size) hk hf h)
      clear hf HI
      go_wp2_with fail
      with_reducible refine GF.out.mono ?_
      rintro e v1 ⟨hg, b1⟩
      obtain ⟨err, he, rfl⟩ := FN.out _ _ hg
      have n1 : (err != 0) = true := by simpa using he
      have B1 := hide (bel_to HB.out (Nat.le_refl _) b1)
      have A1 := hide (HA.out.below b1)
      clear hg b1 GF FN
      go_wp2
      go_ret3
      rw [HE.out]
      exact ⟨B1.out, b, c, rfl, A1.out⟩
    | some p =>
      obtain ⟨st, vl⟩ := p
      obtain ⟨f1, f2, f3, k', e1, e2, f4, _⟩ := findS_some HZ.out hf
      have hkn : k < n := by have := HN.out; omega
      have FS := hide (fun e v h => getFP_some (e := e) (w' := v) (base := v0.heap.size) hkn hf h)
      dsimp only at FS
      have HBZ : Hid (Bytes8 ((zs.drop st).take vl)) := bytes8_mid HZ.out st vl
      have hsv : k + 1 ≤ st + vl ∧ st + vl ≤ n := by have := HN.out; omega
      clear e1 e2 f4
      cases hg : getRc false ((zs.drop st).take vl) with
      | none =>
        have HE : Hid (recsW false zs = none) := by
          show _ = _
          rw [HI.out, recsF_bad hf hg]
          rfl
        have GR := hide (fun a' c' v (hc' : vl ≤ c') (hr' : Row .u8 v a' vl ((zs.drop st).take vl)) => HTF.out k st vl HRE.out hf a' vl c' v hc' hr')
        rw [hg] at GR
        simp only [GotRc] at GR
        dsimp only [rx0, rh0, zeroP, g0, hd0, hm0] at GR
        clear hg hf HI
        go_wp2_with fail
        with_reducible refine GF.out.mono ?_
        rintro e v1 ⟨hg, b1⟩
        obtain ⟨a1, c1, rfl, o1⟩ := FS.out _ _ hg
        have B1 := hide (bel_to HB.out (Nat.le_refl _) b1)
        have G1 := hide (GR.out a1 c1 v1 o1.capped.1 (o1.row (by omega) (fits_wf HBZ.out)))
        clear hg b1 GF FS o1 GR
        go_wp2_with fail
        with_reducible refine G1.out.mono ?_
        rintro e v2 ⟨b2, rfl⟩
        have B2 := hide (bel_to B1.out (Nat.le_refl _) b2)
        have TF : Hid ((v2.alloc (.cells ([.int .i64 (RecX.seq rx0), .int .i64 (RecX.kind rx0), .slice (RecH.la rh0) (RecH.ln rh0) (RecH.lc rh0), .int .i64 (RecX.at9 rx0), .slice (Hd.a (RecH.sk rh0)) (Hd.n (RecH.sk rh0)) (Hd.c (RecH.sk rh0)), .slice (Hd.k (RecH.sk rh0)) (Hd.m (RecH.sk rh0)) (Hd.d (RecH.sk rh0)), .int .u64 (Gz.n (Sp.g (RecX.sk rx0))), .int .u64 (Gz.nans (Sp.g (RecX.sk rx0))), .int .u64 (Gz.lo (Sp.g (RecX.sk rx0))), .int .u64 (Gz.hi (Sp.g (RecX.sk rx0))), .int .i64 (RecX.tseq rx0), .int .i64 (Hm.op (RecH.m rh0)), .string (Hm.nm (RecH.m rh0)), .string (Hm.vl (RecH.m rh0)), .slice (Hm.va (RecH.m rh0)) (Hm.vn (RecH.m rh0)) (Hm.vc (RecH.m rh0)), .slice (Hm.ka (RecH.m rh0)) (Hm.kn (RecH.m rh0)) (Hm.kc (RecH.m rh0)), .int .i64 (RecX.frm rx0), .int .i64 (RecX.till rx0)]).toArray 39)).there v2.heap.size 0 18) := there_fresh v2 39 [.int .i64 (RecX.seq rx0), .int .i64 (RecX.kind rx0), .slice (RecH.la rh0) (RecH.ln rh0) (RecH.lc rh0), .int .i64 (RecX.at9 rx0), .slice (Hd.a (RecH.sk rh0)) (Hd.n (RecH.sk rh0)) (Hd.c (RecH.sk rh0)), .slice (Hd.k (RecH.sk rh0)) (Hd.m (RecH.sk rh0)) (Hd.d (RecH.sk rh0)), .int .u64 (Gz.n (Sp.g (RecX.sk rx0))), .int .u64 (Gz.nans (Sp.g (RecX.sk rx0))), .int .u64 (Gz.lo (Sp.g (RecX.sk rx0))), .int .u64 (Gz.hi (Sp.g (RecX.sk rx0))), .int .i64 (RecX.tseq rx0), .int .i64 (Hm.op (RecH.m rh0)), .string (Hm.nm (RecH.m rh0)), .string (Hm.vl (RecH.m rh0)), .slice (Hm.va (RecH.m rh0)) (Hm.vn (RecH.m rh0)) (Hm.vc (RecH.m rh0)), .slice (Hm.ka (RecH.m rh0)) (Hm.kn (RecH.m rh0)) (Hm.kc (RecH.m rh0)), .int .i64 (RecX.frm rx0), .int .i64 (RecX.till rx0)]
        have BF : Hid (Below v2.heap.size v2 ((v2.alloc (.cells ([.int .i64 (RecX.seq rx0), .int .i64 (RecX.kind rx0), .slice (RecH.la rh0) (RecH.ln rh0) (RecH.lc rh0), .int .i64 (RecX.at9 rx0), .slice (Hd.a (RecH.sk rh0)) (Hd.n (RecH.sk rh0)) (Hd.c (RecH.sk rh0)), .slice (Hd.k (RecH.sk rh0)) (Hd.m (RecH.sk rh0)) (Hd.d (RecH.sk rh0)), .int .u64 (Gz.n (Sp.g (RecX.sk rx0))), .int .u64 (Gz.nans (Sp.g (RecX.sk rx0))), .int .u64 (Gz.lo (Sp.g (RecX.sk rx0))), .int .u64 (Gz.hi (Sp.g (RecX.sk rx0))), .int .i64 (RecX.tseq rx0), .int .i64 (Hm.op (RecH.m rh0)), .string (Hm.nm (RecH.m rh0)), .string (Hm.vl (RecH.m rh0)), .slice (Hm.va (RecH.m rh0)) (Hm.vn (RecH.m rh0)) (Hm.vc (RecH.m rh0)), .slice (Hm.ka (RecH.m rh0)) (Hm.kn (RecH.m rh0)) (Hm.kc (RecH.m rh0)), .int .i64 (RecX.frm rx0), .int .i64 (RecX.till rx0)]).toArray 39)).setCells v2.heap.size 0 [.int .i64 (RecX.seq rx0), .int .i64 (RecX.kind rx0), .slice (RecH.la rh0) (RecH.ln rh0) (RecH.lc rh0), .int .i64 (RecX.at9 rx0), .slice (Hd.a (RecH.sk rh0)) (Hd.n (RecH.sk rh0)) (Hd.c (RecH.sk rh0)), .slice (Hd.k (RecH.sk rh0)) (Hd.m (RecH.sk rh0)) (Hd.d (RecH.sk rh0)), .int .u64 (Gz.n (Sp.g (RecX.sk rx0))), .int .u64 (Gz.nans (Sp.g (RecX.sk rx0))), .int .u64 (Gz.lo (Sp.g (RecX.sk rx0))), .int .u64 (Gz.hi (Sp.g (RecX.sk rx0))), .int .i64 (RecX.tseq rx0), .int .i64 (Hm.op (RecH.m rh0)), .string (Hm.nm (RecH.m rh0)), .string (Hm.vl (RecH.m rh0)), .slice (Hm.va (RecH.m rh0)) (Hm.vn (RecH.m rh0)) (Hm.vc (RecH.m rh0)), .slice (Hm.ka (RecH.m rh0)) (Hm.kn (RecH.m rh0)) (Hm.kc (RecH.m rh0)), .int .i64 (RecX.frm rx0), .int .i64 (RecX.till rx0)])) := below_fresh v2 _ _ 0 _
        dsimp only [rx0, rh0, zeroP, g0, hd0, hm0] at TF BF
        have B3 := hide (bel_to B2.out (Nat.le_refl _) BF.out)
        clear b2 G1 BF
        go_wp2_with ((with_reducible show wpList _ _ _ (Oper.mk _ (Op.store 39 _ _) _ _ _ _ :: _) _ _); refine wpStore rfl 39 _ _ rfl v2.heap.size 0 [.int .i64 (RecX.seq rx0), .int .i64 (RecX.kind rx0), .slice (RecH.la rh0) (RecH.ln rh0) (RecH.lc rh0), .int .i64 (RecX.at9 rx0), .slice (Hd.a (RecH.sk rh0)) (Hd.n (RecH.sk rh0)) (Hd.c (RecH.sk rh0)), .slice (Hd.k (RecH.sk rh0)) (Hd.m (RecH.sk rh0)) (Hd.d (RecH.sk rh0)), .int .u64 (Gz.n (Sp.g (RecX.sk rx0))), .int .u64 (Gz.nans (Sp.g (RecX.sk rx0))), .int .u64 (Gz.lo (Sp.g (RecX.sk rx0))), .int .u64 (Gz.hi (Sp.g (RecX.sk rx0))), .int .i64 (RecX.tseq rx0), .int .i64 (Hm.op (RecH.m rh0)), .string (Hm.nm (RecH.m rh0)), .string (Hm.vl (RecH.m rh0)), .slice (Hm.va (RecH.m rh0)) (Hm.vn (RecH.m rh0)) (Hm.vc (RecH.m rh0)), .slice (Hm.ka (RecH.m rh0)) (Hm.kn (RecH.m rh0)) (Hm.kc (RecH.m rh0)), .int .i64 (RecX.frm rx0), .int .i64 (RecX.till rx0)] rfl rfl TF.out info_rec rfl ?_)
        go_ret3
        rw [HE.out]
        exact ⟨B3.out, rfl⟩
      | some rc =>
        have HJ : Hid (recsW false zs = (recsF false zs (zs.length + 1) (st + vl)).map fun x => ((pre ++ [rc]) ++ x.1, x.2)) := by
          show _ = _
          rw [HI.out, recsF_more HZ.out hf hg]
          cases recsF false zs (zs.length + 1) (st + vl) with
          | none => rfl
          | some y => simp
        have GR := hide (fun a' c' v (hc' : vl ≤ c') (hr' : Row .u8 v a' vl ((zs.drop st).take vl)) => HTF.out k st vl HRE.out hf a' vl c' v hc' hr')
        rw [hg] at GR
        simp only [GotRc] at GR
        have HRN : Hid (ReachF zs (st + vl)) := ReachF.next HRE.out hf
        clear hg hf HI
        obtain ⟨rx, hrx⟩ : ∃ rx, Hid (ofRc rc = rx) := ⟨_, rfl⟩
        rw [hrx.out] at GR
        go_wp2_with fail
        with_reducible refine GF.out.mono ?_
        rintro e v1 ⟨hg, b1⟩
        obtain ⟨a1, c1, rfl, o1⟩ := FS.out _ _ hg
        have B1 := hide (bel_to HB.out (Nat.le_refl _) b1)
        have A1 := hide (HA.out.below b1)
        have G1 := hide (GR.out a1 c1 v1 o1.capped.1 (o1.row (by omega) (fits_wf HBZ.out)))
        clear hg b1 GF FS o1 GR
        go_wp2_with fail
        with_reducible refine G1.out.mono ?_
        rintro e v2 ⟨b2, h, rfl, s2⟩
        have S2 := hide s2
        have L1 := hide b2.size
        have NB : Hid (∀ k, v1.heap.size ≤ k → offB w.heap.size b pre.length c k) := fun k hk => ⟨Nat.le_trans B1.out.size hk, fun e => by
          obtain ⟨l, q, _⟩ := A1.out
          have := (OwnG.cellsT q k e).1.lt
          omega⟩
        have B2 := hide (bel_to B1.out (Nat.le_refl _) b2)
        have A2 := hide (A1.out.below b2)
        obtain ⟨y, hy⟩ : ∃ y, Hid (v2.heap.size = y) := ⟨_, rfl⟩
        obtain ⟨u3, hu3⟩ : ∃ u3, Hid ((v2.alloc (.cells ([.int .i64 (RecX.seq rx0), .int .i64 (RecX.kind rx0), .slice (RecH.la rh0) (RecH.ln rh0) (RecH.lc rh0), .int .i64 (RecX.at9 rx0), .slice (Hd.a (RecH.sk rh0)) (Hd.n (RecH.sk rh0)) (Hd.c (RecH.sk rh0)), .slice (Hd.k (RecH.sk rh0)) (Hd.m (RecH.sk rh0)) (Hd.d (RecH.sk rh0)), .int .u64 (Gz.n (Sp.g (RecX.sk rx0))), .int .u64 (Gz.nans (Sp.g (RecX.sk rx0))), .int .u64 (Gz.lo (Sp.g (RecX.sk rx0))), .int .u64 (Gz.hi (Sp.g (RecX.sk rx0))), .int .i64 (RecX.tseq rx0), .int .i64 (Hm.op (RecH.m rh0)), .string (Hm.nm (RecH.m rh0)), .string (Hm.vl (RecH.m rh0)), .slice (Hm.va (RecH.m rh0)) (Hm.vn (RecH.m rh0)) (Hm.vc (RecH.m rh0)), .slice (Hm.ka (RecH.m rh0)) (Hm.kn (RecH.m rh0)) (Hm.kc (RecH.m rh0)), .int .i64 (RecX.frm rx0), .int .i64 (RecX.till rx0)]).toArray 39)).setCells v2.heap.size 0 [.int .i64 (RecX.seq rx), .int .i64 (RecX.kind rx), .slice (RecH.la h) (RecH.ln h) (RecH.lc h), .int .i64 (RecX.at9 rx), .slice (Hd.a (RecH.sk h)) (Hd.n (RecH.sk h)) (Hd.c (RecH.sk h)), .slice (Hd.k (RecH.sk h)) (Hd.m (RecH.sk h)) (Hd.d (RecH.sk h)), .int .u64 (Gz.n (Sp.g (RecX.sk rx))), .int .u64 (Gz.nans (Sp.g (RecX.sk rx))), .int .u64 (Gz.lo (Sp.g (RecX.sk rx))), .int .u64 (Gz.hi (Sp.g (RecX.sk rx))), .int .i64 (RecX.tseq rx), .int .i64 (Hm.op (RecH.m h)), .string (Hm.nm (RecH.m h)), .string (Hm.vl (RecH.m h)), .slice (Hm.va (RecH.m h)) (Hm.vn (RecH.m h)) (Hm.vc (RecH.m h)), .slice (Hm.ka (RecH.m h)) (Hm.kn (RecH.m h)) (Hm.kc (RecH.m h)), .int .i64 (RecX.frm rx), .int .i64 (RecX.till rx)] = u3) := ⟨_, rfl⟩
        have TF : Hid ((v2.alloc (.cells ([.int .i64 (RecX.seq rx0), .int .i64 (RecX.kind rx0), .slice (RecH.la rh0) (RecH.ln rh0) (RecH.lc rh0), .int .i64 (RecX.at9 rx0), .slice (Hd.a (RecH.sk rh0)) (Hd.n (RecH.sk rh0)) (Hd.c (RecH.sk rh0)), .slice (Hd.k (RecH.sk rh0)) (Hd.m (RecH.sk rh0)) (Hd.d (RecH.sk rh0)), .int .u64 (Gz.n (Sp.g (RecX.sk rx0))), .int .u64 (Gz.nans (Sp.g (RecX.sk rx0))), .int .u64 (Gz.lo (Sp.g (RecX.sk rx0))), .int .u64 (Gz.hi (Sp.g (RecX.sk rx0))), .int .i64 (RecX.tseq rx0), .int .i64 (Hm.op (RecH.m rh0)), .string (Hm.nm (RecH.m rh0)), .string (Hm.vl (RecH.m rh0)), .slice (Hm.va (RecH.m rh0)) (Hm.vn (RecH.m rh0)) (Hm.vc (RecH.m rh0)), .slice (Hm.ka (RecH.m rh0)) (Hm.kn (RecH.m rh0)) (Hm.kc (RecH.m rh0)), .int .i64 (RecX.frm rx0), .int .i64 (RecX.till rx0)]).toArray 39)).there v2.heap.size 0 18) := there_fresh v2 39 [.int .i64 (RecX.seq rx0), .int .i64 (RecX.kind rx0), .slice (RecH.la rh0) (RecH.ln rh0) (RecH.lc rh0), .int .i64 (RecX.at9 rx0), .slice (Hd.a (RecH.sk rh0)) (Hd.n (RecH.sk rh0)) (Hd.c (RecH.sk rh0)), .slice (Hd.k (RecH.sk rh0)) (Hd.m (RecH.sk rh0)) (Hd.d (RecH.sk rh0)), .int .u64 (Gz.n (Sp.g (RecX.sk rx0))), .int .u64 (Gz.nans (Sp.g (RecX.sk rx0))), .int .u64 (Gz.lo (Sp.g (RecX.sk rx0))), .int .u64 (Gz.hi (Sp.g (RecX.sk rx0))), .int .i64 (RecX.tseq rx0), .int .i64 (Hm.op (RecH.m rh0)), .string (Hm.nm (RecH.m rh0)), .string (Hm.vl (RecH.m rh0)), .slice (Hm.va (RecH.m rh0)) (Hm.vn (RecH.m rh0)) (Hm.vc (RecH.m rh0)), .slice (Hm.ka (RecH.m rh0)) (Hm.kn (RecH.m rh0)) (Hm.kc (RecH.m rh0)), .int .i64 (RecX.frm rx0), .int .i64 (RecX.till rx0)]
        have X3 : Hid (BoxV u3 y 39 [.int .i64 (RecX.seq rx), .int .i64 (RecX.kind rx), .slice (RecH.la h) (RecH.ln h) (RecH.lc h), .int .i64 (RecX.at9 rx), .slice (Hd.a (RecH.sk h)) (Hd.n (RecH.sk h)) (Hd.c (RecH.sk h)), .slice (Hd.k (RecH.sk h)) (Hd.m (RecH.sk h)) (Hd.d (RecH.sk h)), .int .u64 (Gz.n (Sp.g (RecX.sk rx))), .int .u64 (Gz.nans (Sp.g (RecX.sk rx))), .int .u64 (Gz.lo (Sp.g (RecX.sk rx))), .int .u64 (Gz.hi (Sp.g (RecX.sk rx))), .int .i64 (RecX.tseq rx), .int .i64 (Hm.op (RecH.m h)), .string (Hm.nm (RecH.m h)), .string (Hm.vl (RecH.m h)), .slice (Hm.va (RecH.m h)) (Hm.vn (RecH.m h)) (Hm.vc (RecH.m h)), .slice (Hm.ka (RecH.m h)) (Hm.kn (RecH.m h)) (Hm.kc (RecH.m h)), .int .i64 (RecX.frm rx), .int .i64 (RecX.till rx)]) := by rw [← hu3.out, ← hy.out]; exact BoxV.fresh v2 _ [.int .i64 (RecX.seq rx0), .int .i64 (RecX.kind rx0), .slice (RecH.la rh0) (RecH.ln rh0) (RecH.lc rh0), .int .i64 (RecX.at9 rx0), .slice (Hd.a (RecH.sk rh0)) (Hd.n (RecH.sk rh0)) (Hd.c (RecH.sk rh0)), .slice (Hd.k (RecH.sk rh0)) (Hd.m (RecH.sk rh0)) (Hd.d (RecH.sk rh0)), .int .u64 (Gz.n (Sp.g (RecX.sk rx0))), .int .u64 (Gz.nans (Sp.g (RecX.sk rx0))), .int .u64 (Gz.lo (Sp.g (RecX.sk rx0))), .int .u64 (Gz.hi (Sp.g (RecX.sk rx0))), .int .i64 (RecX.tseq rx0), .int .i64 (Hm.op (RecH.m rh0)), .string (Hm.nm (RecH.m rh0)), .string (Hm.vl (RecH.m rh0)), .slice (Hm.va (RecH.m rh0)) (Hm.vn (RecH.m rh0)) (Hm.vc (RecH.m rh0)), .slice (Hm.ka (RecH.m rh0)) (Hm.kn (RecH.m rh0)) (Hm.kc (RecH.m rh0)), .int .i64 (RecX.frm rx0), .int .i64 (RecX.till rx0)] _ rfl
        have K3 : Hid (Below v2.heap.size v2 u3) := by rw [← hu3.out]; exact below_fresh v2 _ [.int .i64 (RecX.seq rx0), .int .i64 (RecX.kind rx0), .slice (RecH.la rh0) (RecH.ln rh0) (RecH.lc rh0), .int .i64 (RecX.at9 rx0), .slice (Hd.a (RecH.sk rh0)) (Hd.n (RecH.sk rh0)) (Hd.c (RecH.sk rh0)), .slice (Hd.k (RecH.sk rh0)) (Hd.m (RecH.sk rh0)) (Hd.d (RecH.sk rh0)), .int .u64 (Gz.n (Sp.g (RecX.sk rx0))), .int .u64 (Gz.nans (Sp.g (RecX.sk rx0))), .int .u64 (Gz.lo (Sp.g (RecX.sk rx0))), .int .u64 (Gz.hi (Sp.g (RecX.sk rx0))), .int .i64 (RecX.tseq rx0), .int .i64 (Hm.op (RecH.m rh0)), .string (Hm.nm (RecH.m rh0)), .string (Hm.vl (RecH.m rh0)), .slice (Hm.va (RecH.m rh0)) (Hm.vn (RecH.m rh0)) (Hm.vc (RecH.m rh0)), .slice (Hm.ka (RecH.m rh0)) (Hm.kn (RecH.m rh0)) (Hm.kc (RecH.m rh0)), .int .i64 (RecX.frm rx0), .int .i64 (RecX.till rx0)] 0 _
        have RG := hide X3.out.range
        have B3 := hide (bel_to B2.out (Nat.le_refl _) K3.out)
        have A3 := hide (A2.out.below K3.out)
        have S3 := hide (S2.out.below K3.out (Nat.le_refl _))
        dsimp only [rx0, rh0, zeroP, g0, hd0, hm0] at TF hu3
        clear b2 s2 G1 A1 A2 S2 K3
        go_upto_region 9 with ((with_reducible show wpList _ _ _ (Oper.mk _ (Op.store 39 _ _) _ _ _ _ :: _) _ _); refine wpStore rfl 39 _ _ rfl v2.heap.size 0 [.int .i64 (RecX.seq rx), .int .i64 (RecX.kind rx), .slice (RecH.la h) (RecH.ln h) (RecH.lc h), .int .i64 (RecX.at9 rx), .slice (Hd.a (RecH.sk h)) (Hd.n (RecH.sk h)) (Hd.c (RecH.sk h)), .slice (Hd.k (RecH.sk h)) (Hd.m (RecH.sk h)) (Hd.d (RecH.sk h)), .int .u64 (Gz.n (Sp.g (RecX.sk rx))), .int .u64 (Gz.nans (Sp.g (RecX.sk rx))), .int .u64 (Gz.lo (Sp.g (RecX.sk rx))), .int .u64 (Gz.hi (Sp.g (RecX.sk rx))), .int .i64 (RecX.tseq rx), .int .i64 (Hm.op (RecH.m h)), .string (Hm.nm (RecH.m h)), .string (Hm.vl (RecH.m h)), .slice (Hm.va (RecH.m h)) (Hm.vn (RecH.m h)) (Hm.vc (RecH.m h)), .slice (Hm.ka (RecH.m h)) (Hm.kn (RecH.m h)) (Hm.kc (RecH.m h)), .int .i64 (RecX.frm rx), .int .i64 (RecX.till rx)] rfl rfl TF.out info_rec rfl ?_)
        rw [hu3.out, hy.out]
        clear hu3 hy TF
        obtain ⟨u4, hu4⟩ : ∃ u4, Hid (u3.alloc (.cells ([.int .i64 (RecX.seq rx), .int .i64 (RecX.kind rx), .slice (RecH.la h) (RecH.ln h) (RecH.lc h), .int .i64 (RecX.at9 rx), .slice (Hd.a (RecH.sk h)) (Hd.n (RecH.sk h)) (Hd.c (RecH.sk h)), .slice (Hd.k (RecH.sk h)) (Hd.m (RecH.sk h)) (Hd.d (RecH.sk h)), .int .u64 (Gz.n (Sp.g (RecX.sk rx))), .int .u64 (Gz.nans (Sp.g (RecX.sk rx))), .int .u64 (Gz.lo (Sp.g (RecX.sk rx))), .int .u64 (Gz.hi (Sp.g (RecX.sk rx))), .int .i64 (RecX.tseq rx), .int .i64 (Hm.op (RecH.m h)), .string (Hm.nm (RecH.m h)), .string (Hm.vl (RecH.m h)), .slice (Hm.va (RecH.m h)) (Hm.vn (RecH.m h)) (Hm.vc (RecH.m h)), .slice (Hm.ka (RecH.m h)) (Hm.kn (RecH.m h)) (Hm.kc (RecH.m h)), .int .i64 (RecX.frm rx), .int .i64 (RecX.till rx)]).toArray 39) = u4) := ⟨_, rfl⟩
        have Z4 : Hid (u4.heap.size = u3.heap.size + 1) := by rw [← hu4.out]; exact size_al _ _
        have K4 : Hid (Below u3.heap.size u3 u4) := by rw [← hu4.out]; exact (Below.refl _ _).alloc (Nat.le_refl _) _
        have X4 : Hid (BoxV u4 u3.heap.size 39 [.int .i64 (RecX.seq rx), .int .i64 (RecX.kind rx), .slice (RecH.la h) (RecH.ln h) (RecH.lc h), .int .i64 (RecX.at9 rx), .slice (Hd.a (RecH.sk h)) (Hd.n (RecH.sk h)) (Hd.c (RecH.sk h)), .slice (Hd.k (RecH.sk h)) (Hd.m (RecH.sk h)) (Hd.d (RecH.sk h)), .int .u64 (Gz.n (Sp.g (RecX.sk rx))), .int .u64 (Gz.nans (Sp.g (RecX.sk rx))), .int .u64 (Gz.lo (Sp.g (RecX.sk rx))), .int .u64 (Gz.hi (Sp.g (RecX.sk rx))), .int .i64 (RecX.tseq rx), .int .i64 (Hm.op (RecH.m h)), .string (Hm.nm (RecH.m h)), .string (Hm.vl (RecH.m h)), .slice (Hm.va (RecH.m h)) (Hm.vn (RecH.m h)) (Hm.vc (RecH.m h)), .slice (Hm.ka (RecH.m h)) (Hm.kn (RecH.m h)) (Hm.kc (RecH.m h)), .int .i64 (RecX.frm rx), .int .i64 (RecX.till rx)]) := by rw [← hu4.out]; exact BoxV.new u3 _ _
        have CP : Hid (∀ ad, some (⟨u3.heap.size, 0, none⟩ : Addr) = some ad → ∀ j u, ([(rx, h)].flatMap recV)[j]? = some u → u4.cell? (ad.add j) = some u) := by
          intro ad e j u hj
          obtain rfl := Option.some.inj e
          rw [Addr.add_lit, Nat.zero_add]
          rw [List.flatMap_cons, List.flatMap_nil, List.append_nil] at hj
          exact X4.out.cell hj
        have B4 := hide (bel_to B3.out (Nat.le_refl _) K4.out)
        have A4 := hide (A3.out.below K4.out)
        have S4 := hide ((S3.out.below K4.out (Nat.le_refl _)).mono NB.out)
        obtain ⟨l, ol, sl, ml, nl⟩ := A4.out
        have OL := hide ol
        have SL : Hid (∀ p ∈ l ++ [(rx, h)], SeeR (offB w.heap.size b pre.length c) u4 p.1 p.2) := by
          intro p hp
          rcases List.mem_append.1 hp with hp | hp
          · exact sl p hp
          · obtain rfl := List.mem_singleton.1 hp
            exact S4.out
        have ML : Hid ((l ++ [(rx, h)]).map (·.1) = (pre ++ [rc]).map ofRc) := by
          show _ = _
          rw [List.map_append, List.map_append, ml, ← hrx.out]
          rfl
        have SZ := hide B4.out.size
        clear ol sl ml nl A3 A4 S3 S4 K4 X4 X3 NB B3
        rw [← hu4.out] at CP OL
        go_wp2_with (first | ((with_reducible show wpList _ _ _ (Oper.mk _ (Op.load 39 _) _ _ _ _ :: _) _ _); refine wpLoad rfl 39 _ rfl y 0 rfl [.int .i64 (RecX.seq rx), .int .i64 (RecX.kind rx), .slice (RecH.la h) (RecH.ln h) (RecH.lc h), .int .i64 (RecX.at9 rx), .slice (Hd.a (RecH.sk h)) (Hd.n (RecH.sk h)) (Hd.c (RecH.sk h)), .slice (Hd.k (RecH.sk h)) (Hd.m (RecH.sk h)) (Hd.d (RecH.sk h)), .int .u64 (Gz.n (Sp.g (RecX.sk rx))), .int .u64 (Gz.nans (Sp.g (RecX.sk rx))), .int .u64 (Gz.lo (Sp.g (RecX.sk rx))), .int .u64 (Gz.hi (Sp.g (RecX.sk rx))), .int .i64 (RecX.tseq rx), .int .i64 (Hm.op (RecH.m h)), .string (Hm.nm (RecH.m h)), .string (Hm.vl (RecH.m h)), .slice (Hm.va (RecH.m h)) (Hm.vn (RecH.m h)) (Hm.vc (RecH.m h)), .slice (Hm.ka (RecH.m h)) (Hm.kn (RecH.m h)) (Hm.kc (RecH.m h)), .int .i64 (RecX.frm rx), .int .i64 (RecX.till rx)] _ RG.out Tryz.underlying39 rfl info_rec ?_) | (at_builtin; refine wpList_appAt recV_len (by decide) recV_one _ rfl _ _ 87 rfl w.heap.size i0 _ 240 Tryz.underlying87 hi hz0 hz1 hz2 rfl b pre.length c l rfl OL.out (some ⟨u3.heap.size, 0, none⟩) 1 1 [(rx, h)] rfl rfl CP.out (fun e => by cases e) (Or.inr (by decide)) (by omega) (by omega) (by rw [hu4.out]; exact SZ.out) ?_))
        intro a2 c2 w5 o5 g5 n5
        rw [hu4.out] at g5 OL
        have N5 : Hid (∀ j, (Value.slice a2 (pre.length + 1) c2).ownBlock = some j → (Value.slice b pre.length c).ownBlock = some j ∨ u4.heap.size ≤ j) := fun j hj => (n5 j hj).imp id (fun e => by rw [Z4.out]; exact e)
        have A5 : Hid (RecsAt w5 w.heap.size a2 (pre ++ [rc]).length c2 (pre ++ [rc])) := by
          have q := RecsAt.grow OL.out SL.out o5 g5 N5.out (pre ++ [rc]) ML.out (fun e => by omega)
          rw [show (pre ++ [rc]).length = pre.length + 1 by simp]
          exact q
        have B5 : Hid (Below w.heap.size w w5) := B4.out.trans ((Ch.grown g5).below SZ.out (fun j hj e => by have := (OwnG.cellsT OL.out j e).2; omega))
        have HL2 : Hid ((pre ++ [rc]).length = pre.length + 1) := by show _ = _; simp
        clear o5 g5 n5 N5 Z4 OL SL ML CP B4 RG
        go_wp2
        go_roundw
        case rel => exact ⟨st + vl, pre ++ [rc], a2, c2, hsv.2, HRN, by go_num, by rw [HL2.out], by rw [HL2.out]; omega, HJ, A5, B5⟩
        case measure => first | (simp [intOf]; done) | (simp [intOf]; omega)
/-- The library's table of powers lies in its variable. -/
def TbP (w : World) : Prop := Lib.TabIs Tryz.prog w "internal/strconv.uint64pow10" .u64 Lib.pow10Tab
theorem gPow : Tryz.prog.globalNamed "internal/strconv.uint64pow10" = some 2 := by kernel_rfl
theorem TbP.bel {w u : World} (q : TbP w) (b : Below w.heap.size w u) : TbP u := Joins.tab_stays gPow q b (Nat.le_refl _)
theorem TbP.to {w u : World} {B : Nat} (q : TbP w) (b : Below B w u) (h : w.heap.size ≤ B) : TbP u := Joins.tab_stays gPow q b h
set_option maxHeartbeats 1000000 in
theorem wname_any (n : Int) (w : World) (hn : (Lit.int .i64 n).wf = true) (hT : TbP w) : Calls Tryz.prog 19 #[.int .i64 n] w fun e w' => e = .returned (.string (nmW n)) ∧ Below w.heap.size w w' := by
  by_cases h0 : n < 0
  · rw [nmW_no (by omega)]
    go_enter Tryz.func19, Tryz.ntmps19
    go_wp2
    go_ret
    exact ⟨rfl, Below.refl _ _⟩
  · by_cases h1 : 100000000 ≤ n
    · rw [nmW_no (by omega)]
      go_enter Tryz.func19, Tryz.ntmps19
      go_wp2
      go_ret
      exact ⟨rfl, Below.refl _ _⟩
    · obtain ⟨m, rfl⟩ := Int.eq_ofNat_of_zero_le (show 0 ≤ n by omega)
      have hm : m ≤ 99999999 := by omega
      have hN := hide (name_of hm)
      obtain ⟨hl1, hl8⟩ := itoa_len hm
      have IT := hide (Tryz.strconv_Itoa (m : Int) (by omega) (by omega) w hT)
      have HF : Hid (nmW (m : Int) = nameW m) := by show _ = _; rw [nmW_of (by omega) (by omega), Int.toNat_natCast]
      obtain ⟨s, hs⟩ : ∃ s : ByteArray, (⟨(Lib.itoa (m : Int)).toArray⟩ : ByteArray) = s := ⟨_, rfl⟩
      have hsd : s.data.toList = Lib.itoa (m : Int) := by rw [← hs]
      have hsz : s.size = (Lib.itoa (m : Int)).length := by rw [← hs]; show (Lib.itoa (m : Int)).toArray.size = _; simp
      rw [hs] at IT
      rw [← hsd] at hN
      obtain ⟨c, hc⟩ : ∃ c : Nat, (8 : Int) - (s.size : Int) = c := ⟨8 - s.size, by omega⟩
      have hc2 : 8 - (Lib.itoa (m : Int)).length = c := by omega
      have HN2 : Hid ([108, 111, 103, 45] ++ (Lib.repeatL [48] c ++ s.data.toList) = (nameW m).data.toList) := by
        show _ = _
        rw [← hc2, hsd]
        rw [hsd] at hN
        exact hN.out
      have hc8 : c ≤ 8 := by omega
      have RP := hide (fun u => Tryz.strings_Repeat ⟨#[48]⟩ c u (by omega) (by show 1 * c ≤ _; omega))
      obtain ⟨R, hR⟩ : ∃ R : ByteArray, (⟨(Lib.repeatL (⟨#[48]⟩ : ByteArray).data.toList c).toArray⟩ : ByteArray) = R := ⟨_, rfl⟩
      have hRd : R.data.toList = Lib.repeatL [48] c := by rw [← hR]
      have hRz : R.size = c := by
        rw [← hR]
        show (Lib.repeatL [48] c).toArray.size = c
        rw [List.size_toArray, Lib.repeatL_length]
        simp
      rw [hR] at RP
      rw [← hRd] at HN2
      have HW : Hid ((⟨#[108, 111, 103, 45]⟩ : ByteArray) ++ R ++ s = nameW m) := by
        show _ = _
        apply ByteArray.ext
        rw [ByteArray.data_append, ByteArray.data_append]
        apply Array.toList_inj.1
        rw [Array.toList_append, Array.toList_append, List.append_assoc]
        exact HN2.out
      have d1 : 1 ≤ (s.size : Int) := by omega
      have d2 : (s.size : Int) ≤ 8 := by omega
      have HC := hide hc
      clear hs hsd hsz hN hc hc2 hT hn hl1 hl8 hR hRd HN2
      go_enter Tryz.func19, Tryz.ntmps19
      go_wp2_with fail
      with_reducible refine IT.out.mono ?_
      rintro e u1 ⟨rfl, k, os, hu⟩
      have B1 : Hid (Below w.heap.size w u1) := by rw [hu]; exact Lib.below_grow _ _ (Nat.le_refl _) _ _
      clear hu IT
      go_wp2_with fail
      rw [HC.out]
      with_reducible refine (RP.out _).mono ?_
      rintro e u2 ⟨rfl, hb⟩
      have B2 := hide (B1.out.trans (hb.mono B1.out.size))
      clear hb B1 RP HC
      go_wp2
      go_ret
      refine ⟨?_, B2.out⟩
      rw [HF.out, ← HW.out]
      rfl

/-- Bytes that came in are put behind others: what is told of it. -/
def PutP (n : Nat) (zs out : List Int) (w : World) (e : Ending) (w' : World) : Prop :=
  ∃ a' c', e = .returned (.slice a' (n + out.length) c') ∧ Mine w' w.heap.size a' (n + out.length) c' (zs ++ out) ∧ Below w.heap.size w w'
theorem smL_of {l : List Lb} (h : chkL l = true) : SmL l := by
  obtain ⟨_, e2, e3⟩ := chkL_parts h
  refine ⟨e2, fun y hy => ⟨?_, (e3 y hy).2.2⟩⟩
  have := (e3 y hy).1
  unfold nameB at this
  simp only [Bool.and_eq_true, decide_eq_true_eq] at this
  omega
theorem zig_b8 {v : Int} (h : (Lit.int .i64 v).wf = true) : Bytes8 (putS (zig v)) := putS_byte (zig_word (i64_of_wf h).1 (i64_of_wf h).2)
theorem keepW {w0 v v' : World} {k B : Nat} {x : RecX} {h : RecH} (hb : Below v.heap.size v v') (q : ((World.cell? v ⟨k, 0, none⟩ = some (.slice (RecH.la h) (RecH.ln h) (RecH.lc h))) ∧ (World.cell? v ⟨k, 1, none⟩ = some (.int .i64 (RecX.at9 x))) ∧ (World.cell? v ⟨k, 2, none⟩ = some (.slice (Hd.a (RecH.sk h)) (Hd.n (RecH.sk h)) (Hd.c (RecH.sk h)))) ∧ (World.cell? v ⟨k, 3, none⟩ = some (.slice (Hd.k (RecH.sk h)) (Hd.m (RecH.sk h)) (Hd.d (RecH.sk h)))) ∧ (World.cell? v ⟨k, 4, none⟩ = some (.int .u64 (Gz.n (Sp.g (RecX.sk x))))) ∧ (World.cell? v ⟨k, 5, none⟩ = some (.int .u64 (Gz.nans (Sp.g (RecX.sk x))))) ∧ (World.cell? v ⟨k, 6, none⟩ = some (.int .u64 (Gz.lo (Sp.g (RecX.sk x))))) ∧ (World.cell? v ⟨k, 7, none⟩ = some (.int .u64 (Gz.hi (Sp.g (RecX.sk x)))))) ∧ Hid (k < B ∧ B ≤ v.heap.size ∧ Below B w0 v)) : ((World.cell? v' ⟨k, 0, none⟩ = some (.slice (RecH.la h) (RecH.ln h) (RecH.lc h))) ∧ (World.cell? v' ⟨k, 1, none⟩ = some (.int .i64 (RecX.at9 x))) ∧ (World.cell? v' ⟨k, 2, none⟩ = some (.slice (Hd.a (RecH.sk h)) (Hd.n (RecH.sk h)) (Hd.c (RecH.sk h)))) ∧ (World.cell? v' ⟨k, 3, none⟩ = some (.slice (Hd.k (RecH.sk h)) (Hd.m (RecH.sk h)) (Hd.d (RecH.sk h)))) ∧ (World.cell? v' ⟨k, 4, none⟩ = some (.int .u64 (Gz.n (Sp.g (RecX.sk x))))) ∧ (World.cell? v' ⟨k, 5, none⟩ = some (.int .u64 (Gz.nans (Sp.g (RecX.sk x))))) ∧ (World.cell? v' ⟨k, 6, none⟩ = some (.int .u64 (Gz.lo (Sp.g (RecX.sk x))))) ∧ (World.cell? v' ⟨k, 7, none⟩ = some (.int .u64 (Gz.hi (Sp.g (RecX.sk x)))))) ∧ Hid (k < B ∧ B ≤ v'.heap.size ∧ Below B w0 v') := by
  obtain ⟨⟨c0, c1, c2, c3, c4, c5, c6, c7⟩, l1, l2, l3⟩ := q
  have hl : k < v.heap.size := by omega
  exact ⟨⟨(hb.cell hl).trans c0, (hb.cell hl).trans c1, (hb.cell hl).trans c2, (hb.cell hl).trans c3, (hb.cell hl).trans c4, (hb.cell hl).trans c5, (hb.cell hl).trans c6, (hb.cell hl).trans c7⟩, l1, Nat.le_trans l2 hb.size, l3.trans (hb.mono l2)⟩

set_option maxHeartbeats 4000000 in
theorem putRow_any (S : Nat → Prop) (a : Option Addr) (n cap : Nat) (zs : List Int) (x : RecX) (h : RecH) (w : World) (hr : Row .u8 w a n zs) (hn : n ≤ 1099511627776) (q : SeeW S w x h) (hl : chkL x.l = true) (ok : Ok x.sk) :
    Calls Tryz.prog 48 #[.slice a n cap, (Value.agg #[.slice (RecH.la h) (RecH.ln h) (RecH.lc h), .int .i64 (RecX.at9 x), .slice (Hd.a (RecH.sk h)) (Hd.n (RecH.sk h)) (Hd.c (RecH.sk h)), .slice (Hd.k (RecH.sk h)) (Hd.m (RecH.sk h)) (Hd.d (RecH.sk h)), .int .u64 (Gz.n (Sp.g (RecX.sk x))), .int .u64 (Gz.nans (Sp.g (RecX.sk x))), .int .u64 (Gz.lo (Sp.g (RecX.sk x))), .int .u64 (Gz.hi (Sp.g (RecX.sk x)))])] w fun e w' => PutP n zs (putL x.l ++ (putS (zig x.at9) ++ putP x.sk)) w e w' := by
  have hs := smL_of hl
  have hL := putL_fit hs
  have hA := putS_len (zig x.at9)
  have BL := hide hL.2.2
  have BA := hide (zig_b8 q.wat)
  have BZ : Hid (Bytes8 zs) := hr.bytes
  obtain ⟨w0, hw0⟩ : ∃ w0, Hid (w.alloc (.cells ([.slice (RecH.la h) (RecH.ln h) (RecH.lc h), .int .i64 (RecX.at9 x), .slice (Hd.a (RecH.sk h)) (Hd.n (RecH.sk h)) (Hd.c (RecH.sk h)), .slice (Hd.k (RecH.sk h)) (Hd.m (RecH.sk h)) (Hd.d (RecH.sk h)), .int .u64 (Gz.n (Sp.g (RecX.sk x))), .int .u64 (Gz.nans (Sp.g (RecX.sk x))), .int .u64 (Gz.lo (Sp.g (RecX.sk x))), .int .u64 (Gz.hi (Sp.g (RecX.sk x)))]).toArray 31) = w0) := ⟨_, rfl⟩
  have B : Hid (BoxV w0 w.heap.size 31 [.slice (RecH.la h) (RecH.ln h) (RecH.lc h), .int .i64 (RecX.at9 x), .slice (Hd.a (RecH.sk h)) (Hd.n (RecH.sk h)) (Hd.c (RecH.sk h)), .slice (Hd.k (RecH.sk h)) (Hd.m (RecH.sk h)) (Hd.d (RecH.sk h)), .int .u64 (Gz.n (Sp.g (RecX.sk x))), .int .u64 (Gz.nans (Sp.g (RecX.sk x))), .int .u64 (Gz.lo (Sp.g (RecX.sk x))), .int .u64 (Gz.hi (Sp.g (RecX.sk x)))]) := by rw [← hw0.out]; exact BoxV.new w _ _
  have L : Hid (Below w.heap.size w w0) := by rw [← hw0.out]; exact (Below.refl _ _).alloc (Nat.le_refl _) _
  have Q := hide (q.below L.out (Nat.le_refl _))
  have R0 := hide (hr.below L.out (Nat.le_refl _))
  have C1 := hide (fun W (y : Row .u8 W a n zs) (x' : SeeW S W x h) => lput_any a n cap zs h.la h.ln h.lc x.l W (by omega) y x'.rl hs)
  have C2 := hide (fun W a1 c1 (y : Mine W w0.heap.size a1 (n + (putL x.l).length) c1 (zs ++ putL x.l)) => putint_any x.at9 a1 (n + (putL x.l).length) c1 (zs ++ putL x.l) W q.wat (by omega) y.capped.1 (y.row (by omega) (fits_wf (Bytes8.append BZ.out BL.out))))
  have C3 := hide (fun W a2 c2 (y : Mine W w0.heap.size a2 (n + (putL x.l).length + (putS (zig x.at9)).length) c2 (zs ++ putL x.l ++ putS (zig x.at9))) (x' : SeeW S W x h) => pput_any a2 (n + (putL x.l).length + (putS (zig x.at9)).length) c2 (zs ++ putL x.l ++ putS (zig x.at9)) h.sk x.sk W (y.row (by omega) (fits_wf (Bytes8.append (Bytes8.append BZ.out BL.out) BA.out))) (by omega) x'.sk ok)
  have EP : Hid (zs ++ putL x.l ++ putS (zig x.at9) ++ putP x.sk = zs ++ (putL x.l ++ (putS (zig x.at9) ++ putP x.sk))) := by show _ = _; simp only [List.append_assoc]
  have EL : Hid (n + (putL x.l).length + (putS (zig x.at9)).length + (putP x.sk).length = n + (putL x.l ++ (putS (zig x.at9) ++ putP x.sk)).length) := by show _ = _; simp only [List.length_append]; omega
  rw [EP.out, EL.out] at C3
  generalize putL x.l ++ (putS (zig x.at9) ++ putP x.sk) = OUT at *
  obtain ⟨k, hk⟩ : ∃ k, Hid (w.heap.size = k) := ⟨_, rfl⟩
  rw [hk.out] at B
  have S0 : Hid (((World.cell? w0.drew ⟨k, 0, none⟩ = some (.slice (RecH.la h) (RecH.ln h) (RecH.lc h))) ∧ (World.cell? w0.drew ⟨k, 1, none⟩ = some (.int .i64 (RecX.at9 x))) ∧ (World.cell? w0.drew ⟨k, 2, none⟩ = some (.slice (Hd.a (RecH.sk h)) (Hd.n (RecH.sk h)) (Hd.c (RecH.sk h)))) ∧ (World.cell? w0.drew ⟨k, 3, none⟩ = some (.slice (Hd.k (RecH.sk h)) (Hd.m (RecH.sk h)) (Hd.d (RecH.sk h)))) ∧ (World.cell? w0.drew ⟨k, 4, none⟩ = some (.int .u64 (Gz.n (Sp.g (RecX.sk x))))) ∧ (World.cell? w0.drew ⟨k, 5, none⟩ = some (.int .u64 (Gz.nans (Sp.g (RecX.sk x))))) ∧ (World.cell? w0.drew ⟨k, 6, none⟩ = some (.int .u64 (Gz.lo (Sp.g (RecX.sk x))))) ∧ (World.cell? w0.drew ⟨k, 7, none⟩ = some (.int .u64 (Gz.hi (Sp.g (RecX.sk x)))))) ∧ Hid (k < w0.heap.size ∧ w0.heap.size ≤ w0.drew.heap.size ∧ Below w0.heap.size w0 w0.drew)) :=
    ⟨⟨B.out.cell rfl, B.out.cell rfl, B.out.cell rfl, B.out.cell rfl, B.out.cell rfl, B.out.cell rfl, B.out.cell rfl, B.out.cell rfl⟩, B.out.lt, Nat.le_refl _, (Below.refl _ _).drew⟩
  have QD := hide (Q.out.below (Below.refl w0.heap.size w0).drew (Nat.le_refl _))
  have RD := hide R0.out.drew
  have ZZ : Hid (w0.heap.size ≤ w0.drew.heap.size) := Nat.le_refl _
  clear q hr ok EP EL hL hA hs hl B Q R0 BL BA BZ
  go_enter Tryz.func48, Tryz.ntmps48
  go_upto_region 1 with fail
  rw [hw0.out, hk.out]
  clear hw0
  go_region_held3 (fun w' => ((World.cell? w' ⟨k, 0, none⟩ = some (.slice (RecH.la h) (RecH.ln h) (RecH.lc h))) ∧ (World.cell? w' ⟨k, 1, none⟩ = some (.int .i64 (RecX.at9 x))) ∧ (World.cell? w' ⟨k, 2, none⟩ = some (.slice (Hd.a (RecH.sk h)) (Hd.n (RecH.sk h)) (Hd.c (RecH.sk h)))) ∧ (World.cell? w' ⟨k, 3, none⟩ = some (.slice (Hd.k (RecH.sk h)) (Hd.m (RecH.sk h)) (Hd.d (RecH.sk h)))) ∧ (World.cell? w' ⟨k, 4, none⟩ = some (.int .u64 (Gz.n (Sp.g (RecX.sk x))))) ∧ (World.cell? w' ⟨k, 5, none⟩ = some (.int .u64 (Gz.nans (Sp.g (RecX.sk x))))) ∧ (World.cell? w' ⟨k, 6, none⟩ = some (.int .u64 (Gz.lo (Sp.g (RecX.sk x))))) ∧ (World.cell? w' ⟨k, 7, none⟩ = some (.int .u64 (Gz.hi (Sp.g (RecX.sk x)))))) ∧ Hid (k < w0.heap.size ∧ w0.heap.size ≤ w'.heap.size ∧ Below w0.heap.size w0 w')) (first | with_reducible exact S0.out | with_reducible exact keepW (by assumption) (by assumption)) (first
    | (go_at_call 120; with_reducible refine (C1.out _ RD.out QD.out).mono ?_; rintro e v1 ⟨a1, c1, rfl, o1, b1⟩; have O1 := hide (o1.mono ZZ.out); have Q1 := hide (QD.out.below b1 (Nat.le_refl _)))
    | (go_at_call 47; with_reducible refine (C2.out _ _ _ O1.out).mono ?_; rintro e v2 ⟨a2, c2, rfl, o2, b2⟩; have O2 := hide (o2.mono (Nat.le_trans ZZ.out b1.size)); have Q2 := hide (Q1.out.below b2 (Nat.le_refl _)))
    | (go_at_call 119; with_reducible refine (C3.out _ _ _ O2.out Q2.out).mono ?_; rintro e v3 ⟨a3, c3, rfl, o3, b3⟩; have O3 := hide (o3.mono (Nat.le_trans ZZ.out (Nat.le_trans b1.size b2.size)))))
  have L3 : Hid (Below w.heap.size w v3) := bel_to (bel_to (bel_to L.out.drew (Nat.le_refl _) b1) (Nat.le_refl _) b2) (Nat.le_refl _) b3
  clear b1 b2 b3 o1 o2 o3 O1 O2 Q1 Q2 C1 C2 C3 S0 QD RD
  go_wp2
  go_ret
  exact ⟨a3, c3, rfl, O3.out.mono L.out.size, L3.out⟩

theorem putint0_any (v : Int) (w : World) (hv : (Lit.int .i64 v).wf = true) :
    Calls Tryz.prog 47 #[.slice none 0 0, .int .i64 v] w fun e w' => ∃ a' c', e = .returned (.slice a' (putS (zig v)).length c') ∧ Mine w' w.heap.size a' (putS (zig v)).length c' (putS (zig v)) ∧ Below w.heap.size w w' := by
  refine (putint_any v none 0 0 [] w hv (by omega) (by omega) (nil_row _ _ _)).mono ?_
  rintro e w' ⟨a', c', rfl, h1, h2⟩
  rw [Nat.zero_add, List.nil_append] at h1
  exact ⟨a', c', by rw [Nat.zero_add], h1, h2⟩
theorem w64_sm {v : Int} (h : 0 ≤ v ∧ v ≤ 2 := by decide) : W64 v := ⟨h.1, by omega⟩
theorem putRc_fit1 {S : Nat → Prop} {w : World} {x : RecX} {h : RecH} (q : SeeR S w x h) (hl : chkL x.l = true) (hp : chkP x.sk = true) (e : putRc (rcX x) = putS (zig x.seq) ++ (putS 1 ++ (putL x.l ++ (putS (zig x.at9) ++ putP x.sk)))) : 1 ≤ (putRc (rcX x)).length ∧ (putRc (rcX x)).length ≤ 101000 ∧ Bytes8 (putRc (rcX x)) := by
  have h0 := putS_len (zig x.seq)
  have b0 := zig_b8 q.wsq
  have ok := ok_of q.row.sk hp
  have h1 := putS_len 1
  have h2 := putL_fit (smL_of hl)
  have h3 := putS_len (zig x.at9)
  have h4 := putP_len ok
  rw [e]
  refine ⟨by simp only [List.length_append]; omega, by simp only [List.length_append]; omega, b0.append (Bytes8.append (putS_byte w64_sm) (h2.2.2.append ((zig_b8 q.row.wat).append (putP_byte ok))))⟩
theorem keepX {w0 v v' : World} {k B : Nat} {c0 c1 : Value} (hb : Below v.heap.size v v') (q : (v.cell? ⟨k, 0, none⟩ = some c0 ∧ v.cell? ⟨k, 1, none⟩ = some c1) ∧ Hid (k < B ∧ B ≤ v.heap.size ∧ Below B w0 v)) : (v'.cell? ⟨k, 0, none⟩ = some c0 ∧ v'.cell? ⟨k, 1, none⟩ = some c1) ∧ Hid (k < B ∧ B ≤ v'.heap.size ∧ Below B w0 v') := by
  obtain ⟨⟨c0, c1⟩, l1, l2, l3⟩ := q
  have hl : k < v.heap.size := by omega
  exact ⟨⟨(hb.cell hl).trans c0, (hb.cell hl).trans c1⟩, l1, Nat.le_trans l2 hb.size, l3.trans (hb.mono l2)⟩

set_option maxHeartbeats 8000000 in
theorem putRec_one (S : Nat → Prop) (a : Option Addr) (n cap : Nat) (zs : List Int) (x : RecX) (h : RecH) (w : World) (hr : Row .u8 w a n zs) (hn : n ≤ 1099511627776) (q : SeeR S w x h) (h1 : x.kind = 1) (hl : chkL x.l = true) (hp : chkP x.sk = true) (e : putRc (rcX x) = putS (zig x.seq) ++ (putS 1 ++ (putL x.l ++ (putS (zig x.at9) ++ putP x.sk)))) :
    Calls Tryz.prog 10 #[.slice a n cap, (Value.agg #[.int .i64 (RecX.seq x), .int .i64 (RecX.kind x), .slice (RecH.la h) (RecH.ln h) (RecH.lc h), .int .i64 (RecX.at9 x), .slice (Hd.a (RecH.sk h)) (Hd.n (RecH.sk h)) (Hd.c (RecH.sk h)), .slice (Hd.k (RecH.sk h)) (Hd.m (RecH.sk h)) (Hd.d (RecH.sk h)), .int .u64 (Gz.n (Sp.g (RecX.sk x))), .int .u64 (Gz.nans (Sp.g (RecX.sk x))), .int .u64 (Gz.lo (Sp.g (RecX.sk x))), .int .u64 (Gz.hi (Sp.g (RecX.sk x))), .int .i64 (RecX.tseq x), .int .i64 (Hm.op (RecH.m h)), .string (Hm.nm (RecH.m h)), .string (Hm.vl (RecH.m h)), .slice (Hm.va (RecH.m h)) (Hm.vn (RecH.m h)) (Hm.vc (RecH.m h)), .slice (Hm.ka (RecH.m h)) (Hm.kn (RecH.m h)) (Hm.kc (RecH.m h)), .int .i64 (RecX.frm x), .int .i64 (RecX.till x)])] w fun e w' => PutP n zs (putRc (rcX x)) w e w' := by
  have FT := hide (putRc_fit1 q hl hp e)
  have hs := putS_len (zig x.seq)
  have BS := hide (zig_b8 q.wsq)
  obtain ⟨w0, hw0⟩ : ∃ w0, Hid (w.alloc (.cells ([.int .i64 (RecX.seq x), .int .i64 (RecX.kind x), .slice (RecH.la h) (RecH.ln h) (RecH.lc h), .int .i64 (RecX.at9 x), .slice (Hd.a (RecH.sk h)) (Hd.n (RecH.sk h)) (Hd.c (RecH.sk h)), .slice (Hd.k (RecH.sk h)) (Hd.m (RecH.sk h)) (Hd.d (RecH.sk h)), .int .u64 (Gz.n (Sp.g (RecX.sk x))), .int .u64 (Gz.nans (Sp.g (RecX.sk x))), .int .u64 (Gz.lo (Sp.g (RecX.sk x))), .int .u64 (Gz.hi (Sp.g (RecX.sk x))), .int .i64 (RecX.tseq x), .int .i64 (Hm.op (RecH.m h)), .string (Hm.nm (RecH.m h)), .string (Hm.vl (RecH.m h)), .slice (Hm.va (RecH.m h)) (Hm.vn (RecH.m h)) (Hm.vc (RecH.m h)), .slice (Hm.ka (RecH.m h)) (Hm.kn (RecH.m h)) (Hm.kc (RecH.m h)), .int .i64 (RecX.frm x), .int .i64 (RecX.till x)]).toArray 39) = w0) := ⟨_, rfl⟩
  have B : Hid (BoxV w0 w.heap.size 39 [.int .i64 (RecX.seq x), .int .i64 (RecX.kind x), .slice (RecH.la h) (RecH.ln h) (RecH.lc h), .int .i64 (RecX.at9 x), .slice (Hd.a (RecH.sk h)) (Hd.n (RecH.sk h)) (Hd.c (RecH.sk h)), .slice (Hd.k (RecH.sk h)) (Hd.m (RecH.sk h)) (Hd.d (RecH.sk h)), .int .u64 (Gz.n (Sp.g (RecX.sk x))), .int .u64 (Gz.nans (Sp.g (RecX.sk x))), .int .u64 (Gz.lo (Sp.g (RecX.sk x))), .int .u64 (Gz.hi (Sp.g (RecX.sk x))), .int .i64 (RecX.tseq x), .int .i64 (Hm.op (RecH.m h)), .string (Hm.nm (RecH.m h)), .string (Hm.vl (RecH.m h)), .slice (Hm.va (RecH.m h)) (Hm.vn (RecH.m h)) (Hm.vc (RecH.m h)), .slice (Hm.ka (RecH.m h)) (Hm.kn (RecH.m h)) (Hm.kc (RecH.m h)), .int .i64 (RecX.frm x), .int .i64 (RecX.till x)]) := by rw [← hw0.out]; exact BoxV.new w _ _
  have L : Hid (Below w.heap.size w w0) := by rw [← hw0.out]; exact (Below.refl _ _).alloc (Nat.le_refl _) _
  have Q := hide (q.below L.out (Nat.le_refl _))
  have R0 := hide (hr.below L.out (Nat.le_refl _))
  obtain ⟨k, hk⟩ : ∃ k, Hid (w.heap.size = k) := ⟨_, rfl⟩
  rw [hk.out] at B
  have S0 : Hid ((w0.drew.cell? ⟨k, 0, none⟩ = some (.int .i64 x.seq) ∧ w0.drew.cell? ⟨k, 1, none⟩ = some (.int .i64 x.kind)) ∧ Hid (k < w0.heap.size ∧ w0.heap.size ≤ w0.drew.heap.size ∧ Below w0.heap.size w0 w0.drew)) :=
    ⟨⟨B.out.cell rfl, B.out.cell rfl⟩, B.out.lt, Nat.le_refl _, (Below.refl _ _).drew⟩
  have ZZ : Hid (w0.heap.size ≤ w0.drew.heap.size) := Nat.le_refl _
  have C1 := hide (fun W => putint0_any x.seq W q.wsq)
  obtain ⟨kd, hkd⟩ : ∃ kd, x.kind = kd := ⟨_, rfl⟩
  have C2 := hide (fun (v : Int) (hv : W64 v) W a1 c1 (y : Mine W w0.heap.size a1 (putS (zig x.seq)).length c1 (putS (zig x.seq))) => put_any v a1 (putS (zig x.seq)).length c1 (putS (zig x.seq)) W hv (by omega) y.capped.1 (y.row (by omega) (fits_wf BS.out)))
  have CC := hide (fun W a3 c3 (L : Nat) (hL : (putRc (rcX x)).length = L) (y : Row .u8 W a n zs) (z : Mine W w0.heap.size a3 L c3 (putRc (rcX x))) => concat_two a n cap zs a3 L c3 (putRc (rcX x)) W y (z.row (by have := FT.out.2.1; omega) (fits_wf FT.out.2.2)) (by have := FT.out.1; omega) (by have := FT.out.2.1; omega))
  have C3 := hide (fun W a2 c2 (y : Mine W w0.heap.size a2 ((putS (zig x.seq)).length + (putS 1).length) c2 (putS (zig x.seq) ++ putS 1)) (x' : SeeW S W x h) => putRow_any S a2 ((putS (zig x.seq)).length + (putS 1).length) c2 (putS (zig x.seq) ++ putS 1) x h W (y.row (by have := putS_len 1; omega) (fits_wf (BS.out.append (putS_byte w64_sm)))) (by have := putS_len 1; omega) x' hl (ok_of x'.sk hp))
  unfold PutP at C3
  have EP : Hid (putS (zig x.seq) ++ putS 1 ++ (putL x.l ++ (putS (zig x.at9) ++ putP x.sk)) = putRc (rcX x)) := by show _ = _; rw [e]; simp only [List.append_assoc]
  have EL : Hid ((putS (zig x.seq)).length + (putS 1).length + (putL x.l ++ (putS (zig x.at9) ++ putP x.sk)).length = (putRc (rcX x)).length) := by show _ = _; rw [e]; simp only [List.length_append]; omega
  rw [EP.out, EL.out] at C3
  have D2 := hide (C2.out 1 w64_sm)
  have EW : Hid (IntKind.u64.wrap 1 = 1) := by show _ = _; decide
  unfold PutP
  clear q hr e EP EL hl hp C2 BS hs
  rw [h1] at hw0 B S0 ⊢
  go_enter Tryz.func10, Tryz.ntmps10
  go_upto_region 1 with fail
  rw [hw0.out, hk.out]
  clear hw0
  go_region_held3 (fun w' => (w'.cell? ⟨k, 0, none⟩ = some (.int .i64 x.seq) ∧ w'.cell? ⟨k, 1, none⟩ = some (.int .i64 1)) ∧ Hid (k < w0.heap.size ∧ w0.heap.size ≤ w'.heap.size ∧ Below w0.heap.size w0 w')) (first | with_reducible exact S0.out | with_reducible exact keepX (by assumption) (by assumption)) (first
    | (go_at_call 47; with_reducible refine (C1.out _).mono ?_; rintro e v1 ⟨a1, c1, rfl, o1, b1⟩; have O1 := hide (o1.mono ZZ.out))
    | (go_at_call 46; rw [EW.out]; with_reducible refine (D2.out _ _ _ O1.out).mono ?_; rintro e v2 ⟨a2, c2, rfl, o2, b2⟩; have O2 := hide (o2.mono (Nat.le_trans ZZ.out b1.size))))
  have L2 : Hid (Below w0.heap.size w0 v2) := bel_to (bel_to (Below.refl w0.heap.size w0).drew (Nat.le_refl _) b1) (Nat.le_refl _) b2
  have B2 := hide (B.out.below L2.out B.out.lt)
  have Q2 := hide (Q.out.below L2.out (Nat.le_refl _))
  have R2 := hide (R0.out.below L2.out (Nat.le_refl _))
  have d1 := B2.out.cell (i := 1) rfl
  have d2 := B2.out.cell (i := 2) rfl
  have d3 := B2.out.cell (i := 3) rfl
  have d4 := B2.out.cell (i := 4) rfl
  have d5 := B2.out.cell (i := 5) rfl
  have d6 := B2.out.cell (i := 6) rfl
  have d7 := B2.out.cell (i := 7) rfl
  have d8 := B2.out.cell (i := 8) rfl
  have d9 := B2.out.cell (i := 9) rfl
  clear b1 b2 o1 o2 O1 C1 S0 B
  go_wp2_with fail
  with_reducible refine (C3.out _ _ _ O2.out Q2.out.row).mono ?_
  rintro e v3 ⟨a3, c3, rfl, o3, b3⟩
  have O3 := hide (o3.mono L2.out.size)
  have R3 := hide (R2.out.below b3 (Nat.le_refl _))
  have L3 := hide (L2.out.trans (b3.mono L2.out.size))
  have C4 := hide (CC.out v3 a3 c3 _ rfl R3.out O3.out)
  clear b3 o3 C3 O2 Q2 R2 L2 B2 CC
  go_wp2_with fail
  with_reducible refine C4.out.mono ?_
  rintro e v4 ⟨a4, c4, rfl, o4, b4⟩
  have O4 := hide (o4.mono (Nat.le_trans L.out.size L3.out.size))
  have L4 := hide (bel_to (L.out.trans (L3.out.mono L.out.size)) (Nat.le_refl _) b4)
  clear o4 b4 C4
  go_wp2
  go_ret
  exact ⟨a4, c4, rfl, O4.out, L4.out⟩

end Go.Proofs.YtknghoecjobkiaaGreatDoor

namespace Go.Proofs.YtknghoecjobkiaaGreatDoor
open Go.RowKit Go.Maps
set_option maxRecDepth 20000
set_option linter.unusedVariables false
theorem flat_st (l : List ByteArray) : l.flatMap stV = l.map Value.string := by
  induction l with
  | nil => rfl
  | cons z t ih => rw [List.flatMap_cons, ih]; rfl
theorem enc_names (l : List ByteArray) : (l.map (·.toList)).map encStr = l.map Value.string := by
  rw [List.map_map]
  refine List.map_congr_left (fun y _ => ?_)
  show encStr y.toList = _
  unfold encStr
  rw [ByteArray.toList_eq]
theorem keysV_any (mb : Option Nat) (w : World) :
    Calls Tryz.prog 106 #[.map mb] w fun e w' => e = .returned (.func (.func 178) #[] #[.pointer (some ⟨w.heap.size, 0, none⟩)]) ∧ w' = w.alloc (.cells #[.map mb] 134) :=
  callsIn_wide.1 (Tryz.maps_Keys_106 mb w)
/-- The names of a map in order. -/
theorem sortedV_any (b n : Nat) (fb : List Nat) (D : List Dn) (hD : NamesD D) (w : World) (hM : MapS w b n (nmV fb D)) (hl : D.length ≤ 4294967296) :
    Calls Tryz.prog 164 #[.func (.func 178) #[] #[.pointer (some ⟨w.heap.size, 0, none⟩)]] (w.alloc (.cells #[.map (some b)] 134)) fun e w' =>
      ∃ a c, e = .returned (.slice a (listD D).length c) ∧ OwnVs w' w.heap.size a (listD D).length c (listD D) ∧ Below w.heap.size w w' := by
  have b1 : Below w.heap.size w (w.alloc (.cells #[.map (some b)] 134)) := (Below.refl _ _).alloc (Nat.le_refl _) _
  have s1 : w.heap.size ≤ (w.alloc (.cells #[.map (some b)] 134)).heap.size := b1.size
  obtain ⟨X, hX, hR⟩ := hM
  obtain ⟨esz, hperm0⟩ := size_of hX hR hD.once (names_mem hD)
  rw [List.length_map] at esz
  obtain ⟨hn, hm⟩ := keys_mem hX
  obtain ⟨l1, l2, l3⟩ := listD_names hD
  refine (callsIn_wide.1 (Tryz.slices_Sorted_keys_164_106 b n X heldE w hX (by unfold maxLen; omega) (by omega))).mono ?_
  rintro e w' ⟨v, ss, rfl, hperm, hrow, -, hb⟩
  have e1 : ss.mergeSort (fun x y => decide (x ≤ y)) = (listD D).map (·.toList) := by
    refine sorted_keys hperm hn ?_ (fun x => ?_)
    · rw [List.pairwise_map]
      exact l2
    · rw [hm, ← ba_of', hR.has, nmV_some, List.mem_map]
      constructor
      · rintro ⟨y, hy, rfl⟩
        rw [show (⟨y.toList.toArray⟩ : ByteArray) = y from ba_ext (by rw [ByteArray.toList_eq, ByteArray.toList_eq])]
        exact (l1 y).1 hy
      · intro h
        exact ⟨_, (l1 _).2 h, by rw [ByteArray.toList_eq]⟩
  have hlen : ss.length = (listD D).length := by
    have := congrArg List.length e1
    rw [List.length_mergeSort, List.length_map] at this
    exact this
  rw [e1, enc_names, hlen] at hrow
  obtain ⟨a, c, rfl⟩ := row_form hrow
  refine ⟨a, c, rfl, ?_, bel_to b1 (Nat.le_refl _) hb⟩
  have := Joins.ownsRow_le hrow s1
  show OwnG _ _ _ _ _ _ _ _ _
  unfold OwnG
  rw [flat_st]
  exact this

set_option maxHeartbeats 2000000 in
theorem llist_any (g : Nat) (S : Nat → Prop) (F : Fs) (m : Nat) (w : World) (hF : LAt w g S F) (hL : Lim m F) (hm : m ≤ 1073741824) :
    Calls Tryz.prog 85 #[.pointer (some ⟨g, 0, none⟩)] w fun e w' => ∃ a c, e = .returned (.slice a (listF F).length c) ∧ OwnVs w' w.heap.size a (listF F).length c (listF F) ∧ Below w.heap.size w w' := by
  obtain ⟨hV, hN, fb, fh, bn, bc, at', ct, B⟩ := hF
  have c0 := B.c0
  have hdl : (dirF F).length ≤ 4294967296 := by
    have := turnsD_len F.turns F.sure
    have h1 := hL.sure
    have h2 := hL.turns
    unfold dirF
    omega
  have SV := hide (sortedV_any bn _ fb (dirF F) hN.dir w B.names hdl)
  rw [show listD (dirF F) = listF F from rfl] at SV
  generalize listF F = LF at SV ⊢
  generalize LF.length = lf at SV ⊢
  clear B hV hN hL hdl
  go_enter Tryz.func85, Tryz.ntmps85
  go_wp2_with fail
  with_reducible refine (keysV_any _ _).mono ?_
  rintro e u ⟨rfl, hu⟩
  rw [hu]
  clear hu
  go_wp2_with fail
  with_reducible refine SV.out.mono ?_
  rintro e u ⟨a, c, rfl, o, b⟩
  have O := hide o
  have B := hide b
  clear o b SV
  go_wp2
  go_ret
  exact ⟨a, c, rfl, O.out, B.out⟩

/-- A file system that lies from here on. -/
def OnL (base : Nat) (w u : World) (g : Nat) (F : Fs) : Prop := ∃ S, LAt u g S F ∧ (∀ k, S k → base ≤ k) ∧ Below base w u ∧ base ≤ u.heap.size
theorem onL_made {w u : World} {g : Nat} {F : Fs} (h : MadeV LAt w u g F) : OnL w.heap.size w u g F := by
  obtain ⟨S, q1, q2, q3⟩ := h
  exact ⟨S, q1, q2, q3, q3.size⟩
theorem OnL.below {base : Nat} {w u v : World} {g : Nat} {F : Fs} (h : OnL base w u g F) (b : Below u.heap.size u v) : OnL base w v g F := by
  obtain ⟨S, q1, q2, q3, q4⟩ := h
  exact ⟨S, q1.below b, q2, q3.trans (b.mono q4), Nat.le_trans q4 b.size⟩
section
variable {base : Nat} {w u : World} {g : Nat} {F : Fs} {m : Nat}
end
theorem OnL.bel {base : Nat} {w u : World} {g : Nat} {F : Fs} (h : OnL base w u g F) : Below base w u := h.choose_spec.2.2.1

section
variable {base : Nat} {w u : World} {g : Nat} {F : Fs} {m : Nat}
end
theorem onL_from' {w v u : World} {g : Nat} {F : Fs} (b : Below w.heap.size w v) (h : MadeV LAt v u g F) : OnL w.heap.size w u g F := by
  obtain ⟨S, q1, q2, q3⟩ := h
  exact ⟨S, q1, fun k hk => Nat.le_trans b.size (q2 k hk), b.trans (q3.mono b.size), Nat.le_trans b.size q3.size⟩
end Go.Proofs.YtknghoecjobkiaaGreatDoor

namespace Go.Proofs.YtknghoecjobkiaaGreatDoor
open Go.RowKit
set_option maxRecDepth 20000
set_option maxHeartbeats 2000000 in
set_option maxRecDepth 100000 in
theorem put_frame (a : Option Addr) (n cap : Nat) (zs : List Int) (b : Option Addr) (m capb : Nat) (bs : List Int) (w : World) (hr : Row .u8 w a n zs) (hs : Row .u8 w b m bs) (hn : n ≤ 140737488355328) (hm0 : 1 ≤ m) (hm : m ≤ 1048576) :
    Calls Tryz.prog 101 #[.slice a n cap, .slice b m capb] w fun e w' => ∃ a' cap', e = .returned (.tuple #[.slice a' (n + (frameS bs).length) cap', .int .i64 0]) ∧ Mine w' w.heap.size a' (n + (frameS bs).length) cap' (zs ++ frameS bs) ∧ Below w.heap.size w w' := by
  have P := hide (put_any (m : Int) none 0 0 [] w (w64_len (by omega)) (by omega) (by omega) (nil_row .u8 w none))
  have HA := hide hr
  have HB := hide hs
  have hq := putS_len (m : Int)
  have HQ : Hid (Bytes8 (putS (m : Int))) := putS_byte (w64_len (by omega))
  have HF : Hid (frameS bs = putS (m : Int) ++ (quad (moreS 0 bs) ++ bs)) := by show _ = _; unfold frameS sumB; rw [hs.1]
  have HFL : Hid ((frameS bs).length = (putS (m : Int)).length + 4 + m) := by show _ = _; rw [frameS_len, hs.1, Nat.add_assoc]
  rw [List.nil_append, Nat.zero_add] at P
  clear hr hs
  generalize putS (m : Int) = p at *
  generalize frameS bs = F at *
  obtain ⟨q, hqq⟩ : ∃ q, p.length = q := ⟨_, rfl⟩
  rw [hqq] at P hq HFL
  clear hqq
  have t1 : ((m : Int) == 0) = false := by simp; omega
  have t2 : ¬ ((1048576 : Int) < m) := by omega
  go_enter Tryz.func101, Tryz.ntmps101
  go_wp2_with fail
  refine P.out.mono ?_
  rintro e w1 ⟨a1, c1, rfl, o1, k1⟩
  have R1 := hide (o1.row (by omega) (fits_wf HQ.out))
  have K1 := hide k1
  have RA := hide (HA.out.below k1 (Nat.le_refl _))
  have RB := hide (HB.out.below k1 (Nat.le_refl _))
  clear o1 k1 P HA HB
  have S := hide (sumbytes_any b m capb bs w1 RB.out)
  go_wp2_with fail
  refine S.out.mono ?_
  rintro e w2 ⟨rfl, rfl⟩
  have RQ := hide (four_row (w1.alloc tbl) (moreS 0 bs))
  rw [World.size_alloc] at RQ
  have R1' := hide ((R1.out.alloc tbl).alloc (four_ (moreS 0 bs)))
  have RA' := hide ((RA.out.alloc tbl).alloc (four_ (moreS 0 bs)))
  have RB' := hide ((RB.out.alloc tbl).alloc (four_ (moreS 0 bs)))
  have K2 : Hid (Below w.heap.size w ((w1.alloc tbl).alloc (four_ (moreS 0 bs)))) := bel_al (bel_al K1.out (Nat.le_refl _) _) (Nat.le_refl _) _
  clear S R1 RA RB K1
  obtain ⟨g, hg⟩ : ∃ g, w1.heap.size + 1 = g := ⟨_, rfl⟩
  rw [hg] at RQ ⊢
  clear hg
  generalize (w1.alloc tbl).alloc (four_ (moreS 0 bs)) = W at *
  obtain ⟨L, hL⟩ : ∃ L : List Sl, L = [(a, n, cap, zs), (a1, q, c1, p), (some ⟨g, 0, none⟩, 4, 4, quad (moreS 0 bs)), (b, m, capb, bs)] := ⟨_, rfl⟩
  obtain ⟨O, hO⟩ : ∃ O : Obj, O = .cells #[.slice a n cap, .slice a1 q c1, .slice (some ⟨g, 0, none⟩) 4 4, .slice b m capb] 40 := ⟨_, rfl⟩
  have HP : Hid (parts L 4 = zs ++ F) := by show _ = _; rw [hL, HF.out]; simp [parts]
  have C := hide (concat_any W.heap.size L (W.alloc O) (by rw [hL]; simp only [List.length_cons, List.length_nil]; omega)
    (by
      rw [hL, hO]
      intro i hi
      rw [World.cell?_alloc_mark]
      match i, hi with
      | 0, _ => rfl
      | 1, _ => rfl
      | 2, _ => rfl
      | 3, _ => rfl
      | n + 4, h => simp at h; omega)
    (by
      rw [hL]
      intro i hi
      match i, hi with
      | 0, _ => exact RA'.out.alloc O
      | 1, _ => exact R1'.out.alloc O
      | 2, _ => exact RQ.out.alloc O
      | 3, _ => exact RB'.out.alloc O
      | n + 4, h => simp at h; omega)
    (by rw [hL] at HP ⊢; show 0 < (parts _ 4).length; rw [HP.out, List.length_append, HFL.out]; omega)
    (by rw [hL] at HP ⊢; show (parts _ 4).length ≤ _; rw [HP.out, List.length_append, HFL.out, RA'.out.1]; omega))
  have h4 : L.length = 4 := by rw [hL]; rfl
  rw [h4, HP.out, List.length_append, RA'.out.1] at C
  rw [hO] at C
  clear hL h4 hO HP
  go_wp2_with fail
  refine C.out.mono ?_
  rintro e w3 ⟨a3, c3, rfl, o3, k3⟩
  have O3 : Hid (Mine w3 w.heap.size a3 (n + F.length) c3 (zs ++ F)) := o3.mono (by have := K2.out.size; rw [World.size_alloc]; omega)
  have K3 : Hid (Below w.heap.size w w3) := bel_to (bel_al K2.out (Nat.le_refl _) _) (Nat.le_refl _) k3
  clear o3 k3 C
  go_wp2
  go_ret2
  exact ⟨a3, c3, rfl, O3, K3⟩
end Go.Proofs.YtknghoecjobkiaaGreatDoor

namespace Go.Proofs.YtknghoecjobkiaaGreatDoor
open Go.RowKit Go.Maps
set_option maxRecDepth 20000
set_option linter.unusedVariables false
/-- A log's own cells. -/
structure Lg where
  last : Int
  found : Int
  torn : Int
  rd : Bool
structure LgW (L : Lg) : Prop where
  l0 : 0 ≤ L.last
  l1 : L.last ≤ 99999999
  f0 : 0 ≤ L.found
  f1 : L.found ≤ 99999999
  t0 : -1 ≤ L.torn
  t1 : L.torn ≤ 9223372036854775807
def logC (g : Nat) (L : Lg) : List Value := [.pointer (some ⟨g, 0, none⟩), .int .i64 L.last, .int .i64 L.found, .int .i64 L.torn, .bool L.rd]
/-- The table's block. -/
def gPw : Nat := 2
theorem TbP.lt {w : World} (q : TbP w) : gPw < w.heap.size := by
  unfold TbP Lib.TabIs World.var? at q
  rw [gPow] at q
  rcases Nat.lt_or_ge gPw w.heap.size with h | h
  · exact h
  · have : w.heap[2]? = none := Array.getElem?_eq_none h
    simp [this] at q
theorem TbP.ch {w u : World} {C : Nat → Prop} (q : TbP w) (c : Ch C w u) (hn : ¬ C gPw) : TbP u := by
  have hl := q.lt
  unfold TbP Lib.TabIs World.var? at q ⊢
  rw [gPow] at q ⊢
  simp only [Option.bind_some] at q ⊢
  have e := c.block gPw hl hn
  unfold gPw at e
  rw [e]
  exact q
theorem ch_far {S S0 : Nat → Prop} {w u v : World} (h : Ch S w u) (k : Ch S0 u v) (hs : ∀ j, S0 j → S j ∨ w.heap.size ≤ j) : Ch S w v :=
  ⟨k.os.trans h.os, k.tape.trans h.tape, k.output.trans h.output, Nat.le_trans h.size k.size, fun i hi hn => (k.block i (Nat.lt_of_lt_of_le hi h.size) (fun e => by
    rcases hs i e with e | e
    · exact hn e
    · omega)).trans (h.block i hi hn)⟩
/-- A log that lies in memory, its file system with it. -/
def GAt (g : Nat) (w : World) (q : Nat) (S : Nat → Prop) (X : Fs × Lg) : Prop :=
  ∃ S0 : Nat → Prop, LAt w g S0 X.1 ∧ BoxV w q 145 (logC g X.2) ∧ ¬ S0 q ∧ TbP w ∧ ¬ S gPw ∧ (∀ k, S k ↔ S0 k ∨ k = q) ∧ LgW X.2
/-- What the calls of a log have left so far. -/
def Rn (g q : Nat) (S : Nat → Prop) (w u : World) (F : Fs) (L : Lg) : Prop := StepV (GAt g) w u q S (F, L)
section
variable {g q m : Nat} {S : Nat → Prop} {w u v : World} {F F' : Fs} {L L' : Lg}
theorem rn_refl (h : GAt g w q S (F, L)) : Rn g q S w w F L := ⟨S, h, fun k hk => Or.inl hk, Ch.refl _ _⟩
theorem Rn.box (h : Rn g q S w u F L) : BoxV u q 145 (logC g L) := by
  obtain ⟨_, ⟨_, _, b, _⟩, _⟩ := h
  exact b
theorem Rn.tab (h : Rn g q S w u F L) : TbP u := by
  obtain ⟨_, ⟨_, _, _, _, t, _⟩, _⟩ := h
  exact t
theorem Rn.wf (h : Rn g q S w u F L) : LgW L := by
  obtain ⟨_, ⟨_, _, _, _, _, _, _, t⟩, _⟩ := h
  exact t
theorem Rn.good (h : Rn g q S w u F L) : GoodV F ∧ GoodN F := by
  obtain ⟨_, ⟨_, ⟨a, b, _⟩, _⟩, _⟩ := h
  exact ⟨a, b⟩
/-- Nothing of it has turned. -/
theorem Rn.below (h : Rn g q S w u F L) (b : Below u.heap.size u v) : Rn g q S w v F L := by
  obtain ⟨S1, ⟨S0, h1, h2, h3, h4, h5, h6, h7⟩, h8, h9⟩ := h
  exact ⟨S1, ⟨S0, h1.below b, h2.below b h2.lt, h3, h4.bel b, h5, h6, h7⟩, h8, h9.trans ((Ch.of_below b).more fun _ _ e => e.elim)⟩
/-- A step of the file system. -/
theorem Rn.split (h : Rn g q S w u F L) : ∃ S0, LAt u g S0 F ∧ ∀ v F', StepV LAt u v g S0 F' → Rn g q S w v F' L := by
  obtain ⟨S1, ⟨S0, h1, h2, h3, h4, h5, h6, h7⟩, h8, h9⟩ := h
  refine ⟨S0, h1, ?_⟩
  rintro v F' ⟨S2, k1, k2, k3⟩
  have hq := h2.lt
  have hp := h4.lt
  have n0 : ¬ S0 gPw := fun e => h5 ((h6 _).2 (Or.inl e))
  have nq : ¬ gPw = q := fun e => h5 ((h6 _).2 (Or.inr e))
  refine ⟨fun k => S2 k ∨ k = q, ⟨S2, k1, h2.ch k3 h3, fun e => ?_, h4.ch k3 n0, fun e => ?_, fun k => Iff.rfl, h7⟩, fun k hk => ?_, ch_far h9 k3 (fun k hk => h8 k ((h6 k).2 (Or.inl hk)))⟩
  · rcases k2 q e with e | e
    · exact h3 e
    · omega
  · rcases e with e | e
    · rcases k2 _ e with e | e
      · exact n0 e
      · omega
    · exact nq e
  · rcases hk with hk | rfl
    · rcases k2 k hk with e | e
      · exact h8 k ((h6 k).2 (Or.inl e))
      · exact Or.inr (Nat.le_trans h9.size e)
    · exact h8 k ((h6 k).2 (Or.inr rfl))
/-- A cell of its own is written. -/
theorem Rn.set (h : Rn g q S w u F L) (i : Nat) (x : Value) (hL : LgW L') (e : (logC g L).set i x = logC g L') : Rn g q S w (u.setCell ⟨q, i, none⟩ x) F L' := by
  obtain ⟨S1, ⟨S0, h1, h2, h3, h4, h5, h6, h7⟩, h8, h9⟩ := h
  have c := ch_set u q i x
  have nq : ¬ gPw = q := fun e => h5 ((h6 _).2 (Or.inr e))
  have b := h2.set i x
  rw [e] at b
  exact ⟨S1, ⟨S0, h1.keep c (fun k hk e => h3 (e ▸ hk)), b, h3, h4.ch c nq, h5, h6, hL⟩, fun k hk => by
    rcases h8 k hk with e | e
    · exact Or.inl e
    · exact Or.inr e, ch_far h9 c (fun k hk => h8 k ((h6 k).2 (Or.inr hk)))⟩
theorem rn_create (h : Rn g q S w u F L) (hL : LimB m F) (hm : m < 1073741824) (s : ByteArray) (hs : s.size ≤ 9223372036854775807) : Calls Tryz.prog 152 #[.pointer (some ⟨g, 0, none⟩), .string s] u fun e u' => e = .returned (.int .i64 (createF F s).2) ∧ Rn g q S w u' (createF F s).1 L := by
  obtain ⟨S0, h1, hk⟩ := h.split
  exact (lcreate_any g S0 F s m u h1 hL.lim hm hs).mono (fun e u' ⟨he, st⟩ => ⟨he, hk _ _ st⟩)
theorem rn_append (h : Rn g q S w u F L) (hL : LimB m F) (hm : m < 1073741824) (s : ByteArray) (hs : s.size ≤ 9223372036854775807) (a : Option Addr) (n c : Nat) (zs : List Int) (hr : Row .u8 u a n zs) (hn : n ≤ 4294967296) (hnc : n ≤ c) : Calls Tryz.prog 102 #[.pointer (some ⟨g, 0, none⟩), .string s, .slice a n c] u fun e u' => e = .returned (.int .i64 (appendF F s zs).2) ∧ Rn g q S w u' (appendF F s zs).1 L := by
  obtain ⟨S0, h1, hk⟩ := h.split
  exact (lappend_any g S0 F s a n c zs m u h1 hL.lim hm hs hr hn hnc).mono (fun e u' ⟨he, st⟩ => ⟨he, hk _ _ st⟩)
theorem rn_cut (h : Rn g q S w u F L) (hL : LimB m F) (hm : m < 1073741824) (s : ByteArray) (hs : s.size ≤ 9223372036854775807) (z : Int) (hz : (Lit.int .i64 z).wf = true) : Calls Tryz.prog 153 #[.pointer (some ⟨g, 0, none⟩), .string s, .int .i64 z] u fun e u' => e = .returned (.int .i64 (cutF F s z).2) ∧ Rn g q S w u' (cutF F s z).1 L := by
  obtain ⟨S0, h1, hk⟩ := h.split
  exact (lcut_any g S0 F s z m u h1 hL.lim hm hs hz).mono (fun e u' ⟨he, st⟩ => ⟨he, hk _ _ st⟩)
theorem rn_sync (h : Rn g q S w u F L) (hL : LimB m F) (hm : m < 1073741824) (s : ByteArray) (hs : s.size ≤ 9223372036854775807) : Calls Tryz.prog 74 #[.pointer (some ⟨g, 0, none⟩), .string s] u fun e u' => e = .returned (.int .i64 (syncF F s).2) ∧ Rn g q S w u' (syncF F s).1 L := by
  obtain ⟨S0, h1, hk⟩ := h.split
  exact (lsync_any g S0 F s m u h1 hL.lim hm hs).mono (fun e u' ⟨he, st⟩ => ⟨he, hk _ _ st⟩)
theorem rn_syncdir (h : Rn g q S w u F L) (hL : LimB m F) (hm : m < 1073741824) : Calls Tryz.prog 75 #[.pointer (some ⟨g, 0, none⟩)] u fun e u' => e = .returned (.int .i64 (syncdirF F).2) ∧ Rn g q S w u' (syncdirF F).1 L := by
  obtain ⟨S0, h1, hk⟩ := h.split
  exact (lsyncdir_any g S0 F m u h1 hL.lim hm).mono (fun e u' ⟨he, st⟩ => ⟨he, hk _ _ st⟩)
theorem rn_read (h : Rn g q S w u F L) (hL : LimB m F) (hm : m < 1073741824) (s : ByteArray) (hs : s.size ≤ maxLen) : Calls Tryz.prog 88 #[.pointer (some ⟨g, 0, none⟩), .string s] u fun e u' => ReadVp (readF F s) u e u' ∧ Rn g q S w u' F L := by
  obtain ⟨S0, h1, hk⟩ := h.split
  exact (lread_any g S0 F s m u h1 hL.lim (by omega) hs).mono (fun e u' he => ⟨he, h.below he.1⟩)
theorem rn_list (h : Rn g q S w u F L) (hL : LimB m F) (hm : m < 1073741824) : Calls Tryz.prog 85 #[.pointer (some ⟨g, 0, none⟩)] u fun e u' => (∃ a c, e = .returned (.slice a (listF F).length c) ∧ OwnVs u' u.heap.size a (listF F).length c (listF F)) ∧ Rn g q S w u' F L := by
  obtain ⟨S0, h1, hk⟩ := h.split
  exact (llist_any g S0 F m u h1 hL.lim (by omega)).mono (fun e u' ⟨a, c, he, ho, hb⟩ => ⟨⟨a, c, he, ho⟩, h.below hb⟩)
theorem rn_name (h : Rn g q S w u F L) (n : Int) (hn : (Lit.int .i64 n).wf = true) : Calls Tryz.prog 19 #[.int .i64 n] u fun e u' => e = .returned (.string (nmW n)) ∧ Rn g q S w u' F L :=
  (wname_any n u hn h.tab).mono (fun e u' ⟨he, hb⟩ => ⟨he, h.below hb⟩)
end

set_option maxHeartbeats 8000000 in
theorem wturn_any (g q : Nat) (S : Nat → Prop) (w u : World) (F : Fs) (L : Lg) (m : Nat) (h : Rn g q S w u F L) (hL : LimB m F) (hm : m + 10 ≤ 1073741824) :
    Calls Tryz.prog 80 #[.pointer (some ⟨q, 0, none⟩)] u fun e u' => e = .returned (.int .i64 (turnW F L.last).2.1) ∧ Rn g q S w u' (turnW F L.last).1 { L with last := (turnW F L.last).2.2 } := by
  have hw := h.wf
  have l0 := hw.l0
  have l1 := hw.l1
  have d0 := h.box.cell (i := 0) rfl
  have d1 : u.cell? ⟨q, 1, none⟩ = some (.int .i64 L.last) := h.box.cell (i := 1) rfl
  have NM := hide (rn_name h (L.last + 1) (i64_wf (by omega) (by omega)))
  have SZ := nmW_size (L.last + 1)
  obtain ⟨z, hz⟩ : ∃ z, Hid (L.last = z) := ⟨_, rfl⟩
  have LE : Hid ({ L with last := z } = L) := by have e := hz.out; subst e; rfl
  rw [hz.out] at l0 l1 NM SZ d1
  rw [hz.out]
  by_cases h1 : nmW (z + 1) = ByteArray.empty
  · have HT : Hid (turnW F z = (F, 2, z)) := by show _ = _; unfold turnW; rw [if_pos h1]
    rw [HT.out]
    dsimp only
    rw [LE.out]
    rw [h1] at NM
    clear h1 LE h hL
    go_enter Tryz.func80, Tryz.ntmps80
    go_wp2
    refine wp_scope_jumps 0 (fun a' w' => a'.defers = [] ∧ a'.tmps.size = 36 ∧ a'.tmps.getD 4 undef = .int .i64 2 ∧ Rn g q S w w' F L) (fun _ _ => 0) rfl ?_ ?_
    rotate_left 1
    · rintro ⟨⟨l0⟩, dd⟩ w' ⟨hd, h0, h4, hR⟩
      dsimp only at hd
      subst hd
      have h0 : l0.length = 36 := h0
      obtain ⟨u0, l1, rfl⟩ := List.exists_cons_of_length_eq_add_one h0
      have h_1 : l1.length = 35 := by simpa using h0
      obtain ⟨u1, l2, rfl⟩ := List.exists_cons_of_length_eq_add_one h_1
      have h_2 : l2.length = 34 := by simpa using h_1
      obtain ⟨u2, l3, rfl⟩ := List.exists_cons_of_length_eq_add_one h_2
      have h_3 : l3.length = 33 := by simpa using h_2
      obtain ⟨u3, l4, rfl⟩ := List.exists_cons_of_length_eq_add_one h_3
      have h_4 : l4.length = 32 := by simpa using h_3
      obtain ⟨u4, l5, rfl⟩ := List.exists_cons_of_length_eq_add_one h_4
      have h_5 : l5.length = 31 := by simpa using h_4
      obtain ⟨u5, l6, rfl⟩ := List.exists_cons_of_length_eq_add_one h_5
      have h_6 : l6.length = 30 := by simpa using h_5
      obtain ⟨u6, l7, rfl⟩ := List.exists_cons_of_length_eq_add_one h_6
      have h_7 : l7.length = 29 := by simpa using h_6
      obtain ⟨u7, l8, rfl⟩ := List.exists_cons_of_length_eq_add_one h_7
      have h_8 : l8.length = 28 := by simpa using h_7
      obtain ⟨u8, l9, rfl⟩ := List.exists_cons_of_length_eq_add_one h_8
      have h_9 : l9.length = 27 := by simpa using h_8
      obtain ⟨u9, l10, rfl⟩ := List.exists_cons_of_length_eq_add_one h_9
      have h_10 : l10.length = 26 := by simpa using h_9
      obtain ⟨u10, l11, rfl⟩ := List.exists_cons_of_length_eq_add_one h_10
      have h_11 : l11.length = 25 := by simpa using h_10
      obtain ⟨u11, l12, rfl⟩ := List.exists_cons_of_length_eq_add_one h_11
      have h_12 : l12.length = 24 := by simpa using h_11
      obtain ⟨u12, l13, rfl⟩ := List.exists_cons_of_length_eq_add_one h_12
      have h_13 : l13.length = 23 := by simpa using h_12
      obtain ⟨u13, l14, rfl⟩ := List.exists_cons_of_length_eq_add_one h_13
      have h_14 : l14.length = 22 := by simpa using h_13
      obtain ⟨u14, l15, rfl⟩ := List.exists_cons_of_length_eq_add_one h_14
      have h_15 : l15.length = 21 := by simpa using h_14
      obtain ⟨u15, l16, rfl⟩ := List.exists_cons_of_length_eq_add_one h_15
      have h_16 : l16.length = 20 := by simpa using h_15
      obtain ⟨u16, l17, rfl⟩ := List.exists_cons_of_length_eq_add_one h_16
      have h_17 : l17.length = 19 := by simpa using h_16
      obtain ⟨u17, l18, rfl⟩ := List.exists_cons_of_length_eq_add_one h_17
      have h_18 : l18.length = 18 := by simpa using h_17
      obtain ⟨u18, l19, rfl⟩ := List.exists_cons_of_length_eq_add_one h_18
      have h_19 : l19.length = 17 := by simpa using h_18
      obtain ⟨u19, l20, rfl⟩ := List.exists_cons_of_length_eq_add_one h_19
      have h_20 : l20.length = 16 := by simpa using h_19
      obtain ⟨u20, l21, rfl⟩ := List.exists_cons_of_length_eq_add_one h_20
      have h_21 : l21.length = 15 := by simpa using h_20
      obtain ⟨u21, l22, rfl⟩ := List.exists_cons_of_length_eq_add_one h_21
      have h_22 : l22.length = 14 := by simpa using h_21
      obtain ⟨u22, l23, rfl⟩ := List.exists_cons_of_length_eq_add_one h_22
      have h_23 : l23.length = 13 := by simpa using h_22
      obtain ⟨u23, l24, rfl⟩ := List.exists_cons_of_length_eq_add_one h_23
      have h_24 : l24.length = 12 := by simpa using h_23
      obtain ⟨u24, l25, rfl⟩ := List.exists_cons_of_length_eq_add_one h_24
      have h_25 : l25.length = 11 := by simpa using h_24
      obtain ⟨u25, l26, rfl⟩ := List.exists_cons_of_length_eq_add_one h_25
      have h_26 : l26.length = 10 := by simpa using h_25
      obtain ⟨u26, l27, rfl⟩ := List.exists_cons_of_length_eq_add_one h_26
      have h_27 : l27.length = 9 := by simpa using h_26
      obtain ⟨u27, l28, rfl⟩ := List.exists_cons_of_length_eq_add_one h_27
      have h_28 : l28.length = 8 := by simpa using h_27
      obtain ⟨u28, l29, rfl⟩ := List.exists_cons_of_length_eq_add_one h_28
      have h_29 : l29.length = 7 := by simpa using h_28
      obtain ⟨u29, l30, rfl⟩ := List.exists_cons_of_length_eq_add_one h_29
      have h_30 : l30.length = 6 := by simpa using h_29
      obtain ⟨u30, l31, rfl⟩ := List.exists_cons_of_length_eq_add_one h_30
      have h_31 : l31.length = 5 := by simpa using h_30
      obtain ⟨u31, l32, rfl⟩ := List.exists_cons_of_length_eq_add_one h_31
      have h_32 : l32.length = 4 := by simpa using h_31
      obtain ⟨u32, l33, rfl⟩ := List.exists_cons_of_length_eq_add_one h_32
      have h_33 : l33.length = 3 := by simpa using h_32
      obtain ⟨u33, l34, rfl⟩ := List.exists_cons_of_length_eq_add_one h_33
      have h_34 : l34.length = 2 := by simpa using h_33
      obtain ⟨u34, l35, rfl⟩ := List.exists_cons_of_length_eq_add_one h_34
      have h_35 : l35.length = 1 := by simpa using h_34
      obtain ⟨u35, l36, rfl⟩ := List.exists_cons_of_length_eq_add_one h_35
      have h_36 : l36.length = 0 := by simpa using h_35
      obtain rfl := List.length_eq_zero_iff.1 h_36
      have h5 : u4 = .int .i64 2 := h4
      subst h5
      have HR := hide hR
      clear h4 hR h0 h_1 h_2 h_3 h_4 h_5 h_6 h_7 h_8 h_9 h_10 h_11 h_12 h_13 h_14 h_15 h_16 h_17 h_18 h_19 h_20 h_21 h_22 h_23 h_24 h_25 h_26 h_27 h_28 h_29 h_30 h_31 h_32 h_33 h_34 h_35 h_36
      show Code.wp _ _ _ ⟨#[u0, u1, u2, u3, .int .i64 2, u5, u6, u7, u8, u9, u10, u11, u12, u13, u14, u15, u16, u17, u18, u19, u20, u21, u22, u23, u24, u25, u26, u27, u28, u29, u30, u31, u32, u33, u34, u35], []⟩ w'
      go_wp2
      simp only [Exit.jump]
      go_ret
      exact ⟨rfl, HR.out⟩
    go_wp2_with fail
    with_reducible refine NM.out.mono ?_
    rintro e v1 ⟨rfl, r1⟩
    have R1 := hide r1
    clear r1 NM
    go_wp2
    go_step3
    exact ⟨rfl, rfl, rfl, rfl, R1.out⟩
  · have hb : ((nmW (z + 1)).toList == []) = false := by rw [beq_eq_false_iff_ne]; intro e; exact h1 (ba_ext (by rw [e, ByteArray.toList_eq]; rfl))
    have CR := hide (fun v (r : Rn g q S w v F L) => rn_create r hL (by omega) (nmW (z + 1)) (by omega))
    have LM := hide (hL.create (nmW (z + 1)))
    have HT : Hid (turnW F z = if (createF F (nmW (z + 1))).2 = 0 then (if (syncdirF (createF F (nmW (z + 1))).1).2 = 0 then ((syncdirF (createF F (nmW (z + 1))).1).1, 0, z + 1) else ((syncdirF (createF F (nmW (z + 1))).1).1, (syncdirF (createF F (nmW (z + 1))).1).2, z)) else ((createF F (nmW (z + 1))).1, (createF F (nmW (z + 1))).2, z)) := by show _ = _; unfold turnW; rw [if_neg h1]
    rw [HT.out]
    have WF2 : Hid (LgW { L with last := z + 1 }) := ⟨by show 0 ≤ z + 1; omega, by show z + 1 ≤ _; have := mt nmW_empty.2 h1; omega, hw.f0, hw.f1, hw.t0, hw.t1⟩
    generalize nmW (z + 1) = nm at *
    generalize createF F nm = cr at *
    obtain ⟨F1, c1⟩ := cr
    dsimp only at CR LM HT ⊢
    by_cases h2 : c1 = 0
    · subst h2
      rw [if_pos rfl]
      have SD := hide (fun v (r : Rn g q S w v F1 L) => rn_syncdir r LM.out (by omega))
      generalize syncdirF F1 = sd at *
      obtain ⟨F2, c2⟩ := sd
      dsimp only at SD ⊢
      by_cases h3 : c2 = 0
      · subst h3
        rw [if_pos rfl]
        dsimp only
        clear LE h hL HT
        go_enter Tryz.func80, Tryz.ntmps80
        go_wp2
        refine wp_scope_jumps 0 (fun a' w' => a'.defers = [] ∧ a'.tmps.size = 36 ∧ a'.tmps.getD 4 undef = .int .i64 0 ∧ Rn g q S w w' F2 { L with last := z + 1 }) (fun _ _ => 0) rfl ?_ ?_
        rotate_left 1
        · rintro ⟨⟨l0⟩, dd⟩ w' ⟨hd, h0, h4, hR⟩
          dsimp only at hd
          subst hd
          have h0 : l0.length = 36 := h0
          obtain ⟨u0, l1, rfl⟩ := List.exists_cons_of_length_eq_add_one h0
          have h_1 : l1.length = 35 := by simpa using h0
          obtain ⟨u1, l2, rfl⟩ := List.exists_cons_of_length_eq_add_one h_1
          have h_2 : l2.length = 34 := by simpa using h_1
          obtain ⟨u2, l3, rfl⟩ := List.exists_cons_of_length_eq_add_one h_2
          have h_3 : l3.length = 33 := by simpa using h_2
          obtain ⟨u3, l4, rfl⟩ := List.exists_cons_of_length_eq_add_one h_3
          have h_4 : l4.length = 32 := by simpa using h_3
          obtain ⟨u4, l5, rfl⟩ := List.exists_cons_of_length_eq_add_one h_4
          have h_5 : l5.length = 31 := by simpa using h_4
          obtain ⟨u5, l6, rfl⟩ := List.exists_cons_of_length_eq_add_one h_5
          have h_6 : l6.length = 30 := by simpa using h_5
          obtain ⟨u6, l7, rfl⟩ := List.exists_cons_of_length_eq_add_one h_6
          have h_7 : l7.length = 29 := by simpa using h_6
          obtain ⟨u7, l8, rfl⟩ := List.exists_cons_of_length_eq_add_one h_7
          have h_8 : l8.length = 28 := by simpa using h_7
          obtain ⟨u8, l9, rfl⟩ := List.exists_cons_of_length_eq_add_one h_8
          have h_9 : l9.length = 27 := by simpa using h_8
          obtain ⟨u9, l10, rfl⟩ := List.exists_cons_of_length_eq_add_one h_9
          have h_10 : l10.length = 26 := by simpa using h_9
          obtain ⟨u10, l11, rfl⟩ := List.exists_cons_of_length_eq_add_one h_10
          have h_11 : l11.length = 25 := by simpa using h_10
          obtain ⟨u11, l12, rfl⟩ := List.exists_cons_of_length_eq_add_one h_11
          have h_12 : l12.length = 24 := by simpa using h_11
          obtain ⟨u12, l13, rfl⟩ := List.exists_cons_of_length_eq_add_one h_12
          have h_13 : l13.length = 23 := by simpa using h_12
          obtain ⟨u13, l14, rfl⟩ := List.exists_cons_of_length_eq_add_one h_13
          have h_14 : l14.length = 22 := by simpa using h_13
          obtain ⟨u14, l15, rfl⟩ := List.exists_cons_of_length_eq_add_one h_14
          have h_15 : l15.length = 21 := by simpa using h_14
          obtain ⟨u15, l16, rfl⟩ := List.exists_cons_of_length_eq_add_one h_15
          have h_16 : l16.length = 20 := by simpa using h_15
          obtain ⟨u16, l17, rfl⟩ := List.exists_cons_of_length_eq_add_one h_16
          have h_17 : l17.length = 19 := by simpa using h_16
          obtain ⟨u17, l18, rfl⟩ := List.exists_cons_of_length_eq_add_one h_17
          have h_18 : l18.length = 18 := by simpa using h_17
          obtain ⟨u18, l19, rfl⟩ := List.exists_cons_of_length_eq_add_one h_18
          have h_19 : l19.length = 17 := by simpa using h_18
          obtain ⟨u19, l20, rfl⟩ := List.exists_cons_of_length_eq_add_one h_19
          have h_20 : l20.length = 16 := by simpa using h_19
          obtain ⟨u20, l21, rfl⟩ := List.exists_cons_of_length_eq_add_one h_20
          have h_21 : l21.length = 15 := by simpa using h_20
          obtain ⟨u21, l22, rfl⟩ := List.exists_cons_of_length_eq_add_one h_21
          have h_22 : l22.length = 14 := by simpa using h_21
          obtain ⟨u22, l23, rfl⟩ := List.exists_cons_of_length_eq_add_one h_22
          have h_23 : l23.length = 13 := by simpa using h_22
          obtain ⟨u23, l24, rfl⟩ := List.exists_cons_of_length_eq_add_one h_23
          have h_24 : l24.length = 12 := by simpa using h_23
          obtain ⟨u24, l25, rfl⟩ := List.exists_cons_of_length_eq_add_one h_24
          have h_25 : l25.length = 11 := by simpa using h_24
          obtain ⟨u25, l26, rfl⟩ := List.exists_cons_of_length_eq_add_one h_25
          have h_26 : l26.length = 10 := by simpa using h_25
          obtain ⟨u26, l27, rfl⟩ := List.exists_cons_of_length_eq_add_one h_26
          have h_27 : l27.length = 9 := by simpa using h_26
          obtain ⟨u27, l28, rfl⟩ := List.exists_cons_of_length_eq_add_one h_27
          have h_28 : l28.length = 8 := by simpa using h_27
          obtain ⟨u28, l29, rfl⟩ := List.exists_cons_of_length_eq_add_one h_28
          have h_29 : l29.length = 7 := by simpa using h_28
          obtain ⟨u29, l30, rfl⟩ := List.exists_cons_of_length_eq_add_one h_29
          have h_30 : l30.length = 6 := by simpa using h_29
          obtain ⟨u30, l31, rfl⟩ := List.exists_cons_of_length_eq_add_one h_30
          have h_31 : l31.length = 5 := by simpa using h_30
          obtain ⟨u31, l32, rfl⟩ := List.exists_cons_of_length_eq_add_one h_31
          have h_32 : l32.length = 4 := by simpa using h_31
          obtain ⟨u32, l33, rfl⟩ := List.exists_cons_of_length_eq_add_one h_32
          have h_33 : l33.length = 3 := by simpa using h_32
          obtain ⟨u33, l34, rfl⟩ := List.exists_cons_of_length_eq_add_one h_33
          have h_34 : l34.length = 2 := by simpa using h_33
          obtain ⟨u34, l35, rfl⟩ := List.exists_cons_of_length_eq_add_one h_34
          have h_35 : l35.length = 1 := by simpa using h_34
          obtain ⟨u35, l36, rfl⟩ := List.exists_cons_of_length_eq_add_one h_35
          have h_36 : l36.length = 0 := by simpa using h_35
          obtain rfl := List.length_eq_zero_iff.1 h_36
          have h5 : u4 = .int .i64 0 := h4
          subst h5
          have HR := hide hR
          clear h4 hR h0 h_1 h_2 h_3 h_4 h_5 h_6 h_7 h_8 h_9 h_10 h_11 h_12 h_13 h_14 h_15 h_16 h_17 h_18 h_19 h_20 h_21 h_22 h_23 h_24 h_25 h_26 h_27 h_28 h_29 h_30 h_31 h_32 h_33 h_34 h_35 h_36
          show Code.wp _ _ _ ⟨#[u0, u1, u2, u3, .int .i64 0, u5, u6, u7, u8, u9, u10, u11, u12, u13, u14, u15, u16, u17, u18, u19, u20, u21, u22, u23, u24, u25, u26, u27, u28, u29, u30, u31, u32, u33, u34, u35], []⟩ w'
          go_wp2
          simp only [Exit.jump]
          go_ret
          exact ⟨rfl, HR.out⟩
        go_wp2_with fail
        with_reducible refine NM.out.mono ?_
        rintro e v1 ⟨rfl, r1⟩
        have d0 := r1.box.cell (i := 0) rfl
        have C2 := hide (CR.out _ r1)
        clear r1 NM CR
        go_wp2_with fail
        with_reducible refine C2.out.mono ?_
        rintro e v2 ⟨rfl, r2⟩
        have e0 := r2.box.cell (i := 0) rfl
        have C3 := hide (SD.out _ r2)
        clear r2 C2 SD
        go_wp2_with fail
        with_reducible refine C3.out.mono ?_
        rintro e v3 ⟨rfl, r3⟩
        have f1 : v3.cell? ⟨q, 1, none⟩ = some (.int .i64 z) := by rw [← hz.out]; exact r3.box.cell (i := 1) rfl
        have ff := r3.box.free 1
        have R3 : Hid (Rn g q S w (v3.setCell ⟨q, 1, none⟩ (.int .i64 (z + 1))) F2 { L with last := z + 1 }) := r3.set 1 _ WF2.out rfl
        clear r3 C3
        go_wp2
        go_step3
        go_wp2
        simp only [Exit.jump]
        go_ret
        exact ⟨rfl, R3.out⟩
      · rw [if_neg h3]
        dsimp only
        rw [LE.out]
        have n3 : (c2 != 0) = true := by simpa using h3
        clear LE h hL HT
        go_enter Tryz.func80, Tryz.ntmps80
        go_wp2
        refine wp_scope_jumps 0 (fun a' w' => a'.defers = [] ∧ a'.tmps.size = 36 ∧ a'.tmps.getD 4 undef = .int .i64 c2 ∧ Rn g q S w w' F2 L) (fun _ _ => 0) rfl ?_ ?_
        rotate_left 1
        · rintro ⟨⟨l0⟩, dd⟩ w' ⟨hd, h0, h4, hR⟩
          dsimp only at hd
          subst hd
          have h0 : l0.length = 36 := h0
          obtain ⟨u0, l1, rfl⟩ := List.exists_cons_of_length_eq_add_one h0
          have h_1 : l1.length = 35 := by simpa using h0
          obtain ⟨u1, l2, rfl⟩ := List.exists_cons_of_length_eq_add_one h_1
          have h_2 : l2.length = 34 := by simpa using h_1
          obtain ⟨u2, l3, rfl⟩ := List.exists_cons_of_length_eq_add_one h_2
          have h_3 : l3.length = 33 := by simpa using h_2
          obtain ⟨u3, l4, rfl⟩ := List.exists_cons_of_length_eq_add_one h_3
          have h_4 : l4.length = 32 := by simpa using h_3
          obtain ⟨u4, l5, rfl⟩ := List.exists_cons_of_length_eq_add_one h_4
          have h_5 : l5.length = 31 := by simpa using h_4
          obtain ⟨u5, l6, rfl⟩ := List.exists_cons_of_length_eq_add_one h_5
          have h_6 : l6.length = 30 := by simpa using h_5
          obtain ⟨u6, l7, rfl⟩ := List.exists_cons_of_length_eq_add_one h_6
          have h_7 : l7.length = 29 := by simpa using h_6
          obtain ⟨u7, l8, rfl⟩ := List.exists_cons_of_length_eq_add_one h_7
          have h_8 : l8.length = 28 := by simpa using h_7
          obtain ⟨u8, l9, rfl⟩ := List.exists_cons_of_length_eq_add_one h_8
          have h_9 : l9.length = 27 := by simpa using h_8
          obtain ⟨u9, l10, rfl⟩ := List.exists_cons_of_length_eq_add_one h_9
          have h_10 : l10.length = 26 := by simpa using h_9
          obtain ⟨u10, l11, rfl⟩ := List.exists_cons_of_length_eq_add_one h_10
          have h_11 : l11.length = 25 := by simpa using h_10
          obtain ⟨u11, l12, rfl⟩ := List.exists_cons_of_length_eq_add_one h_11
          have h_12 : l12.length = 24 := by simpa using h_11
          obtain ⟨u12, l13, rfl⟩ := List.exists_cons_of_length_eq_add_one h_12
          have h_13 : l13.length = 23 := by simpa using h_12
          obtain ⟨u13, l14, rfl⟩ := List.exists_cons_of_length_eq_add_one h_13
          have h_14 : l14.length = 22 := by simpa using h_13
          obtain ⟨u14, l15, rfl⟩ := List.exists_cons_of_length_eq_add_one h_14
          have h_15 : l15.length = 21 := by simpa using h_14
          obtain ⟨u15, l16, rfl⟩ := List.exists_cons_of_length_eq_add_one h_15
          have h_16 : l16.length = 20 := by simpa using h_15
          obtain ⟨u16, l17, rfl⟩ := List.exists_cons_of_length_eq_add_one h_16
          have h_17 : l17.length = 19 := by simpa using h_16
          obtain ⟨u17, l18, rfl⟩ := List.exists_cons_of_length_eq_add_one h_17
          have h_18 : l18.length = 18 := by simpa using h_17
          obtain ⟨u18, l19, rfl⟩ := List.exists_cons_of_length_eq_add_one h_18
          have h_19 : l19.length = 17 := by simpa using h_18
          obtain ⟨u19, l20, rfl⟩ := List.exists_cons_of_length_eq_add_one h_19
          have h_20 : l20.length = 16 := by simpa using h_19
          obtain ⟨u20, l21, rfl⟩ := List.exists_cons_of_length_eq_add_one h_20
          have h_21 : l21.length = 15 := by simpa using h_20
          obtain ⟨u21, l22, rfl⟩ := List.exists_cons_of_length_eq_add_one h_21
          have h_22 : l22.length = 14 := by simpa using h_21
          obtain ⟨u22, l23, rfl⟩ := List.exists_cons_of_length_eq_add_one h_22
          have h_23 : l23.length = 13 := by simpa using h_22
          obtain ⟨u23, l24, rfl⟩ := List.exists_cons_of_length_eq_add_one h_23
          have h_24 : l24.length = 12 := by simpa using h_23
          obtain ⟨u24, l25, rfl⟩ := List.exists_cons_of_length_eq_add_one h_24
          have h_25 : l25.length = 11 := by simpa using h_24
          obtain ⟨u25, l26, rfl⟩ := List.exists_cons_of_length_eq_add_one h_25
          have h_26 : l26.length = 10 := by simpa using h_25
          obtain ⟨u26, l27, rfl⟩ := List.exists_cons_of_length_eq_add_one h_26
          have h_27 : l27.length = 9 := by simpa using h_26
          obtain ⟨u27, l28, rfl⟩ := List.exists_cons_of_length_eq_add_one h_27
          have h_28 : l28.length = 8 := by simpa using h_27
          obtain ⟨u28, l29, rfl⟩ := List.exists_cons_of_length_eq_add_one h_28
          have h_29 : l29.length = 7 := by simpa using h_28
          obtain ⟨u29, l30, rfl⟩ := List.exists_cons_of_length_eq_add_one h_29
          have h_30 : l30.length = 6 := by simpa using h_29
          obtain ⟨u30, l31, rfl⟩ := List.exists_cons_of_length_eq_add_one h_30
          have h_31 : l31.length = 5 := by simpa using h_30
          obtain ⟨u31, l32, rfl⟩ := List.exists_cons_of_length_eq_add_one h_31
          have h_32 : l32.length = 4 := by simpa using h_31
          obtain ⟨u32, l33, rfl⟩ := List.exists_cons_of_length_eq_add_one h_32
          have h_33 : l33.length = 3 := by simpa using h_32
          obtain ⟨u33, l34, rfl⟩ := List.exists_cons_of_length_eq_add_one h_33
          have h_34 : l34.length = 2 := by simpa using h_33
          obtain ⟨u34, l35, rfl⟩ := List.exists_cons_of_length_eq_add_one h_34
          have h_35 : l35.length = 1 := by simpa using h_34
          obtain ⟨u35, l36, rfl⟩ := List.exists_cons_of_length_eq_add_one h_35
          have h_36 : l36.length = 0 := by simpa using h_35
          obtain rfl := List.length_eq_zero_iff.1 h_36
          have h5 : u4 = .int .i64 c2 := h4
          subst h5
          have HR := hide hR
          clear h4 hR h0 h_1 h_2 h_3 h_4 h_5 h_6 h_7 h_8 h_9 h_10 h_11 h_12 h_13 h_14 h_15 h_16 h_17 h_18 h_19 h_20 h_21 h_22 h_23 h_24 h_25 h_26 h_27 h_28 h_29 h_30 h_31 h_32 h_33 h_34 h_35 h_36
          show Code.wp _ _ _ ⟨#[u0, u1, u2, u3, .int .i64 c2, u5, u6, u7, u8, u9, u10, u11, u12, u13, u14, u15, u16, u17, u18, u19, u20, u21, u22, u23, u24, u25, u26, u27, u28, u29, u30, u31, u32, u33, u34, u35], []⟩ w'
          go_wp2
          simp only [Exit.jump]
          go_ret
          exact ⟨rfl, HR.out⟩
        go_wp2_with fail
        with_reducible refine NM.out.mono ?_
        rintro e v1 ⟨rfl, r1⟩
        have d0 := r1.box.cell (i := 0) rfl
        have C2 := hide (CR.out _ r1)
        clear r1 NM CR
        go_wp2_with fail
        with_reducible refine C2.out.mono ?_
        rintro e v2 ⟨rfl, r2⟩
        have e0 := r2.box.cell (i := 0) rfl
        have C3 := hide (SD.out _ r2)
        clear r2 C2 SD
        go_wp2_with fail
        with_reducible refine C3.out.mono ?_
        rintro e v3 ⟨rfl, r3⟩
        have R3 := hide r3
        clear r3 C3
        go_wp2
        go_step3
        exact ⟨rfl, rfl, rfl, rfl, R3.out⟩
    · rw [if_neg h2]
      dsimp only
      rw [LE.out]
      have n2 : (c1 != 0) = true := by simpa using h2
      clear LE h hL HT
      go_enter Tryz.func80, Tryz.ntmps80
      go_wp2
      refine wp_scope_jumps 0 (fun a' w' => a'.defers = [] ∧ a'.tmps.size = 36 ∧ a'.tmps.getD 4 undef = .int .i64 c1 ∧ Rn g q S w w' F1 L) (fun _ _ => 0) rfl ?_ ?_
      rotate_left 1
      · rintro ⟨⟨l0⟩, dd⟩ w' ⟨hd, h0, h4, hR⟩
        dsimp only at hd
        subst hd
        have h0 : l0.length = 36 := h0
        obtain ⟨u0, l1, rfl⟩ := List.exists_cons_of_length_eq_add_one h0
        have h_1 : l1.length = 35 := by simpa using h0
        obtain ⟨u1, l2, rfl⟩ := List.exists_cons_of_length_eq_add_one h_1
        have h_2 : l2.length = 34 := by simpa using h_1
        obtain ⟨u2, l3, rfl⟩ := List.exists_cons_of_length_eq_add_one h_2
        have h_3 : l3.length = 33 := by simpa using h_2
        obtain ⟨u3, l4, rfl⟩ := List.exists_cons_of_length_eq_add_one h_3
        have h_4 : l4.length = 32 := by simpa using h_3
        obtain ⟨u4, l5, rfl⟩ := List.exists_cons_of_length_eq_add_one h_4
        have h_5 : l5.length = 31 := by simpa using h_4
        obtain ⟨u5, l6, rfl⟩ := List.exists_cons_of_length_eq_add_one h_5
        have h_6 : l6.length = 30 := by simpa using h_5
        obtain ⟨u6, l7, rfl⟩ := List.exists_cons_of_length_eq_add_one h_6
        have h_7 : l7.length = 29 := by simpa using h_6
        obtain ⟨u7, l8, rfl⟩ := List.exists_cons_of_length_eq_add_one h_7
        have h_8 : l8.length = 28 := by simpa using h_7
        obtain ⟨u8, l9, rfl⟩ := List.exists_cons_of_length_eq_add_one h_8
        have h_9 : l9.length = 27 := by simpa using h_8
        obtain ⟨u9, l10, rfl⟩ := List.exists_cons_of_length_eq_add_one h_9
        have h_10 : l10.length = 26 := by simpa using h_9
        obtain ⟨u10, l11, rfl⟩ := List.exists_cons_of_length_eq_add_one h_10
        have h_11 : l11.length = 25 := by simpa using h_10
        obtain ⟨u11, l12, rfl⟩ := List.exists_cons_of_length_eq_add_one h_11
        have h_12 : l12.length = 24 := by simpa using h_11
        obtain ⟨u12, l13, rfl⟩ := List.exists_cons_of_length_eq_add_one h_12
        have h_13 : l13.length = 23 := by simpa using h_12
        obtain ⟨u13, l14, rfl⟩ := List.exists_cons_of_length_eq_add_one h_13
        have h_14 : l14.length = 22 := by simpa using h_13
        obtain ⟨u14, l15, rfl⟩ := List.exists_cons_of_length_eq_add_one h_14
        have h_15 : l15.length = 21 := by simpa using h_14
        obtain ⟨u15, l16, rfl⟩ := List.exists_cons_of_length_eq_add_one h_15
        have h_16 : l16.length = 20 := by simpa using h_15
        obtain ⟨u16, l17, rfl⟩ := List.exists_cons_of_length_eq_add_one h_16
        have h_17 : l17.length = 19 := by simpa using h_16
        obtain ⟨u17, l18, rfl⟩ := List.exists_cons_of_length_eq_add_one h_17
        have h_18 : l18.length = 18 := by simpa using h_17
        obtain ⟨u18, l19, rfl⟩ := List.exists_cons_of_length_eq_add_one h_18
        have h_19 : l19.length = 17 := by simpa using h_18
        obtain ⟨u19, l20, rfl⟩ := List.exists_cons_of_length_eq_add_one h_19
        have h_20 : l20.length = 16 := by simpa using h_19
        obtain ⟨u20, l21, rfl⟩ := List.exists_cons_of_length_eq_add_one h_20
        have h_21 : l21.length = 15 := by simpa using h_20
        obtain ⟨u21, l22, rfl⟩ := List.exists_cons_of_length_eq_add_one h_21
        have h_22 : l22.length = 14 := by simpa using h_21
        obtain ⟨u22, l23, rfl⟩ := List.exists_cons_of_length_eq_add_one h_22
        have h_23 : l23.length = 13 := by simpa using h_22
        obtain ⟨u23, l24, rfl⟩ := List.exists_cons_of_length_eq_add_one h_23
        have h_24 : l24.length = 12 := by simpa using h_23
        obtain ⟨u24, l25, rfl⟩ := List.exists_cons_of_length_eq_add_one h_24
        have h_25 : l25.length = 11 := by simpa using h_24
        obtain ⟨u25, l26, rfl⟩ := List.exists_cons_of_length_eq_add_one h_25
        have h_26 : l26.length = 10 := by simpa using h_25
        obtain ⟨u26, l27, rfl⟩ := List.exists_cons_of_length_eq_add_one h_26
        have h_27 : l27.length = 9 := by simpa using h_26
        obtain ⟨u27, l28, rfl⟩ := List.exists_cons_of_length_eq_add_one h_27
        have h_28 : l28.length = 8 := by simpa using h_27
        obtain ⟨u28, l29, rfl⟩ := List.exists_cons_of_length_eq_add_one h_28
        have h_29 : l29.length = 7 := by simpa using h_28
        obtain ⟨u29, l30, rfl⟩ := List.exists_cons_of_length_eq_add_one h_29
        have h_30 : l30.length = 6 := by simpa using h_29
        obtain ⟨u30, l31, rfl⟩ := List.exists_cons_of_length_eq_add_one h_30
        have h_31 : l31.length = 5 := by simpa using h_30
        obtain ⟨u31, l32, rfl⟩ := List.exists_cons_of_length_eq_add_one h_31
        have h_32 : l32.length = 4 := by simpa using h_31
        obtain ⟨u32, l33, rfl⟩ := List.exists_cons_of_length_eq_add_one h_32
        have h_33 : l33.length = 3 := by simpa using h_32
        obtain ⟨u33, l34, rfl⟩ := List.exists_cons_of_length_eq_add_one h_33
        have h_34 : l34.length = 2 := by simpa using h_33
        obtain ⟨u34, l35, rfl⟩ := List.exists_cons_of_length_eq_add_one h_34
        have h_35 : l35.length = 1 := by simpa using h_34
        obtain ⟨u35, l36, rfl⟩ := List.exists_cons_of_length_eq_add_one h_35
        have h_36 : l36.length = 0 := by simpa using h_35
        obtain rfl := List.length_eq_zero_iff.1 h_36
        have h5 : u4 = .int .i64 c1 := h4
        subst h5
        have HR := hide hR
        clear h4 hR h0 h_1 h_2 h_3 h_4 h_5 h_6 h_7 h_8 h_9 h_10 h_11 h_12 h_13 h_14 h_15 h_16 h_17 h_18 h_19 h_20 h_21 h_22 h_23 h_24 h_25 h_26 h_27 h_28 h_29 h_30 h_31 h_32 h_33 h_34 h_35 h_36
        show Code.wp _ _ _ ⟨#[u0, u1, u2, u3, .int .i64 c1, u5, u6, u7, u8, u9, u10, u11, u12, u13, u14, u15, u16, u17, u18, u19, u20, u21, u22, u23, u24, u25, u26, u27, u28, u29, u30, u31, u32, u33, u34, u35], []⟩ w'
        go_wp2
        simp only [Exit.jump]
        go_ret
        exact ⟨rfl, HR.out⟩
      go_wp2_with fail
      with_reducible refine NM.out.mono ?_
      rintro e v1 ⟨rfl, r1⟩
      have d0 := r1.box.cell (i := 0) rfl
      have C2 := hide (CR.out _ r1)
      clear r1 NM CR
      go_wp2_with fail
      with_reducible refine C2.out.mono ?_
      rintro e v2 ⟨rfl, r2⟩
      have R2 := hide r2
      clear r2 C2
      go_wp2
      go_step3
      exact ⟨rfl, rfl, rfl, rfl, R2.out⟩

set_option maxHeartbeats 8000000 in
theorem wroom_any (g q : Nat) (S : Nat → Prop) (w u : World) (F : Fs) (L : Lg) (m : Nat) (h : Rn g q S w u F L) (hL : LimB m F) (hm : m + 10 ≤ 1073741824) :
    Calls Tryz.prog 100 #[.pointer (some ⟨q, 0, none⟩)] u fun e u' => e = .returned (.int .i64 (roomW F L.last).2.1) ∧ Rn g q S w u' (roomW F L.last).1 { L with last := (roomW F L.last).2.2 } := by
  have hw := h.wf
  have l0 := hw.l0
  have l1 := hw.l1
  have hd : Rn g q S w u.drew F L := h.below (Below.refl _ _).drew
  have d0 := hd.box.cell (i := 0) rfl
  have d1 : u.drew.cell? ⟨q, 1, none⟩ = some (.int .i64 L.last) := hd.box.cell (i := 1) rfl
  have NM := hide (rn_name hd L.last (i64_wf (by omega) (by omega)))
  have SZ := nmW_size L.last
  have ST : Hid (∀ v, Rn g q S w v F L → v.cell? ⟨q, 0, none⟩ = some (.pointer (some ⟨g, 0, none⟩)) ∧ v.cell? ⟨q, 1, none⟩ = some (.int .i64 L.last)) := fun v r => ⟨r.box.cell (i := 0) rfl, r.box.cell (i := 1) rfl⟩
  have TU := hide (fun v (r : Rn g q S w v F L) => wturn_any g q S w v F L m r hL hm)
  have RD := hide (fun v (r : Rn g q S w v F L) => rn_read r hL (by omega) (nmW L.last) (Nat.le_trans (nmW_size L.last) (by decide)))
  have LE : Hid ({ L with last := L.last } = L) := rfl
  have HT : Hid (roomW F L.last = if ((readF F (nmW L.last)).getD []).length < 4096 then (F, 0, L.last) else turnW F L.last) := rfl
  rw [HT.out]
  generalize turnW F L.last = tw at *
  obtain ⟨FT, cT, nT⟩ := tw
  dsimp only at TU
  obtain ⟨z, hz⟩ : ∃ z, Hid (L.last = z) := ⟨_, rfl⟩
  rw [hz.out] at d1 NM ST RD HT
  rw [hz.out]
  generalize nmW z = nm at *
  clear h hd hL hw
  cases hr : readF F nm with
  | none =>
    rw [hr] at RD
    simp only [ReadVp] at RD
    rw [if_pos (show ((none : Option (List Int)).getD []).length < 4096 by decide)]
    dsimp only
    rw [← hz.out, LE.out]
    clear HT TU hr
    go_enter Tryz.func100, Tryz.ntmps100
    go_upto_region 1 with fail
    refine wp_region_held_drew (S := fun v => v.cell? ⟨q, 0, none⟩ = some (.pointer (some ⟨g, 0, none⟩)) ∧ v.cell? ⟨q, 1, none⟩ = some (.int .i64 z)) (by kernel_rfl) ⟨d0, d1⟩ (fun hHeld => ?_)
    refine held_tk 0 (some 6) rfl rfl ?_
    refine held_tk 1 (some 7) rfl rfl ?_
    refine held_tk 2 (some 8) rfl rfl ?_
    refine held_tk 3 (some 9) rfl rfl ?_
    refine held_tk 4 (some 10) rfl rfl ?_
    refine held_tk 5 (some 11) rfl rfl ?_
    refine held_tk 6 (some 12) rfl rfl ?_
    refine held_tk 7 (some 13) rfl rfl ?_
    refine held_next (i := 8) (by kernel_rfl) rfl (by rfl) (fun K1 hK1 => ?_)
    go_simp
    with_reducible refine NM.out.mono ?_
    rintro e v1 ⟨rfl, r1⟩
    have S1 := hide (ST.out _ r1)
    have C1 := hide (RD.out _ r1)
    clear r1
    go_wp2_with fail
    refine hK1.out _ _ S1.out ?_
    clear hK1
    refine held_next (i := 9) (by kernel_rfl) rfl (by rfl) (fun K1 hK1 => ?_)
    go_simp
    with_reducible refine C1.out.mono ?_
    rintro e v2 ⟨⟨_, rfl⟩, r2⟩
    have S2 := hide (ST.out _ r2)
    have R2 := hide r2
    clear r2
    go_wp2_with fail
    refine hK1.out _ _ S2.out ?_
    clear hK1
    refine held_tk 10 (some 5) rfl rfl ?_
    refine held_tk 11 (some 16) rfl rfl ?_
    refine held_tk 12 (some 17) rfl rfl ?_
    refine held_tk 13 (some 3) rfl rfl ?_
    refine held_tk 14 (some 4) rfl rfl ?_
    clear hHeld
    refine wpAnyH_done (by kernel_rfl) ?_ _
    go_wp2
    go_ret
    exact ⟨rfl, R2.out⟩
  | some b =>
    rw [hr] at RD
    simp only [ReadVp] at RD
    rw [show ((some b : Option (List Int)).getD []).length = b.length from rfl]
    by_cases hb : b.length < 4096
    · rw [if_pos hb]
      dsimp only
      rw [← hz.out, LE.out]
      have b1 : (b.length : Int) < 4096 := by omega
      clear HT TU hr
      go_enter Tryz.func100, Tryz.ntmps100
      go_upto_region 1 with fail
      refine wp_region_held_drew (S := fun v => v.cell? ⟨q, 0, none⟩ = some (.pointer (some ⟨g, 0, none⟩)) ∧ v.cell? ⟨q, 1, none⟩ = some (.int .i64 z)) (by kernel_rfl) ⟨d0, d1⟩ (fun hHeld => ?_)
      refine held_tk 0 (some 6) rfl rfl ?_
      refine held_tk 1 (some 7) rfl rfl ?_
      refine held_tk 2 (some 8) rfl rfl ?_
      refine held_tk 3 (some 9) rfl rfl ?_
      refine held_tk 4 (some 10) rfl rfl ?_
      refine held_tk 5 (some 11) rfl rfl ?_
      refine held_tk 6 (some 12) rfl rfl ?_
      refine held_tk 7 (some 13) rfl rfl ?_
      refine held_next (i := 8) (by kernel_rfl) rfl (by rfl) (fun K1 hK1 => ?_)
      go_simp
      with_reducible refine NM.out.mono ?_
      rintro e v1 ⟨rfl, r1⟩
      have S1 := hide (ST.out _ r1)
      have C1 := hide (RD.out _ r1)
      clear r1
      go_wp2_with fail
      refine hK1.out _ _ S1.out ?_
      clear hK1
      refine held_next (i := 9) (by kernel_rfl) rfl (by rfl) (fun K1 hK1 => ?_)
      go_simp
      with_reducible refine C1.out.mono ?_
      rintro e v2 ⟨⟨_, a, c, rfl, _⟩, r2⟩
      have S2 := hide (ST.out _ r2)
      have R2 := hide r2
      clear r2
      go_wp2_with fail
      refine hK1.out _ _ S2.out ?_
      clear hK1
      refine held_tk 10 (some 5) rfl rfl ?_
      refine held_tk 11 (some 16) rfl rfl ?_
      refine held_tk 12 (some 17) rfl rfl ?_
      refine held_tk 13 (some 3) rfl rfl ?_
      refine held_tk 14 (some 4) rfl rfl ?_
      clear hHeld
      refine wpAnyH_done (by kernel_rfl) ?_ _
      go_wp2
      go_ret
      exact ⟨rfl, R2.out⟩
    · rw [if_neg hb]
      dsimp only
      have b1 : ¬ (b.length : Int) < 4096 := by omega
      clear HT hr
      go_enter Tryz.func100, Tryz.ntmps100
      go_upto_region 1 with fail
      refine wp_region_held_drew (S := fun v => v.cell? ⟨q, 0, none⟩ = some (.pointer (some ⟨g, 0, none⟩)) ∧ v.cell? ⟨q, 1, none⟩ = some (.int .i64 z)) (by kernel_rfl) ⟨d0, d1⟩ (fun hHeld => ?_)
      refine held_tk 0 (some 6) rfl rfl ?_
      refine held_tk 1 (some 7) rfl rfl ?_
      refine held_tk 2 (some 8) rfl rfl ?_
      refine held_tk 3 (some 9) rfl rfl ?_
      refine held_tk 4 (some 10) rfl rfl ?_
      refine held_tk 5 (some 11) rfl rfl ?_
      refine held_tk 6 (some 12) rfl rfl ?_
      refine held_tk 7 (some 13) rfl rfl ?_
      refine held_next (i := 8) (by kernel_rfl) rfl (by rfl) (fun K1 hK1 => ?_)
      go_simp
      with_reducible refine NM.out.mono ?_
      rintro e v1 ⟨rfl, r1⟩
      have S1 := hide (ST.out _ r1)
      have C1 := hide (RD.out _ r1)
      clear r1
      go_wp2_with fail
      refine hK1.out _ _ S1.out ?_
      clear hK1
      refine held_next (i := 9) (by kernel_rfl) rfl (by rfl) (fun K1 hK1 => ?_)
      go_simp
      with_reducible refine C1.out.mono ?_
      rintro e v2 ⟨⟨_, a, c, rfl, _⟩, r2⟩
      have S2 := hide (ST.out _ r2)
      have R2 := hide r2
      clear r2
      go_wp2_with fail
      refine hK1.out _ _ S2.out ?_
      clear hK1
      refine held_tk 10 (some 5) rfl rfl ?_
      refine held_tk 11 (some 16) rfl rfl ?_
      refine held_tk 12 (some 17) rfl rfl ?_
      refine held_tk 13 (some 3) rfl rfl ?_
      refine held_tk 14 (some 4) rfl rfl ?_
      clear hHeld
      refine wpAnyH_done (by kernel_rfl) ?_ _
      have C2 := hide (TU.out _ R2.out)
      go_wp2_with fail
      with_reducible refine C2.out.mono ?_
      rintro e v3 ⟨rfl, r3⟩
      have R3 := hide r3
      go_wp2
      go_ret
      exact ⟨rfl, R3.out⟩
end Go.Proofs.YtknghoecjobkiaaGreatDoor
