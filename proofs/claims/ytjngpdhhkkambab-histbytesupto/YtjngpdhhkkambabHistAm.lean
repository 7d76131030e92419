/-
  Bytes read as buckets, by the program: both forms, and Get: contracts, for every world.
  Conditions: the slice shows its bytes.
-/
import Derived.Test.YtjngpdhhkkambabHistAk
import Derived.Test.YtjngpdhhkkambabHistAi
namespace Go.Proofs.Ytjngpdhhkkambab
open Go.RowKit

def szE (r : Option (Int × Int)) : Ending :=
  match r with
  | none => .returned (.tuple #[.int .i64 0, .int .i64 0, .bool false])
  | some p => .returned (.tuple #[.int .i64 p.1, .int .i64 p.2, .bool true])
/-- A list that was got, in memory of the call's own; or none. -/
def GotL (base : Nat) (r : Option (Bks × Int)) (e : Ending) (w' : World) : Prop :=
  match r with
  | none => e = .returned (.tuple #[.slice none 0 0, .int .i64 0, .bool false])
  | some p => ∃ a' c', e = .returned (.tuple #[.slice a' p.1.length c', .int .i64 p.2, .bool true]) ∧ OwnB w' base a' p.1.length c' p.1 ∧ (∀ x ∈ p.1, fitB x) ∧ p.1.length ≤ 7424

theorem got_range {zs : List Int} {n : Nat} (hz : Bytes8 zs) (hl : zs.length = n) (hn : n ≤ 281474976710656) {q v nx : Int} (h : getS zs q = some (v, nx)) : W64 v ∧ 0 ≤ nx ∧ nx ≤ 281474976710656 := by
  obtain ⟨h1, k, -, -, rfl, h4, -⟩ := getS_some hz h
  exact ⟨h1, by omega, by omega⟩

set_option maxHeartbeats 1000000 in
theorem getsize_any (p : Int) (a : Option Addr) (n cap : Nat) (zs : List Int) (w : World) (hp : (Lit.int .i64 p).wf = true) (hc : n ≤ cap) (hr : Row .u8 w a n zs) :
    Calls Try.prog 53 #[.slice a n cap, .int .i64 p] w fun e w' => e = szE (szS zs p) ∧ w' = w := by
  have C := hide (get_any p a n cap zs w hp hc hr)
  have hz : Bytes8 zs := hr.bytes
  have hl := hr.1
  have hn := hr.2.1
  unfold szS
  cases hg : getS zs p with
  | none =>
    rw [hg] at C
    have C' : Hid (Calls Try.prog 34 #[.slice a n cap, .int .i64 p] w fun e w' => e = .returned (.tuple #[.int .u64 0, .int .i64 0, .bool false]) ∧ w' = w) := C.out
    clear C hr hg
    go_enter Try.func53, Try.ntmps53
    go_wp2_with fail
    refine C'.out.mono ?_
    rintro e w1 ⟨rfl, rfl⟩
    go_wp2
    go_ret3
    exact ⟨rfl, rfl⟩
  | some r =>
    obtain ⟨v, q⟩ := r
    rw [hg] at C
    have C' : Hid (Calls Try.prog 34 #[.slice a n cap, .int .i64 p] w fun e w' => e = .returned (.tuple #[.int .u64 v, .int .i64 q, .bool true]) ∧ w' = w) := C.out
    obtain ⟨v0, q0, q1⟩ := got_range hz hl hn hg
    obtain ⟨v0, v1⟩ := v0
    clear C hr hg hz hl
    simp only
    by_cases hv : v ≤ 7424
    · rw [if_pos hv]
      have d1 : decide (7424 < v) = false := decide_eq_false (by omega)
      go_enter Try.func53, Try.ntmps53
      go_wp2_with fail
      refine C'.out.mono ?_
      rintro e w1 ⟨rfl, rfl⟩
      go_wp2
      go_ret3
      exact ⟨rfl, rfl⟩
    · rw [if_neg hv]
      have d1 : decide (7424 < v) = true := decide_eq_true (by omega)
      go_enter Try.func53, Try.ntmps53
      go_wp2_with fail
      refine C'.out.mono ?_
      rintro e w1 ⟨rfl, rfl⟩
      go_wp2
      go_ret3
      exact ⟨rfl, rfl⟩

theorem i64_fit {x : Int} (h0 : -9223372036854775808 ≤ x) (h1 : x ≤ 9223372036854775807) : (Lit.int .i64 x).wf = true := by
  simp [Lit.wf, IntKind.min, IntKind.max, IntKind.signed, IntKind.bits]
  omega

set_option maxRecDepth 20000 in
set_option maxHeartbeats 8000000 in
theorem getsparse_any (p : Int) (a : Option Addr) (n cap : Nat) (zs : List Int) (w : World) (hp : (Lit.int .i64 p).wf = true) (hc : n ≤ cap) (hr : Row .u8 w a n zs) :
    Calls Try.prog 35 #[.slice a n cap, .int .i64 p] w fun e w' => GotL w.heap.size (dSparse zs p) e w' ∧ Below w.heap.size w w' := by
  obtain ⟨i0, hi, hz0, hz1, hz2⟩ := info_parts Try.infoB
  have G0 := hide (getsize_any p a n cap zs w hp hc hr)
  have GS := hide (fun p W (hp : (Lit.int .i64 p).wf = true) (hb : Below w.heap.size w W) => getsize_any p a n cap zs W hp hc (hr.below hb (Nat.le_refl _)))
  have GN := hide (fun p W (hp : (Lit.int .i64 p).wf = true) (hb : Below w.heap.size w W) => get_any p a n cap zs W hp hc (hr.below hb (Nat.le_refl _)))
  have HZ : Hid (Bytes8 zs) := hr.bytes
  have HL := hide hr.1
  have hn := hr.2.1
  clear hr hp
  obtain ⟨D, hD⟩ : ∃ D, dSparse zs p = D := ⟨_, rfl⟩
  have HD := hide hD
  rw [hD]
  clear hD
  cases hs : szS zs p with
  | none =>
    have HE : Hid (D = none) := by show _ = _; rw [← HD.out, dSparse, hs]
    rw [hs] at G0
    have G1 : Hid (Calls Try.prog 53 #[.slice a n cap, .int .i64 p] w fun e w' => e = .returned (.tuple #[.int .i64 0, .int .i64 0, .bool false]) ∧ w' = w) := G0.out
    rw [HE.out]
    clear G0 hs
    go_enter Try.func35, Try.ntmps35
    go_wp2_with fail
    refine G1.out.mono ?_
    rintro e w1 ⟨rfl, rfl⟩
    go_wp2
    go_ret3
    exact ⟨rfl, Below.refl _ _⟩
  | some r =>
    obtain ⟨c, p1⟩ := r
    have HE : Hid (dSp zs c.toNat (-1) p1 = D) := by show _ = _; rw [← HD.out, dSparse, hs]
    rw [hs] at G0
    have G1 : Hid (Calls Try.prog 53 #[.slice a n cap, .int .i64 p] w fun e w' => e = .returned (.tuple #[.int .i64 c, .int .i64 p1, .bool true]) ∧ w' = w) := G0.out
    obtain ⟨hg, hc7⟩ := szS_some hs
    obtain ⟨⟨c0, -⟩, q0, q1⟩ := got_range HZ.out HL.out hn hg
    obtain ⟨c, rfl⟩ := Int.eq_ofNat_of_zero_le c0
    rw [Int.toNat_natCast] at HE
    have hc8 : c ≤ 7424 := by omega
    clear G0 hs hg HD
    go_enter Try.func35, Try.ntmps35
    go_wp2_with fail
    refine G1.out.mono ?_
    rintro e w1 ⟨rfl, rfl⟩
    clear G1
    go_wp2
    go_loopw [8, 10, 11, 27] (fun nx l t i wr => ∃ (am : Option Addr) (nm cm j : Nat) (pj last : Int) (pre : Bks), nx = .int .i64 pj ∧ l = .slice am nm cm ∧ t = .int .i64 last ∧ i = .int .i64 j ∧ j ≤ c ∧ nm = j ∧ 0 ≤ pj ∧ pj ≤ 281474976710656 ∧ -1 ≤ last ∧ last ≤ 7425 * j ∧ Hid (pre.length = nm ∧ (∀ x ∈ pre, fitB x) ∧ D = (dSp zs (c - j) last pj).map fun r => (pre ++ r.1, r.2)) ∧ Hid (OwnB wr w1.heap.size am nm cm pre) ∧ Hid (Below w1.heap.size w1 wr)) (fun _ _ _ i _ => c - (intOf i).toNat)
    case atStart =>
      refine ⟨none, 0, 0, 0, p1, -1, [], rfl, rfl, rfl, rfl, by omega, rfl, q0, q1, by omega, by omega, ⟨rfl, by simp, ?_⟩, ownB_nil _ _, Below.refl _ _⟩
      rw [← HE.out, Nat.sub_zero]
      cases dSp zs c (-1) p1 <;> simp
    case round =>
      obtain ⟨am, nm, cm, j, pj, last, pre, rfl, rfl, rfl, rfl, hj, rfl, t0, t1, t2, t3, HP, HO, HB⟩ := hrel
      have HBW : Hid (w1.heap.size ≤ wr.heap.size) := HB.out.size
      by_cases hlt : nm < c
      · obtain ⟨d, hd⟩ : ∃ d, c - nm = d + 1 := ⟨c - nm - 1, by omega⟩
        have hd2 : c - (nm + 1) = d := by omega
        have HDD := hide HP.out.2.2
        rw [hd, dSp] at HDD
        have S1 := hide (GS.out pj wr (i64_fit (by omega) (by omega)) HB.out)
        have i1 : (nm : Int) < (c : Int) := by omega
        cases hs : szS zs pj with
        | none =>
          rw [hs] at S1 HDD
          have S2 : Hid (Calls Try.prog 53 #[.slice a n cap, .int .i64 pj] wr fun e w' => e = .returned (.tuple #[.int .i64 0, .int .i64 0, .bool false]) ∧ w' = wr) := S1.out
          have HN : Hid (D = none) := HDD.out
          clear hs S1 HDD
          go_wp2_with fail
          refine S2.out.mono ?_
          rintro e w2 ⟨rfl, rfl⟩
          go_wp2
          go_ret3
          rw [HN.out]
          exact ⟨rfl, HB.out⟩
        | some r =>
          obtain ⟨dd, k1⟩ := r
          rw [hs] at S1 HDD
          have S2 : Hid (Calls Try.prog 53 #[.slice a n cap, .int .i64 pj] wr fun e w' => e = .returned (.tuple #[.int .i64 dd, .int .i64 k1, .bool true]) ∧ w' = wr) := S1.out
          obtain ⟨hg, hdd⟩ := szS_some hs
          obtain ⟨⟨dd0, -⟩, k10, k11⟩ := got_range HZ.out HL.out hn hg
          simp only at HDD
          have S3 := hide (GN.out k1 wr (i64_fit (by omega) (by omega)) HB.out)
          clear hs S1 hg
          have hat : last + (dd + 1) = last + dd + 1 := by omega
          cases hg : getS zs k1 with
          | none =>
            rw [hg] at S3 HDD
            have S4 : Hid (Calls Try.prog 34 #[.slice a n cap, .int .i64 k1] wr fun e w' => e = .returned (.tuple #[.int .u64 0, .int .i64 0, .bool false]) ∧ w' = wr) := S3.out
            have HN : Hid (D = none) := HDD.out
            clear hg S3 HDD
            go_wp2_with fail
            refine S2.out.mono ?_
            rintro e w2 ⟨rfl, rfl⟩
            go_wp2_with fail
            refine S4.out.mono ?_
            rintro e w3 ⟨rfl, rfl⟩
            go_wp2
            go_ret3
            rw [HN.out]
            exact ⟨rfl, HB.out⟩
          | some r =>
            obtain ⟨y, k2⟩ := r
            rw [hg] at S3 HDD
            have S4 : Hid (Calls Try.prog 34 #[.slice a n cap, .int .i64 k1] wr fun e w' => e = .returned (.tuple #[.int .u64 y, .int .i64 k2, .bool true]) ∧ w' = wr) := S3.out
            obtain ⟨hy, k20, k21⟩ := got_range HZ.out HL.out hn hg
            have HN : Hid ((pre ++ [(last + dd + 1, y)]).length = nm + 1 ∧ (∀ x ∈ pre ++ [(last + dd + 1, y)], fitB x) ∧ D = (dSp zs (c - (nm + 1)) (last + dd + 1) k2).map fun r => ((pre ++ [(last + dd + 1, y)]) ++ r.1, r.2)) := by
              refine ⟨by rw [List.length_append, HP.out.1]; rfl, ?_, ?_⟩
              · intro x hx
                rcases List.mem_append.1 hx with hx | hx
                · exact HP.out.2.1 x hx
                · simp only [List.mem_singleton] at hx
                  subst hx
                  exact ⟨i64_fit (by omega) (by omega), wf_of_u64 hy⟩
              · have := HDD.out
                rw [hd2, this]
                simp only
                cases dSp zs d (last + dd + 1) k2 <;> simp
            clear hg S3 HDD hy
            generalize hX : last + dd + 1 = X at *
            have HX := hide hX
            clear hX
            have x0 : -1 ≤ X := by rw [← HX.out]; omega
            have x1 : X ≤ 7425 * ((nm + 1 : Nat) : Int) := by rw [← HX.out]; omega
            go_wp2_with fail
            refine S2.out.mono ?_
            rintro e w2 ⟨rfl, rfl⟩
            go_wp2_with fail
            refine S4.out.mono ?_
            rintro e w3 ⟨rfl, rfl⟩
            clear S2 S4 HP
            go_wp2_with (at_builtin; refine wpList_append_bks _ rfl _ _ 22 rfl w1.heap.size i0 Try.underlying22 hi hz0 hz1 hz2 am nm cm pre rfl (HO.out.alloc _) ⟨w3.heap.size, 0, none⟩ 1 1 [(X, y)] rfl rfl (two_cells w3 (X, y) _) (by omega) (by have := HBW.out; simp; omega) ?_)
            intro a2 c2 w2 o2 b2
            have O2 := hide o2
            have K2 : Hid (Below w1.heap.size w1 w2) := (bel_al HB.out (Nat.le_refl _) _).trans b2
            clear o2 b2 HO HB
            go_wp2
            go_roundw
            case rel => exact ⟨a2, nm + 1, c2, nm + 1, k2, X, _, rfl, rfl, rfl, by go_num, by omega, rfl, k20, k21, x0, x1, HN, O2, K2⟩
            case measure => simp [intOf]; omega
      · have : nm = c := by omega
        subst this
        have HN : Hid (D = some (pre, pj)) := by
          have := HP.out.2.2
          rw [Nat.sub_self, dSp] at this
          show _ = _
          simpa using this
        have HF := hide HP.out.2.1
        have hpl := HP.out.1
        have HPL := hide hpl
        clear hpl HP
        go_wp2
        go_ret3
        rw [HN.out]
        refine ⟨⟨am, cm, ?_, ?_, HF.out, by have := HPL.out; simp only; omega⟩, HB.out⟩
        · show _ = Ending.returned (.tuple #[.slice am pre.length cm, .int .i64 pj, .bool true])
          rw [HPL.out]
          rfl
        · show OwnB wr w1.heap.size am pre.length cm pre
          rw [HPL.out]
          exact HO.out

set_option maxRecDepth 20000 in
set_option maxHeartbeats 8000000 in
theorem getdense_any (p : Int) (a : Option Addr) (n cap : Nat) (zs : List Int) (w : World) (hp : (Lit.int .i64 p).wf = true) (hc : n ≤ cap) (hr : Row .u8 w a n zs) :
    Calls Try.prog 36 #[.slice a n cap, .int .i64 p] w fun e w' => GotL w.heap.size (dDense zs p) e w' ∧ Below w.heap.size w w' := by
  obtain ⟨i0, hi, hz0, hz1, hz2⟩ := info_parts Try.infoB
  have G0 := hide (getsize_any p a n cap zs w hp hc hr)
  have GS := hide (fun p W (hp : (Lit.int .i64 p).wf = true) (hb : Below w.heap.size w W) => getsize_any p a n cap zs W hp hc (hr.below hb (Nat.le_refl _)))
  have GN := hide (fun p W (hp : (Lit.int .i64 p).wf = true) (hb : Below w.heap.size w W) => get_any p a n cap zs W hp hc (hr.below hb (Nat.le_refl _)))
  have HZ : Hid (Bytes8 zs) := hr.bytes
  have HL := hide hr.1
  have hn := hr.2.1
  clear hr hp
  obtain ⟨D, hD⟩ : ∃ D, dDense zs p = D := ⟨_, rfl⟩
  have HD := hide hD
  rw [hD]
  clear hD
  cases hs : szS zs p with
  | none =>
    have HE : Hid (D = none) := by show _ = _; rw [← HD.out, dDense, hs]
    rw [hs] at G0
    have G1 : Hid (Calls Try.prog 53 #[.slice a n cap, .int .i64 p] w fun e w' => e = .returned (.tuple #[.int .i64 0, .int .i64 0, .bool false]) ∧ w' = w) := G0.out
    rw [HE.out]
    clear G0 hs
    go_enter Try.func36, Try.ntmps36
    go_wp2_with fail
    refine G1.out.mono ?_
    rintro e w1 ⟨rfl, rfl⟩
    go_wp2
    go_ret3
    exact ⟨rfl, Below.refl _ _⟩
  | some r =>
    obtain ⟨f, p1⟩ := r
    rw [hs] at G0
    have G1 : Hid (Calls Try.prog 53 #[.slice a n cap, .int .i64 p] w fun e w' => e = .returned (.tuple #[.int .i64 f, .int .i64 p1, .bool true]) ∧ w' = w) := G0.out
    obtain ⟨hg, hf7⟩ := szS_some hs
    obtain ⟨⟨f0, -⟩, q0, q1⟩ := got_range HZ.out HL.out hn hg
    have S1 := hide (GS.out p1 w (i64_fit (by omega) (by omega)) (Below.refl _ _))
    have HD1 := HD
    rw [dDense, hs] at HD1
    simp only at HD1
    clear G0 hs hg HD
    cases hs : szS zs p1 with
    | none =>
      rw [hs] at S1 HD1
      have S2 : Hid (Calls Try.prog 53 #[.slice a n cap, .int .i64 p1] w fun e w' => e = .returned (.tuple #[.int .i64 0, .int .i64 0, .bool false]) ∧ w' = w) := S1.out
      have HE : Hid (D = none) := HD1.out.symm
      rw [HE.out]
      clear S1 hs HD1
      go_enter Try.func36, Try.ntmps36
      go_wp2_with fail
      refine G1.out.mono ?_
      rintro e w1 ⟨rfl, rfl⟩
      go_wp2_with fail
      refine S2.out.mono ?_
      rintro e w2 ⟨rfl, rfl⟩
      go_wp2
      go_ret3
      exact ⟨rfl, Below.refl _ _⟩
    | some r =>
      obtain ⟨c, p2⟩ := r
      rw [hs] at S1 HD1
      simp only at HD1
      have S2 : Hid (Calls Try.prog 53 #[.slice a n cap, .int .i64 p1] w fun e w' => e = .returned (.tuple #[.int .i64 c, .int .i64 p2, .bool true]) ∧ w' = w) := S1.out
      obtain ⟨hg, hc7⟩ := szS_some hs
      obtain ⟨⟨c0, -⟩, r0, r1⟩ := got_range HZ.out HL.out hn hg
      obtain ⟨c, rfl⟩ := Int.eq_ofNat_of_zero_le c0
      rw [Int.toNat_natCast] at HD1
      have hc8 : c ≤ 7424 := by omega
      have HNone : Hid (parDn zs c f p2 = none → D = none) := by
        intro h
        have := HD1.out
        rw [h] at this
        exact this.symm
      have HSome : Hid (∀ l e, parDn zs c f p2 = some (l, e) → D = if l ≠ [] ∧ fromS l = f ∧ spanI l = c then some (l, e) else none) := by
        intro l e h
        have := HD1.out
        rw [h] at this
        exact this.symm
      clear S1 hs hg HD1
      go_enter Try.func36, Try.ntmps36
      go_wp2_with fail
      refine G1.out.mono ?_
      rintro e w1 ⟨rfl, rfl⟩
      go_wp2_with fail
      refine S2.out.mono ?_
      rintro e w2 ⟨rfl, rfl⟩
      clear G1 S2
      go_wp2
      go_loopw [11, 12, 36] (fun nx l i wr => ∃ (am : Option Addr) (nm cm j : Nat) (pj : Int) (pre : Bks), nx = .int .i64 pj ∧ l = .slice am nm cm ∧ i = .int .i64 j ∧ j ≤ c ∧ nm ≤ j ∧ 0 ≤ pj ∧ pj ≤ 281474976710656 ∧ Hid (pre.length = nm ∧ (∀ x ∈ pre, fitB x ∧ 0 ≤ x.1 ∧ x.1 ≤ 100000) ∧ parDn zs c f p2 = (parDn zs (c - j) (f + j) pj).map fun r => (pre ++ r.1, r.2)) ∧ Hid (OwnB wr w2.heap.size am nm cm pre) ∧ Hid (Below w2.heap.size w2 wr)) (fun _ _ i _ => c - (intOf i).toNat)
      case atStart =>
        refine ⟨none, 0, 0, 0, p2, [], rfl, rfl, rfl, by omega, by omega, r0, r1, ⟨rfl, by simp, ?_⟩, ownB_nil _ _, Below.refl _ _⟩
        rw [Nat.sub_zero, Int.natCast_zero, Int.add_zero]
        cases parDn zs c f p2 <;> simp
      case round =>
        obtain ⟨am, nm, cm, j, pj, pre, rfl, rfl, rfl, hj, hnm, t0, t1, HP, HO, HB⟩ := hrel
        have HBW : Hid (w2.heap.size ≤ wr.heap.size) := HB.out.size
        by_cases hlt : j < c
        · obtain ⟨d, hd⟩ : ∃ d, c - j = d + 1 := ⟨c - j - 1, by omega⟩
          have hd2 : c - (j + 1) = d := by omega
          have HDD := hide HP.out.2.2
          rw [hd, parDn] at HDD
          have S3 := hide (GN.out pj wr (i64_fit (by omega) (by omega)) HB.out)
          have i1 : (j : Int) < (c : Int) := by omega
          cases hg : getS zs pj with
          | none =>
            rw [hg] at S3 HDD
            have S4 : Hid (Calls Try.prog 34 #[.slice a n cap, .int .i64 pj] wr fun e w' => e = .returned (.tuple #[.int .u64 0, .int .i64 0, .bool false]) ∧ w' = wr) := S3.out
            have HN : Hid (D = none) := HNone.out HDD.out
            clear hg S3 HDD
            go_wp2_with fail
            refine S4.out.mono ?_
            rintro e w3 ⟨rfl, rfl⟩
            go_wp2
            go_ret3
            rw [HN.out]
            exact ⟨rfl, HB.out⟩
          | some r =>
            obtain ⟨y, k2⟩ := r
            rw [hg] at S3 HDD
            have S4 : Hid (Calls Try.prog 34 #[.slice a n cap, .int .i64 pj] wr fun e w' => e = .returned (.tuple #[.int .u64 y, .int .i64 k2, .bool true]) ∧ w' = wr) := S3.out
            obtain ⟨hy, k20, k21⟩ := got_range HZ.out HL.out hn hg
            obtain ⟨y0, y1⟩ := hy
            simp only at HDD
            have hfj : f + (j : Int) + 1 = f + ((j + 1 : Nat) : Int) := by omega
            by_cases hy0 : 0 < y
            · have HN : Hid ((pre ++ [(f + (j : Int), y)]).length = nm + 1 ∧ (∀ x ∈ pre ++ [(f + (j : Int), y)], fitB x ∧ 0 ≤ x.1 ∧ x.1 ≤ 100000) ∧ parDn zs c f p2 = (parDn zs (c - (j + 1)) (f + ((j + 1 : Nat) : Int)) k2).map fun r => ((pre ++ [(f + (j : Int), y)]) ++ r.1, r.2)) := by
                refine ⟨by rw [List.length_append, HP.out.1]; rfl, ?_, ?_⟩
                · intro x hx
                  rcases List.mem_append.1 hx with hx | hx
                  · exact HP.out.2.1 x hx
                  · simp only [List.mem_singleton] at hx
                    subst hx
                    exact ⟨⟨i64_fit (by simp only; omega) (by simp only; omega), wf_of_u64 ⟨y0, y1⟩⟩, by simp only; omega, by simp only; omega⟩
                · have := HDD.out
                  rw [hd2, this, hfj]
                  cases parDn zs d (f + ((j + 1 : Nat) : Int)) k2 with
                  | none => rfl
                  | some r => simp only [Option.map_some]; rw [if_pos hy0]; simp
              clear hg S3 HDD HP hfj
              go_wp2_with fail
              refine S4.out.mono ?_
              rintro e w3 ⟨rfl, rfl⟩
              clear S4
              go_wp2_with (at_builtin; refine wpList_append_bks _ rfl _ _ 22 rfl w2.heap.size i0 Try.underlying22 hi hz0 hz1 hz2 am nm cm pre rfl (HO.out.alloc _) ⟨w3.heap.size, 0, none⟩ 1 1 [(f + (j : Int), y)] rfl rfl (two_cells w3 (f + (j : Int), y) _) (by omega) (by have := HBW.out; simp; omega) ?_)
              intro a2 c2 w4 o2 b2
              have O2 := hide o2
              have K2 : Hid (Below w2.heap.size w2 w4) := (bel_al HB.out (Nat.le_refl _) _).trans b2
              clear o2 b2 HO HB
              go_wp2
              go_roundw
              case rel => exact ⟨a2, nm + 1, c2, j + 1, k2, _, rfl, rfl, by go_num, by omega, by omega, k20, k21, HN, O2, K2⟩
              case measure => simp [intOf]; omega
            · have HN : Hid (pre.length = nm ∧ (∀ x ∈ pre, fitB x ∧ 0 ≤ x.1 ∧ x.1 ≤ 100000) ∧ parDn zs c f p2 = (parDn zs (c - (j + 1)) (f + ((j + 1 : Nat) : Int)) k2).map fun r => (pre ++ r.1, r.2)) := by
                refine ⟨HP.out.1, HP.out.2.1, ?_⟩
                have := HDD.out
                rw [hd2, this, hfj]
                cases parDn zs d (f + ((j + 1 : Nat) : Int)) k2 with
                | none => rfl
                | some r => simp only [Option.map_some]; rw [if_neg hy0]
              clear hg S3 HDD HP hfj
              go_wp2_with fail
              refine S4.out.mono ?_
              rintro e w3 ⟨rfl, rfl⟩
              clear S4
              go_wp2
              go_roundw
              case rel => exact ⟨am, nm, cm, j + 1, k2, pre, rfl, rfl, by go_num, by omega, by omega, k20, k21, HN, HO, HB⟩
              case measure => simp [intOf]; omega
        · have : j = c := by omega
          subst this
          have HPD : Hid (parDn zs j f p2 = some (pre, pj)) := by
            have := HP.out.2.2
            rw [Nat.sub_self, parDn] at this
            show _ = _
            rw [this]
            simp
          have HN := hide (HSome.out pre pj HPD.out)
          have HF := hide HP.out.2.1
          have HPL := hide HP.out.1
          clear HP HPD HSome HNone
          by_cases hn0 : nm = 0
          · have hpre : pre = [] := List.length_eq_zero_iff.1 (by rw [HPL.out]; exact hn0)
            have HE : Hid (D = none) := by show _ = _; rw [HN.out, if_neg (by rw [hpre]; simp)]
            subst hn0
            clear hpre HN
            go_wp2
            go_ret3
            rw [HE.out]
            exact ⟨rfl, HB.out⟩
          have hn1 : 1 ≤ nm := by omega
          have hne : pre ≠ [] := by intro h; have := HPL.out; rw [h] at this; simp at this; omega
          have R := hide (HO.out.row (by omega) (fun x hx => (HF.out x hx).1))
          obtain ⟨bb, off, rfl, hcc⟩ := R.out.at' (j := 0) (by omega)
          rw [from_getD R.out.1 hn1, Nat.zero_mul, Nat.add_zero] at hcc
          have f1 := (hcc wr (Below.refl _ _)).1
          have z1 : ((nm : Int) == 0) = false := by simp; omega
          have i3 : (0 : Int) < (nm : Int) := by omega
          have SP := hide (hspan_any _ nm cm pre wr R.out hn1 (fun x hx => (HF.out x hx).2))
          clear hcc R
          by_cases hff : fromS pre = f
          · have d1 : (fromS pre != f) = false := by simpa using hff
            by_cases hsc : spanI pre = j
            · have d2 : (spanI pre != (j : Int)) = false := by simpa using hsc
              have HE : Hid (D = some (pre, pj)) := by show _ = _; rw [HN.out, if_pos ⟨hne, hff, hsc⟩]
              clear hff hsc hne HN
              generalize spanI pre = sx at *
              generalize fromS pre = fx at *
              go_wp2_with fail
              refine SP.out.mono ?_
              rintro e w4 ⟨rfl, q, rfl⟩
              have B4 := hide (bel_drewN HB.out q)
              have O4 : Hid (OwnB (wr.drewN q) w2.heap.size (some ⟨bb, off, none⟩) nm cm pre) := HO.out
              clear SP f1 HB HO
              generalize wr.drewN q = w4 at *
              go_wp2
              go_ret3
              rw [HE.out]
              refine ⟨⟨some ⟨bb, off, none⟩, cm, ?_, ?_, fun x hx => (HF.out x hx).1, by have := HPL.out; simp only; omega⟩, B4.out⟩
              · show _ = Ending.returned (.tuple #[.slice (some ⟨bb, off, none⟩) pre.length cm, .int .i64 pj, .bool true])
                rw [HPL.out]
                rfl
              · show OwnB w4 w2.heap.size (some ⟨bb, off, none⟩) pre.length cm pre
                rw [HPL.out]
                exact O4.out
            · have d2 : (spanI pre != (j : Int)) = true := by simpa using hsc
              have HE : Hid (D = none) := by show _ = _; rw [HN.out, if_neg (fun h => hsc h.2.2)]
              clear hff hsc hne HN
              generalize spanI pre = sx at *
              generalize fromS pre = fx at *
              go_wp2_with fail
              refine SP.out.mono ?_
              rintro e w4 ⟨rfl, q, rfl⟩
              have B4 := hide (bel_drewN HB.out q)
              clear SP f1 HB HO
              generalize wr.drewN q = w4 at *
              go_wp2
              go_ret3
              rw [HE.out]
              exact ⟨rfl, B4.out⟩
          · have d1 : (fromS pre != f) = true := by simpa using hff
            have HE : Hid (D = none) := by show _ = _; rw [HN.out, if_neg (fun h => hff h.2.1)]
            clear hff hne HN SP
            generalize fromS pre = fx at *
            go_wp2
            go_ret3
            rw [HE.out]
            exact ⟨rfl, HB.out⟩

set_option maxRecDepth 20000 in
set_option maxHeartbeats 8000000 in
theorem hget_any (p : Int) (a : Option Addr) (n cap : Nat) (zs : List Int) (w : World) (hp : (Lit.int .i64 p).wf = true) (hc : n ≤ cap) (hr : Row .u8 w a n zs) :
    Calls Try.prog 14 #[.slice a n cap, .int .i64 p] w fun e w' => GotL w.heap.size (dGet zs p) e w' ∧ Below w.heap.size w w' := by
  have G0 := hide (get_any p a n cap zs w hp hc hr)
  have SPA := hide (fun q (hq : (Lit.int .i64 q).wf = true) => getsparse_any q a n cap zs w hq hc hr)
  have DNA := hide (fun q (hq : (Lit.int .i64 q).wf = true) => getdense_any q a n cap zs w hq hc hr)
  have HZ : Hid (Bytes8 zs) := hr.bytes
  have HL := hide hr.1
  have hn := hr.2.1
  clear hr hp
  obtain ⟨D, hD⟩ : ∃ D, dGet zs p = D := ⟨_, rfl⟩
  have HD := hide hD
  rw [hD]
  clear hD
  cases hg : getS zs p with
  | none =>
    have HE : Hid (D = none) := by show _ = _; rw [← HD.out, dGet, hg]
    rw [hg] at G0
    have G1 : Hid (Calls Try.prog 34 #[.slice a n cap, .int .i64 p] w fun e w' => e = .returned (.tuple #[.int .u64 0, .int .i64 0, .bool false]) ∧ w' = w) := G0.out
    rw [HE.out]
    clear G0 hg
    go_enter Try.func14, Try.ntmps14
    go_wp2_with fail
    refine G1.out.mono ?_
    rintro e w1 ⟨rfl, rfl⟩
    go_wp2
    go_ret3
    exact ⟨rfl, Below.refl _ _⟩
  | some r =>
    obtain ⟨t, p1⟩ := r
    rw [hg] at G0
    have G1 : Hid (Calls Try.prog 34 #[.slice a n cap, .int .i64 p] w fun e w' => e = .returned (.tuple #[.int .u64 t, .int .i64 p1, .bool true]) ∧ w' = w) := G0.out
    obtain ⟨⟨t0, t1⟩, q0, q1⟩ := got_range HZ.out HL.out hn hg
    have HD1 := HD
    rw [dGet, hg] at HD1
    simp only at HD1
    clear G0 hg HD
    by_cases c0 : t = 0
    · subst c0
      rw [if_pos rfl] at HD1
      have S1 := hide (SPA.out p1 (i64_fit (by omega) (by omega)))
      clear SPA DNA
      cases hs : dSparse zs p1 with
      | none =>
        rw [hs] at S1 HD1
        have HE : Hid (D = none) := HD1.out.symm
        rw [HE.out]
        clear hs HD1
        go_enter Try.func14, Try.ntmps14
        go_wp2_with fail
        refine G1.out.mono ?_
        rintro e w1 ⟨rfl, rfl⟩
        go_wp2_with fail
        refine S1.out.mono ?_
        rintro e w2 ⟨he, b2⟩
        have he : e = .returned (.tuple #[.slice none 0 0, .int .i64 0, .bool false]) := he
        subst he
        have B2 := hide b2
        clear b2 S1
        go_wp2
        go_ret3
        exact ⟨rfl, B2.out⟩
      | some r =>
        obtain ⟨l, ed⟩ := r
        rw [hs] at S1 HD1
        simp only at HD1
        clear hs
        go_enter Try.func14, Try.ntmps14
        go_wp2_with fail
        refine G1.out.mono ?_
        rintro e w1 ⟨rfl, rfl⟩
        go_wp2_with fail
        refine S1.out.mono ?_
        rintro e w2 ⟨he, b2⟩
        obtain ⟨a2, c2, he, o2, hfit, hlen⟩ := he
        simp only at he o2 hfit hlen
        subst he
        have B2 := hide b2
        have O2 := hide o2
        have R2 := hide (o2.row (by omega) hfit)
        have HF := hide hfit
        have hcap2 := o2.capped.1
        have CK := hide (check_any a2 l.length c2 l w2 R2.out)
        have FO := hide (fun W (b : Below w2.heap.size w2 W) => hform_any a2 l.length c2 l W (R2.out.below b (Nat.le_refl _)) hcap2)
        have HOB := hide (fun W (b : Below w2.heap.size w2 W) => o2.below b (Nat.le_refl _))
        clear b2 o2 S1 hfit
        obtain ⟨nl, HNL⟩ : ∃ nl, Hid (l.length = nl) := ⟨_, rfl⟩
        rw [HNL.out] at CK FO HOB ⊢
        by_cases hck : checkS l = true
        · rw [hck] at CK
          by_cases hf : formS l = 0
          · rw [hf] at FO
            have HE : Hid (D = some (l, ed)) := by show _ = _; rw [← HD1.out, if_pos ⟨hck, hf⟩]
            clear hck hf HD1
            go_wp2_with fail
            refine CK.out.mono ?_
            rintro e w3 ⟨rfl, b3⟩
            have F3 := hide (FO.out w3 b3)
            have B3 := hide b3
            clear b3 CK FO
            go_wp2_with fail
            refine F3.out.mono ?_
            rintro e w4 ⟨rfl, b4⟩
            have B4 : Hid (Below w2.heap.size w2 w4) := B3.out.trans (b4.mono B3.out.size)
            clear b4 F3 B3
            go_wp2
            go_ret3
            rw [HE.out]
            refine ⟨⟨a2, c2, ?_, ?_, HF.out, hlen⟩, B2.out.trans (B4.out.mono B2.out.size)⟩
            · show _ = Ending.returned (.tuple #[.slice a2 l.length c2, .int .i64 ed, .bool true])
              rw [HNL.out]
              rfl
            · show OwnB w4 w1.heap.size a2 l.length c2 l
              rw [HNL.out]
              exact HOB.out w4 B4.out
          · have HE : Hid (D = none) := by show _ = _; rw [← HD1.out, if_neg (fun h => hf h.2)]
            have dd : (formS l != 0) = true := by simpa using hf
            clear hck hf HD1
            generalize formS l = fo at *
            go_wp2_with fail
            refine CK.out.mono ?_
            rintro e w3 ⟨rfl, b3⟩
            have F3 := hide (FO.out w3 b3)
            have B3 := hide b3
            clear b3 CK FO
            go_wp2_with fail
            refine F3.out.mono ?_
            rintro e w4 ⟨rfl, b4⟩
            have B4 : Hid (Below w2.heap.size w2 w4) := B3.out.trans (b4.mono B3.out.size)
            clear b4 F3 B3
            go_wp2
            go_ret3
            rw [HE.out]
            exact ⟨rfl, B2.out.trans (B4.out.mono B2.out.size)⟩
        · have hckf : checkS l = false := by simpa using hck
          rw [hckf] at CK
          have HE : Hid (D = none) := by show _ = _; rw [← HD1.out, if_neg (fun h => hck h.1)]
          clear hck hckf HD1 FO
          go_wp2_with fail
          refine CK.out.mono ?_
          rintro e w3 ⟨rfl, b3⟩
          have B3 := hide b3
          clear b3 CK
          go_wp2
          go_ret3
          rw [HE.out]
          exact ⟨rfl, B2.out.trans (B3.out.mono B2.out.size)⟩
    · rw [if_neg c0] at HD1
      have z0 : (t == 0) = false := by simpa using c0
      clear c0
      by_cases c1 : t = 1
      · subst c1
        rw [if_pos rfl] at HD1
        have S1 := hide (DNA.out p1 (i64_fit (by omega) (by omega)))
        clear SPA DNA
        cases hs : dDense zs p1 with
        | none =>
          rw [hs] at S1 HD1
          have HE : Hid (D = none) := HD1.out.symm
          rw [HE.out]
          clear hs HD1
          go_enter Try.func14, Try.ntmps14
          go_wp2_with fail
          refine G1.out.mono ?_
          rintro e w1 ⟨rfl, rfl⟩
          go_wp2_with fail
          refine S1.out.mono ?_
          rintro e w2 ⟨he, b2⟩
          have he : e = .returned (.tuple #[.slice none 0 0, .int .i64 0, .bool false]) := he
          subst he
          have B2 := hide b2
          clear b2 S1
          go_wp2
          go_ret3
          exact ⟨rfl, B2.out⟩
        | some r =>
          obtain ⟨l, ed⟩ := r
          rw [hs] at S1 HD1
          simp only at HD1
          clear hs
          go_enter Try.func14, Try.ntmps14
          go_wp2_with fail
          refine G1.out.mono ?_
          rintro e w1 ⟨rfl, rfl⟩
          go_wp2_with fail
          refine S1.out.mono ?_
          rintro e w2 ⟨he, b2⟩
          obtain ⟨a2, c2, he, o2, hfit, hlen⟩ := he
          simp only at he o2 hfit hlen
          subst he
          have B2 := hide b2
          have O2 := hide o2
          have R2 := hide (o2.row (by omega) hfit)
          have HF := hide hfit
          have hcap2 := o2.capped.1
          have CK := hide (check_any a2 l.length c2 l w2 R2.out)
          have FO := hide (fun W (b : Below w2.heap.size w2 W) => hform_any a2 l.length c2 l W (R2.out.below b (Nat.le_refl _)) hcap2)
          have HOB := hide (fun W (b : Below w2.heap.size w2 W) => o2.below b (Nat.le_refl _))
          clear b2 o2 S1 hfit
          obtain ⟨nl, HNL⟩ : ∃ nl, Hid (l.length = nl) := ⟨_, rfl⟩
          rw [HNL.out] at CK FO HOB ⊢
          by_cases hck : checkS l = true
          · rw [hck] at CK
            by_cases hf : formS l = 1
            · rw [hf] at FO
              have HE : Hid (D = some (l, ed)) := by show _ = _; rw [← HD1.out, if_pos ⟨hck, hf⟩]
              clear hck hf HD1
              go_wp2_with fail
              refine CK.out.mono ?_
              rintro e w3 ⟨rfl, b3⟩
              have F3 := hide (FO.out w3 b3)
              have B3 := hide b3
              clear b3 CK FO
              go_wp2_with fail
              refine F3.out.mono ?_
              rintro e w4 ⟨rfl, b4⟩
              have B4 : Hid (Below w2.heap.size w2 w4) := B3.out.trans (b4.mono B3.out.size)
              clear b4 F3 B3
              go_wp2
              go_ret3
              rw [HE.out]
              refine ⟨⟨a2, c2, ?_, ?_, HF.out, hlen⟩, B2.out.trans (B4.out.mono B2.out.size)⟩
              · show _ = Ending.returned (.tuple #[.slice a2 l.length c2, .int .i64 ed, .bool true])
                rw [HNL.out]
                rfl
              · show OwnB w4 w1.heap.size a2 l.length c2 l
                rw [HNL.out]
                exact HOB.out w4 B4.out
            · have HE : Hid (D = none) := by show _ = _; rw [← HD1.out, if_neg (fun h => hf h.2)]
              have dd : (formS l != 1) = true := by simpa using hf
              clear hck hf HD1
              generalize formS l = fo at *
              go_wp2_with fail
              refine CK.out.mono ?_
              rintro e w3 ⟨rfl, b3⟩
              have F3 := hide (FO.out w3 b3)
              have B3 := hide b3
              clear b3 CK FO
              go_wp2_with fail
              refine F3.out.mono ?_
              rintro e w4 ⟨rfl, b4⟩
              have B4 : Hid (Below w2.heap.size w2 w4) := B3.out.trans (b4.mono B3.out.size)
              clear b4 F3 B3
              go_wp2
              go_ret3
              rw [HE.out]
              exact ⟨rfl, B2.out.trans (B4.out.mono B2.out.size)⟩
          · have hckf : checkS l = false := by simpa using hck
            rw [hckf] at CK
            have HE : Hid (D = none) := by show _ = _; rw [← HD1.out, if_neg (fun h => hck h.1)]
            clear hck hckf HD1 FO
            go_wp2_with fail
            refine CK.out.mono ?_
            rintro e w3 ⟨rfl, b3⟩
            have B3 := hide b3
            clear b3 CK
            go_wp2
            go_ret3
            rw [HE.out]
            exact ⟨rfl, B2.out.trans (B3.out.mono B2.out.size)⟩
      · rw [if_neg c1] at HD1
        have z1 : (t == 1) = false := by simpa using c1
        have HE : Hid (D = none) := HD1.out.symm
        rw [HE.out]
        clear c1 HD1 SPA DNA
        go_enter Try.func14, Try.ntmps14
        go_wp2_with fail
        refine G1.out.mono ?_
        rintro e w1 ⟨rfl, rfl⟩
        go_wp2
        go_ret3
        exact ⟨rfl, Below.refl _ _⟩
end Go.Proofs.Ytjngpdhhkkambab
