/-
  The program's own Parse of texts (with split): contracts, for every world; what was there before stays.
  Conditions: texts of at most 20,000 bytes.
-/
import Derived.Test.YtoepdgdagjckbaaLabDq
import Derived.Test.YtoepdgdagjckbaaLabD
namespace Go.Proofs.Ytoepdgdagjckbaa
open Go.RowKit
set_option maxRecDepth 20000

/-- One label is read, and where it ends. -/
def labU (l : List UInt8) : Option (Lb × List UInt8) :=
  match l.dropWhile notEq with
  | _ :: t => (unqO t).map (fun q => ((⟨(l.takeWhile notEq).toArray⟩, ⟨q.1.toArray⟩), q.2))
  | [] => none
theorem splF_lab (k : Nat) (l : List UInt8) : splF (k + 1) l = match labU l with
    | none => none
    | some (x, []) => some [x]
    | some (x, c :: t) => if c = 44 then (splF k t).map (x :: ·) else none := by
  rw [splF]
  unfold labU
  cases l.dropWhile notEq with
  | nil => rfl
  | cons e r =>
    cases r with
    | nil => rfl
    | cons q r =>
      simp only [unqO]
      by_cases hq : q = 34
      · rw [if_pos hq, if_pos hq]
        cases uqF r.length r with
        | none => rfl
        | some z =>
          obtain ⟨v, t⟩ := z
          cases t <;> rfl
      · rw [if_neg hq, if_neg hq]
        rfl
theorem drop_eq (l : List UInt8) : l.dropWhile notEq = l.drop (l.takeWhile notEq).length := by
  conv => rhs; rw [← List.takeWhile_append_dropWhile (p := notEq) (l := l)]
  rw [List.takeWhile_append_dropWhile, ]
  induction l with
  | nil => rfl
  | cons c t ih =>
    rw [List.takeWhile_cons, List.dropWhile_cons]
    by_cases h : notEq c = true
    · rw [if_pos h, if_pos h]
      exact ih
    · rw [if_neg h, if_neg h]
      rfl
/-- By what Unquoted tells at the place behind the sign. -/
theorem labU_at (l : List UInt8) : labU l = (unqO (l.drop ((l.takeWhile notEq).length + 1))).map (fun q => ((⟨(l.takeWhile notEq).toArray⟩, ⟨q.1.toArray⟩), q.2)) := by
  unfold labU
  rw [← List.drop_drop, ← drop_eq]
  cases l.dropWhile notEq with
  | nil => rfl
  | cons e r => rfl
theorem unqO_rest {l v r : List UInt8} (h : unqO l = some (v, r)) : r.length < l.length ∧ l.drop (l.length - r.length) = r := by
  unfold unqO at h
  cases l with
  | nil => cases h
  | cons c t =>
    simp only at h
    split at h
    · obtain ⟨h1, h2⟩ := uqF_rest h
      refine ⟨by simp; omega, ?_⟩
      rw [List.length_cons, show t.length + 1 - r.length = (t.length - r.length) + 1 by omega]
      exact h2
    · cases h
theorem drop_len (s : ByteArray) (k : Nat) : (s.toList.drop k).length = s.size - k := by rw [List.length_drop, ba_len]

def lenV : Value → Nat
  | .slice _ n _ => n
  | _ => 0
theorem flat_ge (v : List UInt8) : v.length ≤ (v.flatMap qb).length := by
  induction v with
  | nil => simp
  | cons c t ih =>
    rw [List.flatMap_cons, List.length_append, List.length_cons]
    have : 1 ≤ (qb c).length := by
      unfold qb
      split
      · simp
      · split <;> simp
    omega
theorem unqO_len {l v r : List UInt8} (h : unqO l = some (v, r)) : v.length ≤ l.length := by
  unfold unqO at h
  cases l with
  | nil => cases h
  | cons c t =>
    simp only at h
    split at h
    · have e := congrArg List.length (uqF_fwd h)
      rw [List.length_append] at e
      have := flat_ge v
      rw [List.length_cons]
      omega
    · cases h
theorem mk_size (l : List UInt8) : (⟨l.toArray⟩ : ByteArray).size = l.length := by
  rw [← ba_len, ByteArray.toList_mk]
/-- What split tells. -/
def SplT (r : Option (List Lb)) (w w' : World) (e : Ending) : Prop :=
  Below w.heap.size w w' ∧ match r with
  | none => e = .returned (.tuple #[.slice none 0 0, .bool false])
  | some m => ∃ a c, e = .returned (.tuple #[.slice a m.length c, .bool true]) ∧ RowL w' a m.length m ∧ m.length ≤ c ∧ (a = none → c = 0)

set_option maxHeartbeats 4000000 in
theorem split_any (s : ByteArray) (w : World) (hs : s.size ≤ 20000) :
    Calls Try.prog 38 #[.string s] w fun e w' => SplT (splF 8 s.toList) w w' e := by
  obtain ⟨i0, hi, hz0, hz1, hz2⟩ := info_parts Try.infoL
  obtain ⟨ans, HA⟩ : ∃ a, Hid (splF 8 s.toList = a) := ⟨_, rfl⟩
  rw [HA.out]
  go_enter Try.func38, Try.ntmps38
  go_wp2
  go_loopw [4, 5] (fun l i wr => ∃ (am : Option Addr) (nm cm k : Nat) (m : List Lb), l = .slice am nm cm ∧ i = .int .i64 k ∧ k ≤ s.size ∧ nm ≤ 8 ∧ Hid (OwnL wr w.heap.size am nm cm m) ∧ Hid (∀ x ∈ m, LbW x) ∧ Hid (Below w.heap.size w wr) ∧ Hid (ans = (splF (8 - nm) (s.toList.drop k)).map (m ++ ·))) (fun l _ _ => 8 - lenV l)
  case atStart => exact ⟨none, 0, 0, 0, [], rfl, rfl, Nat.zero_le _, by omega, ownL_nil _ _, fun x hx => (by cases hx), Below.refl _ _, (by show _ = _; rw [← HA.out]; simp)⟩
  case round =>
    obtain ⟨am, nm, cm, k, m, rfl, rfl, hk, h8, OW, MW, BW, AN⟩ := hrel
    obtain ⟨u, rfl⟩ : ∃ u, u = wr := ⟨wr, rfl⟩
    by_cases hlt : nm < 8
    · have j8 : (nm : Int) < 8 := by omega
      have i2 : (0 : Int) ≤ (k : Int) := by omega
      have i3 : (k : Int) ≤ (s.size : Int) := by omega
      have TL := hide (ext_from s k)
      have TZ : Hid ((s.extract k s.size).size ≤ 20000) := by show _ ≤ _; rw [ByteArray.size_extract]; omega
      have CU := hide (cut_any (s.extract k s.size) u TZ.out)
      obtain ⟨nx, HX⟩ : ∃ nx, Hid (nmL (s.extract k s.size) = nx) := ⟨_, rfl⟩
      rw [HX.out] at CU
      have NX : Hid (nx = ⟨((s.toList.drop k).takeWhile notEq).toArray⟩) := by show _ = _; rw [← HX.out]; unfold nmL; rw [TL.out]
      have NL : Hid (nx.size = ((s.toList.drop k).takeWhile notEq).length) := by show _ = _; rw [NX.out, mk_size]
      have NZ : nx.size ≤ s.size - k := by
        rw [NL.out, ← drop_len s k]
        exact (List.takeWhile_sublist _).length_le
      have UQ := hide (fun W => unquoted_any s (k + nx.size + 1) W hs (by omega))
      rw [show ((k + nx.size + 1 : Nat) : Int) = (k : Int) + (nx.size : Int) + 1 by omega] at UQ
      have LA : Hid (labU (s.toList.drop k) = (unqO (s.toList.drop (k + nx.size + 1))).map (fun q => ((nx, ⟨q.1.toArray⟩), q.2))) := by
        show _ = _
        rw [labU_at, List.drop_drop, ← NL.out, ← NX.out, Nat.add_assoc]
      have SP := hide (splF_lab (7 - nm) (s.toList.drop k))
      rw [show 7 - nm + 1 = 8 - nm by omega, LA.out] at SP
      unfold unqV at UQ
      clear HX NX NL LA TL TZ
      cases e : unqO (s.toList.drop (k + nx.size + 1)) with
      | none =>
        rw [e] at UQ SP
        have AN2 : Hid (ans = none) := by show _ = _; rw [AN.out, SP.out]; rfl
        clear e SP AN
        go_wp2_with fail
        with_reducible refine CU.out.mono ?_
        rintro e1 v1 ⟨⟨t, b, rfl⟩, q, hq⟩
        have B1 : Hid (Below w.heap.size w v1) := by show Below _ _ _; rw [hq]; exact bel_drewN BW.out q
        clear hq CU
        go_wp2_with fail
        with_reducible refine (UQ.out _).mono ?_
        rintro e1 v2 ⟨rfl, b2⟩
        have B2 : Hid (Below w.heap.size w v2) := bel_to B1.out (Nat.le_refl _) b2
        clear b2 UQ B1
        simp only [ansU, noneU]
        go_wp2
        go_ret2
        rw [AN2.out]
        exact ⟨B2.out, rfl⟩
      | some z =>
        obtain ⟨v, r⟩ := z
        rw [e] at UQ SP
        obtain ⟨hr1, hr2⟩ := unqO_rest e
        have hvl := unqO_len e
        rw [drop_len] at hr1 hvl
        rw [drop_len, List.drop_drop] at hr2
        obtain ⟨bh, HB⟩ : ∃ bh, Hid (s.size - r.length = bh) := ⟨_, rfl⟩
        have hbl : bh ≤ s.size := by have := HB.out; omega
        have HB2 : Hid (r.length + bh = s.size) := by show _ = _; have := HB.out; omega
        have DB : Hid (s.toList.drop bh = r) := by
          show _ = _
          have h := hr2
          rw [show k + nx.size + 1 + (s.size - (k + nx.size + 1) - r.length) = bh by have := HB.out; omega] at h
          exact h
        simp only [ansU, HB.out] at UQ
        obtain ⟨vx, HV⟩ : ∃ vx, Hid ((⟨v.toArray⟩ : ByteArray) = vx) := ⟨_, rfl⟩
        have VZ : Hid (LbW (nx, vx)) := ⟨by show nx.size ≤ _; omega, by show vx.size ≤ _; rw [← HV.out, mk_size]; omega⟩
        rw [HV.out] at UQ
        simp only [Option.map_some, HV.out] at SP
        have MW2 : Hid (∀ x ∈ m ++ [(nx, vx)], LbW x) := fun x hx => by
          rcases List.mem_append.1 hx with h | h
          · exact MW.out x h
          · simp only [List.mem_cons, List.not_mem_nil, or_false] at h
            rw [h]; exact VZ.out
        have OL := hide OW.out.len
        clear e hr1 hr2 hvl HV VZ MW
        go_wp2_with fail
        with_reducible refine CU.out.mono ?_
        rintro e1 v1 ⟨⟨t, b, rfl⟩, q, hq⟩
        have B1 : Hid (Below w.heap.size w v1) := by show Below _ _ _; rw [hq]; exact bel_drewN BW.out q
        have O1 : Hid (OwnL v1 w.heap.size am nm cm m) := by show OwnL _ _ _ _ _ _; rw [hq]; exact OW.out.below (bel_drewN (Below.refl _ _) q) (Nat.le_refl _)
        clear hq CU OW BW
        go_wp2_with fail
        with_reducible refine (UQ.out _).mono ?_
        rintro e1 v2 ⟨rfl, b2⟩
        have B2 : Hid (Below w.heap.size w v2) := bel_to B1.out (Nat.le_refl _) b2
        have O2 := hide (O1.out.below b2 (Nat.le_refl _))
        clear b2 UQ B1 O1
        go_wp2_with (at_builtin; refine wpList_append_labs _ rfl _ _ 22 rfl w.heap.size i0 Try.underlying22 hi hz0 hz1 hz2 am nm cm m rfl (O2.out.alloc _) (some ⟨v2.heap.size, 0, none⟩) 1 1 [(nx, vx)] rfl rfl (one_hrow v2 (nx, vx) _) (fun e => by cases e) (by omega) (bel_al B2.out (Nat.le_refl _) _).size ?_)
        intro a4 c4 w4 o4 b4
        have O4 := hide o4
        have B4 : Hid (Below w.heap.size w w4) := (bel_al B2.out (Nat.le_refl _) _).trans b4
        have CP := hide o4.capped
        clear o4 b4 O2 B2
        cases r with
        | nil =>
          have hb : bh = s.size := by have := HB2.out; simpa using this
          have eb : ((bh : Int) == (s.size : Int)) = true := by simp [hb]
          have AN2 : Hid (ans = some (m ++ [(nx, vx)])) := by show _ = _; rw [AN.out, SP.out]; rfl
          have R4 := hide (O4.out.row (by omega) MW2.out)
          have ML : Hid ((m ++ [(nx, vx)]).length = nm + 1) := by show _ = _; rw [List.length_append, OL.out]; rfl
          clear AN SP DB HB HB2
          go_wp2
          go_ret2
          rw [AN2.out]
          refine ⟨B4.out, a4, c4, ?_, ?_, ?_, fun e => (CP.out.2 e).2⟩
          · rw [ML.out]; rfl
          · rw [ML.out]; exact R4.out
          · rw [ML.out]; exact CP.out.1
        | cons c t' =>
          have hb : bh < s.size := by have := HB2.out; simp only [List.length_cons] at this; omega
          have eb : ((bh : Int) == (s.size : Int)) = false := by rw [beq_eq_false_iff_ne]; omega
          have eb' : ¬ (bh : Int) = (s.size : Int) := by omega
          have hd := DB.out
          rw [drop_byte s bh hb] at hd
          simp only [List.cons.injEq] at hd
          obtain ⟨hc, hd2⟩ := hd
          obtain ⟨z, hz⟩ : ∃ z : Int, Hid ((c.toNat : Int) = z) := ⟨_, rfl⟩
          have hbz : ((s[bh]'hb).toNat : Int) = z := by rw [hc]; exact hz.out
          have k1 : (0 : Int) ≤ (bh : Int) := by omega
          have k2 : (bh : Int) < (s.size : Int) := by omega
          clear DB HB HB2
          by_cases h44 : c = 44
          · obtain rfl : z = 44 := by rw [← hz.out, h44]; rfl
            have AN2 : Hid (ans = (splF (8 - (nm + 1)) (s.toList.drop (bh + 1))).map ((m ++ [(nx, vx)]) ++ ·)) := by
              show _ = _
              rw [AN.out, SP.out]
              simp only [h44, if_true]
              rw [hd2, show 8 - (nm + 1) = 7 - nm by omega, Option.map_map]
              congr 1
              funext q
              simp
            clear AN SP hc hd2 hz h44
            go_wp2
            go_roundw
            case rel => exact ⟨a4, nm + 1, c4, bh + 1, _, by go_num, by go_num, by omega, by omega, O4, MW2, B4, AN2⟩
            case measure => simp [lenV]; omega
          · have n1 : (z != 44) = true := by
              rw [bne_iff_ne, ← hz.out]
              exact fun e => h44 (UInt8.toNat_inj.1 (by show c.toNat = 44; omega))
            have n1' : ¬ z = 44 := by simpa using n1
            have AN2 : Hid (ans = none) := by
              show _ = _
              rw [AN.out, SP.out]
              simp only [h44, if_false]
              rfl
            clear AN SP hc hd2 hz h44
            go_wp2
            go_ret2
            rw [AN2.out]
            exact ⟨B4.out, rfl⟩
    · have h9 : nm = 8 := by omega
      have j8 : ¬ (nm : Int) < 8 := by omega
      have AN2 : Hid (ans = none) := by show _ = _; rw [AN.out, h9]; rfl
      clear AN h9
      go_wp2
      go_ret2
      rw [AN2.out]
      exact ⟨BW.out, rfl⟩

set_option maxHeartbeats 2000000 in
theorem parse_any (s : ByteArray) (w : World) (hs : s.size ≤ 20000) :
    Calls Try.prog 23 #[.string s] w fun e w' => MadeL (parseL s) 17 w w' e := by
  rw [parseL_spl]
  have SP := hide (split_any s w hs)
  generalize splF 8 s.toList = r at *
  unfold SplT at SP
  cases r with
  | none =>
    go_enter Try.func23, Try.ntmps23
    go_wp2_with fail
    with_reducible refine SP.out.mono ?_
    rintro e v1 ⟨b1, rfl⟩
    have B1 := hide b1
    clear b1
    go_wp2
    go_ret2
    exact ⟨B1.out, none, 0, rfl⟩
  | some m =>
    simp only
    have CK := hide (fun a c v1 (r1 : RowL v1 a m.length m) => check_any a m.length c m v1 r1)
    cases hc : chkL m with
    | true =>
      rw [hc] at CK
      simp only [if_true]
      clear hc
      go_enter Try.func23, Try.ntmps23
      go_wp2_with fail
      with_reducible refine SP.out.mono ?_
      rintro e v1 ⟨b1, a, c, rfl, r1, hc1, hc2⟩
      have B1 := hide b1
      have R1 := hide r1
      have H1 := hide hc1
      have H2 := hide hc2
      clear b1 r1 SP hc1 hc2
      go_wp2_with fail
      with_reducible refine (CK.out _ _ _ R1.out).mono ?_
      rintro e v2 ⟨rfl, b2⟩
      have B2 : Hid (Below w.heap.size w v2) := bel_to B1.out (Nat.le_refl _) b2
      have R2 := hide (R1.out.below b2 (Nat.le_refl _))
      clear b2 B1 R1 CK
      go_wp2
      go_ret2
      exact ⟨B2.out, a, c, rfl, R2.out, H1.out, H2.out⟩
    | false =>
      rw [hc] at CK
      simp only [Bool.false_eq_true, if_false]
      clear hc
      go_enter Try.func23, Try.ntmps23
      go_wp2_with fail
      with_reducible refine SP.out.mono ?_
      rintro e v1 ⟨b1, a, c, rfl, r1, hc1, hc2⟩
      have B1 := hide b1
      have R1 := hide r1
      clear b1 r1 SP hc1 hc2
      go_wp2_with fail
      with_reducible refine (CK.out _ _ _ R1.out).mono ?_
      rintro e v2 ⟨rfl, b2⟩
      have B2 : Hid (Below w.heap.size w v2) := bel_to B1.out (Nat.le_refl _) b2
      clear b2 B1 R1 CK
      go_wp2
      go_ret2
      exact ⟨B2.out, none, 0, rfl⟩
theorem laS : LaS := ⟨fun s w hs => parse_any s w hs⟩
end Go.Proofs.Ytoepdgdagjckbaa
