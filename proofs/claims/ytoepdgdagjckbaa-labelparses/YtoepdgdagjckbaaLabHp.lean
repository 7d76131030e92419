/-
  The document's Parse of texts: its contract, for every world; what was there before stays.
  Conditions: texts of at most 20,000 bytes.
-/
import Derived.Test.YtoepdgdagjckbaaLabHv
import Derived.Test.YtoepdgdagjckbaaLabDs
namespace Go.Proofs.Ytoepdgdagjckbaa
open Go.RowKit
set_option maxRecDepth 20000

theorem dropWhile_len {p : UInt8 → Bool} (l : List UInt8) : l.dropWhile p = l.drop (l.takeWhile p).length := by
  induction l with
  | nil => rfl
  | cons c t ih =>
    rw [List.takeWhile_cons, List.dropWhile_cons]
    by_cases h : p c = true
    · rw [if_pos h, if_pos h]
      exact ih
    · rw [if_neg h, if_neg h]
      rfl
theorem takeWhile_len {p : UInt8 → Bool} (l : List UInt8) : l.takeWhile p = l.take (l.takeWhile p).length := by
  induction l with
  | nil => rfl
  | cons c t ih =>
    rw [List.takeWhile_cons]
    by_cases h : p c = true
    · rw [if_pos h, List.length_cons, List.take_succ_cons, ← ih]
    · rw [if_neg h]
      rfl
theorem nmE_le (s : ByteArray) (j : Nat) (hj : j ≤ s.size) : nmE s j ≤ s.size := by
  unfold nmE
  have h1 := (List.takeWhile_sublist nmS (l := s.toList.drop j)).length_le
  rw [drop_len] at h1
  omega
theorem ext_mid (s : ByteArray) (j k : Nat) : (s.extract j k).toList = (s.toList.drop j).take (k - j) := by
  rw [ByteArray.toList_eq, ByteArray.toList_eq, ByteArray.data_extract, Array.toList_extract, List.extract_eq_take_drop]
theorem nmE_text (s : ByteArray) (j : Nat) : s.extract j (nmE s j) = ⟨((s.toList.drop j).takeWhile nmS).toArray⟩ := by
  refine ba_ext ?_
  rw [ext_mid, show (⟨((s.toList.drop j).takeWhile nmS).toArray⟩ : ByteArray).toList = (s.toList.drop j).takeWhile nmS from ByteArray.toList_mk _]
  unfold nmE
  rw [show j + ((s.toList.drop j).takeWhile nmS).length - j = ((s.toList.drop j).takeWhile nmS).length by omega]
  exact (takeWhile_len _).symm
theorem isS_cons {s : ByteArray} {k : Nat} {e : UInt8} {t : List UInt8} (h : s.toList.drop k = e :: t) (c : UInt8) : isS s k false c = decide (e = c) ∧ s.toList.drop (k + 1) = t := by
  have h1 : s.toList[k]? = some e := by
    have := List.getElem?_drop (xs := s.toList) (i := k) (j := 0)
    rw [h] at this
    simpa using this.symm
  refine ⟨?_, ?_⟩
  · unfold isS
    rw [h1]
    by_cases e1 : e = c <;> simp [e1]
  · rw [← List.drop_drop, h]
    rfl
theorem isS_nil {s : ByteArray} {k : Nat} (h : s.toList.drop k = []) (c : UInt8) : isS s k false c = false := by
  unfold isS
  have : s.toList.length ≤ k := by
    have := congrArg List.length h
    rw [List.length_drop] at this
    simp at this
    omega
  rw [List.getElem?_eq_none this]
  rfl
/-- A label, read by the reader. -/
theorem labR_at (s : ByteArray) (j : Nat) : labR (s.toList.drop j) = (if isS s (nmE s j) false 61 then valR s (nmE s j + 1) false else none).map (fun z => ((s.extract j (nmE s j), ⟨z.1.toArray⟩), z.2)) := by
  rw [nmE_text]
  unfold labR
  have hd : (s.toList.drop j).dropWhile nmS = s.toList.drop (nmE s j) := by
    rw [dropWhile_len, List.drop_drop]
    rfl
  rw [hd]
  cases e : s.toList.drop (nmE s j) with
  | nil =>
    rw [isS_nil e]
    rfl
  | cons x t =>
    obtain ⟨h1, h2⟩ := isS_cons e 61
    rw [h1]
    by_cases hx : x = 61
    · rw [decide_eq_true hx, if_pos rfl]
      unfold valR
      cases t with
      | nil =>
        rw [isS_nil h2]
        rfl
      | cons q r =>
        obtain ⟨h3, h4⟩ := isS_cons h2 34
        rw [h3, h4]
        by_cases hq : q = 34
        · rw [decide_eq_true hq, if_pos rfl]
          simp only
          rw [if_pos ⟨hx, hq⟩]
        · rw [decide_eq_false hq]
          simp only
          rw [if_neg (fun h => hq h.2)]
          rfl
    · rw [decide_eq_false hx]
      cases t with
      | nil => rfl
      | cons q r =>
        simp only
        rw [if_neg (fun h => hx h.1)]
        rfl
theorem parB_lab (k : Nat) (l : List UInt8) : parB (k + 1) l = match labR l with
    | none => none
    | some (x, []) => some [x]
    | some (x, c :: r) => if c = 44 then (parB k r).map (x :: ·) else none := rfl

/-- The reader, and labels of the call's own behind it, in a world behind w. -/
structure PS (w : World) (g : Nat) (s : ByteArray) (j : Nat) (bd : Bool) (am : Option Addr) (nm cm : Nat) (m : List Lb) (wr : World) : Prop where
  sb : SB wr g s j bd
  ow : OwnL wr (g + 1) am nm cm m
  be : Below g w wr
section
variable {w wr : World} {g : Nat} {s : ByteArray} {j : Nat} {bd : Bool} {am : Option Addr} {nm cm : Nat} {m : List Lb}
theorem PS.ch (h : PS w g s j bd am nm cm m wr) {u : World} (c : Ch (fun b => b = g) wr u) {j' : Nat} {bd' : Bool} (hs : SB u g s j' bd') : PS w g s j' bd' am nm cm m u :=
  ⟨hs, h.ow.ch c (fun b hb e => by have := h.ow.block b hb; omega), h.be.trans (c.below (Nat.le_of_lt h.sb.lt) (fun k hk e => by omega))⟩
theorem PS.push (h : PS w g s j bd am nm cm m wr) {u : World} (hb : Below (g + 1) wr u) {a' : Option Addr} {n' c' : Nat} {m' : List Lb} (ho : OwnL u (g + 1) a' n' c' m') : PS w g s j bd a' n' c' m' u :=
  ⟨h.sb.keep (hb.block g (Nat.lt_succ_self _)), ho, h.be.trans (hb.mono (Nat.le_succ _))⟩
theorem PS.drewN (h : PS w g s j bd am nm cm m wr) (q : Nat) : PS w g s j bd am nm cm m (wr.drewN q) :=
  ⟨h.sb.drewN q, h.ow.below (bel_drewN (Below.refl _ _) q) (Nat.le_refl _), bel_drewN h.be q⟩
end

set_option maxHeartbeats 8000000 in
theorem refparse_any (s : ByteArray) (w : World) (hs : s.size ≤ 20000) :
    Calls Try.prog 25 #[.string s] w fun e w' => DocL (parseL s) w w' e := by
  obtain ⟨i0, hi, hz0, hz1, hz2⟩ := info_parts Try.infoL
  obtain ⟨ans, HA⟩ : ∃ a, Hid (parseL s = a) := ⟨_, rfl⟩
  obtain ⟨pa, HP⟩ : ∃ a, Hid (parB 9 s.toList = a) := ⟨_, rfl⟩
  have AN : Hid (pa = none → ans = none) := fun e => by rw [← HA.out]; unfold parseL; rw [HP.out, e]
  have AS : Hid (∀ m, pa = some m → ans = if chkL m = true ∧ textL m = s then some m else none) := fun m e => by rw [← HA.out]; unfold parseL; rw [HP.out, e]
  rw [HA.out]
  obtain ⟨g, HG⟩ : ∃ g, Hid (w.heap.size = g) := ⟨_, rfl⟩
  have P0 : Hid (PS w g s 0 false none 0 0 [] (w.alloc (.cells #[.string s, .int .i64 0, .bool false] 61))) := by
    refine ⟨?_, ownL_nil _ _, ?_⟩
    · unfold SB
      rw [← HG.out]
      exact heap_alloc_new w _
    · rw [← HG.out]
      exact (Below.refl _ _).alloc (Nat.le_refl _) _
  have CN := hide (fun W j bd (h : SB W g s j bd) (hj : j ≤ s.size) => sname_any g s j bd W h hj hs)
  have CM := hide (fun W j bd (c : UInt8) (h : SB W g s j bd) (hj : j ≤ s.size) => must_any g s j bd c W h hj hs)
  have M61 : Hid (∀ W j bd, SB W g s j bd → j ≤ s.size → Calls Try.prog 41 #[.pointer (some ⟨g, 0, none⟩), .int .u8 61] W fun e w' => e = .returned (.tuple #[]) ∧ Ch (fun b => b = g) W w' ∧ SB w' g s (if isS s j bd 61 then j + 1 else j) (!isS s j bd 61)) := fun W j bd => CM.out W j bd 61
  have M44 : Hid (∀ W j bd, SB W g s j bd → j ≤ s.size → Calls Try.prog 41 #[.pointer (some ⟨g, 0, none⟩), .int .u8 44] W fun e w' => e = .returned (.tuple #[]) ∧ Ch (fun b => b = g) W w' ∧ SB w' g s (if isS s j bd 44 then j + 1 else j) (!isS s j bd 44)) := fun W j bd => CM.out W j bd 44
  have CV := hide (fun W j bd (h : SB W g s j bd) (hj : j ≤ s.size) => svalue_any g s j bd W h hj hs)
  have CK := hide (fun W b n c m (q : RowL W b n m) => refchkl_any b n c m W q)
  have CT := hide (fun W b n c m (q : RowL W b n m) (hc : chkL m = true) => reftext_any b n c m W q hc)
  have IS0 : Hid (∀ j c, isS s j true c = false) := fun j c => rfl
  -- what comes behind the loop
  have ENDB : Hid (∀ (u : World) (j : Nat) (am : Option Addr) (nm cm : Nat) (m : List Lb), PS w g s j true am nm cm m u → pa = none → ans = none ∧ Below w.heap.size w u) := fun u j am nm cm m V e => ⟨AN.out e, by have := V.be; rw [← HG.out] at this; exact this⟩
  clear HA CM
  go_enter Try.func25, Try.ntmps25
  go_wp2
  rw [HG.out]
  go_loopw [5] (fun x wr => ∃ (j : Nat) (bd : Bool) (am : Option Addr) (nm cm : Nat) (m : List Lb), x = .slice am nm cm ∧ nm ≤ 9 ∧ j ≤ s.size ∧ Hid (PS w g s j bd am nm cm m wr) ∧ Hid (∀ z ∈ m, LbW z) ∧ Hid (bd = false → pa = (parB (9 - nm) (s.toList.drop j)).map (m ++ ·)) ∧ Hid (bd = true → pa = none)) (fun x _ => 9 - lenV x)
  case atStart => exact ⟨0, false, none, 0, 0, [], rfl, by omega, by omega, P0, fun z hz => (by cases hz), fun _ => (by show _ = _; rw [← HP.out]; simp), fun h => by cases h⟩
  case round =>
    obtain ⟨j, bd, am, nm, cm, m, rfl, h9, hj, V, MW, R, NO⟩ := hrel
    obtain ⟨u, rfl⟩ : ∃ u, u = wr := ⟨wr, rfl⟩
    clear P0
    obtain ⟨a0, a1, a2, a3⟩ := V.out.sb.cell
    cases bd with
    | true =>
      have D := hide (ENDB.out u j am nm cm m V.out (NO.out rfl))
      clear V R NO AN AS ENDB
      go_wp2
      go_ret2
      rw [D.out.1]
      exact ⟨D.out.2, rfl⟩
    | false =>
      have RV := hide (R.out rfl)
      clear R NO
      by_cases h8 : nm ≤ 8
      · have j8 : (nm : Int) ≤ 8 := by omega
        have LA := hide (labR_at s j)
        have PB := hide (parB_lab (8 - nm) (s.toList.drop j))
        rw [show 8 - nm + 1 = 9 - nm by omega, LA.out] at PB
        rw [PB.out] at RV
        have hj1 := nmE_le s j hj
        have NXZ : (s.extract j (nmE s j)).size ≤ 20000 := by rw [ByteArray.size_extract]; omega
        have CN1 := hide (CN.out u j false V.out.sb hj)
        generalize s.extract j (nmE s j) = nx at *
        generalize nmE s j = j1 at *
        clear LA PB
        go_wp2_with fail
        with_reducible refine CN1.out.mono ?_
        rintro e u1 ⟨rfl, c1, s1⟩
        have V1 := hide (V.out.ch c1 s1)
        clear c1 s1 V CN1 a0 a1 a2 a3
        go_wp2_with fail
        with_reducible refine (M61.out _ _ _ V1.out.sb hj1).mono ?_
        rintro e u2 ⟨rfl, c1, s1⟩
        have V2 := hide (V1.out.ch c1 s1)
        have R2 : Hid (∀ r, (if isS s j1 false 61 then valR s (j1 + 1) false else none) = r → r = valR s (if isS s j1 false 61 then j1 + 1 else j1) (!isS s j1 false 61)) := fun r e => by
          rw [← e]
          cases isS s j1 false 61 with
          | true => rfl
          | false => rfl
        have hj2 : (if isS s j1 false 61 then j1 + 1 else j1) ≤ s.size := by
          cases e : isS s j1 false 61 with
          | false => exact hj1
          | true =>
            unfold isS at e
            simp only [Bool.not_false, Bool.true_and, beq_iff_eq] at e
            have := (List.getElem?_eq_some_iff.1 e).1
            rw [ba_len] at this
            exact this
        have CV1 := hide (CV.out u2 _ _ V2.out.sb hj2)
        rw [← R2.out _ rfl] at CV1
        generalize (if isS s j1 false 61 then valR s (j1 + 1) false else none) = res at *
        generalize (if isS s j1 false 61 then j1 + 1 else j1) = j2 at *
        generalize (!isS s j1 false 61) = b2 at *
        clear c1 s1 V1 R2 hj1
        go_wp2_with fail
        with_reducible refine CV1.out.mono ?_
        rintro e u3 ⟨t, k3, rfl, hk3, htz, c3, s3⟩
        have MW2 : Hid (∀ z ∈ m ++ [(nx, t)], LbW z) := fun z hz => by
          rcases List.mem_append.1 hz with h | h
          · exact MW.out z h
          · simp only [List.mem_cons, List.not_mem_nil, or_false] at h
            rw [h]
            exact ⟨by show nx.size ≤ _; omega, by show t.size ≤ _; omega⟩
        obtain ⟨bd3, V3, HY, HN⟩ : ∃ bd3, PS w g s k3 bd3 am nm cm m u3 ∧ (bd3 = false → pa = (match s.toList.drop k3 with | [] => some [(nx, t)] | c :: r => if c = 44 then (parB (8 - nm) r).map ((nx, t) :: ·) else none).map (m ++ ·)) ∧ (bd3 = true → pa = none) := by
          cases res with
          | none => exact ⟨true, V2.out.ch c3 s3, fun h => (by cases h), fun _ => RV.out⟩
          | some q =>
            obtain ⟨v, r⟩ := q
            obtain ⟨rfl, hd, s4⟩ := s3
            refine ⟨false, V2.out.ch c3 s4, fun _ => ?_, fun h => (by cases h)⟩
            rw [hd]
            rw [RV.out]
            cases r <;> rfl
        have V3 := hide V3
        have HY := hide HY
        have HN := hide HN
        clear c3 s3 V2 RV CV1 MW
        have OX : Hid (∀ o, OwnL (u3.alloc o) (g + 1) am nm cm m) := fun o => V3.out.ow.alloc o
        have GS : Hid (g + 1 ≤ u3.heap.size) := V3.out.sb.lt
        go_wp2_with (at_builtin; refine wpList_append_labs _ rfl _ _ 22 rfl (g + 1) i0 Try.underlying22 hi hz0 hz1 hz2 am nm cm m rfl (OX.out _) (some ⟨u3.heap.size, 0, none⟩) 1 1 [(nx, t)] rfl rfl (one_hrow u3 (nx, t) _) (fun e => by cases e) (by omega) (Nat.le_trans GS.out (bel_al (Below.refl u3.heap.size u3) (Nat.le_refl _) _).size) ?_)
        intro a4 c4 u4 o4 b4
        have V4 := hide (V3.out.push (((bel_al (Below.refl u3.heap.size u3) (Nat.le_refl _) _).mono GS.out).trans b4) o4)
        clear o4 b4 OX GS V3
        obtain ⟨a0, a1, a2, a3⟩ := V4.out.sb.cell
        have OL := hide V4.out.ow.len
        by_cases hend : k3 = s.size
        · have e1 : ((k3 : Int) == (s.size : Int)) = true := by simp [hend]
          cases bd3 with
          | true =>
            have D := hide (ENDB.out u4 k3 a4 (nm + 1) c4 _ V4.out (HN.out rfl))
            clear V4 HY HN AN AS ENDB hend
            go_wp2
            go_ret2
            rw [D.out.1]
            exact ⟨D.out.2, rfl⟩
          | false =>
            have PA : Hid (pa = some (m ++ [(nx, t)])) := by
              show _ = _
              rw [HY.out rfl, List.drop_eq_nil_of_le (by rw [ba_len]; omega)]
              rfl
            have RW := hide (V4.out.ow.row (by omega) MW2.out)
            have BE : Hid (Below w.heap.size w u4) := by have := V4.out.be; rw [← HG.out] at this; exact this
            have A2 := hide (AS.out _ PA.out)
            generalize m ++ [(nx, t)] = M at *
            have CK1 := hide (CK.out u4 a4 (nm + 1) c4 M RW.out)
            clear V4 HY HN AN AS ENDB PA hend CK
            cases hcm : chkL M with
            | false =>
              rw [hcm] at CK1 A2
              have A3 : Hid (ans = none) := by show _ = _; rw [A2.out, if_neg (by simp)]
              clear hcm A2
              go_wp2_with fail
              with_reducible refine CK1.out.mono ?_
              rintro e u5 ⟨rfl, q, hq⟩
              have B5 : Hid (Below w.heap.size w u5) := by show Below _ _ _; rw [hq]; exact bel_drewN BE.out q
              clear hq CK1
              go_wp2
              go_ret2
              rw [A3.out]
              exact ⟨B5.out, rfl⟩
            | true =>
              rw [hcm] at CK1 A2
              have CT1 := hide (fun W q => CT.out W a4 (nm + 1) c4 M q hcm)
              obtain ⟨tx, htx⟩ : ∃ tx, Hid (textL M = tx) := ⟨_, rfl⟩
              rw [htx.out] at CT1 A2
              clear hcm htx
              go_wp2_with fail
              with_reducible refine CK1.out.mono ?_
              rintro e u5 ⟨rfl, q, hq⟩
              have B5 : Hid (Below w.heap.size w u5) := by show Below _ _ _; rw [hq]; exact bel_drewN BE.out q
              have R5 : Hid (RowL u5 a4 (nm + 1) M) := by show RowL _ _ _ _; rw [hq]; exact RW.out.drewN q
              clear hq CK1 RW BE
              go_wp2_with fail
              with_reducible refine (CT1.out _ R5.out).mono ?_
              rintro e u6 ⟨rfl, q, hq⟩
              have B6 : Hid (Below w.heap.size w u6) := by show Below _ _ _; rw [hq]; exact bel_drewN B5.out q
              have R6 : Hid (RowL u6 a4 (nm + 1) M) := by show RowL _ _ _ _; rw [hq]; exact R5.out.drewN q
              clear hq CT1 R5 B5
              by_cases heq : tx = s
              · have y1 : (tx.toList == s.toList) = true := by rw [ba_eq]; exact decide_eq_true heq
                have y2 : (tx.toList != s.toList) = false := by rw [bne, y1]; rfl
                have A3 : Hid (ans = some M) := by show _ = _; rw [A2.out, if_pos ⟨by first | rfl | trivial, heq⟩]
                have ML := hide R6.out.1
                clear heq A2
                go_wp2
                go_ret2
                rw [A3.out]
                refine ⟨B6.out, a4, c4, ?_, ?_⟩
                · rw [ML.out]; rfl
                · rw [ML.out]; exact R6.out
              · have y1 : (tx.toList == s.toList) = false := by rw [ba_eq]; exact decide_eq_false heq
                have y2 : (tx.toList != s.toList) = true := by rw [bne, y1]; rfl
                have A3 : Hid (ans = none) := by show _ = _; rw [A2.out, if_neg (fun h => heq h.2)]
                clear heq A2
                go_wp2
                go_ret2
                rw [A3.out]
                exact ⟨B6.out, rfl⟩
        · have e1 : ((k3 : Int) == (s.size : Int)) = false := by rw [beq_eq_false_iff_ne]; omega
          have e1' : ¬ (k3 : Int) = (s.size : Int) := by omega
          have NXT : Hid (∀ u5, Ch (fun b => b = g) u4 u5 → SB u5 g s (if isS s k3 bd3 44 then k3 + 1 else k3) (!isS s k3 bd3 44) → ∃ (j : Nat) (bd : Bool), j ≤ s.size ∧ PS w g s j bd a4 (nm + 1) c4 (m ++ [(nx, t)]) u5 ∧ (bd = false → pa = (parB (9 - (nm + 1)) (s.toList.drop j)).map ((m ++ [(nx, t)]) ++ ·)) ∧ (bd = true → pa = none)) := fun u5 c5 s5 => by
            have hlt : k3 < s.size := by omega
            have hd : s.toList.drop k3 = (s[k3]'hlt) :: s.toList.drop (k3 + 1) := drop_byte s k3 hlt
            cases bd3 with
            | true => exact ⟨k3, true, hk3, V4.out.ch c5 s5, fun h => (by cases h), fun _ => HN.out rfl⟩
            | false =>
              have h1 := (isS_cons hd 44).1
              have h2 := HY.out rfl
              rw [hd] at h2
              by_cases hc : s[k3]'hlt = 44
              · rw [h1, decide_eq_true hc] at s5
                refine ⟨k3 + 1, false, by omega, V4.out.ch c5 s5, fun _ => ?_, fun h => (by cases h)⟩
                rw [h2]
                simp only [hc, if_true]
                rw [show 9 - (nm + 1) = 8 - nm by omega, Option.map_map]
                congr 1
                funext z
                simp
              · rw [h1, decide_eq_false hc] at s5
                refine ⟨k3, true, hk3, V4.out.ch c5 s5, fun h => (by cases h), fun _ => ?_⟩
                rw [h2]
                simp only [hc, if_false]
                rfl
          have M1 := hide (M44.out u4 k3 bd3 V4.out.sb hk3)
          clear V4 HY HN AN AS ENDB hend
          go_wp2_with fail
          with_reducible refine M1.out.mono ?_
          rintro e u5 ⟨rfl, c5, s5⟩
          obtain ⟨j5, bd5, hj5, V5, R5, N5⟩ := NXT.out u5 c5 s5
          have V5 := hide V5
          have R5 := hide R5
          have N5 := hide N5
          clear c5 s5 NXT M1
          go_wp2
          go_roundw
          case rel => exact ⟨j5, bd5, a4, nm + 1, c4, _, by go_num, by omega, hj5, V5, MW2, R5, N5⟩
          case measure => simp [lenV]; omega
      · have h9' : nm = 9 := by omega
        have j8 : ¬ (nm : Int) ≤ 8 := by omega
        have D : Hid (ans = none ∧ Below w.heap.size w u) := ⟨AN.out (by rw [RV.out, h9']; rfl), by have := V.out.be; rw [← HG.out] at this; exact this⟩
        have RW := hide (V.out.ow.row (by omega) MW.out)
        have CK1 := hide (CK.out u am nm cm m RW.out)
        have hcf : chkL m = false := by
          cases e : chkL m with
          | false => rfl
          | true =>
            have h1 := (chkL_parts e).2.1
            have h2 := V.out.ow.len
            omega
        rw [hcf] at CK1
        have BE : Hid (Below w.heap.size w u) := D.out.2
        have D1 := hide D.out.1
        clear hcf V RV AN AS ENDB RW h9' D
        go_wp2_with fail
        with_reducible refine CK1.out.mono ?_
        rintro e u5 ⟨rfl, q, hq⟩
        have B5 : Hid (Below w.heap.size w u5) := by show Below _ _ _; rw [hq]; exact bel_drewN BE.out q
        clear hq CK1
        go_wp2
        go_ret2
        rw [D1.out]
        exact ⟨B5.out, rfl⟩
end Go.Proofs.Ytoepdgdagjckbaa
