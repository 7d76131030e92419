/-
  The program's reader of texts, its parts: strings.Cut at the sign of likeness, and the byte that an escape stands for (escaped): contracts, for every world; they change nothing.
  Conditions: texts of at most 20,000 bytes.
-/
import Derived.Test.YthebcmkainplnaaLabDt
import Derived.Lib.SmallJoins
namespace Go.Proofs.Ythebcmkainplnaa
open Go.RowKit
set_option maxRecDepth 20000

theorem ext_to (s : ByteArray) (k : Nat) : (s.extract 0 k).toList = s.toList.take k := by
  rw [ByteArray.toList_eq, ByteArray.toList_eq, ByteArray.data_extract, Array.toList_extract, List.extract_eq_take_drop]
  simp
theorem ext_from (s : ByteArray) (k : Nat) : (s.extract k s.size).toList = s.toList.drop k := by
  rw [ByteArray.toList_eq, ByteArray.toList_eq, ByteArray.data_extract, Array.toList_extract, List.extract_eq_take_drop]
  rw [List.take_of_length_le]
  rw [List.length_drop, Array.length_toList]
  exact Nat.le_refl _
/-- Up to the first '='. -/
def nmL (s : ByteArray) : ByteArray := ⟨(s.toList.takeWhile notEq).toArray⟩
theorem idx_eq (l : List UInt8) : (Lib.indexByte l 61 = -1 ∧ l.takeWhile notEq = l) ∨ (∃ k : Nat, Lib.indexByte l 61 = (k : Int) ∧ k < l.length ∧ l.takeWhile notEq = l.take k) := by
  induction l with
  | nil => exact Or.inl ⟨rfl, rfl⟩
  | cons c t ih =>
    rw [Lib.indexByte, List.takeWhile_cons]
    by_cases h : c = 61
    · refine Or.inr ⟨0, ?_, by simp, ?_⟩
      · rw [if_pos (by simpa using h)]; rfl
      · rw [if_neg (by unfold notEq; simp [h])]; rfl
    · have hn : notEq c = true := by unfold notEq; simpa using h
      rw [if_neg (by simpa using h), if_pos hn]
      rcases ih with ⟨h1, h2⟩ | ⟨k, h1, h2, h3⟩
      · exact Or.inl ⟨by rw [h1]; rfl, by rw [h2]⟩
      · refine Or.inr ⟨k + 1, ?_, by simpa using h2, by rw [h3]; rfl⟩
        rw [h1, if_neg (by simp)]
        rfl

def hexI (c : UInt8) : Int := match hexv c with
  | some h => (h : Int)
  | none => -1
theorem hexI_eq (c : UInt8) : Lib.indexByte [48, 49, 50, 51, 52, 53, 54, 55, 56, 57, 97, 98, 99, 100, 101, 102] c = hexI c := by
  have key : ∀ n, n < 256 → Lib.indexByte [48, 49, 50, 51, 52, 53, 54, 55, 56, 57, 97, 98, 99, 100, 101, 102] (UInt8.ofNat n) = hexI (UInt8.ofNat n) := by decide +kernel
  have := key c.toNat c.toNat_lt
  rw [UInt8.ofNat_toNat] at this
  exact this
theorem hexdig_any (c : UInt8) (w : World) : Calls Try.prog 108 #[.string ⟨#[48, 49, 50, 51, 52, 53, 54, 55, 56, 57, 97, 98, 99, 100, 101, 102]⟩, .int .u8 (c.toNat : Int)] w fun e w' => e = .returned (.int .i64 (hexI c)) ∧ w' = w := by
  have h := Try.strings_IndexByte ⟨#[48, 49, 50, 51, 52, 53, 54, 55, 56, 57, 97, 98, 99, 100, 101, 102]⟩ (c.toNat : Int) w
  have e : ((c.toNat : Int).toNat.toUInt8 : UInt8) = c := by simp
  rw [e] at h
  have e2 := hexI_eq c
  rw [← e2]
  exact h
theorem or_hex : ∀ p : Nat, p < 16 → ∀ q : Nat, q < 16 → bits .or .i64 ((p : Int) * 16) (q : Int) = ((p * 16 + q : Nat) : Int) := by decide +kernel
/-- What escaped tells. -/
def escV (s : ByteArray) : Value := match escB s.toList with
  | some (b, k) => .tuple #[.int .u8 (b.toNat : Int), .int .i64 (k : Int)]
  | none => .tuple #[.int .u8 0, .int .i64 0]
theorem list_two (s : ByteArray) (h : 1 < s.size) : s.toList = (s[0]'(by omega)) :: (s[1]'h) :: s.toList.drop 2 := by
  have h0 := byteAt s 0 (by omega)
  have h1 := byteAt s 1 h
  have hl : 1 < s.toList.length := by rw [ba_len]; exact h
  conv => lhs; rw [← List.drop_zero (l := s.toList)]
  rw [List.drop_eq_getElem_cons (by omega), List.drop_eq_getElem_cons hl]
  rw [List.getElem?_eq_getElem (by omega)] at h0
  rw [List.getElem?_eq_getElem hl] at h1
  simp only [Option.some.injEq] at h0 h1
  rw [h0, h1]
theorem list_four (s : ByteArray) (h : 3 < s.size) : s.toList.drop 2 = (s[2]'(by omega)) :: (s[3]'h) :: s.toList.drop 4 := by
  have h0 := byteAt s 2 (by omega)
  have h1 := byteAt s 3 h
  have hl : 3 < s.toList.length := by rw [ba_len]; exact h
  rw [List.drop_eq_getElem_cons (by omega), List.drop_eq_getElem_cons hl]
  rw [List.getElem?_eq_getElem (by omega)] at h0
  rw [List.getElem?_eq_getElem hl] at h1
  simp only [Option.some.injEq] at h0 h1
  rw [h0, h1]

theorem quiet_w {P : Program} {f : Nat} {args : Array Value} {v : Value} {wr : World} {x : Nat} (h : ∀ w, Calls P f args w (fun e w' => e = .returned v ∧ w' = w)) : Calls P f args (wr.drewN x) fun e w' => e = .returned v ∧ ∃ n, w' = wr.drewN n :=
  (h _).mono (fun _ _ k => ⟨k.1, x, k.2⟩)

set_option maxHeartbeats 2000000 in
theorem escaped_any (s : ByteArray) (w : World) (hs : s.size ≤ 20000) :
    Calls Try.prog 107 #[.string s] w fun e w' => e = .returned (escV s) ∧ ∃ q, w' = w.drewN q := by
  by_cases h2 : 1 < s.size
  · have L2 := hide (list_two s h2)
    obtain ⟨d, hd⟩ : ∃ d, Hid ((s[1]'h2) = d) := ⟨_, rfl⟩
    obtain ⟨z, hz⟩ : ∃ z : Int, Hid ((d.toNat : Int) = z) := ⟨_, rfl⟩
    have hb : ((s[1]'h2).toNat : Int) = z := by rw [hd.out]; exact hz.out
    have EV : Hid (escB s.toList = escX d (s.toList.drop 2)) := by
      show _ = _
      conv => lhs; rw [L2.out]
      rw [hd.out]
      rfl
    have i2 : (2 : Int) ≤ (s.size : Int) := by omega
    have i1 : (1 : Int) < (s.size : Int) := by omega
    clear L2 hd
    by_cases hq : d = 34 ∨ d = 92
    · have F : Hid (escV s = .tuple #[.int .u8 z, .int .i64 2]) := by
        show _ = _
        unfold escV
        rw [EV.out]
        unfold escX
        rw [if_pos hq, ← hz.out]
        rfl
      rw [F.out]
      rcases hq with rfl | rfl
      · obtain rfl : z = 34 := hz.out.symm
        clear hz F EV
        go_enter Try.func107, Try.ntmps107
        go_wp2
        go_ret2
        exact ⟨rfl, 0, rfl⟩
      · obtain rfl : z = 92 := hz.out.symm
        clear hz F EV
        go_enter Try.func107, Try.ntmps107
        go_wp2
        go_ret2
        exact ⟨rfl, 0, rfl⟩
    · have n1 : (z == 34) = false := by
        rw [beq_eq_false_iff_ne, ← hz.out]
        exact fun e => hq (Or.inl (UInt8.toNat_inj.1 (by show d.toNat = 34; omega)))
      have n2 : (z == 92) = false := by
        rw [beq_eq_false_iff_ne, ← hz.out]
        exact fun e => hq (Or.inr (UInt8.toNat_inj.1 (by show d.toNat = 92; omega)))
      have n1' : ¬ z = 34 := by simpa using n1
      have n2' : ¬ z = 92 := by simpa using n2
      have EX : Hid (∀ v, (escX d (s.toList.drop 2) = none → v = Value.tuple #[.int .u8 0, .int .i64 0]) → (∀ b k, escX d (s.toList.drop 2) = some (b, k) → v = Value.tuple #[.int .u8 (b.toNat : Int), .int .i64 (k : Int)]) → escV s = v) := fun v h1 h3 => by
        unfold escV
        rw [EV.out]
        cases e : escX d (s.toList.drop 2) with
        | none => exact (h1 e).symm
        | some q => obtain ⟨b, k⟩ := q; exact (h3 b k e).symm
      have NN : Hid (escX d (s.toList.drop 2) = none → escV s = .tuple #[.int .u8 0, .int .i64 0]) := fun h => EX.out _ (fun _ => rfl) (fun b k e => by rw [h] at e; cases e)
      generalize escV s = ans at *
      by_cases h4 : 3 < s.size
      · have h3 : 2 < s.size := by omega
        have L4 := hide (list_four s h4)
        have i4 : ¬ (s.size : Int) < 4 := by omega
        by_cases hx : d = 120
        · obtain rfl : z = 120 := by rw [← hz.out, hx]; rfl
          obtain ⟨x, hx1⟩ : ∃ x, Hid ((s[2]'h3) = x) := ⟨_, rfl⟩
          obtain ⟨y, hy1⟩ : ∃ y, Hid ((s[3]'h4) = y) := ⟨_, rfl⟩
          rw [hx1.out, hy1.out] at L4
          obtain ⟨zx, hzx⟩ : ∃ z : Int, Hid ((x.toNat : Int) = z) := ⟨_, rfl⟩
          obtain ⟨zy, hzy⟩ : ∃ z : Int, Hid ((y.toNat : Int) = z) := ⟨_, rfl⟩
          have bx : ((s[2]'h3).toNat : Int) = zx := by rw [hx1.out]; exact hzx.out
          have by' : ((s[3]'h4).toNat : Int) = zy := by rw [hy1.out]; exact hzy.out
          have CX := hide (hexdig_any x)
          have CY := hide (hexdig_any y)
          rw [hzx.out] at CX
          rw [hzy.out] at CY
          have j2 : (2 : Int) < (s.size : Int) := by omega
          have j3 : (3 : Int) < (s.size : Int) := by omega
          rw [L4.out] at NN EX
          clear hx1 hy1 hzx hzy L4 hz EV
          cases ex : hexv x with
          | none =>
            have ux : hexI x = -1 := by unfold hexI; rw [ex]
            rw [ux] at CX
            have F := hide (NN.out (by unfold escX; rw [if_neg hq]; simp only [ex, ite_self]))
            rw [F.out]
            generalize hexI y = vy at CY
            clear NN EX ex ux hq hx n1 n2 n1' n2'
            go_enter Try.func107, Try.ntmps107
            go_wp2
            go_quiet ((go_at_call 108; first | exact quiet_w CX.out | exact quiet_w CY.out))
            go_wp2
            go_ret2
            exact ⟨rfl, _, rfl⟩
          | some p =>
            have ux : hexI x = (p : Int) := by unfold hexI; rw [ex]
            rw [ux] at CX
            obtain ⟨_, p16⟩ := hexv_fwd ex
            have jp : ¬ (p : Int) < 0 := by omega
            cases ey : hexv y with
            | none =>
              have uy : hexI y = -1 := by unfold hexI; rw [ey]
              rw [uy] at CY
              have F := hide (NN.out (by unfold escX; rw [if_neg hq]; simp only [ex, ey, ite_self]))
              rw [F.out]
              clear NN EX ex ux hq hx n1 n2 n1' n2' ey uy
              go_enter Try.func107, Try.ntmps107
              go_wp2
              go_quiet ((go_at_call 108; first | exact quiet_w CX.out | exact quiet_w CY.out))
              go_wp2
              go_ret2
              exact ⟨rfl, _, rfl⟩
            | some q =>
              have uy : hexI y = (q : Int) := by unfold hexI; rw [ey]
              rw [uy] at CY
              obtain ⟨_, q16⟩ := hexv_fwd ey
              have jq : ¬ (q : Int) < 0 := by omega
              have EF : Hid (escX d (x :: y :: s.toList.drop 4) = if plainB (UInt8.ofNat (p * 16 + q)) then none else some (UInt8.ofNat (p * 16 + q), 4)) := by
                show _ = _
                unfold escX
                rw [if_neg hq]
                simp only [ex, ey, hx, if_true]
              have IP := hide (isplain_any (UInt8.ofNat (p * 16 + q)))
              have tn : (UInt8.ofNat (p * 16 + q)).toNat = p * 16 + q := by rw [UInt8.toNat_ofNat']; omega
              rw [tn] at IP
              have OR := or_hex p p16 q q16
              obtain ⟨v, hv⟩ : ∃ v : Int, Hid (((p * 16 + q : Nat) : Int) = v) := ⟨_, rfl⟩
              rw [hv.out] at IP OR
              have v1 : v % 256 = v := by have := hv.out; omega
              have v2 : IntKind.u8.wrap v = v := by rw [IntKind.wrap_u8]; exact v1
              have FT : Hid (plainB (UInt8.ofNat (p * 16 + q)) = true → ans = .tuple #[.int .u8 0, .int .i64 0]) := fun h => NN.out (by rw [EF.out, if_pos h])
              have FF : Hid (plainB (UInt8.ofNat (p * 16 + q)) = false → ans = .tuple #[.int .u8 v, .int .i64 4]) := fun h => by
                refine EX.out _ (fun e => ?_) (fun b k e => ?_)
                · rw [EF.out, h] at e; cases e
                · rw [EF.out, h] at e
                  simp only [Bool.false_eq_true, if_false, Option.some.injEq, Prod.mk.injEq] at e
                  obtain ⟨rfl, rfl⟩ := e
                  rw [tn, hv.out]
                  rfl
              generalize plainB (UInt8.ofNat (p * 16 + q)) = pl at *
              clear ex ux ey uy hq hx n1 n2 n1' n2' tn hv NN EX EF
              go_enter Try.func107, Try.ntmps107
              go_wp2
              go_quiet ((go_at_call 108; first | exact quiet_w CX.out | exact quiet_w CY.out))
              go_wp2_with fail
              cases pl with
              | true =>
                have F2 := hide (FT.out rfl)
                clear FT FF
                with_reducible refine (IP.out _).mono ?_
                rintro e w' ⟨rfl, hw⟩
                rw [hw]
                clear hw w'
                go_wp2
                go_ret2
                exact ⟨by rw [F2.out]; rfl, _, rfl⟩
              | false =>
                have F2 := hide (FF.out rfl)
                clear FT FF
                with_reducible refine (IP.out _).mono ?_
                rintro e w' ⟨rfl, hw⟩
                rw [hw]
                clear hw w'
                go_wp2
                go_ret2
                exact ⟨by rw [F2.out]; rfl, _, rfl⟩
        · have n3 : (z != 120) = true := by
            rw [bne_iff_ne, ← hz.out]
            exact fun e => hx (UInt8.toNat_inj.1 (by show d.toNat = 120; omega))
          have n3' : ¬ z = 120 := by simpa using n3
          have F := hide (NN.out (by
            rw [L4.out]
            unfold escX
            rw [if_neg hq]
            simp only [hx, if_false]))
          rw [F.out]
          clear NN EX EV hz L4 hq hx
          go_enter Try.func107, Try.ntmps107
          go_wp2
          go_ret2
          exact ⟨rfl, 0, rfl⟩
      · have i4 : (s.size : Int) < 4 := by omega
        have F := hide (NN.out (by
          have hl : (s.toList.drop 2).length < 2 := by rw [List.length_drop, ba_len]; omega
          unfold escX
          rw [if_neg hq]
          match s.toList.drop 2, hl with
          | [], _ => rfl
          | [_], _ => rfl
          | _ :: _ :: _, hl => simp at hl; omega))
        rw [F.out]
        clear NN EX EV hz hq
        go_enter Try.func107, Try.ntmps107
        go_wp2
        go_ret2
        exact ⟨rfl, 0, rfl⟩
  · have i2 : ¬ (2 : Int) ≤ (s.size : Int) := by omega
    have i4 : (s.size : Int) < 4 := by omega
    have F : Hid (escV s = .tuple #[.int .u8 0, .int .i64 0]) := by
      show _ = _
      have hl : s.toList.length < 2 := by rw [ba_len]; omega
      unfold escV
      match s.toList, hl with
      | [], _ => rfl
      | [_], _ => rfl
      | _ :: _ :: _, hl => simp at hl; omega
    rw [F.out]
    go_enter Try.func107, Try.ntmps107
    go_wp2
    go_ret2
    exact ⟨rfl, 0, rfl⟩
end Go.Proofs.Ythebcmkainplnaa
