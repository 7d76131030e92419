/-
  The program's own Quoted and Text of labels: contracts, for every world; what was there before stays.
  Conditions: values of at most 64 bytes; the labels lie in memory and may be a set.
-/
import Derived.Test.YtpffhpnmbpjifaaLabBu
import Derived.Test.YtpffhpnmbpjifaaLabUq
import Derived.Test.YtpffhpnmbpjifaaLabR
namespace Go.Proofs.Ytpffhpnmbpjifaa
open Go.RowKit
set_option maxRecDepth 20000

theorem isplain_any (c : UInt8) (w : World) : Calls Try.prog 60 #[.int .u8 (c.toNat : Int)] w fun e w' => e = .returned (.bool (plainB c)) ∧ w' = w := by
  have HP := hide (plainB_num c)
  obtain ⟨z, hz⟩ : ∃ z : Int, Hid ((c.toNat : Int) = z) := ⟨_, rfl⟩
  rw [hz.out]
  by_cases h1 : 32 ≤ z
  · by_cases h2 : z < 127
    · have e : plainB c = true := HP.out.2 (by have := hz.out; omega)
      rw [e]
      clear hz HP e
      go_enter Try.func60, Try.ntmps60
      go_wp2
      go_ret
      exact ⟨rfl, rfl⟩
    · have e : plainB c = false := by
        cases q : plainB c with
        | false => rfl
        | true => have h := HP.out.1 q; have := hz.out; omega
      rw [e]
      clear hz HP e
      go_enter Try.func60, Try.ntmps60
      go_wp2
      go_ret
      exact ⟨rfl, rfl⟩
  · have e : plainB c = false := by
      cases q : plainB c with
      | false => rfl
      | true => have h := HP.out.1 q; have := hz.out; omega
    rw [e]
    clear hz HP e
    go_enter Try.func60, Try.ntmps60
    go_wp2
    go_ret
    exact ⟨rfl, rfl⟩

/-- A value between quotes. -/
def quoS (v : ByteArray) : ByteArray := ⟨(quoB v.toList).toArray⟩
theorem byteAt (s : ByteArray) (k : Nat) (h : k < s.size) : s.toList[k]? = some (s[k]'h) := by
  rw [ByteArray.toList_eq, Array.getElem?_toList]
  exact Array.getElem?_eq_getElem h
theorem takeB {s : ByteArray} {k : Nat} (h : k < s.size) : s.toList.take (k + 1) = s.toList.take k ++ [s[k]'h] := by
  rw [List.take_add_one, byteAt s k h]; rfl
theorem digGet : ∀ k : Nat, (h : k < 16) → (⟨#[48, 49, 50, 51, 52, 53, 54, 55, 56, 57, 97, 98, 99, 100, 101, 102]⟩ : ByteArray)[k]'h = hxD k := by decide +kernel
theorem qb_len (c : UInt8) : (qb c).length ≤ 4 := by
  unfold qb
  split
  · simp
  · split <;> simp
theorem flat_len (v : List UInt8) : (v.flatMap qb).length ≤ 4 * v.length := by
  induction v with
  | nil => simp
  | cons c t ih =>
    rw [List.flatMap_cons, List.length_append, List.length_cons]
    have := qb_len c
    omega

set_option maxHeartbeats 4000000 in
theorem quoted_any (v : ByteArray) (w : World) (hv : v.size ≤ 64) :
    Calls Try.prog 46 #[.string v] w fun e w' => e = .returned (.string (quoS v)) ∧ Below w.heap.size w w' := by
  obtain ⟨g, HG⟩ : ∃ g, Hid (w.heap.size = g) := ⟨_, rfl⟩
  have W0 : Hid (Bu g g [] (w.alloc (.cells #[.pointer none, .slice none 0 0] 90))) := by
    have := bu_new w
    rw [HG.out] at this
    exact this
  have LB : Hid (∀ k, (v.toList.take k).length ≤ 64) := fun k => by rw [List.length_take, ba_len]; omega
  have LF : Hid (∀ k, (34 :: (v.toList.take k).flatMap qb).length ≤ 300) := fun k => by
    rw [List.length_cons]
    have h1 := flat_len (v.toList.take k)
    have h2 := LB.out k
    omega
  have WB := hide (fun l (x : UInt8) W (q : Bu g g l W) (hl : l.length ≤ 400) (hB : g ≤ W.heap.size) => wrbyte_any g g l x W q (by omega) hB)
  have WS := hide (fun l s W (q : Bu g g l W) (hl : l.length + s.size ≤ 400) (hB : g ≤ W.heap.size) => wrstr_any g g l s W q (by omega) hB)
  have W34 : Hid (∀ l W, Bu g g l W → l.length ≤ 400 → g ≤ W.heap.size → Calls Try.prog 44 #[.pointer (some ⟨g, 0, none⟩), .int .u8 34] W fun e w' => e = .returned .nilIface ∧ Bu g g (l ++ [34]) w' ∧ Bk g g W w') := fun l W => WB.out l 34 W
  have W92 : Hid (∀ l W, Bu g g l W → l.length ≤ 400 → g ≤ W.heap.size → Calls Try.prog 44 #[.pointer (some ⟨g, 0, none⟩), .int .u8 92] W fun e w' => e = .returned .nilIface ∧ Bu g g (l ++ [92]) w' ∧ Bk g g W w') := fun l W => WB.out l 92 W
  have WX : Hid (∀ l W, Bu g g l W → l.length ≤ 300 → g ≤ W.heap.size → Calls Try.prog 45 #[.pointer (some ⟨g, 0, none⟩), .string ⟨#[92, 120]⟩] W fun e w' => e = .returned (.tuple #[.int .i64 2, .nilIface]) ∧ Bu g g (l ++ [92, 120]) w' ∧ Bk g g W w') := fun l W q h1 h2 => by
    have h := WS.out l ⟨#[92, 120]⟩ W q (by show l.length + 2 ≤ 400; omega) h2
    have e : (⟨#[92, 120]⟩ : ByteArray).toList = [92, 120] := by decide +kernel
    rw [e] at h
    exact h
  have ST := hide (fun l W (q : Bu g g l W) (hB : g ≤ W.heap.size) => bstring_any g g l W q hB)
  have B0 : Hid (Below g w (w.alloc (.cells #[.pointer none, .slice none 0 0] 90))) := by
    have := bel_al (Below.refl w.heap.size w) (Nat.le_refl _) (.cells #[.pointer none, .slice none 0 0] 90)
    rw [HG.out] at this
    exact this
  have S0 : Hid (g ≤ (w.alloc (.cells #[.pointer none, .slice none 0 0] 90)).heap.size) := Nat.le_trans (Nat.le_of_eq HG.out.symm) B0.out.size
  rw [HG.out]
  go_enter Try.func46, Try.ntmps46
  go_wp2_with fail
  rw [HG.out]
  with_reducible refine (W34.out _ _ W0.out (by decide) S0.out).mono ?_
  rintro e u0 ⟨rfl, p0, k0⟩
  have P0 : Hid (Bu g g (34 :: (v.toList.take 0).flatMap qb) u0) := p0
  have K0 : Hid (Below g w u0) := B0.out.trans k0.1
  clear p0 k0 W0 B0 S0
  go_wp2
  go_loopg [9] v.size (fun gk i wr => ∃ k : Nat, k ≤ v.size ∧ v.size - k ≤ gk ∧ i = .int .i64 k ∧ Hid (Bu g g (34 :: (v.toList.take k).flatMap qb) wr) ∧ Hid (Below g w wr))
  case atStart => exact ⟨0, Nat.zero_le _, by omega, rfl, P0, K0⟩
  case round =>
    obtain ⟨k, hk, hg, rfl, PB, BW⟩ := hrel
    obtain ⟨u, rfl⟩ : ∃ u, u = wr := ⟨wr, rfl⟩
    have GW : Hid (g ≤ u.heap.size) := Nat.le_trans (Nat.le_of_eq HG.out.symm) BW.out.size
    by_cases hlt : k < v.size
    · have TK := hide (takeB hlt)
      obtain ⟨c, hc⟩ : ∃ c, Hid ((v[k]'hlt) = c) := ⟨_, rfl⟩
      rw [hc.out] at TK
      obtain ⟨z, hz⟩ : ∃ z : Int, Hid ((c.toNat : Int) = z) := ⟨_, rfl⟩
      have hb : ((v[k]'hlt).toNat : Int) = z := by rw [hc.out]; exact hz.out
      have IP := hide (isplain_any c)
      rw [hz.out] at IP
      have WZ := hide (fun l W q h1 h2 => WB.out l c W q h1 h2)
      rw [hz.out] at WZ
      have NX : Hid (∀ W, Bu g g (34 :: (v.toList.take k).flatMap qb ++ qb c) W → Bu g g (34 :: (v.toList.take (k + 1)).flatMap qb) W) := fun W h => by
        rw [TK.out, List.flatMap_append, List.flatMap_cons, List.flatMap_nil, List.append_nil]
        exact h
      have i1 : (0 : Int) ≤ (k : Int) := by omega
      have i2 : (k : Int) < (v.size : Int) := by omega
      have LL := hide (LF.out k)
      clear hc TK
      generalize (34 :: (v.toList.take k).flatMap qb) = pre at PB NX LL
      by_cases h1 : c = 34 ∨ c = 92
      · have Q : Hid (qb c = [92, c]) := by show _ = _; unfold qb; rw [if_pos h1]
        rw [Q.out] at NX
        have tail : Hid (∀ W W' W'' : World, Bk g g u W → Bk g g W W' → Below g w W') := fun W W' _ h h' => BW.out.trans (h.1.trans h'.1)
        rcases h1 with rfl | rfl
        · obtain rfl : z = 34 := hz.out.symm
          clear hz IP
          go_wp2_with fail
          with_reducible refine (W92.out _ _ PB.out (by have := LL.out; omega) GW.out).mono ?_
          rintro e u1 ⟨rfl, p1, k1⟩
          have G1 : Hid (g ≤ u1.heap.size) := Nat.le_trans GW.out k1.1.size
          have P1 := hide p1
          have K1 := hide k1
          clear p1 k1
          go_wp2_with fail
          with_reducible refine (W34.out _ _ P1.out (by have := LL.out; simp; omega) G1.out).mono ?_
          rintro e u2 ⟨rfl, p2, k2⟩
          have P2 := hide (NX.out _ (by simpa using p2))
          have K2 := hide (BW.out.trans (K1.out.1.trans k2.1))
          clear p2 k2
          go_wp2
          go_roundg (v.size - (k + 1))
          case measure => omega
          case rel => exact ⟨k + 1, by omega, by omega, by go_num, P2, K2⟩
        · obtain rfl : z = 92 := hz.out.symm
          clear hz IP
          go_wp2_with fail
          with_reducible refine (W92.out _ _ PB.out (by have := LL.out; omega) GW.out).mono ?_
          rintro e u1 ⟨rfl, p1, k1⟩
          have G1 : Hid (g ≤ u1.heap.size) := Nat.le_trans GW.out k1.1.size
          have P1 := hide p1
          have K1 := hide k1
          clear p1 k1
          go_wp2_with fail
          with_reducible refine (W92.out _ _ P1.out (by have := LL.out; simp; omega) G1.out).mono ?_
          rintro e u2 ⟨rfl, p2, k2⟩
          have P2 := hide (NX.out _ (by simpa using p2))
          have K2 := hide (BW.out.trans (K1.out.1.trans k2.1))
          clear p2 k2
          go_wp2
          go_roundg (v.size - (k + 1))
          case measure => omega
          case rel => exact ⟨k + 1, by omega, by omega, by go_num, P2, K2⟩
      · have n1 : (z == 34) = false := by
          rw [beq_eq_false_iff_ne, ← hz.out]
          exact fun e => h1 (Or.inl (UInt8.toNat_inj.1 (by show c.toNat = 34; omega)))
        have n2 : (z == 92) = false := by
          rw [beq_eq_false_iff_ne, ← hz.out]
          exact fun e => h1 (Or.inr (UInt8.toNat_inj.1 (by show c.toNat = 92; omega)))
        have n1' : ¬ z = 34 := by simpa using n1
        have n2' : ¬ z = 92 := by simpa using n2
        cases hp : plainB c with
        | true =>
          have Q : Hid (qb c = [c]) := qb_plain (fun e => h1 (Or.inl e)) (fun e => h1 (Or.inr e)) hp
          rw [Q.out] at NX
          rw [hp] at IP
          clear h1 hp hz
          go_wp2_with (go_at_call 60; refine (IP.out _).mono ?_; rintro e w' ⟨rfl, hw⟩; rw [hw]; clear hw w')
          with_reducible refine (WZ.out _ _ PB.out (by have := LL.out; omega) GW.out).mono ?_
          rintro e u2 ⟨rfl, p2, k2⟩
          have P2 := hide (NX.out _ p2)
          have K2 := hide (BW.out.trans k2.1)
          clear p2 k2
          go_wp2
          go_roundg (v.size - (k + 1))
          case measure => omega
          case rel => exact ⟨k + 1, by omega, by omega, by go_num, P2, K2⟩
        | false =>
          have Q : Hid (qb c = [92, 120, hxD (c.toNat / 16), hxD (c.toNat % 16)]) := by
            show _ = _
            unfold qb
            rw [if_neg h1, if_pos (Classical.byContradiction fun e => by rw [(plainB_iff c).2 e] at hp; cases hp)]
          rw [Q.out] at NX
          rw [hp] at IP
          clear h1 hp
          go_wp2_with (go_at_call 60; refine (IP.out _).mono ?_; rintro e w' ⟨rfl, hw⟩; rw [hw]; clear hw w')
          with_reducible refine (WX.out _ _ PB.out LL.out GW.out).mono ?_
          rintro e u1 ⟨rfl, p1, k1⟩
          have G1 : Hid (g ≤ u1.heap.size) := Nat.le_trans GW.out k1.1.size
          have P1 := hide p1
          have K1 := hide k1
          clear p1 k1
          obtain ⟨p, hp1⟩ : ∃ p, Hid (c.toNat / 16 = p) := ⟨_, rfl⟩
          obtain ⟨q, hq1⟩ : ∃ q, Hid (c.toNat % 16 = q) := ⟨_, rfl⟩
          have p16 : p < 16 := by have := c.toNat_lt; have := hp1.out; omega
          have q16 : q < 16 := by have := hq1.out; omega
          have zp : z / 16 = (p : Int) := by have := hz.out; have := hp1.out; omega
          have zq : z % 16 = (q : Int) := by have := hz.out; have := hq1.out; omega
          have j1 : (0 : Int) ≤ (p : Int) ∧ (p : Int) < 16 := by omega
          have j2 : (0 : Int) ≤ (q : Int) ∧ (q : Int) < 16 := by omega
          rw [hp1.out, hq1.out] at NX
          obtain ⟨y, hy⟩ : ∃ y : Int, Hid (((hxD p).toNat : Int) = y) := ⟨_, rfl⟩
          obtain ⟨x, hx⟩ : ∃ x : Int, Hid (((hxD q).toNat : Int) = x) := ⟨_, rfl⟩
          have bp : ((((⟨#[48, 49, 50, 51, 52, 53, 54, 55, 56, 57, 97, 98, 99, 100, 101, 102]⟩ : ByteArray)[p]'p16).toNat : Nat) : Int) = y := by rw [digGet p p16]; exact hy.out
          have bq : ((((⟨#[48, 49, 50, 51, 52, 53, 54, 55, 56, 57, 97, 98, 99, 100, 101, 102]⟩ : ByteArray)[q]'q16).toNat : Nat) : Int) = x := by rw [digGet q q16]; exact hx.out
          have WY := hide (fun l W q h1 h2 => WB.out l (hxD p) W q h1 h2)
          rw [hy.out] at WY
          have WV := hide (fun l W r h1 h2 => WB.out l (hxD q) W r h1 h2)
          rw [hx.out] at WV
          clear hy hx hz hp1 hq1
          go_wp2_with fail
          with_reducible refine (WY.out _ _ P1.out (by have := LL.out; simp; omega) G1.out).mono ?_
          rintro e u2 ⟨rfl, p2, k2⟩
          have G2 : Hid (g ≤ u2.heap.size) := Nat.le_trans G1.out k2.1.size
          have P2 := hide p2
          have K2 := hide (K1.out.trans k2)
          clear p2 k2
          go_wp2_with fail
          with_reducible refine (WV.out _ _ P2.out (by have := LL.out; simp; omega) G2.out).mono ?_
          rintro e u3 ⟨rfl, p3, k3⟩
          have P3 := hide (NX.out _ (by simpa using p3))
          have K3 := hide (BW.out.trans (K2.out.1.trans k3.1))
          clear p3 k3
          go_wp2
          go_roundg (v.size - (k + 1))
          case measure => omega
          case rel => exact ⟨k + 1, by omega, by omega, by go_num, P3, K3⟩
    · have : k = v.size := by omega
      have i2 : ¬ (k : Int) < (v.size : Int) := by omega
      have EQ : Hid (∀ W, Bu g g (34 :: (v.toList.take k).flatMap qb ++ [34]) W → Bu g g (quoB v.toList) W) := fun W h => by
        rw [List.take_of_length_le (by rw [ba_len]; omega)] at h
        exact h
      have LL := hide (LF.out k)
      generalize (34 :: (v.toList.take k).flatMap qb) = pre at PB EQ LL
      clear this
      go_wp2_with fail
      with_reducible refine (W34.out _ _ PB.out (by have := LL.out; omega) GW.out).mono ?_
      rintro e u1 ⟨rfl, p1, k1⟩
      have G1 : Hid (g ≤ u1.heap.size) := Nat.le_trans GW.out k1.1.size
      have P1 := hide (EQ.out _ p1)
      have K1 : Hid (Below g w u1) := BW.out.trans k1.1
      clear p1 k1
      go_wp2_with fail
      with_reducible refine (ST.out _ _ P1.out G1.out).mono ?_
      rintro e u2 ⟨rfl, k2⟩
      have K2 : Hid (Below g w u2) := K1.out.trans k2
      clear k2
      go_wp2
      go_ret
      exact ⟨rfl, K2.out⟩
end Go.Proofs.Ytpffhpnmbpjifaa
