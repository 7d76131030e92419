/-
  The laws' own Tiny: whether a matcher is small: a contract, for every world: the count alone turns.
  Conditions: the matcher lies in blocks apart from the count's.
-/
import Derived.Test.YtpffhpnmbpjifaaGreatMatM
import Derived.Test.YtpffhpnmbpjifaaGreatLabZb
import Derived.Test.YtpffhpnmbpjifaaGreatVintZa
import Derived.Deep.DeepCutAuto
namespace Go.Proofs.YtpffhpnmbpjifaaGreat
open Go.RowKit
set_option maxRecDepth 20000

/-- A number in memory. -/
def BX (w : World) (g : Nat) (n : Int) : Prop := w.heap[g]? = some (.cells #[.int .i64 n] 3 (0, 0))
theorem BX.cell {w : World} {g : Nat} {n : Int} (h : BX w g n) : w.cell? ⟨g, 0, none⟩ = some (.int .i64 n) ∧ w.frozen? ⟨g, 0, none⟩ = false := by
  unfold BX at h
  exact ⟨by simp [World.cell?, h], by simp [World.frozen?, h]⟩
theorem BX.lt {w : World} {g : Nat} {n : Int} (h : BX w g n) : g < w.heap.size := by
  unfold BX at h
  exact (Array.getElem?_eq_some_iff.1 h).1
theorem BX.set {w : World} {g : Nat} {n : Int} (h : BX w g n) (v : Int) : BX (w.setCell ⟨g, 0, none⟩ (.int .i64 v)) g v := by
  unfold BX at *
  simp [World.setCell, Array.getElem?_modify, h]
theorem BX.block {w w' : World} {g : Nat} {n : Int} (h : BX w g n) (e : w'.heap[g]? = w.heap[g]?) : BX w' g n := by
  unfold BX at *
  rw [e]; exact h
theorem bx_new (w : World) (n : Int) : BX (w.alloc (.cells #[.int .i64 n] 3)) w.heap.size n := heap_alloc_new w _
/-- A matcher's box, as it is made. -/
theorem five_new (w : World) (h : Hm) (t : TypeId) : five (w.alloc (.cells #[.int .i64 h.op, .string h.nm, .string h.vl, .slice h.va h.vn h.vc, .slice h.ka h.kn h.kc] t)) w.heap.size 0 h := by
  intro j v hj
  rw [Nat.zero_add, World.cell?_alloc_mark]
  match j, hj with
  | 0, hj => simp [Hm.cells] at hj; subst hj; rfl
  | 1, hj => simp [Hm.cells] at hj; subst hj; rfl
  | 2, hj => simp [Hm.cells] at hj; subst hj; rfl
  | 3, hj => simp [Hm.cells] at hj; subst hj; rfl
  | 4, hj => simp [Hm.cells] at hj; subst hj; rfl
theorem tiny_le (m : Mt) : ∀ d n n', tinyF m d n = some n' → n' ≤ 200 := by
  refine Mt.ind (P := fun m => ∀ d n n', tinyF m d n = some n' → n' ≤ 200) ?_ m
  intro m ih d n n' h
  rw [tinyF_eq] at h
  split at h
  · cases h
  · rename_i hc
    have : ∀ (ks : List Mt) (d n n' : Nat), (∀ k ∈ ks, ∀ d n n', tinyF k d n = some n' → n' ≤ 200) → n ≤ 200 → tinyKs ks d n = some n' → n' ≤ 200 := by
      intro ks
      induction ks with
      | nil => intro d n n' _ hn h; simp [tinyKs] at h; omega
      | cons x t iht =>
        intro d n n' hk hn h
        rw [tinyKs] at h
        cases hx : tinyF x d n with
        | none => rw [hx] at h; cases h
        | some y =>
          rw [hx] at h
          exact iht d y n' (fun k hk' => hk k (by simp [hk'])) (hk x (by simp) d n y hx) h
    exact this m.ks _ _ _ ih (by omega) h

def TinyP (r : Option Nat) (g : Nat) (w' : World) (e : Ending) : Prop :=
  match r with
  | none => e = .returned (.bool false)
  | some n => e = .returned (.bool true) ∧ BX w' g n

theorem any_take {vs : List ByteArray} {p : ByteArray → Bool} {i : Nat} {s : ByteArray} (h : (vs.take i).any p = false) (hs : vs[i]? = some s) : (vs.take (i + 1)).any p = p s := by
  rw [List.take_add_one, hs, List.any_append, h]
  simp
theorem any_at {vs : List ByteArray} {p : ByteArray → Bool} {i : Nat} {s : ByteArray} (hs : vs[i]? = some s) (h : p s = true) : vs.any p = true :=
  List.any_eq_true.2 ⟨s, List.mem_of_getElem? hs, h⟩

theorem take_kid {l : List Mt} {k : Nat} {x : Mt} (h : l[k]? = some x) : l.take (k + 1) = l.take k ++ [x] := by
  rw [List.take_add_one, h]
  rfl

set_option maxHeartbeats 4000000 in
theorem tiny_any (m : Mt) : ∀ (S : Nat → Prop) (h : Hm) (d n g : Nat) (w : World), SeeM S w m h → (∀ k, S k → k ≠ g) → BX w g n → d ≤ 12 → n ≤ 200 →
    Calls Tryz.prog 21 #[.agg #[.int .i64 h.op, .string h.nm, .string h.vl, .slice h.va h.vn h.vc, .slice h.ka h.kn h.kc], .pointer (some ⟨g, 0, none⟩), .int .i64 d] w fun e w' => Ch (fun k => k = g) w w' ∧ TinyP (tinyF m d n) g w' e := by
  refine Mt.ind (P := fun m => ∀ (S : Nat → Prop) (h : Hm) (d n g : Nat) (w : World), SeeM S w m h → (∀ k, S k → k ≠ g) → BX w g n → d ≤ 12 → n ≤ 200 →
    Calls Tryz.prog 21 #[.agg #[.int .i64 h.op, .string h.nm, .string h.vl, .slice h.va h.vn h.vc, .slice h.ka h.kn h.kc], .pointer (some ⟨g, 0, none⟩), .int .i64 d] w fun e w' => Ch (fun k => k = g) w w' ∧ TinyP (tinyF m d n) g w' e) ?_ m
  intro m ih S h d n g w q hS hb hd hn
  obtain ⟨op, nm, vl, va, vn, vc, ka, kn, kc⟩ := h
  have IH := hide ih
  have HS := hide hS
  obtain ⟨e1, e2, e3, hw, hv, hk, -⟩ := seeM_iff.1 q
  dsimp only at e1 e2 e3 hv hk ⊢
  have w1 : nm.size ≤ 9223372036854775807 := hw.nm
  have w2 : vl.size ≤ 9223372036854775807 := hw.vl
  have w3 : vn * 16 ≤ 140737488355328 := hv.2.1
  have w4 : kn * 88 ≤ 140737488355328 := hw.kn
  have HVL := hide hv.1
  have HKL := hide hk
  have HT := hide (tinyF_eq m d n)
  rw [← e2, ← e3, HVL.out] at HT
  have HQ := hide q
  have HV := hide hv
  obtain ⟨W, hW⟩ : ∃ W, Hid ((w.alloc (.cells #[.int .i64 op, .string nm, .string vl, .slice va vn vc, .slice ka kn kc] 26)).setCell ⟨g, 0, none⟩ (.int .i64 ((n : Int) + 1)) = W) := ⟨_, rfl⟩
  have B1 : Hid (BX (w.alloc (.cells #[.int .i64 op, .string nm, .string vl, .slice va vn vc, .slice ka kn kc] 26)) g n) := hb.block (Below.heap_alloc w _ g hb.lt)
  have hgb : w.heap.size ≠ g := by have := hb.lt; omega
  have BW : Hid (BX W g ((n : Int) + 1)) := by rw [← hW.out]; exact B1.out.set _
  have CW : Hid (Ch (fun k => k = g) w W) := by rw [← hW.out]; exact ((Ch.refl _ w).alloc _).trans (ch_set _ g 0 _)
  have FW : Hid (five W w.heap.size 0 ⟨op, nm, vl, va, vn, vc, ka, kn, kc⟩) := by
    rw [← hW.out]
    exact (five_new w ⟨op, nm, vl, va, vn, vc, ka, kn, kc⟩ _).block (Below.heap_setCell _ _ _ _ hgb)
  obtain ⟨b0, b1⟩ := B1.out.cell
  have c9 := BW.out.cell.1
  obtain ⟨f0, f1, f2, f3, f4⟩ := FW.out.all
  simp only [Nat.zero_add] at f0 f1 f2 f3 f4
  have HGB := hide hgb
  clear ih hS q hv hk e1 e2 e3 hw hb B1 hgb
  by_cases c1 : 200 < n + 1 ∨ 11 < d ∨ 300 < nm.size ∨ 5000 < vl.size ∨ 40 < vn
  · have HN : Hid (tinyF m d n = none) := by
      show _ = _
      rw [HT.out, if_pos (by omega)]
    have HF : Hid (Ch (fun k => k = g) w W ∧ TinyP (tinyF m d n) g W (.returned (.bool false))) := by
      rw [HN.out]
      exact ⟨CW.out, rfl⟩
    clear HT HN IH HQ HV
    go_enter Tryz.func21, Tryz.ntmps21
    go_upto_region 2 with fail
    rw [hW.out]
    by_cases a1 : (200 : Int) < (n : Int) + 1
    · go_wp2
      go_ret
      exact HF.out
    · by_cases a2 : (11 : Int) < (d : Int)
      · go_wp2
        go_ret
        exact HF.out
      · by_cases a3 : (300 : Int) < (nm.size : Int)
        · go_wp2
          go_ret
          exact HF.out
        · by_cases a4 : (5000 : Int) < (vl.size : Int)
          · go_wp2
            go_ret
            exact HF.out
          · have a5 : (40 : Int) < (vn : Int) := by omega
            go_wp2
            go_ret
            exact HF.out
  · have a1 : ¬ (200 : Int) < (n : Int) + 1 := by omega
    have a2 : ¬ (11 : Int) < (d : Int) := by omega
    have a3 : ¬ (300 : Int) < (nm.size : Int) := by omega
    have a4 : ¬ (5000 : Int) < (vl.size : Int) := by omega
    have a5 : ¬ (40 : Int) < (vn : Int) := by omega
    have HVW := hide (HV.out.ch CW.out (fun k hk => HS.out k hk))
    clear c1 HV
    go_enter Tryz.func21, Tryz.ntmps21
    go_upto_region 2 with fail
    rw [hW.out]
    clear hW b0 b1
    go_wp2
    go_loopw [7] (fun i wr => ∃ j : Nat, j ≤ vn ∧ i = .int .i64 j ∧ Hid (wr = W) ∧ Hid ((m.vs.take j).any (fun v => decide (300 < v.size)) = false)) (fun i _ => vn - (intOf i).toNat)
    case atStart => exact ⟨0, by omega, rfl, rfl, by rw [List.take_zero]; rfl⟩
    case round =>
      obtain ⟨j, hj, rfl, HW, HA⟩ := hrel
      have hW := HW.out
      subst hW
      clear HW
      obtain ⟨W1, rfl⟩ : ∃ W1, W1 = wr := ⟨wr, rfl⟩
      by_cases hlt : j < vn
      · obtain ⟨b, off, s, rfl, hs, hsz, _, hc⟩ := HVW.out.at' hlt
        have i1 : (0 : Int) ≤ (j : Int) := by omega
        have i2 : (j : Int) < (vn : Int) := by omega
        have HX := hide hs
        clear hs
        by_cases a6 : (300 : Int) < (s.size : Int)
        · have HF : Hid (Ch (fun k => k = g) w W1 ∧ TinyP (tinyF m d n) g W1 (.returned (.bool false))) := by
            have : m.vs.any (fun v => decide (300 < v.size)) = true := any_at HX.out (decide_eq_true (by omega))
            rw [HT.out, if_pos (by rw [this]; simp)]
            exact ⟨CW.out, rfl⟩
          go_wp2
          go_ret
          exact HF.out
        · have HA2 : Hid ((m.vs.take (j + 1)).any (fun v => decide (300 < v.size)) = false) := by
            show _ = _
            rw [any_take HA.out HX.out]
            exact decide_eq_false (by omega)
          go_wp2
          go_roundw
          case rel => exact ⟨j + 1, by omega, by go_num, trivial, HA2⟩
          case measure => simp [intOf]; omega
      · obtain ⟨j0, hj0⟩ : ∃ j0, j0 = j := ⟨j, rfl⟩
        have : vn = j0 := by omega
        subst this
        subst hj0
        have HT2 : Hid (tinyF m d n = tinyKs m.ks (d + 1) (n + 1)) := by
          show _ = _
          have hA := HA.out
          rw [show m.vs.take vn = m.vs from by rw [← HVL.out]; exact List.take_length ..] at hA
          rw [HT.out, if_neg (by rw [hA]; simp; omega)]
        clear HT HA HVW
        have HB0 : Hid (BX W1 g ((n + 1 : Nat) : Int)) := BW
        clear BW
        go_wp2
        go_loopw [8] (fun i wr => ∃ j nn : Nat, j ≤ kn ∧ i = .int .i64 j ∧ nn ≤ 200 ∧ Hid (tinyKs (m.ks.take j) (d + 1) (n + 1) = some nn) ∧ Hid (BX wr g (nn : Int)) ∧ Hid (Ch (fun k => k = g) w wr) ∧ Hid (five wr w.heap.size 0 ⟨op, nm, vl, va, vn, vc, ka, kn, kc⟩)) (fun i _ => kn - (intOf i).toNat)
        case atStart => exact ⟨0, n + 1, by omega, rfl, by omega, by rw [List.take_zero, tinyKs]; rfl, HB0, CW, FW⟩
        case round =>
          obtain ⟨j, nn, hj, rfl, hnn, HK, HBX, HC, HFV⟩ := hrel
          obtain ⟨u, rfl⟩ : ∃ u, u = wr := ⟨wr, rfl⟩
          clear HB0 CW FW c9 f0 f1 f2 f3 f4
          obtain ⟨f0, f1, f2, f3, f4⟩ := HFV.out.all
          simp only [Nat.zero_add] at f0 f1 f2 f3 f4
          by_cases hlt : j < kn
          · obtain ⟨b, off, k, h', e, hk, hsb, q5, qk⟩ := (HQ.out.ch HC.out (fun k hk => HS.out k hk)).kid hlt
            obtain ⟨op', nm', vl', va', vn', vc', ka', kn', kc'⟩ := h'
            dsimp only at e
            subst e
            obtain ⟨g0, g1, g2, g3, g4⟩ := q5.all
            dsimp only at g0 g1 g2 g3 g4
            have i1 : (0 : Int) ≤ (j : Int) := by omega
            have i2 : (j : Int) < (kn : Int) := by omega
            have HX := hide hk
            have HLK := hide (five.lt q5)
            have T := hide (IH.out k (List.mem_of_getElem? hk) S _ (d + 1) nn g u qk HS.out HBX.out (by omega) hnn)
            rw [show ((d + 1 : Nat) : Int) = (d : Int) + 1 from rfl] at T
            dsimp only at T
            have HKA := hide (tinyKs_append (m.ks.take j) k (d + 1) (n + 1))
            rw [← take_kid HX.out, HK.out, Option.bind_some] at HKA
            have HSPL : Hid (m.ks.take (j + 1) ++ m.ks.drop (j + 1) = m.ks) := List.take_append_drop ..
            clear hk hsb q5 qk
            cases ht : tinyF k (d + 1) nn with
            | none =>
              rw [ht] at T HKA
              simp only [TinyP] at T
              have HN : Hid (tinyF m d n = none) := by
                show _ = _
                rw [HT2.out, ← HSPL.out]
                exact tinyKs_none HKA.out
              clear ht HKA HSPL HT2
              go_wp2_with fail
              with_reducible refine T.out.mono ?_
              rintro e w2 ⟨c2, rfl⟩
              have C2 := hide (HC.out.trans c2)
              clear c2 T g0 g1 g2 g3 g4 f0 f1 f2 f3 f4
              go_wp2
              go_ret
              rw [HN.out]
              exact ⟨C2.out, rfl⟩
            | some n2 =>
              have hn2 := tiny_le k _ _ _ ht
              rw [ht] at T HKA
              simp only [TinyP] at T
              clear ht HSPL
              go_wp2_with fail
              with_reducible refine T.out.mono ?_
              rintro e w2 ⟨c2, rfl, x2⟩
              have C2 := hide (HC.out.trans c2)
              have X2 := hide x2
              have F2 := hide (HFV.out.block (c2.block w.heap.size (five.lt HFV.out) HGB.out))
              clear c2 x2 T g0 g1 g2 g3 g4 f0 f1 f2 f3 f4
              go_wp2
              go_roundw
              case rel => exact ⟨j + 1, n2, by omega, by go_num, hn2, HKA, X2, C2, F2⟩
              case measure => simp [intOf]; omega
          · obtain ⟨j0, hj0⟩ : ∃ j0, j0 = j := ⟨j, rfl⟩
            have : kn = j0 := by omega
            subst this
            subst hj0
            have HN : Hid (tinyF m d n = some nn) := by
              show _ = _
              have := HK.out
              rw [show m.ks.take kn = m.ks from by rw [← HKL.out]; exact List.take_length ..] at this
              rw [HT2.out, this]
            clear HT2 HK
            go_wp2
            go_ret
            rw [HN.out]
            exact ⟨HC.out, rfl, HBX.out⟩
end Go.Proofs.YtpffhpnmbpjifaaGreat
