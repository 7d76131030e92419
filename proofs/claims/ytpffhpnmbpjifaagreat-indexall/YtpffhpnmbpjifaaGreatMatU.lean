/-
  The laws' own Tiny; the document's bare and its count of bytes: contracts, for every world (written by gen/matu.gen.py).
  Conditions: the matcher lies in memory.
-/
import Derived.Test.YtpffhpnmbpjifaaGreatMatT
namespace Go.Proofs.YtpffhpnmbpjifaaGreat
open Go.RowKit
set_option maxRecDepth 20000

theorem tinyP_bool {m : Mt} {g : Nat} {w : World} {e : Ending} (h : TinyP (tinyF m 0 0) g w e) : e = .returned (.bool (tinyM m)) := by
  unfold tinyM
  cases ht : tinyF m 0 0 with
  | none =>
    rw [ht] at h
    exact h
  | some n =>
    rw [ht] at h
    exact h.1
set_option maxHeartbeats 1000000 in
theorem tinyT_any (S : Nat → Prop) (m : Mt) (h : Hm) (w : World) (q : SeeM S w m h) :
    Calls Tryz.prog 6 #[.agg #[.int .i64 h.op, .string h.nm, .string h.vl, .slice h.va h.vn h.vc, .slice h.ka h.kn h.kc]] w fun e w' => e = .returned (.bool (tinyM m)) ∧ Below w.heap.size w w' := by
  have T := hide (fun (W : World) (b : Below w.heap.size w W) => tiny_any m (fun k => k < w.heap.size) h 0 0 W.heap.size (W.alloc (.cells #[.int .i64 0] 3)) (((q.mono (fun k hk _ => hk)).below b).alloc _) (fun k hk => by have := b.size; omega) (bx_new W 0) (by omega) (by omega))
  have BA := hide ((Below.refl w.heap.size w).alloc (Nat.le_refl _) (.cells #[.int .i64 h.op, .string h.nm, .string h.vl, .slice h.va h.vn h.vc, .slice h.ka h.kn h.kc] 26))
  have T1 := hide (T.out _ BA.out)
  have SZ : Hid ((w.alloc (.cells #[.int .i64 h.op, .string h.nm, .string h.vl, .slice h.va h.vn h.vc, .slice h.ka h.kn h.kc] 26)).heap.size = w.heap.size + 1) := by show _ = _; simp
  rw [SZ.out, show ((0 : Nat) : Int) = 0 from rfl] at T1
  clear T q
  go_enter Tryz.func6, Tryz.ntmps6
  go_wp2_with fail
  with_reducible refine T1.out.mono ?_
  rintro e w2 ⟨c, p⟩
  have B2 : Hid (Below w.heap.size w w2) := by
    have b := BA.out.alloc (by simp) (.cells #[.int .i64 0] 3)
    exact b.trans (c.below (by simp; omega) (fun k hk e => by omega))
  obtain rfl := tinyP_bool p
  clear c p
  go_wp2
  go_ret
  exact ⟨rfl, B2.out⟩

theorem ba_nil {s : ByteArray} : s.toList = [] ↔ s.size = 0 := by
  rw [← ba_len]
  exact List.length_eq_zero_iff.symm
theorem ba_nil1 {s : ByteArray} (h : s.size = 0) : s.toList.isEmpty = true := by rw [ba_nil.2 h]; rfl
theorem ba_nil0 {s : ByteArray} (h : ¬ s.size = 0) : s.toList.isEmpty = false := by
  rw [Bool.eq_false_iff]
  intro e
  exact h (ba_nil.1 (List.isEmpty_iff.1 e))

set_option maxHeartbeats 4000000 in
theorem bare_fff (h : Hm) (w : World) (hw : HmW h) :
    Calls Tryz.prog 48 #[.agg #[.int .i64 h.op, .string h.nm, .string h.vl, .slice h.va h.vn h.vc, .slice h.ka h.kn h.kc], .bool false, .bool false, .bool false] w fun e w' => e = .returned (.bool (decide (h.vl.size = 0) && (decide (h.nm.size = 0) && (decide (h.vn = 0) && decide (h.kn = 0))))) ∧ Below w.heap.size w w' := by
  have BA := hide ((Below.refl w.heap.size w).alloc (Nat.le_refl _) (.cells #[.int .i64 h.op, .string h.nm, .string h.vl, .slice h.va h.vn h.vc, .slice h.ka h.kn h.kc] 26))
  have w1 := hw.nm
  have w2 := hw.vl
  have w3 := hw.kn
  clear hw
  by_cases a0 : h.vl.size = 0
  · have t0 : h.vl.toList = [] := ba_nil.2 a0
    have t0' := ba_nil1 a0
    rw [decide_eq_true a0]
    clear a0
    by_cases a1 : h.nm.size = 0
    · have t1 : h.nm.toList = [] := ba_nil.2 a1
      have t1' := ba_nil1 a1
      rw [decide_eq_true a1]
      clear a1
      by_cases a2 : h.vn = 0
      · have t2 : ((h.vn : Int) == 0) = true := by simp [a2]
        rw [decide_eq_true a2]
        clear a2
        by_cases a3 : h.kn = 0
        · have t3 : ((h.kn : Int) == 0) = true := by simp [a3]
          rw [decide_eq_true a3]
          clear a3
          go_enter Tryz.func48, Tryz.ntmps48
          go_wp2
          go_ret
          exact ⟨rfl, BA.out⟩
        · have t3 : ((h.kn : Int) == 0) = false := by simp; omega
          rw [decide_eq_false a3]
          simp only [Bool.and_false]
          clear a3
          go_enter Tryz.func48, Tryz.ntmps48
          go_wp2
          go_ret
          exact ⟨rfl, BA.out⟩
      · have t2 : ((h.vn : Int) == 0) = false := by simp; omega
        rw [decide_eq_false a2]
        simp only [Bool.false_and, Bool.and_false]
        clear a2
        go_enter Tryz.func48, Tryz.ntmps48
        go_wp2
        go_ret
        exact ⟨rfl, BA.out⟩
    · have t1 : ¬ h.nm.toList = [] := fun e => a1 (ba_nil.1 e)
      have t1' := ba_nil0 a1
      rw [decide_eq_false a1]
      simp only [Bool.false_and, Bool.and_false]
      clear a1
      go_enter Tryz.func48, Tryz.ntmps48
      go_wp2
      go_ret
      exact ⟨rfl, BA.out⟩
  · have t0 : ¬ h.vl.toList = [] := fun e => a0 (ba_nil.1 e)
    have t0' := ba_nil0 a0
    rw [decide_eq_false a0]
    simp only [Bool.false_and]
    clear a0
    go_enter Tryz.func48, Tryz.ntmps48
    go_wp2
    go_ret
    exact ⟨rfl, BA.out⟩
set_option maxHeartbeats 4000000 in
theorem bare_tff (h : Hm) (w : World) (hw : HmW h) :
    Calls Tryz.prog 48 #[.agg #[.int .i64 h.op, .string h.nm, .string h.vl, .slice h.va h.vn h.vc, .slice h.ka h.kn h.kc], .bool true, .bool false, .bool false] w fun e w' => e = .returned (.bool (decide (h.vn = 0) && decide (h.kn = 0))) ∧ Below w.heap.size w w' := by
  have BA := hide ((Below.refl w.heap.size w).alloc (Nat.le_refl _) (.cells #[.int .i64 h.op, .string h.nm, .string h.vl, .slice h.va h.vn h.vc, .slice h.ka h.kn h.kc] 26))
  have w1 := hw.nm
  have w2 := hw.vl
  have w3 := hw.kn
  clear hw
  by_cases a0 : h.vn = 0
  · have t0 : ((h.vn : Int) == 0) = true := by simp [a0]
    rw [decide_eq_true a0]
    clear a0
    by_cases a1 : h.kn = 0
    · have t1 : ((h.kn : Int) == 0) = true := by simp [a1]
      rw [decide_eq_true a1]
      clear a1
      go_enter Tryz.func48, Tryz.ntmps48
      go_wp2
      go_ret
      exact ⟨rfl, BA.out⟩
    · have t1 : ((h.kn : Int) == 0) = false := by simp; omega
      rw [decide_eq_false a1]
      simp only [Bool.and_false]
      clear a1
      go_enter Tryz.func48, Tryz.ntmps48
      go_wp2
      go_ret
      exact ⟨rfl, BA.out⟩
  · have t0 : ((h.vn : Int) == 0) = false := by simp; omega
    rw [decide_eq_false a0]
    simp only [Bool.false_and]
    clear a0
    go_enter Tryz.func48, Tryz.ntmps48
    go_wp2
    go_ret
    exact ⟨rfl, BA.out⟩
set_option maxHeartbeats 4000000 in
theorem bare_ftf (h : Hm) (w : World) (hw : HmW h) :
    Calls Tryz.prog 48 #[.agg #[.int .i64 h.op, .string h.nm, .string h.vl, .slice h.va h.vn h.vc, .slice h.ka h.kn h.kc], .bool false, .bool true, .bool false] w fun e w' => e = .returned (.bool (decide (h.vl.size = 0) && decide (h.kn = 0))) ∧ Below w.heap.size w w' := by
  have BA := hide ((Below.refl w.heap.size w).alloc (Nat.le_refl _) (.cells #[.int .i64 h.op, .string h.nm, .string h.vl, .slice h.va h.vn h.vc, .slice h.ka h.kn h.kc] 26))
  have w1 := hw.nm
  have w2 := hw.vl
  have w3 := hw.kn
  clear hw
  by_cases a0 : h.vl.size = 0
  · have t0 : h.vl.toList = [] := ba_nil.2 a0
    have t0' := ba_nil1 a0
    rw [decide_eq_true a0]
    clear a0
    by_cases a1 : h.kn = 0
    · have t1 : ((h.kn : Int) == 0) = true := by simp [a1]
      rw [decide_eq_true a1]
      clear a1
      go_enter Tryz.func48, Tryz.ntmps48
      go_wp2
      go_ret
      exact ⟨rfl, BA.out⟩
    · have t1 : ((h.kn : Int) == 0) = false := by simp; omega
      rw [decide_eq_false a1]
      simp only [Bool.and_false]
      clear a1
      go_enter Tryz.func48, Tryz.ntmps48
      go_wp2
      go_ret
      exact ⟨rfl, BA.out⟩
  · have t0 : ¬ h.vl.toList = [] := fun e => a0 (ba_nil.1 e)
    have t0' := ba_nil0 a0
    rw [decide_eq_false a0]
    simp only [Bool.false_and]
    clear a0
    go_enter Tryz.func48, Tryz.ntmps48
    go_wp2
    go_ret
    exact ⟨rfl, BA.out⟩
set_option maxHeartbeats 4000000 in
theorem bare_fft (h : Hm) (w : World) (hw : HmW h) :
    Calls Tryz.prog 48 #[.agg #[.int .i64 h.op, .string h.nm, .string h.vl, .slice h.va h.vn h.vc, .slice h.ka h.kn h.kc], .bool false, .bool false, .bool true] w fun e w' => e = .returned (.bool (decide (h.vl.size = 0) && (decide (h.nm.size = 0) && decide (h.vn = 0)))) ∧ Below w.heap.size w w' := by
  have BA := hide ((Below.refl w.heap.size w).alloc (Nat.le_refl _) (.cells #[.int .i64 h.op, .string h.nm, .string h.vl, .slice h.va h.vn h.vc, .slice h.ka h.kn h.kc] 26))
  have w1 := hw.nm
  have w2 := hw.vl
  have w3 := hw.kn
  clear hw
  by_cases a0 : h.vl.size = 0
  · have t0 : h.vl.toList = [] := ba_nil.2 a0
    have t0' := ba_nil1 a0
    rw [decide_eq_true a0]
    clear a0
    by_cases a1 : h.nm.size = 0
    · have t1 : h.nm.toList = [] := ba_nil.2 a1
      have t1' := ba_nil1 a1
      rw [decide_eq_true a1]
      clear a1
      by_cases a2 : h.vn = 0
      · have t2 : ((h.vn : Int) == 0) = true := by simp [a2]
        rw [decide_eq_true a2]
        clear a2
        go_enter Tryz.func48, Tryz.ntmps48
        go_wp2
        go_ret
        exact ⟨rfl, BA.out⟩
      · have t2 : ((h.vn : Int) == 0) = false := by simp; omega
        rw [decide_eq_false a2]
        simp only [Bool.and_false]
        clear a2
        go_enter Tryz.func48, Tryz.ntmps48
        go_wp2
        go_ret
        exact ⟨rfl, BA.out⟩
    · have t1 : ¬ h.nm.toList = [] := fun e => a1 (ba_nil.1 e)
      have t1' := ba_nil0 a1
      rw [decide_eq_false a1]
      simp only [Bool.false_and, Bool.and_false]
      clear a1
      go_enter Tryz.func48, Tryz.ntmps48
      go_wp2
      go_ret
      exact ⟨rfl, BA.out⟩
  · have t0 : ¬ h.vl.toList = [] := fun e => a0 (ba_nil.1 e)
    have t0' := ba_nil0 a0
    rw [decide_eq_false a0]
    simp only [Bool.false_and]
    clear a0
    go_enter Tryz.func48, Tryz.ntmps48
    go_wp2
    go_ret
    exact ⟨rfl, BA.out⟩

/-- The document's count: parts, bytes, whether something is wrong. -/
def SZ (w : World) (g : Nat) (n b : Int) (bad : Bool) : Prop := w.heap[g]? = some (.cells #[.int .i64 n, .int .i64 b, .bool bad] 61 (0, 0))
theorem SZ.cell {w : World} {g : Nat} {n b : Int} {bad : Bool} (h : SZ w g n b bad) : w.cell? ⟨g, 0, none⟩ = some (.int .i64 n) ∧ w.cell? ⟨g, 1, none⟩ = some (.int .i64 b) ∧ w.cell? ⟨g, 2, none⟩ = some (.bool bad) ∧ ∀ o, w.frozen? ⟨g, o, none⟩ = false := by
  unfold SZ at h
  exact ⟨by simp [World.cell?, h], by simp [World.cell?, h], by simp [World.cell?, h], fun o => by simp [World.frozen?, h]⟩
theorem SZ.lt {w : World} {g : Nat} {n b : Int} {bad : Bool} (h : SZ w g n b bad) : g < w.heap.size := by
  unfold SZ at h
  exact (Array.getElem?_eq_some_iff.1 h).1
theorem SZ.block {w w' : World} {g : Nat} {n b : Int} {bad : Bool} (h : SZ w g n b bad) (e : w'.heap[g]? = w.heap[g]?) : SZ w' g n b bad := by
  unfold SZ at *
  rw [e]; exact h
theorem SZ.parts {w : World} {g : Nat} {n b : Int} {bad : Bool} (h : SZ w g n b bad) (v : Int) : SZ (w.setCell ⟨g, 0, none⟩ (.int .i64 v)) g v b bad := by
  unfold SZ at *
  simp [World.setCell, Array.getElem?_modify, h]
theorem SZ.bytes {w : World} {g : Nat} {n b : Int} {bad : Bool} (h : SZ w g n b bad) (v : Int) : SZ (w.setCell ⟨g, 1, none⟩ (.int .i64 v)) g n v bad := by
  unfold SZ at *
  simp [World.setCell, Array.getElem?_modify, h]
theorem SZ.mark {w : World} {g : Nat} {n b : Int} {bad : Bool} (h : SZ w g n b bad) (v : Bool) : SZ (w.setCell ⟨g, 2, none⟩ (.bool v)) g n b v := by
  unfold SZ at *
  simp [World.setCell, Array.getElem?_modify, h]

def MoreT (b b' : Nat) (bad bad' : Bool) (s : ByteArray) : Prop := if 4096 < b + s.size then bad' = true else bad' = bad ∧ b' = b + s.size
def MoreP (g : Nat) (n : Int) (b : Nat) (bad : Bool) (s : ByteArray) (w' : World) : Prop := ∃ (b' : Nat) (bad' : Bool), SZ w' g n b' bad' ∧ b' ≤ 4096 ∧ MoreT b b' bad bad' s
set_option maxHeartbeats 2000000 in
/-- More bytes: they are counted, or something is wrong. -/
theorem sztext_any (s : ByteArray) (g : Nat) (n : Int) (b : Nat) (bad : Bool) (w : World) (hs : s.size ≤ 9223372036854775807) (hb : b ≤ 4096) (h : SZ w g n b bad) :
    Calls Tryz.prog 50 #[.pointer (some ⟨g, 0, none⟩), .string s] w fun e w' => e = .returned (.tuple #[]) ∧ Ch (fun k => k = g) w w' ∧ MoreP g n b bad s w' := by
  obtain ⟨c0, c1, c2, cf⟩ := h.cell
  have cf1 := cf 1
  have cf2 := cf 2
  have H := hide h
  clear cf h
  by_cases a : 4096 < b + s.size
  · have t : (4096 : Int) - (b : Int) < (s.size : Int) := by omega
    have E : Hid (Ch (fun k => k = g) w (w.setCell ⟨g, 2, none⟩ (.bool true)) ∧ SZ (w.setCell ⟨g, 2, none⟩ (.bool true)) g n b true) := ⟨ch_set w g 2 _, H.out.mark true⟩
    go_enter Tryz.func50, Tryz.ntmps50
    go_wp2
    (try simp only [Exit.inBlock, Exit.then]); refine bodyPost_ret (results_none rfl _ _ _) rfl ?_
    exact ⟨rfl, E.out.1, b, true, E.out.2, hb, by unfold MoreT; rw [if_pos a]⟩
  · have t : ¬ (4096 : Int) - (b : Int) < (s.size : Int) := by omega
    have E : Hid (Ch (fun k => k = g) w (w.setCell ⟨g, 1, none⟩ (.int .i64 ((b : Int) + (s.size : Int)))) ∧ SZ (w.setCell ⟨g, 1, none⟩ (.int .i64 ((b : Int) + (s.size : Int)))) g n ((b + s.size : Nat) : Int) bad) := ⟨ch_set w g 1 _, H.out.bytes _⟩
    go_enter Tryz.func50, Tryz.ntmps50
    go_wp2
    go_end0
    exact ⟨rfl, E.out.1, b + s.size, bad, E.out.2, by omega, by unfold MoreT; rw [if_neg a]; exact ⟨rfl, rfl⟩⟩
end Go.Proofs.YtpffhpnmbpjifaaGreat
