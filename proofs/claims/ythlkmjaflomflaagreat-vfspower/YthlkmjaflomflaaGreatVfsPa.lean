/-
  What the laws of layer 16 share beside the document's answer: two lists of texts held against each other, the eight names, whether two file systems tell alike: contracts, for every world (written by gen/vfspa.gen.py).
  Conditions: as each theorem says.
-/
import Derived.Test.YthlkmjaflomflaaGreatVfsP
import Derived.Test.YthlkmjaflomflaaGreatVfsRl
import Derived.Test.YthlkmjaflomflaaGreatPlace
namespace Go.Proofs.YthlkmjaflomflaaGreat
open Go.RowKit Go.Maps
set_option maxRecDepth 20000
set_option linter.unusedVariables false

section
variable {base : Nat} {w u : World} {g h : Nat} {F G : Fs} {m : Nat}
theorem two_readL (t : TwoV base w u g h F G) (hL : LimB m F) (hm : m < 1073741824) (s : ByteArray) (hs : s.size ≤ maxLen) : Calls Tryz.prog 24 #[.pointer (some ⟨g, 0, none⟩), .string s] u fun e u' => ReadP (readF F s) u e u' := by
  obtain ⟨S, T, q⟩ := t
  exact lread_any g S F s m u q.l hL.lim (by omega) hs
theorem two_readR (t : TwoV base w u g h F G) (hL : LimB m G) (hm : m < 1073741824) (s : ByteArray) : Calls Tryz.prog 39 #[.pointer (some ⟨h, 0, none⟩), .string s] u fun e u' => ReadP (readF G s) u e u' := by
  obtain ⟨S, T, q⟩ := t
  exact rread_any h T G s m u q.r hL.lim (by omega)
theorem two_listL (t : TwoV base w u g h F G) (hL : LimB m F) (hm : m < 1073741824) : Calls Tryz.prog 16 #[.pointer (some ⟨g, 0, none⟩)] u fun e u' => ∃ a c, e = .returned (.slice a (listF F).length c) ∧ OwnS u' u.heap.size a (listF F).length c (listF F) ∧ Below u.heap.size u u' := by
  obtain ⟨S, T, q⟩ := t
  exact llist_any g S F m u q.l hL.lim (by omega)
theorem two_listR (t : TwoV base w u g h F G) (hL : LimB m G) (hm : m < 1073741824) : Calls Tryz.prog 38 #[.pointer (some ⟨h, 0, none⟩)] u fun e u' => ∃ a n c, e = .returned (.slice a n c) ∧ n = (listF G).length ∧ OwnS u' u.heap.size a n c (listF G) ∧ Below u.heap.size u u' := by
  obtain ⟨S, T, q⟩ := t
  exact rlist_any h T G m u q.r hL.lim (by omega)
theorem two_callsL (t : TwoV base w u g h F G) : Calls Tryz.prog 25 #[.pointer (some ⟨g, 0, none⟩)] u fun e u' => e = .returned (.int .i64 F.n) ∧ u' = u := by
  obtain ⟨S, T, q⟩ := t
  exact calls_any u g S F q.l
theorem two_n (t : TwoV base w u g h F G) : u.cell? ⟨h, 3, none⟩ = some (.int .i64 G.n) := by
  obtain ⟨S, T, q⟩ := t
  obtain ⟨-, af, cf, as', cs, at', ct, hs, B⟩ := q.r
  exact B.cells.2.2.2.1
theorem two_good (t : TwoV base w u g h F G) : GoodV F ∧ GoodV G := by
  obtain ⟨S, T, q⟩ := t
  exact ⟨q.l.1, q.r.1⟩
end
theorem readF_byte {F : Fs} (h : GoodV F) {s : ByteArray} {b : List Int} (hb : readF F s = some b) : ∀ z ∈ b, 0 ≤ z ∧ z ≤ 255 := by
  unfold readF at hb
  rw [Option.map_eq_some_iff] at hb
  obtain ⟨k, hk, rfl⟩ := hb
  have hm := h.byte _ (atF_mem (h.file hk))
  exact unsB_byte hm.1 hm.2
theorem readF_len {F : Fs} {m : Nat} (h : LimB m F) {s : ByteArray} {b : List Int} (hb : readF F s = some b) : b.length ≤ m := by
  unfold readF at hb
  rw [Option.map_eq_some_iff] at hb
  obtain ⟨k, hk, rfl⟩ := hb
  have h1 := limB_at h k
  have h2 := unsB_len (atF F k).us (atF F k).sure
  unfold bytF
  omega

theorem insN_fold (d : List Dn) : ∀ l : List ByteArray, (d.foldl (fun m x => insN m x.nm) l).length = l.length + d.length := by
  induction d with
  | nil => intro l; rfl
  | cons x t ih =>
    intro l
    rw [List.foldl_cons, ih, insN_len, List.length_cons]
    omega
theorem insN_lens (d : List Dn) : (listD d).length = d.length := by
  unfold listD
  rw [insN_fold]
  simp

set_option maxHeartbeats 2000000 in
theorem sametx_any (b1 b2 : Nat) (a : Option Addr) (n cap : Nat) (b : Option Addr) (m capb : Nat) (xs : List ByteArray) (w : World) (hx : OwnS w b1 a n cap xs) (hy : OwnS w b2 b m capb xs) (hn : n ≤ 1099511627776) :
    Calls Tryz.prog 22 #[.slice a n cap, .slice b m capb] w fun e w' => e = .returned (.bool true) ∧ Below w.heap.size w w' := by
  have hl := OwnG.len stV_len (by decide) hx
  have hl2 := OwnG.len stV_len (by decide) hy
  obtain rfl : n = m := by omega
  have HX := hide hx
  have HY := hide hy
  have t0 : ((n : Int) != (n : Int)) = false := by simp
  clear hx hy hl hl2
  go_enter Tryz.func22, Tryz.ntmps22
  go_wp2
  go_loopw [5] (fun i wr => ∃ k : Nat, k ≤ n ∧ i = .int .i64 k ∧ Hid (Below w.heap.size w wr)) (fun i _ => n - (intOf i).toNat)
  case atStart => exact ⟨0, by omega, rfl, Below.refl _ _⟩
  case round =>
    obtain ⟨k, hk, rfl, HW⟩ := hrel
    by_cases hlt : k < n
    · obtain ⟨x0, rfl, hc0, g0⟩ := OwnS.at' (OwnG.below HX.out HW.out (Nat.le_refl _)) hlt
      obtain ⟨x1, rfl, hc1, g1⟩ := OwnS.at' (OwnG.below HY.out HW.out (Nat.le_refl _)) hlt
      have i1 : (0 : Int) ≤ (k : Int) := by omega
      have i2 : (k : Int) < (n : Int) := by omega
      generalize xs.getD k ByteArray.empty = p at *
      have t : (p.toList != p.toList) = false := by simp
      go_wp2
      go_region
      go_wp2
      go_roundw
      case rel => exact ⟨k + 1, by omega, by go_num, HW.out.drew⟩
      case measure => simp [intOf]; omega
    · obtain rfl : k = n := by omega
      have i2 : ¬ (k : Int) < (k : Int) := by omega
      go_wp2
      go_ret
      exact ⟨rfl, HW.out⟩

/-- The eight names. -/
def nmL : List ByteArray := [⟨#[97]⟩, ⟨#[98]⟩, ⟨#[108, 111, 103, 45, 48, 48, 48, 48, 48, 48, 48, 49]⟩, ⟨#[109, 97, 110, 105, 102, 101, 115, 116]⟩, ⟨#[109, 97, 110, 105, 102, 101, 115, 116, 46, 116, 109, 112]⟩, ⟨#[]⟩, ⟨#[48, 49, 50, 51, 52, 53, 54, 55, 56, 57, 48, 49, 50, 51, 52, 53, 54, 55, 56, 57, 48, 49, 50, 51, 52, 53, 54, 55, 56, 57, 48, 49, 50, 51, 52, 53, 54, 55, 56, 57, 48, 49, 50, 51, 52, 53, 54, 55, 56, 57, 48, 49, 50, 51, 52, 53, 54, 55, 56, 57, 48, 49, 50, 51, 52, 53, 54, 55, 56, 57]⟩, ⟨#[99]⟩]
def nmAt (k : Nat) : ByteArray := nmL.getD k ByteArray.empty
theorem nmAt_size (k : Nat) : (nmAt k).size ≤ 70 := by
  by_cases h : k < 8
  · have : ∀ j, j < 8 → (nmAt j).size ≤ 70 := by decide +kernel
    exact this k h
  · unfold nmAt
    rw [List.getD_eq_getElem?_getD, List.getElem?_eq_none (by show 8 ≤ k; omega)]
    decide
theorem name_ix0 : ∀ v : World, (Instr.index 95 (.agg #[.string ⟨#[97]⟩, .string ⟨#[98]⟩, .string ⟨#[108, 111, 103, 45, 48, 48, 48, 48, 48, 48, 48, 49]⟩, .string ⟨#[109, 97, 110, 105, 102, 101, 115, 116]⟩, .string ⟨#[109, 97, 110, 105, 102, 101, 115, 116, 46, 116, 109, 112]⟩, .string ⟨#[]⟩, .string ⟨#[48, 49, 50, 51, 52, 53, 54, 55, 56, 57, 48, 49, 50, 51, 52, 53, 54, 55, 56, 57, 48, 49, 50, 51, 52, 53, 54, 55, 56, 57, 48, 49, 50, 51, 52, 53, 54, 55, 56, 57, 48, 49, 50, 51, 52, 53, 54, 55, 56, 57, 48, 49, 50, 51, 52, 53, 54, 55, 56, 57, 48, 49, 50, 51, 52, 53, 54, 55, 56, 57]⟩, .string ⟨#[99]⟩]) (.int .i64 ((0 : Nat) : Int))).run Tryz.prog v = .ok (.string (nmAt 0)) v := fun _ => by kernel_rfl
theorem name_ix1 : ∀ v : World, (Instr.index 95 (.agg #[.string ⟨#[97]⟩, .string ⟨#[98]⟩, .string ⟨#[108, 111, 103, 45, 48, 48, 48, 48, 48, 48, 48, 49]⟩, .string ⟨#[109, 97, 110, 105, 102, 101, 115, 116]⟩, .string ⟨#[109, 97, 110, 105, 102, 101, 115, 116, 46, 116, 109, 112]⟩, .string ⟨#[]⟩, .string ⟨#[48, 49, 50, 51, 52, 53, 54, 55, 56, 57, 48, 49, 50, 51, 52, 53, 54, 55, 56, 57, 48, 49, 50, 51, 52, 53, 54, 55, 56, 57, 48, 49, 50, 51, 52, 53, 54, 55, 56, 57, 48, 49, 50, 51, 52, 53, 54, 55, 56, 57, 48, 49, 50, 51, 52, 53, 54, 55, 56, 57, 48, 49, 50, 51, 52, 53, 54, 55, 56, 57]⟩, .string ⟨#[99]⟩]) (.int .i64 ((1 : Nat) : Int))).run Tryz.prog v = .ok (.string (nmAt 1)) v := fun _ => by kernel_rfl
theorem name_ix2 : ∀ v : World, (Instr.index 95 (.agg #[.string ⟨#[97]⟩, .string ⟨#[98]⟩, .string ⟨#[108, 111, 103, 45, 48, 48, 48, 48, 48, 48, 48, 49]⟩, .string ⟨#[109, 97, 110, 105, 102, 101, 115, 116]⟩, .string ⟨#[109, 97, 110, 105, 102, 101, 115, 116, 46, 116, 109, 112]⟩, .string ⟨#[]⟩, .string ⟨#[48, 49, 50, 51, 52, 53, 54, 55, 56, 57, 48, 49, 50, 51, 52, 53, 54, 55, 56, 57, 48, 49, 50, 51, 52, 53, 54, 55, 56, 57, 48, 49, 50, 51, 52, 53, 54, 55, 56, 57, 48, 49, 50, 51, 52, 53, 54, 55, 56, 57, 48, 49, 50, 51, 52, 53, 54, 55, 56, 57, 48, 49, 50, 51, 52, 53, 54, 55, 56, 57]⟩, .string ⟨#[99]⟩]) (.int .i64 ((2 : Nat) : Int))).run Tryz.prog v = .ok (.string (nmAt 2)) v := fun _ => by kernel_rfl
theorem name_ix3 : ∀ v : World, (Instr.index 95 (.agg #[.string ⟨#[97]⟩, .string ⟨#[98]⟩, .string ⟨#[108, 111, 103, 45, 48, 48, 48, 48, 48, 48, 48, 49]⟩, .string ⟨#[109, 97, 110, 105, 102, 101, 115, 116]⟩, .string ⟨#[109, 97, 110, 105, 102, 101, 115, 116, 46, 116, 109, 112]⟩, .string ⟨#[]⟩, .string ⟨#[48, 49, 50, 51, 52, 53, 54, 55, 56, 57, 48, 49, 50, 51, 52, 53, 54, 55, 56, 57, 48, 49, 50, 51, 52, 53, 54, 55, 56, 57, 48, 49, 50, 51, 52, 53, 54, 55, 56, 57, 48, 49, 50, 51, 52, 53, 54, 55, 56, 57, 48, 49, 50, 51, 52, 53, 54, 55, 56, 57, 48, 49, 50, 51, 52, 53, 54, 55, 56, 57]⟩, .string ⟨#[99]⟩]) (.int .i64 ((3 : Nat) : Int))).run Tryz.prog v = .ok (.string (nmAt 3)) v := fun _ => by kernel_rfl
theorem name_ix4 : ∀ v : World, (Instr.index 95 (.agg #[.string ⟨#[97]⟩, .string ⟨#[98]⟩, .string ⟨#[108, 111, 103, 45, 48, 48, 48, 48, 48, 48, 48, 49]⟩, .string ⟨#[109, 97, 110, 105, 102, 101, 115, 116]⟩, .string ⟨#[109, 97, 110, 105, 102, 101, 115, 116, 46, 116, 109, 112]⟩, .string ⟨#[]⟩, .string ⟨#[48, 49, 50, 51, 52, 53, 54, 55, 56, 57, 48, 49, 50, 51, 52, 53, 54, 55, 56, 57, 48, 49, 50, 51, 52, 53, 54, 55, 56, 57, 48, 49, 50, 51, 52, 53, 54, 55, 56, 57, 48, 49, 50, 51, 52, 53, 54, 55, 56, 57, 48, 49, 50, 51, 52, 53, 54, 55, 56, 57, 48, 49, 50, 51, 52, 53, 54, 55, 56, 57]⟩, .string ⟨#[99]⟩]) (.int .i64 ((4 : Nat) : Int))).run Tryz.prog v = .ok (.string (nmAt 4)) v := fun _ => by kernel_rfl
theorem name_ix5 : ∀ v : World, (Instr.index 95 (.agg #[.string ⟨#[97]⟩, .string ⟨#[98]⟩, .string ⟨#[108, 111, 103, 45, 48, 48, 48, 48, 48, 48, 48, 49]⟩, .string ⟨#[109, 97, 110, 105, 102, 101, 115, 116]⟩, .string ⟨#[109, 97, 110, 105, 102, 101, 115, 116, 46, 116, 109, 112]⟩, .string ⟨#[]⟩, .string ⟨#[48, 49, 50, 51, 52, 53, 54, 55, 56, 57, 48, 49, 50, 51, 52, 53, 54, 55, 56, 57, 48, 49, 50, 51, 52, 53, 54, 55, 56, 57, 48, 49, 50, 51, 52, 53, 54, 55, 56, 57, 48, 49, 50, 51, 52, 53, 54, 55, 56, 57, 48, 49, 50, 51, 52, 53, 54, 55, 56, 57, 48, 49, 50, 51, 52, 53, 54, 55, 56, 57]⟩, .string ⟨#[99]⟩]) (.int .i64 ((5 : Nat) : Int))).run Tryz.prog v = .ok (.string (nmAt 5)) v := fun _ => by kernel_rfl
theorem name_ix6 : ∀ v : World, (Instr.index 95 (.agg #[.string ⟨#[97]⟩, .string ⟨#[98]⟩, .string ⟨#[108, 111, 103, 45, 48, 48, 48, 48, 48, 48, 48, 49]⟩, .string ⟨#[109, 97, 110, 105, 102, 101, 115, 116]⟩, .string ⟨#[109, 97, 110, 105, 102, 101, 115, 116, 46, 116, 109, 112]⟩, .string ⟨#[]⟩, .string ⟨#[48, 49, 50, 51, 52, 53, 54, 55, 56, 57, 48, 49, 50, 51, 52, 53, 54, 55, 56, 57, 48, 49, 50, 51, 52, 53, 54, 55, 56, 57, 48, 49, 50, 51, 52, 53, 54, 55, 56, 57, 48, 49, 50, 51, 52, 53, 54, 55, 56, 57, 48, 49, 50, 51, 52, 53, 54, 55, 56, 57, 48, 49, 50, 51, 52, 53, 54, 55, 56, 57]⟩, .string ⟨#[99]⟩]) (.int .i64 ((6 : Nat) : Int))).run Tryz.prog v = .ok (.string (nmAt 6)) v := fun _ => by kernel_rfl
theorem name_ix7 : ∀ v : World, (Instr.index 95 (.agg #[.string ⟨#[97]⟩, .string ⟨#[98]⟩, .string ⟨#[108, 111, 103, 45, 48, 48, 48, 48, 48, 48, 48, 49]⟩, .string ⟨#[109, 97, 110, 105, 102, 101, 115, 116]⟩, .string ⟨#[109, 97, 110, 105, 102, 101, 115, 116, 46, 116, 109, 112]⟩, .string ⟨#[]⟩, .string ⟨#[48, 49, 50, 51, 52, 53, 54, 55, 56, 57, 48, 49, 50, 51, 52, 53, 54, 55, 56, 57, 48, 49, 50, 51, 52, 53, 54, 55, 56, 57, 48, 49, 50, 51, 52, 53, 54, 55, 56, 57, 48, 49, 50, 51, 52, 53, 54, 55, 56, 57, 48, 49, 50, 51, 52, 53, 54, 55, 56, 57, 48, 49, 50, 51, 52, 53, 54, 55, 56, 57]⟩, .string ⟨#[99]⟩]) (.int .i64 ((7 : Nat) : Int))).run Tryz.prog v = .ok (.string (nmAt 7)) v := fun _ => by kernel_rfl
theorem name_any (z : Int) (w : World) (hz : (Lit.int .i64 z).wf = true) :
    Calls Tryz.prog 19 #[.int .i64 z] w fun e w' => e = .returned (.string (nmAt (z % 8).toNat)) ∧ w' = w := by
  obtain ⟨q, hq, hq8⟩ : ∃ q : Nat, z % 8 = (q : Int) ∧ q < 8 := by
    have q1 := Int.emod_nonneg z (show (8 : Int) ≠ 0 by omega)
    have q2 := Int.emod_lt_of_pos z (show (0 : Int) < 8 by omega)
    exact ⟨(z % 8).toNat, by omega, by omega⟩
  have PL := hide (place_any z 8 (by omega) (by omega) w)
  rw [hq] at PL ⊢
  rw [Int.toNat_natCast]
  have ix : ∀ v : World, (Instr.index 95 (.agg #[.string ⟨#[97]⟩, .string ⟨#[98]⟩, .string ⟨#[108, 111, 103, 45, 48, 48, 48, 48, 48, 48, 48, 49]⟩, .string ⟨#[109, 97, 110, 105, 102, 101, 115, 116]⟩, .string ⟨#[109, 97, 110, 105, 102, 101, 115, 116, 46, 116, 109, 112]⟩, .string ⟨#[]⟩, .string ⟨#[48, 49, 50, 51, 52, 53, 54, 55, 56, 57, 48, 49, 50, 51, 52, 53, 54, 55, 56, 57, 48, 49, 50, 51, 52, 53, 54, 55, 56, 57, 48, 49, 50, 51, 52, 53, 54, 55, 56, 57, 48, 49, 50, 51, 52, 53, 54, 55, 56, 57, 48, 49, 50, 51, 52, 53, 54, 55, 56, 57, 48, 49, 50, 51, 52, 53, 54, 55, 56, 57]⟩, .string ⟨#[99]⟩]) (.int .i64 (q : Int))).run Tryz.prog v = .ok (.string (nmAt q)) v := by
    intro v
    match q, hq8 with
    | 0, _ => exact name_ix0 v
    | 1, _ => exact name_ix1 v
    | 2, _ => exact name_ix2 v
    | 3, _ => exact name_ix3 v
    | 4, _ => exact name_ix4 v
    | 5, _ => exact name_ix5 v
    | 6, _ => exact name_ix6 v
    | 7, _ => exact name_ix7 v
  generalize nmAt q = X at *
  clear hq
  go_enter Tryz.func19, Tryz.ntmps19
  go_wp2_with fail
  with_reducible refine PL.out.mono ?_
  rintro e u ⟨rfl, hu⟩
  rw [hu]
  clear hu PL
  go_wp2
  go_ret
  exact ⟨rfl, rfl⟩

set_option maxHeartbeats 8000000 in
theorem same_any (base : Nat) (w u : World) (g h : Nat) (F : Fs) (m : Nat) (ht : TwoV base w u g h F F) (hL : LimB m F) (hm : m < 1073741824) :
    Calls Tryz.prog 9 #[.pointer (some ⟨g, 0, none⟩), .pointer (some ⟨h, 0, none⟩)] u fun e u' => e = .returned (.bool true) ∧ Below u.heap.size u u' := by
  have HT := hide ht
  have HL := hide hL
  have LI := hide (two_listL ht hL hm)
  have hll : (listF F).length ≤ 2147483648 := by
    have h1 := turnsD_len F.turns F.sure
    have h2 := hL.names
    have h3 := insN_lens (dirF F)
    unfold listF
    unfold dirF at h3 ⊢
    omega
  have t0 : (F.n != F.n) = false := by simp
  have hn0 := two_n ht
  clear ht hL
  go_enter Tryz.func9, Tryz.ntmps9
  go_wp2_with fail
  with_reducible refine LI.out.mono ?_
  rintro e u1 ⟨a1, c1, rfl, o1, b1⟩
  have B1 := hide b1
  have O1 := hide o1
  have T1 := hide (HT.out.below b1)
  have N1 := two_n T1.out
  have LR := hide (fun v (hv : Below u1.heap.size u1 v) => two_listR (T1.out.below hv) HL.out hm)
  generalize listF F = LF at *
  obtain ⟨NL, hNL⟩ : ∃ NL, LF.length = NL := ⟨_, rfl⟩
  rw [hNL] at hll O1 ⊢
  have HNL := hide hNL
  clear b1 o1 LI hn0 hNL
  go_wp2
  refine wp_region_held_drew (S := fun v => v.cell? ⟨h, 3, none⟩ = some (.int .i64 F.n)) (by kernel_rfl) N1 (fun hHeld => ?_)
  refine held_take (i := 0) (d := (some 13)) (v := ?_) rfl rfl (by kernel_rfl) (by kernel_rfl) (by kernel_rfl) (fun _ _ _ h => h) (Or.inl ⟨by rfl, ?_⟩) (by first | assumption | rfl | trivial) ?_
  rotate_left 1
  · (intro w hSw; (try dsimp only at hSw); (try subst hSw); go_simp; try with_reducible rfl)
  simp only [Act.put, List.setIfInBounds_toArray, List.set_cons_zero, List.set_cons_succ]
  refine held_take (i := 1) (d := (some 14)) (v := ?_) rfl rfl (by kernel_rfl) (by kernel_rfl) (by kernel_rfl) (fun _ _ _ h => h) (Or.inl ⟨by rfl, ?_⟩) (by first | assumption | rfl | trivial) ?_
  rotate_left 1
  · (intro w hSw; (try dsimp only at hSw); (try subst hSw); go_simp; try with_reducible rfl)
  simp only [Act.put, List.setIfInBounds_toArray, List.set_cons_zero, List.set_cons_succ]
  refine held_next (i := 2) (by kernel_rfl) rfl (by rfl) (fun K1 hK1 => ?_)
  go_simp
  with_reducible refine (LR.out _ (Below.refl _ _).drew).mono ?_
  rintro e u2 ⟨a2, n2, c2, rfl, hn2, o2, b2⟩
  have BA2 : Hid (Below u1.heap.size u1 u2) := (Below.refl _ _).drew.trans b2
  have N2 := two_n (T1.out.below BA2.out)
  have O1' : Hid (OwnS u2 u.heap.size a1 NL c1 LF) := OwnG.below O1.out BA2.out (Nat.le_refl _)
  have ST := hide (sametx_any u.heap.size _ a1 NL c1 a2 n2 c2 LF u2 O1'.out o2 (by omega))
  clear o2 b2 hn2 LR
  go_wp2_with fail
  refine hK1.out _ _ N2 ?_
  clear hK1
  refine held_next (i := 3) (by kernel_rfl) rfl (by rfl) (fun K1 hK1 => ?_)
  go_simp
  with_reducible refine ST.out.mono ?_
  rintro e u3 ⟨rfl, b3⟩
  have BA3 : Hid (Below u1.heap.size u1 u3) := bel_to BA2.out (Nat.le_refl _) b3
  have T3 := hide (T1.out.below BA3.out)
  have N3 := two_n T3.out
  have CL := hide (two_callsL T3.out)
  clear b3 ST N2
  go_wp2_with fail
  refine hK1.out _ _ N3 ?_
  clear hK1
  refine held_take (i := 4) (d := (some 17)) (v := ?_) rfl rfl (by kernel_rfl) (by kernel_rfl) (by kernel_rfl) (fun _ _ _ h => h) (Or.inl ⟨by rfl, ?_⟩) (by first | assumption | rfl | trivial) ?_
  rotate_left 1
  · (intro w hSw; (try dsimp only at hSw); (try subst hSw); go_simp; try with_reducible rfl)
  simp only [Act.put, List.setIfInBounds_toArray, List.set_cons_zero, List.set_cons_succ]
  refine held_take (i := 5) (d := (some 18)) (v := ?_) rfl rfl (by kernel_rfl) (by kernel_rfl) (by kernel_rfl) (fun _ _ _ h => h) (Or.inl ⟨by rfl, ?_⟩) (by first | assumption | rfl | trivial) ?_
  rotate_left 1
  · (intro w hSw; (try dsimp only at hSw); (try subst hSw); go_simp; try with_reducible rfl)
  simp only [Act.put, List.setIfInBounds_toArray, List.set_cons_zero, List.set_cons_succ]
  refine held_take (i := 6) (d := (some 19)) (v := ?_) rfl rfl (by kernel_rfl) (by kernel_rfl) (by kernel_rfl) (fun _ _ _ h => h) (Or.inl ⟨by rfl, ?_⟩) (by first | assumption | rfl | trivial) ?_
  rotate_left 1
  · (intro w hSw; (try dsimp only at hSw); (try subst hSw); go_simp; try with_reducible rfl)
  simp only [Act.put, List.setIfInBounds_toArray, List.set_cons_zero, List.set_cons_succ]
  refine held_take (i := 8) (d := (some 21)) (v := ?_) rfl rfl (by kernel_rfl) (by kernel_rfl) (by kernel_rfl) (fun _ _ _ h => h) (Or.inl ⟨by rfl, ?_⟩) (by first | assumption | rfl | trivial) ?_
  rotate_left 1
  · (intro w hSw; (try dsimp only at hSw); (try subst hSw); go_simp; try with_reducible rfl)
  simp only [Act.put, List.setIfInBounds_toArray, List.set_cons_zero, List.set_cons_succ]
  refine held_take (i := 9) (d := (some 22)) (v := ?_) rfl rfl (by kernel_rfl) (by kernel_rfl) (by kernel_rfl) (fun _ _ _ h => h) (Or.inl ⟨by rfl, ?_⟩) (by first | assumption | rfl | trivial) ?_
  rotate_left 1
  · (intro w hSw; (try dsimp only at hSw); (try subst hSw); go_simp; try with_reducible rfl)
  simp only [Act.put, List.setIfInBounds_toArray, List.set_cons_zero, List.set_cons_succ]
  refine held_take (i := 10) (d := (some 23)) (v := ?_) rfl rfl (by kernel_rfl) (by kernel_rfl) (by kernel_rfl) (fun _ _ _ h => h) (Or.inl ⟨by rfl, ?_⟩) (by first | assumption | rfl | trivial) ?_
  rotate_left 1
  · (intro w hSw; (try dsimp only at hSw); (try subst hSw); go_simp; try with_reducible rfl)
  simp only [Act.put, List.setIfInBounds_toArray, List.set_cons_zero, List.set_cons_succ]
  refine held_take (i := 11) (d := (some 24)) (v := ?_) rfl rfl (by kernel_rfl) (by kernel_rfl) (by kernel_rfl) (fun _ _ _ h => h) (Or.inl ⟨by rfl, ?_⟩) (by first | assumption | rfl | trivial) ?_
  rotate_left 1
  · (intro w hSw; (try dsimp only at hSw); (try subst hSw); go_simp; try with_reducible rfl)
  simp only [Act.put, List.setIfInBounds_toArray, List.set_cons_zero, List.set_cons_succ]
  refine held_next (i := 7) (by kernel_rfl) rfl (by rfl) (fun K1 hK1 => ?_)
  go_simp
  with_reducible refine CL.out.mono ?_
  rintro e v ⟨rfl, hv⟩
  rw [hv]
  clear hv CL
  go_wp2_with fail
  refine hK1.out _ _ N3 ?_
  clear hK1
  refine held_take (i := 12) (d := (some 25)) (v := ?_) rfl rfl (by kernel_rfl) (by kernel_rfl) (by kernel_rfl) (fun _ _ _ h => h) (Or.inl ⟨by rfl, ?_⟩) (by first | assumption | rfl | trivial) ?_
  rotate_left 1
  · (intro w hSw; (try dsimp only at hSw); (try subst hSw); go_simp; try with_reducible rfl)
  simp only [Act.put, List.setIfInBounds_toArray, List.set_cons_zero, List.set_cons_succ]
  refine held_take (i := 13) (d := (some 26)) (v := ?_) rfl rfl (by kernel_rfl) (by kernel_rfl) (by kernel_rfl) (fun _ _ _ h => h) (Or.inl ⟨by rfl, ?_⟩) (by first | assumption | rfl | trivial) ?_
  rotate_left 1
  · (intro w hSw; (try dsimp only at hSw); (try subst hSw); go_simp; try with_reducible rfl)
  simp only [Act.put, List.setIfInBounds_toArray, List.set_cons_zero, List.set_cons_succ]
  clear hHeld
  refine wpAnyH_done (by kernel_rfl) ?_ _
  have BB := hide (bel_to B1.out (Nat.le_refl _) BA3.out)
  clear T1 T3 N1 N3 BA2 BA3 O1 O1' B1
  go_wp2
  go_loopw [6] (fun i wr => ∃ k : Nat, k ≤ 8 ∧ i = .int .i64 k ∧ Hid (Below u.heap.size u wr)) (fun i _ => 8 - (intOf i).toNat)
  case atStart => exact ⟨0, by omega, rfl, BB.out⟩
  case round =>
    clear BB
    obtain ⟨k, hk, rfl, HW⟩ := hrel
    obtain ⟨v, rfl⟩ : ∃ v, v = wr := ⟨wr, rfl⟩
    by_cases hlt : k < 8
    · have NM := hide (fun v => name_any (k : Int) v (by simp [Lit.wf, IntKind.min, IntKind.max, IntKind.signed, IntKind.bits]; omega))
      rw [show ((k : Int) % 8).toNat = k by omega] at NM
      have NSZ := hide (nmAt_size k)
      obtain ⟨s, hs⟩ : ∃ s, nmAt k = s := ⟨_, rfl⟩
      rw [hs] at NM NSZ
      have i2 : (k : Int) < 8 := by omega
      have T0 := hide (HT.out.below HW.out)
      have RL := hide (two_readL T0.out HL.out hm s (by have := NSZ.out; unfold maxLen; omega))
      clear hs
      go_wp2_with fail
      with_reducible refine (NM.out _).mono ?_
      rintro e v0 ⟨rfl, hv⟩
      rw [hv]
      clear hv
      cases hrd : readF F s with
      | none =>
        rw [hrd] at RL
        go_wp2_with fail
        with_reducible refine RL.out.mono ?_
        rintro e v1 ⟨b1, rfl⟩
        have T1 := hide (T0.out.below b1)
        have RR := hide (two_readR T1.out HL.out hm s)
        rw [hrd] at RR
        have BV := hide (bel_to HW.out (Nat.le_refl _) b1)
        clear b1 RL T0 HW hrd
        go_wp2_with fail
        with_reducible refine (NM.out _).mono ?_
        rintro e v0 ⟨rfl, hv⟩
        rw [hv]
        clear hv
        go_wp2_with fail
        with_reducible refine RR.out.mono ?_
        rintro e v2 ⟨b2, rfl⟩
        have BV2 := hide (bel_to BV.out (Nat.le_refl _) b2)
        have c0 := fun v => string8 (w := v) (a := none) (n := 0) (cap := 0) (zs := []) ⟨rfl, by decide, fun z hz => by simp at hz, Or.inl rfl⟩
        clear b2 RR T1 NM BV
        go_wp2
        go_roundw
        case rel => exact ⟨k + 1, by omega, by go_num, BV2.out⟩
        case measure => simp [intOf]; omega
      | some b =>
        rw [hrd] at RL
        have HBY := hide (readF_byte (two_good T0.out).1 hrd)
        have HBL := hide (readF_len HL.out hrd)
        go_wp2_with fail
        with_reducible refine RL.out.mono ?_
        rintro e v1 ⟨b1, ax, cx, rfl, ox⟩
        have T1 := hide (T0.out.below b1)
        have RR := hide (two_readR T1.out HL.out hm s)
        rw [hrd] at RR
        have BV := hide (bel_to HW.out (Nat.le_refl _) b1)
        have OX := hide ox
        clear b1 ox RL T0 HW hrd
        go_wp2_with fail
        with_reducible refine (NM.out _).mono ?_
        rintro e v0 ⟨rfl, hv⟩
        rw [hv]
        clear hv
        go_wp2_with fail
        with_reducible refine RR.out.mono ?_
        rintro e v2 ⟨b2, ay, cy, rfl, oy⟩
        have BV2 := hide (bel_to BV.out (Nat.le_refl _) b2)
        have r1 := string8 (cap := cx) (ownB_row (OwnG.below OX.out b2 (Nat.le_refl _)) (by have := HBL.out; omega) HBY.out)
        have r2 := string8 (cap := cy) (ownB_row oy (by have := HBL.out; omega) HBY.out)
        obtain ⟨ST, hST⟩ : ∃ ST, strOfNums b = ST := ⟨_, rfl⟩
        obtain ⟨LB, hLB⟩ : ∃ LB, b.length = LB := ⟨_, rfl⟩
        rw [hST] at r1 r2
        rw [hLB] at r1 r2 ⊢
        have t1 : (ST.toList != ST.toList) = false := by simp
        have t2 : (ST.toList == ST.toList) = true := by simp
        clear b2 oy RR T1 NM BV OX hST hLB HBY HBL
        go_wp2
        go_roundw
        case rel => exact ⟨k + 1, by omega, by go_num, BV2.out⟩
        case measure => simp [intOf]; omega
    · have i2 : ¬ (k : Int) < 8 := by omega
      go_wp2
      go_ret
      exact ⟨rfl, HW.out⟩
end Go.Proofs.YthlkmjaflomflaaGreat
