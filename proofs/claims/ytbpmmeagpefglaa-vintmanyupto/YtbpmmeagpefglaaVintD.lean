/-
  What vint.GetText and PutRise come to: contracts, for every world.
  Conditions: each number fits its kind; the slices show their bytes and numbers; where bytes are put or a list is made, there is room for them.
-/
import Derived.Test.YtbpmmeagpefglaaVintC
import Derived.BigRegion
import Derived.WalkLawsBesides
namespace Go.Proofs.Ytbpmmeagpefglaa
open Go.RowKit

/-- 'string(b)' of a slice that shows its bytes. -/
theorem row_string {w : World} {a : Option Addr} {n cap : Nat} {zs : List Int} (hr : Row .u8 w a n zs) :
    (convert 25 9 (.slice a n cap)).run Try.prog w = .ok (.string (strOfNums zs)) w := by
  obtain ⟨h1, _, _, rfl | ⟨b, off, rfl, hc⟩⟩ := hr
  · have hz : zs = [] := List.length_eq_zero_iff.1 h1
    subst hz
    rw [run_convert_bytes_string w _ _ 5 _ 0 cap Try.underlying25 Try.underlying5 Try.underlying9]
    cases a <;> simp [Conv.bytesToString, loadCells] <;> rfl
  · exact run_convert_bytes_arg w _ _ Try.underlying25 Try.underlying5 b off n cap zs h1 hc _ Try.underlying9

/-- What GetText answers. -/
def textE (r : Option (List Int × Int)) : Ending :=
  match r with
  | none => .returned (.tuple #[.string ByteArray.empty, .int .i64 0, .bool false])
  | some p => .returned (.tuple #[.string (strOfNums p.1), .int .i64 p.2, .bool true])

theorem i64_wf {x : Int} (h0 : -9223372036854775808 ≤ x) (h1 : x ≤ 9223372036854775807) : (Lit.int .i64 x).wf = true := by
  simp [Lit.wf, IntKind.min, IntKind.max, IntKind.signed, IntKind.bits]
  omega

set_option maxHeartbeats 400000 in
theorem gettext_any (at' most : Int) (a : Option Addr) (n cap : Nat) (zs : List Int) (w : World) (ha : (Lit.int .i64 at').wf = true) (hm : (Lit.int .i64 most).wf = true) (hc : n ≤ cap) (hr : Row .u8 w a n zs) :
    Calls Try.prog 13 #[.slice a n cap, .int .i64 at', .int .i64 most] w fun e w' => e = textE (textS zs at' most) ∧ w' = w := by
  have G := hide (size_any at' most a n cap zs w ha hm hc hr)
  have hl := hr.1
  have hn := hr.2.1
  cases hg : sizeS zs at' most with
  | none =>
    rw [hg] at G
    simp only [sizeE] at G
    unfold textS
    rw [hg]
    simp only [textE]
    clear hg hl hr ha hm
    go_enter Try.func13, Try.ntmps13
    go_wp2_with fail
    refine G.out.mono ?_
    rintro e w' ⟨rfl, rfl⟩
    go_wp2
    go_ret3
    exact ⟨rfl, rfl⟩
  | some p =>
    obtain ⟨v, fr⟩ := p
    obtain ⟨_, v0, _, f0, hle⟩ := sizeS_some hr.bytes hg
    rw [hg] at G
    simp only [sizeE] at G
    unfold textS
    rw [hg]
    simp only [textE]
    obtain ⟨m, rfl⟩ := Int.eq_ofNat_of_zero_le v0
    obtain ⟨f, rfl⟩ := Int.eq_ofNat_of_zero_le f0
    rw [Int.toNat_natCast, Int.toNat_natCast]
    have hfm : f + m ≤ n := by omega
    have hsl := slice_mid a n cap f (f + m) (by omega) (by omega) w
    rw [show f + m - f = m from by omega] at hsl
    have hst := row_string (cap := cap - f) ((hr.from f (by omega) hc).to m (by omega))
    generalize (if cap = f then a else a.map (·.add f)) = a2 at *
    generalize strOfNums ((zs.drop f).take m) = S at *
    clear hg hl hr ha hm hle v0 f0
    rw [show ((f + m : Nat) : Int) = (f : Int) + (m : Int) from rfl] at hsl
    go_enter Try.func13, Try.ntmps13
    go_wp2_with fail
    refine G.out.mono ?_
    rintro e w' ⟨rfl, rfl⟩
    go_wp2
    go_ret3
    exact ⟨rfl, rfl⟩

theorem drop_step {ls : List Int} {k : Nat} (h : k < ls.length) : ls.drop k = ls.getD k 0 :: ls.drop (k + 1) := by
  rw [List.drop_eq_getElem_cons h, List.getD_eq_getElem?_getD, List.getElem?_eq_getElem h]
  rfl

set_option maxHeartbeats 1000000 in
theorem putrise_any (a : Option Addr) (n cap : Nat) (zs : List Int) (b : Option Addr) (m capb : Nat) (ls : List Int) (w : World) (hn : n + 10 * m ≤ 211106232532960) (hc : n ≤ cap) (hr : Row .u8 w a n zs) (hl : Row .u64 w b m ls) :
    Calls Try.prog 25 #[.slice a n cap, .slice b m capb] w fun e w' => ∃ a' cap', e = .returned (.slice a' (n + (putR ls).length) cap') ∧ Mine w' w.heap.size a' (n + (putR ls).length) cap' (zs ++ putR ls) ∧ Below w.heap.size w w' := by
  have A := hide (fun w1 => apart_any a n cap hc w1)
  have B := hide (number_any (m : Int) w.heap.size a n n zs w (w64_len (by omega)) (by omega) (Nat.le_refl _) (Or.inr ⟨rfl, hr⟩))
  have HLen := hide hl.1
  have HR := hide hl
  have hp := (putS_len (m : Int)).2
  have hP : Hid (zs ++ putR ls = zs ++ putS (m : Int) ++ riseB 18446744073709551615 (ls.drop 0)) := by
    show _ = _
    unfold putR
    rw [hl.1, List.drop_zero, List.append_assoc]
  have hZ : Hid (zs.length = n) := hr.1
  clear hr hl
  go_enter Try.func25, Try.ntmps25
  go_wp2_with fail
  refine (A.out _).mono ?_
  rintro e w1 ⟨rfl, rfl⟩
  go_wp2_with fail
  refine B.out.mono ?_
  rintro e w2 ⟨a2, cap2, rfl, h1, h2⟩
  have H1 := hide h1
  have H2 := hide h2
  clear h1 h2 A B
  generalize (putS (m : Int)).length = q at *
  go_wp2
  go_loopw [0, 5, 16] (fun x p i wr => ∃ (ar : Option Addr) (nr capr k : Nat) (acc : List Int) (P : Int), k ≤ m ∧ x = .slice ar nr capr ∧ p = .int .u64 P ∧ i = .int .i64 k ∧ 0 ≤ P ∧ P ≤ 18446744073709551615 ∧ nr ≤ n + 10 + 10 * k ∧ Hid (zs ++ putR ls = acc ++ riseB P (ls.drop k)) ∧ Hid (Mine wr w1.heap.size ar nr capr acc) ∧ Hid (Below w1.heap.size w1 wr)) (fun _ _ i _ => m - (intOf i).toNat)
  case atStart => exact ⟨a2, n + q, cap2, 0, _, 18446744073709551615, by omega, rfl, rfl, rfl, by omega, by omega, by omega, hP, H1, H2⟩
  case round =>
    obtain ⟨ar, nr, capr, k, acc, P, hk, rfl, rfl, rfl, P0, P1, hnr, HP, HO, HW⟩ := hrel
    clear H1 H2 hP
    by_cases hlt : k < m
    · have hrow := HR.out.below HW.out (Nat.le_refl _)
      have hb := hrow.word k
      have HD := hide (drop_step (ls := ls) (k := k) (by rw [HLen.out]; exact hlt))
      obtain ⟨_, _, _, h0 | ⟨bb, off, rfl, hcell⟩⟩ := hrow
      · omega
      have hck := hcell k hlt
      clear hcell
      generalize ls.getD k 0 = z at *
      obtain ⟨z0, z1⟩ := hb
      have hsz : w1.heap.size ≤ wr.heap.size := HW.out.size
      have C := hide (number_any ((z - P - 1) % 18446744073709551616) w1.heap.size ar nr capr acc wr (w64_mod _) (by omega) hsz (Or.inl HO.out))
      have hq := (putS_len ((z - P - 1) % 18446744073709551616)).2
      have HE : Hid (zs ++ putR ls = (acc ++ putS ((z - P - 1) % 18446744073709551616)) ++ riseB z (ls.drop (k + 1))) := by
        show _ = _
        rw [HP.out, HD.out, riseB, List.append_assoc]
      have hmod : IntKind.u64.wrap (IntKind.u64.wrap (z - P) - 1) = (z - P - 1) % 18446744073709551616 := by
        rw [IntKind.wrap_u64, IntKind.wrap_u64]; omega
      generalize (z - P - 1) % 18446744073709551616 = D at *
      clear HD
      go_wp2_with fail
      refine C.out.mono ?_
      rintro e w' ⟨a', cap', rfl, h1, h2⟩
      have H1 := hide h1
      have H2 : Hid (Below w1.heap.size w1 w') := HW.out.trans h2
      clear h1 h2 C hmod hck HO HW HP
      generalize (putS D).length = r at *
      go_wp2
      go_roundw
      case rel => exact ⟨a', nr + r, cap', k + 1, _, z, by omega, rfl, rfl, by go_num, z0, by omega, by omega, HE, H1, H2⟩
      case measure => simp [intOf]; omega
    · have : k = m := by omega
      subst this
      have HF : Hid (acc = zs ++ putR ls ∧ nr = n + (putR ls).length) := by
        have h1 := HP.out
        rw [List.drop_eq_nil_of_le (by rw [HLen.out]; omega), riseB, List.append_nil] at h1
        refine ⟨h1.symm, ?_⟩
        rw [← HO.out.len, ← h1, List.length_append, hZ.out]
      clear HP
      go_wp2
      go_ret
      obtain ⟨h1, h2⟩ := HF.out
      have HO' := HO.out
      rw [h1, h2] at HO'
      refine ⟨ar, capr, ?_, HO', HW⟩
      show Ending.returned (.slice ar nr capr) = _
      rw [h2]
end Go.Proofs.Ytbpmmeagpefglaa
