/-
  Numbers and texts put one behind the other come back one behind the other; the document's examples hold. The call returns true, and its arguments read as they did.
  Conditions: the input is of bulk at most 1048576.
-/
import Derived.Test.YtbpmmeagpefglaaVintE
import Derived.Test.YtbpmmeagpefglaaVintJ
import Derived.Deep.CondSized
import Derived.ProofKit
import Derived.OpenShut
import Derived.ShutString
import Derived.ChangeOld
import Derived.SizedLaws
namespace Go.Proofs.Ytbpmmeagpefglaa
open Go.RowKit

/-- The number and the text at a place, as bytes. -/
def pieceN (ls : List Int) (i : Nat) : List Int := if i < ls.length then putS (ls.getD i 0) else []
def pieceT (ss : List ByteArray) (i : Nat) : List Int := if i < ss.length then putT (numsOf (ss.getD i ByteArray.empty)) else []
/-- All that is put ahead of a place. -/
def mixed (ls : List Int) (ss : List ByteArray) : Nat → List Int
  | 0 => []
  | i + 1 => mixed ls ss i ++ pieceN ls i ++ pieceT ss i

theorem putT_len (s : ByteArray) (h : s.size ≤ 1048576) : (putT (numsOf s)).length ≤ 1048586 := by
  have := putS_len ((numsOf s).length : Int)
  have := numsOf_len s
  unfold putT
  rw [List.length_append]; omega
theorem pieceN_len (ls : List Int) (i : Nat) : (pieceN ls i).length ≤ 10 := by
  unfold pieceN
  split
  · exact (putS_len _).2
  · exact Nat.zero_le _
theorem pieceT_len {ss : List ByteArray} (hs : ∀ i, (ss.getD i ByteArray.empty).size ≤ 1048576) (i : Nat) : (pieceT ss i).length ≤ 1048586 := by
  unfold pieceT
  split
  · exact putT_len _ (hs i)
  · exact Nat.zero_le _
theorem mixed_len (ls : List Int) {ss : List ByteArray} (hs : ∀ i, (ss.getD i ByteArray.empty).size ≤ 1048576) (i : Nat) : (mixed ls ss i).length ≤ 1048596 * i := by
  induction i with
  | zero => simp [mixed]
  | succ i ih =>
    have h1 := pieceN_len ls i
    have h2 := pieceT_len hs i
    simp only [mixed, List.length_append]; omega
theorem pieceN_byte {ls : List Int} (hw : ∀ i, W64 (ls.getD i 0)) (i : Nat) : Bytes8 (pieceN ls i) := by
  unfold pieceN
  split
  · exact putS_byte (hw i)
  · intro z hz; simp at hz
theorem pieceT_byte {ss : List ByteArray} (hs : ∀ i, (ss.getD i ByteArray.empty).size ≤ 1048576) (i : Nat) : Bytes8 (pieceT ss i) := by
  unfold pieceT
  split
  · exact Bytes8.append (putS_byte (w64_len (by rw [numsOf_len]; have := hs i; omega))) (fun z hz => u8_of_wf (numsOf_wf _ z hz))
  · intro z hz; simp at hz
theorem mixed_byte {ls : List Int} {ss : List ByteArray} (hw : ∀ i, W64 (ls.getD i 0)) (hs : ∀ i, (ss.getD i ByteArray.empty).size ≤ 1048576) (i : Nat) : Bytes8 (mixed ls ss i) := by
  induction i with
  | zero => intro z hz; simp [mixed] at hz
  | succ i ih => exact Bytes8.append (Bytes8.append ih (pieceN_byte hw i)) (pieceT_byte hs i)
theorem mixed_more (ls : List Int) (ss : List ByteArray) (i d : Nat) : ∃ r, mixed ls ss (i + d) = mixed ls ss i ++ r := by
  induction d with
  | zero => exact ⟨[], by simp⟩
  | succ d ih =>
    obtain ⟨r, h⟩ := ih
    exact ⟨r ++ pieceN ls (i + d) ++ pieceT ss (i + d), by rw [← Nat.add_assoc, mixed, h]; simp⟩
theorem mixed_split (ls : List Int) (ss : List ByteArray) (i n : Nat) (h : i < n) : ∃ r, mixed ls ss n = mixed ls ss i ++ (pieceN ls i ++ (pieceT ss i ++ r)) := by
  obtain ⟨r, hr⟩ := mixed_more ls ss (i + 1) (n - (i + 1))
  refine ⟨r, ?_⟩
  rw [show n = i + 1 + (n - (i + 1)) from by omega, hr, mixed]
  simp

set_option maxRecDepth 100000 in
set_option maxHeartbeats 4000000 in
theorem walk_many (al : Option Addr) (nl cl : Nat) (zl : List Int) (ax : Option Addr) (ns cs : Nat) (zs : List ByteArray) (w : World)
    (w0 : IsRow .u64 w al nl cl zl) (_b0 : cl ≤ 1048576) (w1 : IsTexts w ax ns cs zs) :
    Calls Try.prog 3 #[.slice al nl cl, .slice ax ns cs] w fun e w' => e = .returned (.bool true) ∧ Below w.heap.size w w' := by
  obtain ⟨hl1, hl2, hl3, rl⟩ := row_of w0
  obtain ⟨hs1, hs2, rs⟩ := texts_of w1
  clear w0 w1 hl2 hl3
  generalize zl.take nl = ls at *
  generalize zs.take ns = ss at *
  have RL := hide rl
  have RS := hide rs
  have LL := hide rl.1
  have LS := hide rs.1
  have WL := hide rl.word
  have WS := hide rs.small
  clear rl rs
  by_cases big : nl ≤ 100 ∧ ns ≤ 100
  case neg =>
    by_cases b1 : nl ≤ 100
    · have b2 : 100 < ns := by omega
      have t1 : ¬ (100 < (nl : Int)) := by omega
      have t2 : (100 < (ns : Int)) := by omega
      go_enter Try.func3, Try.ntmps3
      go_wp2_with fail
      refine (awake_any _).mono ?_
      rintro e wa ⟨rfl, ka⟩
      go_wp2
      go_ret
      exact ⟨rfl, ka⟩
    · have t2 : (100 < (nl : Int)) := by omega
      go_enter Try.func3, Try.ntmps3
      go_wp2_with fail
      refine (awake_any _).mono ?_
      rintro e wa ⟨rfl, ka⟩
      go_wp2
      go_ret
      exact ⟨rfl, ka⟩
  obtain ⟨g1, g2⟩ := big
  have t1 : ¬ (100 < (nl : Int)) := by omega
  have t2 : ¬ (100 < (ns : Int)) := by omega
  have ML := hide (mixed_len ls WS.out)
  have MB := hide (mixed_byte WL.out WS.out)
  obtain ⟨N, hN⟩ : ∃ N, N = max nl ns := ⟨_, rfl⟩
  have hN1 : nl ≤ N := by omega
  have hN2 : ns ≤ N := by omega
  have hN3 : N ≤ 100 := by omega
  have hN4 : N = nl ∨ N = ns := by omega
  have hN5 : ∀ k, k < N → k < nl ∨ k < ns := by intro k; omega
  have HN5 := hide hN5
  clear hN hN5
  go_enter Try.func3, Try.ntmps3
  go_wp2
  clear t1 t2
  go_loopw [5, 6] (fun x i wr => ∃ (ar : Option Addr) (nr capr k : Nat), x = .slice ar nr capr ∧ i = .int .i64 k ∧ k ≤ N ∧ nr ≤ 1048596 * k ∧ nr ≤ capr ∧ Hid (Row .u8 wr ar nr (mixed ls ss k)) ∧ Hid (Below w.heap.size w wr)) (fun _ i _ => N - (intOf i).toNat)
  case atStart => exact ⟨none, 0, 0, 0, rfl, rfl, by omega, by omega, by omega, nil_row .u8 _ none, Below.refl _ _⟩
  case round =>
    obtain ⟨ar, nr, capr, k, rfl, rfl, hk, hnr, hcr, HR, HW⟩ := hrel
    by_cases hlt : k < N
    · have hnr' : nr ≤ 104859600 := by omega
      have hk' : k < 100 := by omega
      by_cases c1 : k < nl
      · have hrow := RL.out.below HW.out (Nat.le_refl _)
        obtain ⟨_, _, _, h0 | ⟨bb, off, rfl, hcell⟩⟩ := hrow
        · omega
        have hck := hcell k c1
        clear hcell
        have C := hide (put_any (ls.getD k 0) ar nr capr _ wr (WL.out k) (by omega) hcr HR.out)
        have hq := (putS_len (ls.getD k 0)).2
        have EN : Hid (pieceN ls k = putS (ls.getD k 0)) := by
          show _ = _
          unfold pieceN
          rw [if_pos (by rw [LL.out]; exact c1)]
        have BN : Hid (Bytes8 (mixed ls ss k ++ putS (ls.getD k 0))) := by
          have := Bytes8.append (MB.out k) (pieceN_byte WL.out k)
          rw [EN.out] at this
          exact this
        obtain ⟨z, hz⟩ : ∃ z, ls.getD k 0 = z := ⟨_, rfl⟩
        rw [hz] at hck C hq EN BN
        clear hz
        obtain ⟨q, hqq⟩ : ∃ q, (putS z).length = q := ⟨_, rfl⟩
        rw [hqq] at C hq
        clear hqq
        have c1' : (k : Int) < nl := by omega
        by_cases c2 : k < ns
        · have c2' : (k : Int) < ns := by omega
          go_wp2_with fail
          refine C.out.mono ?_
          rintro e w2 ⟨a2, cap2, rfl, h1, h2⟩
          have HW2 : Hid (Below w.heap.size w w2) := bel_to HW.out (Nat.le_refl _) h2
          have HR2 := hide (h1.row (by omega) (fits_wf BN.out))
          have hc2 := h1.capped.1
          clear h1 h2 C HW HR hck
          obtain ⟨_, _, h0 | ⟨bs, offs, rfl, hcell⟩⟩ := RS.out.below HW2.out (Nat.le_refl _)
          · omega
          have hck := hcell k c2
          clear hcell
          have hsz := WS.out k
          have C := hide (puttext_any (ss.getD k ByteArray.empty) a2 (nr + q) cap2 _ w2 (by omega) hc2 HR2.out)
          have hq2 := putT_len (ss.getD k ByteArray.empty) hsz
          have EM : Hid (mixed ls ss (k + 1) = (mixed ls ss k ++ putS z) ++ putT (numsOf (ss.getD k ByteArray.empty))) := by
            show _ = _
            rw [mixed, EN.out, pieceT, if_pos (by rw [LS.out]; exact c2)]
          obtain ⟨s, hs⟩ : ∃ s, ss.getD k ByteArray.empty = s := ⟨_, rfl⟩
          rw [hs] at hck C hq2 EM hsz
          clear hs
          obtain ⟨q2, hqq⟩ : ∃ q, (putT (numsOf s)).length = q := ⟨_, rfl⟩
          rw [hqq] at C hq2
          clear hqq HR2
          go_wp2_with fail
          refine C.out.mono ?_
          rintro e w3 ⟨a3, cap3, rfl, h1, h2⟩
          have HW3 : Hid (Below w.heap.size w w3) := bel_to HW2.out (Nat.le_refl _) h2
          rw [← EM.out] at h1
          have HR3 := hide (h1.row (by omega) (fits_wf (MB.out (k + 1))))
          have hc3 := h1.capped.1
          clear h1 h2 C HW2 hck
          go_wp2
          go_roundw
          case rel => exact ⟨a3, nr + q + q2, cap3, k + 1, rfl, by go_num, by omega, by omega, hc3, HR3, HW3⟩
          case measure => simp [intOf]; omega
        · have c2' : ¬ ((k : Int) < ns) := by omega
          have EM : Hid (mixed ls ss (k + 1) = mixed ls ss k ++ putS z) := by
            show _ = _
            rw [mixed, EN.out, pieceT, if_neg (by rw [LS.out]; exact c2), List.append_nil]
          go_wp2_with fail
          refine C.out.mono ?_
          rintro e w2 ⟨a2, cap2, rfl, h1, h2⟩
          have HW2 : Hid (Below w.heap.size w w2) := bel_to HW.out (Nat.le_refl _) h2
          rw [← EM.out] at h1
          have HR2 := hide (h1.row (by omega) (fits_wf (MB.out (k + 1))))
          have hc2 := h1.capped.1
          clear h1 h2 C HW HR hck
          go_wp2
          go_roundw
          case rel => exact ⟨a2, nr + q, cap2, k + 1, rfl, by go_num, by omega, by omega, hc2, HR2, HW2⟩
          case measure => simp [intOf]; omega
      · have c2 : k < ns := by have := HN5.out k hlt; omega
        have c1' : ¬ ((k : Int) < nl) := by omega
        have c2' : (k : Int) < ns := by omega
        obtain ⟨_, _, h0 | ⟨bs, offs, rfl, hcell⟩⟩ := RS.out.below HW.out (Nat.le_refl _)
        · omega
        have hck := hcell k c2
        clear hcell
        have hsz := WS.out k
        have C := hide (puttext_any (ss.getD k ByteArray.empty) ar nr capr _ wr (by omega) hcr HR.out)
        have hq2 := putT_len (ss.getD k ByteArray.empty) hsz
        have EM : Hid (mixed ls ss (k + 1) = mixed ls ss k ++ putT (numsOf (ss.getD k ByteArray.empty))) := by
          show _ = _
          rw [mixed, pieceN, if_neg (by rw [LL.out]; exact c1), List.append_nil, pieceT, if_pos (by rw [LS.out]; exact c2)]
        obtain ⟨s, hs⟩ : ∃ s, ss.getD k ByteArray.empty = s := ⟨_, rfl⟩
        rw [hs] at hck C hq2 EM hsz
        clear hs
        obtain ⟨q2, hqq⟩ : ∃ q, (putT (numsOf s)).length = q := ⟨_, rfl⟩
        rw [hqq] at C hq2
        clear hqq HR
        go_wp2_with fail
        refine C.out.mono ?_
        rintro e w3 ⟨a3, cap3, rfl, h1, h2⟩
        have HW3 : Hid (Below w.heap.size w w3) := bel_to HW.out (Nat.le_refl _) h2
        rw [← EM.out] at h1
        have HR3 := hide (h1.row (by omega) (fits_wf (MB.out (k + 1))))
        have hc3 := h1.capped.1
        clear h1 h2 C HW hck
        go_wp2
        go_roundw
        case rel => exact ⟨a3, nr + q2, cap3, k + 1, rfl, by go_num, by omega, by omega, hc3, HR3, HW3⟩
        case measure => simp [intOf]; omega
    · have : k = N := by omega
      subst this
      have c1' : ¬ ((k : Int) < nl) := by omega
      have c2' : ¬ ((k : Int) < ns) := by omega
      go_wp2
      clear c1' c2'
      have hnr' : nr ≤ 104859600 := by omega
      have HT : Hid ((mixed ls ss k).length = nr) := HR.out.1
      go_loopw [7, 8] (fun x i wr => ∃ (p j : Nat), x = .int .i64 p ∧ i = .int .i64 j ∧ j ≤ k ∧ p ≤ 104859600 ∧ Hid ((mixed ls ss j).length = p) ∧ Hid (Row .u8 wr ar nr (mixed ls ss k)) ∧ Hid (Below w.heap.size w wr)) (fun _ i _ => k - (intOf i).toNat)
      case atStart => exact ⟨0, 0, rfl, rfl, by omega, by omega, rfl, HR, HW⟩
      case round =>
        clear HR HW
        obtain ⟨p, j, rfl, rfl, hj, hp, HP, HR, HW⟩ := hrel
        by_cases hlt : j < k
        · have hj' : j < 100 := by omega
          obtain ⟨r, hr⟩ := mixed_split ls ss j k hlt
          have HS := hide hr
          clear hr
          have ML1 := ML.out (j + 1)
          rw [mixed, List.length_append, List.length_append, HP.out] at ML1
          by_cases c1 : j < nl
          · have c1' : (j : Int) < nl := by omega
            obtain ⟨_, _, _, h0 | ⟨bb, off, rfl, hcell⟩⟩ := RL.out.below HW.out (Nat.le_refl _)
            · omega
            have hck := hcell j c1
            clear hcell
            have EN : Hid (pieceN ls j = putS (ls.getD j 0)) := by
              show _ = _
              unfold pieceN
              rw [if_pos (by rw [LL.out]; exact c1)]
            have G := hide (get_any (p : Int) ar nr capr _ wr (i64_wf (by omega) (by omega)) hcr HR.out)
            have HG : Hid (getS (mixed ls ss k) (p : Int) = some (ls.getD j 0, ((p + (putS (ls.getD j 0)).length : Nat) : Int))) := by
              show _ = _
              rw [HS.out, EN.out, ← HP.out]
              exact getS_at (WL.out j) _ _
            rw [HG.out] at G
            simp only [gotE] at G
            rw [EN.out] at ML1
            obtain ⟨q, hqq⟩ : ∃ q, (putS (ls.getD j 0)).length = q := ⟨_, rfl⟩
            have hq := (putS_len (ls.getD j 0)).2
            have HQ : Hid ((mixed ls ss j ++ putS (ls.getD j 0)).length = p + q) := by
              show _ = _
              rw [List.length_append, HP.out, hqq]
            rw [hqq] at G ML1 hq
            clear hqq HG
            have hzz := WL.out j
            obtain ⟨z, hz⟩ : ∃ z, ls.getD j 0 = z := ⟨_, rfl⟩
            rw [hz] at hck G EN HQ hzz
            clear hz
            obtain ⟨z0, z1⟩ := hzz
            have e1 : (z != z) = false := by simp
            by_cases c2 : j < ns
            · have c2' : (j : Int) < ns := by omega
              go_wp2_with fail
              refine G.out.mono ?_
              rintro e w2 ⟨rfl, rfl⟩
              obtain ⟨_, _, h0 | ⟨bs, offs, rfl, hcells⟩⟩ := RS.out.below HW.out (Nat.le_refl _)
              · omega
              have hckt := hcells j c2
              clear hcells G
              have hsz := WS.out j
              have ET : Hid (pieceT ss j = putT (numsOf (ss.getD j ByteArray.empty))) := by
                show _ = _
                rw [pieceT, if_pos (by rw [LS.out]; exact c2)]
              have G := hide (gettext_any ((p + q : Nat) : Int) ((ss.getD j ByteArray.empty).size : Int) ar nr capr _ w2 (i64_wf (by omega) (by omega)) (i64_wf (by omega) (by omega)) hcr HR.out)
              have HG : Hid (textS (mixed ls ss k) ((p + q : Nat) : Int) ((ss.getD j ByteArray.empty).size : Int) = some (numsOf (ss.getD j ByteArray.empty), ((p + q + (putT (numsOf (ss.getD j ByteArray.empty))).length : Nat) : Int))) := by
                show _ = _
                rw [HS.out, ← List.append_assoc, EN.out, ET.out, ← HQ.out, ← numsOf_len]
                exact textS_at (by rw [numsOf_len]; omega) _ _
              rw [HG.out] at G
              simp only [textE, strOf_nums] at G
              rw [ET.out] at ML1
              have EM : Hid (mixed ls ss (j + 1) = (mixed ls ss j ++ putS z) ++ putT (numsOf (ss.getD j ByteArray.empty))) := by
                show _ = _
                rw [mixed, EN.out, ET.out]
              obtain ⟨q2, hqq⟩ : ∃ q, (putT (numsOf (ss.getD j ByteArray.empty))).length = q := ⟨_, rfl⟩
              have HQ2 : Hid ((mixed ls ss (j + 1)).length = p + q + q2) := by
                show _ = _
                rw [EM.out, List.length_append, HQ.out, hqq]
              rw [hqq] at G ML1
              clear hqq HG EM
              obtain ⟨s, hs⟩ : ∃ s, ss.getD j ByteArray.empty = s := ⟨_, rfl⟩
              rw [hs] at hckt G hsz ET
              clear hs
              go_wp2_with fail
              refine G.out.mono ?_
              rintro e w3 ⟨rfl, rfl⟩
              clear G
              go_wp2
              go_roundw
              case rel => exact ⟨p + q + q2, j + 1, rfl, by go_num, by omega, by omega, HQ2, HR, HW⟩
              case measure => simp [intOf]; omega
            · have c2' : ¬ ((j : Int) < ns) := by omega
              have ET : Hid (pieceT ss j = []) := by
                show _ = _
                rw [pieceT, if_neg (by rw [LS.out]; exact c2)]
              rw [ET.out] at ML1
              have HQ2 : Hid ((mixed ls ss (j + 1)).length = p + q) := by
                show _ = _
                rw [mixed, EN.out, ET.out, List.append_nil, HQ.out]
              go_wp2_with fail
              refine G.out.mono ?_
              rintro e w2 ⟨rfl, rfl⟩
              clear G
              go_wp2
              go_roundw
              case rel => exact ⟨p + q, j + 1, rfl, by go_num, by omega, by simp at ML1; omega, HQ2, HR, HW⟩
              case measure => simp [intOf]; omega
          · have c2 : j < ns := by have := HN5.out j hlt; omega
            have c1' : ¬ ((j : Int) < nl) := by omega
            have c2' : (j : Int) < ns := by omega
            obtain ⟨_, _, h0 | ⟨bs, offs, rfl, hcells⟩⟩ := RS.out.below HW.out (Nat.le_refl _)
            · omega
            have hckt := hcells j c2
            clear hcells
            have hsz := WS.out j
            have EN : Hid (pieceN ls j = []) := by
              show _ = _
              rw [pieceN, if_neg (by rw [LL.out]; exact c1)]
            have ET : Hid (pieceT ss j = putT (numsOf (ss.getD j ByteArray.empty))) := by
              show _ = _
              rw [pieceT, if_pos (by rw [LS.out]; exact c2)]
            have G := hide (gettext_any (p : Int) ((ss.getD j ByteArray.empty).size : Int) ar nr capr _ wr (i64_wf (by omega) (by omega)) (i64_wf (by omega) (by omega)) hcr HR.out)
            have HG : Hid (textS (mixed ls ss k) (p : Int) ((ss.getD j ByteArray.empty).size : Int) = some (numsOf (ss.getD j ByteArray.empty), ((p + (putT (numsOf (ss.getD j ByteArray.empty))).length : Nat) : Int))) := by
              show _ = _
              rw [HS.out, EN.out, List.nil_append, ET.out, ← HP.out, ← numsOf_len]
              exact textS_at (by rw [numsOf_len]; omega) _ _
            rw [HG.out] at G
            simp only [textE, strOf_nums] at G
            rw [EN.out, ET.out] at ML1
            obtain ⟨q2, hqq⟩ : ∃ q, (putT (numsOf (ss.getD j ByteArray.empty))).length = q := ⟨_, rfl⟩
            have HQ2 : Hid ((mixed ls ss (j + 1)).length = p + q2) := by
              show _ = _
              rw [mixed, EN.out, ET.out, List.append_nil, List.length_append, HP.out, hqq]
            rw [hqq] at G ML1
            clear hqq HG
            obtain ⟨s, hs⟩ : ∃ s, ss.getD j ByteArray.empty = s := ⟨_, rfl⟩
            rw [hs] at hckt G hsz ET
            clear hs
            go_wp2_with fail
            refine G.out.mono ?_
            rintro e w3 ⟨rfl, rfl⟩
            clear G
            go_wp2
            go_roundw
            case rel => exact ⟨p + q2, j + 1, rfl, by go_num, by omega, by simp at ML1; omega, HQ2, HR, HW⟩
            case measure => simp [intOf]; omega
        · have : j = k := by omega
          subst this
          have hpn : nr = p := by rw [← HT.out, HP.out]
          subst hpn
          have c1' : ¬ ((j : Int) < nl) := by omega
          have c2' : ¬ ((j : Int) < ns) := by omega
          have G := hide (get_any (nr : Int) ar nr capr _ wr (i64_wf (by omega) (by omega)) hcr HR.out)
          have HG : Hid (getS (mixed ls ss j) (nr : Int) = none) := by
            show _ = _
            rw [← HP.out]
            exact getS_end _
          rw [HG.out] at G
          simp only [gotE] at G
          clear HG
          go_wp2_with fail
          refine G.out.mono ?_
          rintro e w2 ⟨rfl, rfl⟩
          go_wp2_with fail
          refine (awake_any _).mono ?_
          rintro e wa ⟨rfl, ka⟩
          have KA : Hid (Below w.heap.size w wa) := bel_to HW.out (Nat.le_refl _) ka
          clear ka G
          go_wp2
          go_ret
          exact ⟨rfl, KA⟩
end Go.Proofs.Ytbpmmeagpefglaa

namespace Go.Proofs.Ytbpmmeagpefglaa.vintMany
open Go.ChangeShapes Go.WideShapes Go.ChangeAt Go.RowKit
open Go.ChangeMaps (open_string shut_string)
open Go.ChangeShapes
set_option linter.unusedVariables false

theorem own : ownKnob Try.prog.godebug = none := by kernel_rfl
theorem laidOut : laidOutB Try.prog = true := by kernel_rfl

set_option maxRecDepth 100000 in
theorem lifted (os : Os) (started : os.Started) (H : Type) (enc : TypeId × Value → H) (F : Stop.Interp) :
    ReturnsInHanded {} Try.checked os 3 .any ((Rows.OpenSpec.upto Rows.vintManySpec).pre6 enc Try.prog Try.f3 Rows.vintManyUptoRow.domain false) (((Rows.OpenSpec.upto Rows.vintManySpec).at F).post enc Try.prog Try.f3 false true false false) := by
  refine returnsInHanded_of_cond_sized (C := Try.checked) (s := Rows.OpenSpec.upto Rows.vintManySpec) (k := Rows.uptoSmall) rfl own started (by kernel_rfl) Try.func3
    (OpenSpec.witness (enc := enc) (C := Try.checked) (s := Rows.OpenSpec.upto Rows.vintManySpec) (k := Rows.uptoSmall) rfl false ⟨#[], #[.slice none 0 0, .slice none 0 0], []⟩ 8 (by kernel_rfl) (by kernel_rfl) (by kernel_rfl)
      (x := ([.nil, .nil], [], [])) (by kernel_rfl) rfl (by kernel_rfl)) ?_
  intro W base args ds gs before hval0 hW _ hk0 hsz0 _
  have hk : Rows.uptoSmall H (ds ++ gs) = true := hk0
  have hsz : (DataW.weightsEach Try.prog (Try.f3.params.toList ++ Rows.vintManySpec.plain.varTypes Try.prog) (ds ++ gs)).all (· ≤ reachBytes) = true := hsz0
  have hval : ∀ (j : Nat) t v, Try.f3.params[j]? = some t → args[j]? = some v → Value.okWide Try.prog W .any base t v := hval0
  have hW' := hW
  obtain ⟨p, q, hA0, hV, rfl, hfz, hnd⟩ := hW
  have hA : DataW.TrodAll enc Try.prog W 0 (fun _ => true) true Try.f3.params.toList args.toList ds p := hA0
  rw [Try.params3] at hA hval hsz
  obtain ⟨v0, vs0, d0, ds0, p0, q0, hargs, rfl, rfl, h0, r0⟩ := trodAll_cons hA
  obtain ⟨v1, vs1, d1, ds1, p1, q1, rfl, rfl, rfl, h1, r1⟩ := trodAll_cons r0
  obtain ⟨rfl, rfl, rfl⟩ := trodAll_nil r1
  obtain rfl : args = #[v0, v1] := by cases args; simp_all
  obtain ⟨rfl, rfl⟩ := trodVars_none hV
  obtain ⟨a0, len0, cap0, rfl⟩ := okWide_slice Try.underlying22 (hval 0 22 v0 rfl rfl)
  have k0 := h0
  have lt0 : ∀ x ∈ p0, x.block < W.heap.size := by obtain ⟨m, hm⟩ := k0; exact DataW.trod_lt m _ _ _ hm
  obtain ⟨z0, w0, b0⟩ : ∃ zs, IsRow .u64 W a0 len0 cap0 zs ∧ cap0 ≤ 1048576 := by
    obtain ⟨fuel, hf⟩ := h0
    rcases open_ints Try.underlying22 Try.underlying27 (by kernel_rfl) hf with ⟨hcs, _⟩ | ⟨x, l, c, zs, hcs, _, hl, hm, hz, hx, hcell, hwz⟩
    · simp [Value.cells] at hcs
      obtain ⟨rfl, rfl, rfl⟩ := hcs
      exact ⟨[], ⟨by decide, .inl ⟨rfl, rfl, rfl, rfl⟩⟩, by decide⟩
    · simp [Value.cells] at hcs
      obtain ⟨rfl, rfl, rfl⟩ := hcs
      have hd := congrArg Prod.fst hx
      simp only at hd
      have hs := sized_slice hsz (j := 0) (t := 22) (e := 27) rfl (by rw [hd]; rfl) Try.underlying22
      rw [show Try.prog.bytesOf 27 = 8 from by kernel_rfl] at hs
      simp only [lits, List.length_map, List.length_take, List.length_drop, reachBytes] at hs
      have hzc : zs.length = cap0 := by simpa using hz
      have hs2 := small_slice hk (j := 0) (by rw [hd]; rfl)
      simp only [lits, List.length_map, List.length_take, List.length_drop] at hs2
      exact ⟨zs, ⟨by show cap0 * 8 ≤ _; omega, .inr ⟨_, rfl, hl, hm, hzc, hcell, hwz⟩⟩, by omega⟩
  obtain ⟨a1, len1, cap1, rfl⟩ := okWide_slice Try.underlying23 (hval 1 23 v1 rfl rfl)
  have k1 := h1
  have lt1 : ∀ x ∈ p1, x.block < W.heap.size := by obtain ⟨m, hm⟩ := k1; exact DataW.trod_lt m _ _ _ hm
  obtain ⟨z1, w1⟩ : ∃ ss, IsTexts W a1 len1 cap1 ss := by
    obtain ⟨fuel, hf⟩ := h1
    rcases open_strings Try.underlying23 Try.underlying9 (by kernel_rfl) hf with ⟨hcs, _⟩ | ⟨x, l, c, ss, hcs, _, hl, hm, hz, hx, hcell, hws⟩
    · simp [Value.cells] at hcs
      obtain ⟨rfl, rfl, rfl⟩ := hcs
      exact ⟨[], by decide, by simp, .inl ⟨rfl, rfl, rfl, rfl⟩⟩
    · simp [Value.cells] at hcs
      obtain ⟨rfl, rfl, rfl⟩ := hcs
      have hd := congrArg Prod.fst hx
      simp only at hd
      have hzc : ss.length = cap1 := by simpa using hz
      have hs2 := small_slice hk (j := 1) (by rw [hd]; rfl)
      simp only [strs, List.length_map, List.length_take, List.length_drop] at hs2
      have hs3 := small_texts hk (j := 1) (by rw [hd]; rfl)
      exact ⟨ss, by omega, hs3, .inr ⟨_, rfl, hl, hzc, hcell⟩⟩
  clear hA0 hval0 hsz0 hsz
  refine (walk_many a0 len0 cap0 z0 a1 len1 cap1 z1 W w0 b0 w1).mono fun e W' ⟨he, bel⟩ => ?_
  subst he
  exact ⟨_, rfl, _, _, _, [], _, [], hW', trodAll_mk1 (shut_bool Try.underlying4 _), (trodAll_cons_mk (Below.trod laidOut (by kernel_rfl) (of_decide_eq_true (by kernel_rfl)) k0 bel lt0) (trodAll_cons_mk (Below.trod laidOut (by kernel_rfl) (of_decide_eq_true (by kernel_rfl)) k1 bel lt1) trodAll_mk0)), rfl, bel.frame _, fun h => by cases h⟩

theorem proved : Rows.VintManyUptoSaid :=
  OpenClaim.holds_of_cond 3 Try.f3 rfl rfl rfl rfl rfl rfl rfl ⟨rfl, rfl, rfl, rfl, rfl⟩ rfl rfl rfl rfl rfl (by kernel_rfl) Try.func3 (by kernel_rfl)
    (of_decide_eq_true (by kernel_rfl)) (by unfold Func.isWrapper; first | (rw [if_pos (by decide +kernel)]; kernel_rfl) | (rw [if_neg (by decide +kernel)]; exact ⟨rfl, rfl⟩))
    (fun os started H enc _ F => lifted os started H enc F)
end Go.Proofs.Ytbpmmeagpefglaa.vintMany
