/-
  A byte that is turned in a sum or a body takes that frame, and all behind it, away; the document's examples hold. The call returns true, and its arguments read as they did.
  Conditions: none: every value of the parameters' types.
-/
import Derived.Test.YtbpmmeagpefglaaFrameV
import Derived.Test.YtbpmmeagpefglaaPlace
import Derived.ProofKit
import Derived.OpenShut
import Derived.ShutString
import Derived.ChangeOld
import Derived.SizedLaws
namespace Go.Proofs.Ytbpmmeagpefglaa
open Go.RowKit

theorem xor_other {z b : Int} (hz : 0 ≤ z ∧ z ≤ 255) (hb : 0 ≤ b ∧ b ≤ 255) (hne : b ≠ 0) : bits .xor .u8 z b = xorI z b ∧ (0 ≤ xorI z b ∧ xorI z b ≤ 255) ∧ xorI z b ≠ z := by
  obtain ⟨e1, e2, e3⟩ := xor_u8 hz.1 hz.2 hb.1 hb.2
  refine ⟨e1, ⟨e2, e3⟩, fun h => hne ?_⟩
  have h1 : (xorI z b).toNat = z.toNat := by rw [h]
  rw [xor_nat] at h1
  have h2 := congrArg (fun y => z.toNat ^^^ y) h1
  simp only [Cr.xor_cancel, Nat.xor_self] at h2
  omega

theorem putS_two {v : Nat} (h : v ≤ 2000) : (putS (v : Int)).length = if 127 < v then 2 else 1 := by
  have h0 := putS_one (v := (v : Int))
  split
  · rename_i hv
    have h1 : ¬ (putS (v : Int)).length = 1 := fun h' => by have := h0.1 h'; omega
    have h2 := (putS_len (v : Int)).1
    have h3 : (putS (v : Int)).length ≤ (putS (2000 : Int)).length := putS_mono (by omega) (by omega)
    have h4 : (putS (2000 : Int)).length = 2 := by decide
    omega
  · exact h0.2 (by omega)

theorem set_row {w : World} {base cap n k : Nat} {a : Option Addr} {zs : List Int} (h : Mine w base a n cap zs) (hk : k < n) : ∃ g, a = some ⟨g, 0, none⟩ ∧ w.cell? ⟨g, k, none⟩ = some (.int .u8 (zs.getD k 0)) ∧ w.frozen? ⟨g, k, none⟩ = false ∧ base ≤ g ∧
    ∀ x : Int, Mine (w.setCell ⟨g, k, none⟩ (.int .u8 x)) base (some ⟨g, 0, none⟩) n cap (zs.set k x) := by
  have h0 : w.ownsRow base 5 1 (.slice a n cap) n (zs.map (Value.int .u8)) := h
  have hl := h.len
  rcases h0.2 with ⟨h1, h2⟩ | ⟨g, c, cur, h1, hb, _⟩
  · omega
  · simp only [Value.slice.injEq, true_and] at h1
    obtain ⟨rfl, rfl⟩ := h1
    refine ⟨g, rfl, ?_, h0.frozenAt k, hb, fun x => ?_⟩
    · rw [h0.cellAt k (by omega), List.getElem?_map, List.getElem?_eq_getElem (by omega), List.getD_eq_getElem?_getD, List.getElem?_eq_getElem (by omega)]
      rfl
    · have h3 := (h0.stored k (.int .u8 x)).1
      rw [← List.map_set] at h3
      exact h3
theorem bodies_small (ss : List ByteArray) (k : Nat) : ∀ s ∈ bodiesK ss k, s.length ≤ 2000 := by
  intro s hs
  obtain ⟨b, hb, rfl⟩ := List.mem_map.1 hs
  have h := (List.mem_filter.1 hb).2
  unfold fitsB at h
  have h' := of_decide_eq_true h
  rw [numsOf_len]
  omega
/-- What the walk is told of the frame that the byte lies in. -/
theorem frame_at {gs : List (List Int)} (hs : ∀ s ∈ gs, s.length ≤ 2000) (j : Nat) (hj : j < gs.length) : ∃ Q V : Nat, (putS ((gs.getD j []).length : Int)).length = Q ∧ (laidS (gs.take (j + 1))).length = (laidS (gs.take j)).length + (Q + 4 + V) ∧ ((V ≤ 127 ∧ Q = 1) ∨ (127 < V ∧ Q = 2)) := by
  have hm : gs.getD j [] ∈ gs := by rw [List.getD_eq_getElem?_getD, List.getElem?_eq_getElem hj]; exact List.getElem_mem hj
  have hgd : gs[j] = gs.getD j [] := by rw [List.getD_eq_getElem?_getD, List.getElem?_eq_getElem hj]; rfl
  refine ⟨_, (gs.getD j []).length, rfl, ?_, ?_⟩
  · rw [List.take_succ_eq_append_getElem hj, laidS_append, List.length_append, hgd]
    have : (laidS [gs.getD j []]).length = (frameS (gs.getD j [])).length := by simp [laidS]
    rw [this, frameS_len, ← Nat.add_assoc _ 4]
  · have := putS_two (hs _ hm)
    rw [this]
    split <;> omega

set_option maxRecDepth 100000 in
set_option maxHeartbeats 8000000 in
theorem walk_turns (a : Option Addr) (n cap : Nat) (zs : List ByteArray) (p bt : Int) (w : World) (w0 : IsTextsF w a n cap zs) (_w1 : (Lit.int .i64 p).wf = true) (w2 : (Lit.int .u8 bt).wf = true) :
    Calls Try.prog 8 #[.slice a n cap, .int .i64 p, .int .u8 bt] w fun e w' => e = .returned (.bool true) ∧ Below w.heap.size w w' := by
  have L := hide (laid_any a n cap (zs.take n) w (textsF_of w0))
  have HG := hide (bodiesK_good (zs.take n) 20)
  have hs1 := (bodiesK_short (zs.take n) 20).1
  have hs2 := (bodiesK_short (zs.take n) 20).2
  have HSM := hide (bodies_small (zs.take n) 20)
  have hbt := u8_of_wf w2
  clear w0 _w1 w2
  generalize bodiesK (zs.take n) 20 = gs at *
  have HEF := hide (ends_fit (gs := gs) (by omega))
  have HB8 := hide (laidS_byte HG.out)
  have HT := hide (fun j k hj x hx h1 h2 hne => told_turned gs HG.out j k hj x hx h1 h2 hne)
  have HFA := hide (fun j hj => frame_at HSM.out j hj)
  have HEG := hide (fun j h => endsS_get gs j h)
  have HALL : Hid ((laidS (gs.take gs.length)).length = (laidS gs).length) := by show _ = _; rw [List.take_length]
  have HFEW : Hid (∀ j, j ≤ gs.length → ((posS 0 (gs.take j)).take (1000 : Int).toNat).length = j) := by
    intro j hj
    rw [posS_few (by rw [List.length_take]; omega), posS_len, List.length_take]; omega
  have HL0 : Hid ((laidS (gs.take 0)).length = 0) := rfl
  obtain ⟨nb, hnb⟩ : ∃ nb, (laidS gs).length = nb := ⟨_, rfl⟩
  obtain ⟨ne, hne⟩ : ∃ ne, gs.length = ne := ⟨_, rfl⟩
  rw [hnb, hne] at HALL
  rw [hnb] at L hs1
  rw [hne] at L hs2 HFEW HEG HFA HT
  have HLN := hide hnb
  clear hnb hne
  go_enter Try.func8, Try.ntmps8
  go_wp2_with fail
  refine L.out.mono ?_
  rintro e x1 ⟨ab, cb, ae, ce, rfl, o1, o2, k1⟩
  have O1 := hide o1
  have o2' : Own 3 .i64 x1 w.heap.size ae ne ce (endsS gs) := o2
  have RE := hide (o2'.row (by omega) HEF.out)
  have K1 := hide k1
  clear o1 o2 o2' k1 L
  by_cases c1 : nb = 0
  · have t1 : ((nb : Int) == 0) = true := by simp [c1]
    clear c1
    go_wp2_with fail
    refine (awake_any _).mono ?_
    rintro e x4 ⟨rfl, k6⟩
    go_wp2
    go_ret
    exact ⟨rfl, bel_to K1.out (Nat.le_refl _) k6⟩
  have t1 : ((nb : Int) == 0) = false := by simp; omega
  by_cases c2 : bt = 0
  · have t2 : (bt == 0) = true := by simp [c2]
    clear c2
    go_wp2_with fail
    refine (awake_any _).mono ?_
    rintro e x4 ⟨rfl, k6⟩
    go_wp2
    go_ret
    exact ⟨rfl, bel_to K1.out (Nat.le_refl _) k6⟩
  have t2 : (bt == 0) = false := by simp [c2]
  have hk0 : 0 ≤ p % (nb : Int) := Int.emod_nonneg p (by omega)
  have hk1 : p % (nb : Int) < (nb : Int) := Int.emod_lt_of_pos p (by omega)
  obtain ⟨K, hK⟩ := Int.eq_ofNat_of_zero_le hk0
  have hKn : K < nb := by omega
  have P := hide (fun W => place_any p (nb : Int) (by omega) (by omega) W)
  rw [hK] at P
  clear hK hk0 hk1
  go_wp2_with fail
  refine (P.out _).mono ?_
  rintro e x1' ⟨rfl, rfl⟩
  clear P
  go_wp2
  go_loop [11] (fun i => ∃ j : Nat, j ≤ ne ∧ i = .int .i64 j ∧ Hid ((laidS (gs.take j)).length ≤ K)) (fun i => ne - (intOf i).toNat)
  case atStart => exact ⟨0, by omega, rfl, by show _ ≤ _; rw [HL0.out]; omega⟩
  case round =>
    obtain ⟨j, hj, rfl, HJ⟩ := hrel
    have hjn : j < ne := by
      by_cases h : j < ne
      · exact h
      · have : j = ne := by omega
        subst this
        have := HJ.out
        rw [HALL.out] at this
        omega
    obtain ⟨_, _, _, h0 | ⟨be, oe, rfl, hcell⟩⟩ := RE.out
    · omega
    have hck := hcell j hjn
    rw [HEG.out j hjn] at hck
    obtain ⟨Q, V, hQ, hEV, hV⟩ := HFA.out j hjn
    have hcp : ∀ i, i + 1 = j → x1'.cell? ⟨be, oe + i, none⟩ = some (.int .i64 ((laidS (gs.take j)).length : Int)) := by
      intro i hi
      rw [hcell i (by omega), HEG.out i (by omega), hi]
    clear hcell
    by_cases hgo : (laidS (gs.take (j + 1))).length ≤ K
    · have HJ2 : Hid ((laidS (gs.take (j + 1))).length ≤ K) := hgo
      clear hEV hcp
      generalize (laidS (gs.take (j + 1))).length = E at hck hgo
      have t3 : (E : Int) ≤ K := by omega
      go_wp2
      exact ⟨⟨j + 1, by omega, by go_num, HJ2⟩, by simp [intOf]; omega⟩
    · have HTT := hide (fun x hx h1 h2 hne => HT.out j K hjn x hx h1 h2 hne)
      rw [hQ] at HTT
      have hFr := HJ.out
      have hFe : K < (laidS (gs.take (j + 1))).length := by omega
      have hF0 : j = 0 → (laidS (gs.take j)).length = 0 := by rintro rfl; exact HL0.out
      have HFJ := hide (HFEW.out j hj)
      have hEb : (laidS (gs.take (j + 1))).length ≤ nb := by
        have := laid_le gs (j + 1)
        rw [HLN.out] at this
        exact this
      rw [hEV] at hck hFe HTT hEb
      clear hEV hQ hgo HT HFA HEG HFEW
      generalize (laidS (gs.take j)).length = Fr at *
      have t3 : ¬ (((Fr + (Q + 4 + V) : Nat) : Int) ≤ K) := by omega
      -- the frame's own byte
      obtain ⟨g, rfl, hcz, hfz, hbg, hset⟩ := set_row O1.out hKn
      have hz := getD_all HB8.out (by decide) K
      have HNZ : Hid (∀ z, (laidS gs).getD K 0 = z → ∀ x, x ≠ z → x ≠ (laidS gs).getD K 0) := by rintro z rfl x h; exact h
      obtain ⟨z, hzz⟩ : ∃ z, (laidS gs).getD K 0 = z := ⟨_, rfl⟩
      rw [hzz] at hcz hz
      obtain ⟨ex, ⟨x0, x1⟩, hxz⟩ := xor_other hz hbt c2
      have HNX := hide (HNZ.out z hzz (xorI z bt) hxz)
      have hset' := hset (xorI z bt)
      have hbx : Bytes8 ((laidS gs).set K (xorI z bt)) := by
        intro y hy
        obtain ⟨i, hi, rfl⟩ := List.mem_iff_getElem.1 hy
        rw [List.getElem_set]
        split
        · exact ⟨x0, x1⟩
        · rw [List.length_set] at hi
          exact HB8.out _ (List.getElem_mem hi)
      have HBX := hide hbx
      have HSET := hide hset'
      have HKT := hide (fun h1 => HTT.out (xorI z bt) ⟨x0, x1⟩ h1 (by omega) HNX.out)
      have A := hide (fun W (h : Row .u8 W (some ⟨g, 0, none⟩) nb ((laidS gs).set K (xorI z bt))) => all_any 1000 (some ⟨g, 0, none⟩) nb cb ((laidS gs).set K (xorI z bt)) W h (by omega) (by omega) (by omega))
      clear hzz HNZ hxz hset hset' hbx HTT HNX hz O1
      generalize (laidS gs).set K (xorI z bt) = us at *
      generalize xorI z bt = x at *
      obtain ⟨E, hE⟩ : ∃ E, Fr + (Q + 4 + V) = E := ⟨_, rfl⟩
      rw [hE] at hck t3 hFe hEb
      by_cases hj0 : j = 0
      · have hFr0 := hF0 hj0
        subst hj0 hFr0
        rw [Nat.add_zero] at hck
        clear hcp hF0
        rcases hV with ⟨v1, rfl⟩ | ⟨v1, rfl⟩
        · have t4 : ¬ ((132 : Int) < (E : Int)) := by omega
          clear v1 hE
          by_cases hsk : K < 1
          · have t5 : (K : Int) < 1 := by omega
            clear A HKT HSET hcz hfz ex
            go_wp2_with fail
            refine (awake_any _).mono ?_
            rintro e x4 ⟨rfl, k6⟩
            go_wp2
            go_ret
            exact ⟨rfl, bel_to K1.out (Nat.le_refl _) k6⟩
          · have t5 : ¬ ((K : Int) < 1) := by omega
            have A2 := hide A.out
            rw [HKT.out (by omega), HFJ.out] at A2
            have hk63 : (0 : Int) ≤ K := by omega
            have hkn2 : (K : Int) < nb := by omega
            go_upto_region 17 with fail
            obtain ⟨Wt, hWt⟩ : ∃ Wt, x1'.setCell ⟨g, K, none⟩ (.int .u8 x) = Wt := ⟨_, rfl⟩
            have KT : Hid (Below w.heap.size w Wt) := by rw [← hWt]; exact K1.out.setCell (p := ⟨g, K, none⟩) hbg _
            have RT : Hid (Row .u8 Wt (some ⟨g, 0, none⟩) nb us) := by rw [← hWt]; exact HSET.out.row8 (by omega) HBX.out
            rw [hWt]
            clear hWt HSET hcz hfz ex A HKT
            go_wp2_with fail
            refine (A2.out _ RT.out).mono ?_
            rintro e x2 ⟨a3, c3, a4, c4, rfl, _, _, k3⟩
            have K2 : Hid (Below w.heap.size w x2) := bel_to KT.out (Nat.le_refl _) k3
            clear k3 A2 RT KT
            go_wp2_with fail
            refine (awake_any _).mono ?_
            rintro e x4 ⟨rfl, k6⟩
            go_wp2
            go_ret
            exact ⟨rfl, bel_to K2.out (Nat.le_refl _) k6⟩
        · have t4 : (132 : Int) < (E : Int) := by omega
          clear v1 hE
          by_cases hsk : K < 2
          · have t5 : (K : Int) < 2 := by omega
            clear A HKT HSET hcz hfz ex
            go_wp2_with fail
            refine (awake_any _).mono ?_
            rintro e x4 ⟨rfl, k6⟩
            go_wp2
            go_ret
            exact ⟨rfl, bel_to K1.out (Nat.le_refl _) k6⟩
          · have t5 : ¬ ((K : Int) < 2) := by omega
            have A2 := hide A.out
            rw [HKT.out (by omega), HFJ.out] at A2
            have hk63 : (0 : Int) ≤ K := by omega
            have hkn2 : (K : Int) < nb := by omega
            go_upto_region 17 with fail
            obtain ⟨Wt, hWt⟩ : ∃ Wt, x1'.setCell ⟨g, K, none⟩ (.int .u8 x) = Wt := ⟨_, rfl⟩
            have KT : Hid (Below w.heap.size w Wt) := by rw [← hWt]; exact K1.out.setCell (p := ⟨g, K, none⟩) hbg _
            have RT : Hid (Row .u8 Wt (some ⟨g, 0, none⟩) nb us) := by rw [← hWt]; exact HSET.out.row8 (by omega) HBX.out
            rw [hWt]
            clear hWt HSET hcz hfz ex A HKT
            go_wp2_with fail
            refine (A2.out _ RT.out).mono ?_
            rintro e x2 ⟨a3, c3, a4, c4, rfl, _, _, k3⟩
            have K2 : Hid (Below w.heap.size w x2) := bel_to KT.out (Nat.le_refl _) k3
            clear k3 A2 RT KT
            go_wp2_with fail
            refine (awake_any _).mono ?_
            rintro e x4 ⟨rfl, k6⟩
            go_wp2
            go_ret
            exact ⟨rfl, bel_to K2.out (Nat.le_refl _) k6⟩
      · obtain ⟨i, hi⟩ : ∃ i, i + 1 = j := ⟨j - 1, by omega⟩
        have hci := hcp i hi
        subst hi
        have hj1 : (0 : Int) < ((i + 1 : Nat) : Int) := by omega
        have hw1 : IntKind.i64.wrap (((i + 1 : Nat) : Int) - 1) = (i : Int) := by rw [IntKind.wrap_i64]; omega
        clear hcp hF0 hj0
        rcases hV with ⟨v1, rfl⟩ | ⟨v1, rfl⟩
        · have t4 : ¬ ((132 : Int) < (E : Int) - Fr) := by omega
          clear v1 hE
          by_cases hsk : K < Fr + 1
          · have t5 : (K : Int) < (Fr : Int) + 1 := by omega
            clear A HKT HSET hcz hfz ex
            go_wp2_with fail
            refine (awake_any _).mono ?_
            rintro e x4 ⟨rfl, k6⟩
            go_wp2
            go_ret
            exact ⟨rfl, bel_to K1.out (Nat.le_refl _) k6⟩
          · have t5 : ¬ ((K : Int) < (Fr : Int) + 1) := by omega
            have A2 := hide A.out
            rw [HKT.out (by omega), HFJ.out] at A2
            have hk63 : (0 : Int) ≤ K := by omega
            have hkn2 : (K : Int) < nb := by omega
            go_upto_region 17 with fail
            obtain ⟨Wt, hWt⟩ : ∃ Wt, x1'.setCell ⟨g, K, none⟩ (.int .u8 x) = Wt := ⟨_, rfl⟩
            have KT : Hid (Below w.heap.size w Wt) := by rw [← hWt]; exact K1.out.setCell (p := ⟨g, K, none⟩) hbg _
            have RT : Hid (Row .u8 Wt (some ⟨g, 0, none⟩) nb us) := by rw [← hWt]; exact HSET.out.row8 (by omega) HBX.out
            rw [hWt]
            clear hWt HSET hcz hfz ex A HKT
            go_wp2_with fail
            refine (A2.out _ RT.out).mono ?_
            rintro e x2 ⟨a3, c3, a4, c4, rfl, _, _, k3⟩
            have K2 : Hid (Below w.heap.size w x2) := bel_to KT.out (Nat.le_refl _) k3
            clear k3 A2 RT KT
            go_wp2_with fail
            refine (awake_any _).mono ?_
            rintro e x4 ⟨rfl, k6⟩
            go_wp2
            go_ret
            exact ⟨rfl, bel_to K2.out (Nat.le_refl _) k6⟩
        · have t4 : (132 : Int) < (E : Int) - Fr := by omega
          clear v1 hE
          by_cases hsk : K < Fr + 2
          · have t5 : (K : Int) < (Fr : Int) + 2 := by omega
            clear A HKT HSET hcz hfz ex
            go_wp2_with fail
            refine (awake_any _).mono ?_
            rintro e x4 ⟨rfl, k6⟩
            go_wp2
            go_ret
            exact ⟨rfl, bel_to K1.out (Nat.le_refl _) k6⟩
          · have t5 : ¬ ((K : Int) < (Fr : Int) + 2) := by omega
            have A2 := hide A.out
            rw [HKT.out (by omega), HFJ.out] at A2
            have hk63 : (0 : Int) ≤ K := by omega
            have hkn2 : (K : Int) < nb := by omega
            go_upto_region 17 with fail
            obtain ⟨Wt, hWt⟩ : ∃ Wt, x1'.setCell ⟨g, K, none⟩ (.int .u8 x) = Wt := ⟨_, rfl⟩
            have KT : Hid (Below w.heap.size w Wt) := by rw [← hWt]; exact K1.out.setCell (p := ⟨g, K, none⟩) hbg _
            have RT : Hid (Row .u8 Wt (some ⟨g, 0, none⟩) nb us) := by rw [← hWt]; exact HSET.out.row8 (by omega) HBX.out
            rw [hWt]
            clear hWt HSET hcz hfz ex A HKT
            go_wp2_with fail
            refine (A2.out _ RT.out).mono ?_
            rintro e x2 ⟨a3, c3, a4, c4, rfl, _, _, k3⟩
            have K2 : Hid (Below w.heap.size w x2) := bel_to KT.out (Nat.le_refl _) k3
            clear k3 A2 RT KT
            go_wp2_with fail
            refine (awake_any _).mono ?_
            rintro e x4 ⟨rfl, k6⟩
            go_wp2
            go_ret
            exact ⟨rfl, bel_to K2.out (Nat.le_refl _) k6⟩
end Go.Proofs.Ytbpmmeagpefglaa

namespace Go.Proofs.Ytbpmmeagpefglaa.frameTurns
open Go.ChangeShapes Go.WideShapes Go.ChangeAt Go.RowKit
open Go.ChangeMaps (open_string shut_string)
open Go.ChangeShapes
set_option linter.unusedVariables false

theorem own : ownKnob Try.prog.godebug = none := by kernel_rfl
theorem laidOut : laidOutB Try.prog = true := by kernel_rfl

set_option maxRecDepth 100000 in
theorem lifted (os : Os) (started : os.Started) (H : Type) (enc : TypeId × Value → H) :
    ReturnsInHanded {} Try.checked os 8 .any (Rows.frameTurnsSpec.pre6 enc Try.prog Try.f8 Rows.frameTurnsRow.domain false) (Rows.frameTurnsSpec.post enc Try.prog Try.f8 false true false false) := by
  refine returnsInHanded_of_change_sized (C := Try.checked) own started (by kernel_rfl) Try.func8
    (ChangeSpec.witness6 (enc := enc) (C := Try.checked) false ⟨#[], #[.slice none 0 0, .int .i64 0, .int .u8 0], []⟩ 8 (by kernel_rfl) (by kernel_rfl) (by kernel_rfl) (by kernel_rfl)) ?_
  intro W base args ds gs before hval0 hW hcnd hsz0 _
  have hsz : (DataW.weightsEach Try.prog (Try.f8.params.toList ++ Rows.frameTurnsSpec.plain.varTypes Try.prog) (ds ++ gs)).all (· ≤ reachBytes) = true := hsz0
  have hval : ∀ (j : Nat) t v, Try.f8.params[j]? = some t → args[j]? = some v → Value.okWide Try.prog W .any base t v := hval0
  have hW' := hW
  obtain ⟨p, q, hA0, hV, rfl, hfz, hnd⟩ := hW
  have hA : DataW.TrodAll enc Try.prog W 0 (fun _ => true) true Try.f8.params.toList args.toList ds p := hA0
  rw [Try.params8] at hA hval hsz
  obtain ⟨v0, vs0, d0, ds0, p0, q0, hargs, rfl, rfl, h0, r0⟩ := trodAll_cons hA
  obtain ⟨v1, vs1, d1, ds1, p1, q1, rfl, rfl, rfl, h1, r1⟩ := trodAll_cons r0
  obtain ⟨v2, vs2, d2, ds2, p2, q2, rfl, rfl, rfl, h2, r2⟩ := trodAll_cons r1
  obtain ⟨rfl, rfl, rfl⟩ := trodAll_nil r2
  obtain rfl : args = #[v0, v1, v2] := by cases args; simp_all
  obtain ⟨rfl, rfl⟩ := trodVars_none hV
  obtain ⟨a0, len0, cap0, rfl⟩ := okWide_slice Try.underlying23 (hval 0 23 v0 rfl rfl)
  have k0 := h0
  have lt0 : ∀ x ∈ p0, x.block < W.heap.size := by obtain ⟨m, hm⟩ := k0; exact DataW.trod_lt m _ _ _ hm
  obtain ⟨z0, w0⟩ : ∃ ss, IsTextsF W a0 len0 cap0 ss := by
    obtain ⟨fuel, hf⟩ := h0
    rcases open_strings Try.underlying23 Try.underlying9 (by kernel_rfl) hf with ⟨hcs, _⟩ | ⟨x, l, c, ss, hcs, _, hl, hm, hz, hx, hcell, hws⟩
    · simp [Value.cells] at hcs
      obtain ⟨rfl, rfl, rfl⟩ := hcs
      exact ⟨[], by decide, .inl ⟨rfl, rfl, rfl, rfl⟩⟩
    · simp [Value.cells] at hcs
      obtain ⟨rfl, rfl, rfl⟩ := hcs
      have hd := congrArg Prod.fst hx
      simp only at hd
      have hzc : ss.length = cap0 := by simpa using hz
      have hs := sized_slice hsz (j := 0) (t := 23) (e := 9) rfl (by rw [hd]; rfl) Try.underlying23
      rw [show Try.prog.bytesOf 9 = 16 from by kernel_rfl] at hs
      simp only [strs, List.length_map, List.length_take, List.length_drop, reachBytes] at hs
      exact ⟨ss, by omega, .inr ⟨_, rfl, hl, hzc, hcell⟩⟩
  obtain ⟨a1, rfl, rfl, rfl, w1⟩ := open_int Try.underlying3 (hval 1 3 v1 rfl rfl) h1
  obtain ⟨a2, rfl, rfl, rfl, w2⟩ := open_int Try.underlying5 (hval 2 5 v2 rfl rfl) h2
  clear hA0 hval0 hsz0 hsz
  refine (walk_turns a0 len0 cap0 z0 a1 a2 W w0 w1 w2).mono fun e W' ⟨he, bel⟩ => ?_
  subst he
  exact ⟨_, rfl, _, _, _, [], _, [], hW', trodAll_mk1 (shut_bool Try.underlying4 _), (trodAll_cons_mk (Below.trod laidOut (by kernel_rfl) (of_decide_eq_true (by kernel_rfl)) k0 bel lt0) (trodAll_cons_mk (shut_int Try.underlying3 w1) (trodAll_cons_mk (shut_int Try.underlying5 w2) trodAll_mk0))), rfl, bel.frame _, fun h => by cases h⟩

theorem proved : Rows.FrameTurnsSaid :=
  OpenClaim.holds_of_wide 8 Try.f8 rfl rfl rfl rfl rfl rfl rfl ⟨rfl, rfl, rfl, rfl, rfl⟩ rfl rfl rfl rfl rfl (by kernel_rfl) Try.func8 (by kernel_rfl)
    (of_decide_eq_true (by kernel_rfl)) (by unfold Func.isWrapper; first | (rw [if_pos (by decide +kernel)]; kernel_rfl) | (rw [if_neg (by decide +kernel)]; exact ⟨rfl, rfl⟩))
    (fun os started H enc _ => lifted os started H enc)
end Go.Proofs.Ytbpmmeagpefglaa.frameTurns
