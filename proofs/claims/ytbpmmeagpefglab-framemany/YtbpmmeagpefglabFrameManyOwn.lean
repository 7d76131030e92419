/-
  Bodies in frames come back in order, one behind the other, with their places; the document's examples hold. The call returns true, and its arguments read as they did.
  Conditions: none: every value of the parameters' types.
-/
import Derived.Test.YtbpmmeagpefglabFrameV
import Derived.Deep.RegionHeld3
import Derived.ProofKit
import Derived.OpenShut
import Derived.ShutString
import Derived.ChangeOld
import Derived.SizedLaws
namespace Go.Proofs.Ytbpmmeagpefglab
open Go.RowKit

theorem own_texts {w : World} {base n c : Nat} {a : Option Addr} {ss : List ByteArray} (h : w.ownsRow base 9 1 (.slice a n c) n (ss.map Value.string)) (hn : n ≤ 140737488355328) : RowX w a n ss := by
  have hl : ss.length = n := by simpa using h.1
  refine ⟨hl, hn, ?_⟩
  rcases h.2 with ⟨h1, h2⟩ | ⟨g, c', cur, h1, _⟩
  · exact Or.inl h2
  · right
    simp only [Value.slice.injEq, true_and] at h1
    obtain ⟨rfl, rfl⟩ := h1
    refine ⟨g, 0, rfl, fun i hi => ?_⟩
    rw [Nat.zero_add, h.cellAt i (by omega), List.getElem?_map, List.getElem?_eq_getElem (by omega), List.getD_eq_getElem?_getD, List.getElem?_eq_getElem (by omega)]
    rfl

theorem getframe_end (a : Option Addr) (n cap : Nat) (zs : List Int) (w : World) (hn : n ≤ 9223372036854775807) (hc : n ≤ cap) (hr : Row .u8 w a n zs) :
    Calls Try.prog 6 #[.slice a n cap, .int .i64 (n : Int)] w fun e w' => e = .returned (.tuple #[.slice none 0 0, .int .i64 0, .int .i64 3]) ∧ Below w.heap.size w w' := by
  refine (getframe_any (n : Int) a n cap zs w (i64_wf (by omega) (by omega)) hc hr).mono ?_
  rintro e w' ⟨h, hb⟩
  unfold getFP at h
  rw [if_neg (by omega), if_pos rfl] at h
  exact ⟨h, hb⟩

/-- The texts that fit, up to a place: a beginning of all. -/
theorem bodies_more (ss : List ByteArray) (k : Nat) (hk : k ≤ 20) : ∃ t, bodiesK ss 20 = bodiesK ss k ++ t := by
  unfold bodiesK
  have e : ss.take 20 = ss.take k ++ (ss.drop k).take (20 - k) := by
    rw [← List.take_add]
    congr 1
    omega
  exact ⟨((ss.drop k).take (20 - k)).filter fitsB |>.map numsOf, by rw [e, List.filter_append, List.map_append]⟩
/-- The frame of the text at a place. -/
theorem frame_of {ss : List ByteArray} {i : Nat} (hi : i < ss.length) (h20 : i < 20) {s : ByteArray} (hs : ss.getD i ByteArray.empty = s) (hf : fitsB s = true) :
    (bodiesK ss i).length < (bodiesK ss 20).length ∧ (bodiesK ss 20).take (bodiesK ss i).length = bodiesK ss i ∧ (bodiesK ss (i + 1)).length = (bodiesK ss i).length + 1 ∧ (bodiesK ss 20).take ((bodiesK ss i).length + 1) = bodiesK ss (i + 1) ∧
    ((bodiesK ss 20).map strOfNums).getD (bodiesK ss i).length ByteArray.empty = s ∧
    ∃ st : Nat, findS (laidS (bodiesK ss 20)) ((laidS (bodiesK ss i)).length : Int) = some (st, s.size) ∧ st + s.size = (laidS (bodiesK ss (i + 1))).length ∧ ((laidS (bodiesK ss 20)).drop st).take s.size = numsOf s := by
  subst hs
  have h1 := bodiesK_yes hi hf
  obtain ⟨t, ht⟩ := bodies_more ss (i + 1) (by omega)
  have hg := bodiesK_good ss (i + 1) (numsOf (ss.getD i ByteArray.empty)) (by rw [h1]; simp)
  generalize ss.getD i ByteArray.empty = s at *
  rw [h1] at ht ⊢
  generalize bodiesK ss i = p at *
  have e : bodiesK ss 20 = p ++ (numsOf s :: t) := by rw [ht]; simp
  rw [e]
  have hls := numsOf_len s
  have el : laidS (p ++ (numsOf s :: t)) = laidS p ++ (frameS (numsOf s) ++ laidS t) := by rw [laidS_append, laidS_cons]
  have hfd := findS_at hg.1 hg.2.1 (laidS p) (laidS t)
  refine ⟨by simp, by rw [List.take_left], by simp, ?_, ?_, (laidS p).length + (putS ((numsOf s).length : Int)).length + 4, ?_, ?_, ?_⟩
  · rw [List.take_append, List.take_of_length_le (by omega), Nat.add_sub_cancel_left]; rfl
  · rw [List.map_append, List.map_cons, List.getD_eq_getElem?_getD, List.getElem?_append_right (by simp)]
    simp [strOf_nums]
  · rw [el, hfd, hls]
  · rw [laidS_append, laidS_cons, List.length_append, List.length_append, frameS_len, hls]
    simp [laidS]
    omega
  · have e2 : laidS p ++ (frameS (numsOf s) ++ laidS t) = (laidS p ++ (putS ((numsOf s).length : Int) ++ sumB (numsOf s))) ++ (numsOf s ++ laidS t) := by unfold frameS; simp
    have hl2 : (laidS p).length + (putS ((numsOf s).length : Int)).length + 4 = (laidS p ++ (putS ((numsOf s).length : Int) ++ sumB (numsOf s))).length := by rw [List.length_append, List.length_append, sumB_len, Nat.add_assoc]
    rw [el, e2, hl2, List.drop_left, ← hls, List.take_left]

set_option maxRecDepth 100000 in
set_option maxHeartbeats 8000000 in
theorem walk_many (a : Option Addr) (n cap : Nat) (zs : List ByteArray) (w : World) (w0 : IsTextsF w a n cap zs) :
    Calls Try.prog 4 #[.slice a n cap] w fun e w' => e = .returned (.bool true) ∧ Below w.heap.size w w' := by
  have hrx := textsF_of w0
  have L := hide (laid_any a n cap (zs.take n) w hrx)
  have HRX := hide hrx
  have HLS : Hid ((zs.take n).length = n) := hrx.1
  have hn47 := hrx.2.1
  have HG := hide (bodiesK_good (zs.take n) 20)
  have hs1 := (bodiesK_short (zs.take n) 20).1
  have hs2 := (bodiesK_short (zs.take n) 20).2
  clear w0 hrx
  generalize zs.take n = ss at *
  have HFO := hide (fun i hi h20 s hs hf => frame_of (ss := ss) (i := i) hi h20 (s := s) hs hf)
  have HBN := hide (fun i hi h => bodiesK_no (ss := ss) (k := i) hi h)
  have HEND : Hid (∀ i, i ≤ n → i ≤ 20 → ¬ (i < n ∧ i < 20) → bodiesK ss i = bodiesK ss 20) := by
    intro i h1 h2 h3
    unfold bodiesK
    by_cases e : i = 20
    · rw [e]
    · rw [List.take_of_length_le (i := i) (by rw [HLS.out]; omega), List.take_of_length_le (by rw [HLS.out]; omega)]
  have HK0 : Hid ((bodiesK ss 0).length = 0 ∧ (laidS (bodiesK ss 0)).length = 0) := ⟨rfl, rfl⟩
  have HKL : Hid (∀ i, i ≤ 20 → (bodiesK ss i).length ≤ 20) := fun i hi => Nat.le_trans (bodiesK_short ss i).2 hi
  obtain ⟨gs, hgs⟩ : ∃ gs, bodiesK ss 20 = gs := ⟨_, rfl⟩
  rw [hgs] at HG hs1 hs2 HFO HEND L
  clear hgs
  have HEF := hide (ends_fit (gs := gs) (by omega))
  have HB8 := hide (laidS_byte HG.out)
  have HEG := hide (fun j h => endsS_get gs j h)
  have HSP := hide (fun j h => starts_pos gs j h)
  have ht := told gs HG.out [] (by rw [List.append_nil]; exact findS_end _)
  rw [List.append_nil] at ht
  have A := hide (fun W ab nb cb (h : Row .u8 W ab nb (laidS gs)) (hb : nb ≤ 40280) => all_any 1000 ab nb cb (laidS gs) W h (by omega) (by omega) (by omega))
  rw [ht.1, posS_few hs2, ht.2.2, posS_len] at A
  have HSF : Hid (∀ z ∈ startsOf (posS 0 gs), (Lit.int .i64 z).wf = true) := by
    intro z hz
    obtain ⟨j, hj, rfl⟩ := List.mem_iff_getElem.1 hz
    have hl : (startsOf (posS 0 gs)).length = gs.length := by rw [startsOf_len, posS_len]
    have e := HSP.out j (by omega)
    rw [List.getD_eq_getElem?_getD, List.getElem?_eq_getElem hj] at e
    simp only [Option.getD_some] at e
    rw [e]
    have := laid_le gs j
    exact i64_wf (by omega) (by omega)
  clear ht
  obtain ⟨nb, hnb⟩ : ∃ nb, (laidS gs).length = nb := ⟨_, rfl⟩
  obtain ⟨ne, hne⟩ : ∃ ne, gs.length = ne := ⟨_, rfl⟩
  rw [hnb] at L hs1
  rw [hne] at L hs2 HEG HSP HFO A
  have HNE := hide hne
  clear hnb hne
  generalize startsOf (posS 0 gs) = sts at *
  go_enter Try.func4, Try.ntmps4
  go_wp2_with fail
  refine L.out.mono ?_
  rintro e x1 ⟨ab, cb, ae, ce, rfl, o1, o2, k1⟩
  have hcb := o1.capped.1
  have R1 := hide (o1.row8 (by omega) HB8.out)
  have o2' : Own 3 .i64 x1 w.heap.size ae ne ce (endsS gs) := o2
  have RE := hide (o2'.row (by omega) HEF.out)
  have K1 := hide k1
  clear o1 o2 o2' k1 L
  go_wp2_with fail
  refine (A.out _ _ _ _ R1.out (by omega)).mono ?_
  rintro e x2 ⟨a3, c3, a4, c4, rfl, r3, r4, k2⟩
  have r3' : Own 3 .i64 x2 x1.heap.size a3 ne c3 sts := r3
  have RS := hide (r3'.row (by omega) HSF.out)
  have RT := hide (own_texts r4 (by omega))
  have R2 := hide (R1.out.below k2 (Nat.le_refl _))
  have RE2 := hide (RE.out.below k2 (Nat.le_refl _))
  have K2 : Hid (Below w.heap.size w x2) := bel_to K1.out (Nat.le_refl _) k2
  have HRX2 := hide (HRX.out.below K2.out (Nat.le_refl _))
  clear r3 r3' r4 k2 A R1 RE K1 HRX
  have tne : ((ne : Int) != (ne : Int)) = false := by simp
  go_wp2
  clear tne
  go_loopw [8, 9] (fun x y wr => ∃ (kk i : Nat), x = .int .i64 kk ∧ y = .int .i64 i ∧ i ≤ n ∧ i ≤ 20 ∧ kk ≤ 20 ∧ Hid ((bodiesK ss i).length = kk) ∧ Hid (Below x2.heap.size x2 wr)) (fun _ y _ => 20 - (intOf y).toNat)
  case atStart => exact ⟨0, 0, rfl, rfl, by omega, by omega, by omega, rfl, Below.refl _ _⟩
  case round =>
    obtain ⟨kk, i, rfl, rfl, hi, hi20, hkk, HKK, HW⟩ := hrel
    by_cases hlt : i < n ∧ i < 20
    · obtain ⟨h1, h2⟩ := hlt
      have h1' : (i : Int) < n := by omega
      have h2' : (i : Int) < 20 := by omega
      obtain ⟨_, _, h0 | ⟨bl, ol, rfl, hcell⟩⟩ := HRX2.out.below HW.out (Nat.le_refl _)
      · omega
      have hcl := hcell i h1
      clear hcell
      have hil : i < ss.length := by rw [HLS.out]; exact h1
      have FO := hide (HFO.out i hil h2)
      have BN := hide (HBN.out i hil)
      clear hil
      obtain ⟨s, hs⟩ : ∃ s, ss.getD i ByteArray.empty = s := ⟨_, rfl⟩
      have FO1 := hide (FO.out s hs)
      rw [hs] at hcl BN
      clear hs FO
      by_cases hf : 1 ≤ s.size ∧ s.size ≤ 2000
      · obtain ⟨f1, f2⟩ := hf
        obtain ⟨q1, q2, q3, q4, q5, st, q6, q7, q8⟩ := FO1.out (decide_eq_true ⟨f1, f2⟩)
        rw [HKK.out] at q1 q2 q3 q4 q5
        have hE := HEG.out kk q1
        rw [q4] at hE
        have hS := HSP.out kk q1
        rw [q2] at hS
        have hP : ∀ j, j + 1 = kk → (endsS gs).getD j 0 = ((laidS (bodiesK ss i)).length : Int) := by
          intro j hj
          rw [HEG.out j (by omega), hj, q2]
        have hF0 : kk = 0 → (laidS (bodiesK ss i)).length = 0 := by
          intro h
          have : bodiesK ss i = [] := List.length_eq_zero_iff.1 (by rw [HKK.out, h])
          rw [this]; rfl
        have hFb : (laidS (bodiesK ss i)).length ≤ 40280 := by have := (bodiesK_short ss i).1; omega
        obtain ⟨_, _, _, h0 | ⟨be, oe, rfl, hce⟩⟩ := RE2.out.below HW.out (Nat.le_refl _)
        · omega
        have hcE := hce kk q1
        rw [hE] at hcE
        have hcP : ∀ j, j + 1 = kk → wr.cell? ⟨be, oe + j, none⟩ = some (.int .i64 ((laidS (bodiesK ss i)).length : Int)) := fun j hj => by rw [hce j (by omega), hP j hj]
        clear hce hP hE
        obtain ⟨_, _, _, h0 | ⟨bs, os, rfl, hcs⟩⟩ := RS.out.below HW.out (Nat.le_refl _)
        · omega
        have hcS := hcs kk q1
        rw [hS] at hcS
        clear hcs hS
        obtain ⟨_, _, h0 | ⟨bt, ot, rfl, hct⟩⟩ := RT.out.below HW.out (Nat.le_refl _)
        · omega
        have hcT := hct kk q1
        rw [q5] at hcT
        clear hct q5
        have HQ3 := hide q3
        clear q3 q2 q4
        have G := hide (getframe_some ((laidS (bodiesK ss i)).length : Int) ab nb cb (laidS gs) wr (i64_wf (by omega) (by omega)) hcb (R2.out.below HW.out (Nat.le_refl _)) st s.size q6)
        rw [q7, q8] at G
        clear q6 q7 q8 FO1 BN HKK
        have HNS : Hid (Bytes8 (numsOf s)) := fun z hz => u8_of_wf (numsOf_wf s z hz)
        generalize (laidS (bodiesK ss (i + 1))).length = En at *
        generalize (laidS (bodiesK ss i)).length = Fr at *
        have t1 : ¬ ((s.size : Int) < 1) := by omega
        have t2 : ¬ ((2000 : Int) < s.size) := by omega
        have b1 : (0 : Int) ≤ kk := by omega
        have b2 : (kk : Int) < ne := by omega
        have b3 : (0 : Int) ≤ i := by omega
        by_cases hk0 : kk = 0
        · have hFr := hF0 hk0
          subst hk0 hFr
          clear hcP hF0
          rw [Nat.add_zero] at hcE hcS hcT
          go_wp2_with fail
          refine G.out.mono ?_
          rintro e w3 ⟨a5, c5, rfl, o5, k5⟩
          have hcl3 : w3.cell? _ = _ := (k5.cell (p := ⟨bl, ol + i, none⟩) (World.block_lt_of_cell? wr _ hcl)).trans hcl
          have hcE3 : w3.cell? _ = _ := (k5.cell (p := ⟨be, oe, none⟩) (World.block_lt_of_cell? wr _ hcE)).trans hcE
          have hcS3 : w3.cell? _ = _ := (k5.cell (p := ⟨bs, os, none⟩) (World.block_lt_of_cell? wr _ hcS)).trans hcS
          have hcT3 : w3.cell? _ = _ := (k5.cell (p := ⟨bt, ot, none⟩) (World.block_lt_of_cell? wr _ hcT)).trans hcT
          have hst : (convert 22 9 (.slice a5 s.size c5)).run Try.prog w3 = .ok (.string s) w3 := by
            have := mine_string o5 (by omega) HNS.out
            rwa [strOf_nums] at this
          have KW : Hid (Below x2.heap.size x2 w3) := bel_to HW.out (Nat.le_refl _) k5
          have O5 := hide o5
          clear hcl hcE hcS hcT k5 o5 G HW
          have HSD : Hid (w3.drew.cell? ⟨bl, ol + i, none⟩ = some (.string s) ∧ w3.drew.cell? ⟨be, oe, none⟩ = some (.int .i64 (En : Int)) ∧ w3.drew.cell? ⟨bs, os, none⟩ = some (.int .i64 0) ∧ w3.drew.cell? ⟨bt, ot, none⟩ = some (.string s) ∧ (convert 22 9 (.slice a5 s.size c5)).run Try.prog w3.drew = .ok (.string s) w3.drew) := by
            refine ⟨hcl3, hcE3, hcS3, hcT3, ?_⟩
            have := mine_string O5.out.drew (by omega) HNS.out
            rwa [strOf_nums] at this
          go_upto_region 16 with fail
          go_region_held3 (fun w' => w'.cell? ⟨bl, ol + i, none⟩ = some (.string s) ∧ w'.cell? ⟨be, oe, none⟩ = some (.int .i64 (En : Int)) ∧ w'.cell? ⟨bs, os, none⟩ = some (.int .i64 0) ∧ w'.cell? ⟨bt, ot, none⟩ = some (.string s) ∧ (convert 22 9 (.slice a5 s.size c5)).run Try.prog w' = .ok (.string s) w') (exact HSD.out) (fail)
          have KD : Hid (Below x2.heap.size x2 w3.drew) := KW.out.drew
          clear hcl3 hcE3 hcS3 hcT3 HSD O5 hst KW
          generalize w3.drew = w4 at *
          go_wp2
          go_roundw
          case rel => exact ⟨0 + 1, i + 1, by go_num, by go_num, by omega, by omega, by omega, HQ3, KD⟩
          case measure => simp [intOf]; omega
        · obtain ⟨j, hj⟩ : ∃ j, j + 1 = kk := ⟨kk - 1, by omega⟩
          have hcj := hcP j hj
          have hj1 : (0 : Int) < (kk : Int) := by omega
          have hw1 : IntKind.i64.wrap ((kk : Int) - 1) = (j : Int) := by rw [IntKind.wrap_i64]; omega
          have hjb : (0 : Int) ≤ (j : Int) ∧ (j : Int) < ne := by omega
          clear hcP hF0 hk0 hj
          go_wp2_with fail
          refine G.out.mono ?_
          rintro e w3 ⟨a5, c5, rfl, o5, k5⟩
          have hcl3 : w3.cell? _ = _ := (k5.cell (p := ⟨bl, ol + i, none⟩) (World.block_lt_of_cell? wr _ hcl)).trans hcl
          have hcE3 : w3.cell? _ = _ := (k5.cell (p := ⟨be, oe + kk, none⟩) (World.block_lt_of_cell? wr _ hcE)).trans hcE
          have hcS3 : w3.cell? _ = _ := (k5.cell (p := ⟨bs, os + kk, none⟩) (World.block_lt_of_cell? wr _ hcS)).trans hcS
          have hcT3 : w3.cell? _ = _ := (k5.cell (p := ⟨bt, ot + kk, none⟩) (World.block_lt_of_cell? wr _ hcT)).trans hcT
          have hst : (convert 22 9 (.slice a5 s.size c5)).run Try.prog w3 = .ok (.string s) w3 := by
            have := mine_string o5 (by omega) HNS.out
            rwa [strOf_nums] at this
          have KW : Hid (Below x2.heap.size x2 w3) := bel_to HW.out (Nat.le_refl _) k5
          have O5 := hide o5
          clear hcl hcE hcS hcT k5 o5 G HW hcj hw1 hjb
          have HSD : Hid (w3.drew.cell? ⟨bl, ol + i, none⟩ = some (.string s) ∧ w3.drew.cell? ⟨be, oe + kk, none⟩ = some (.int .i64 (En : Int)) ∧ w3.drew.cell? ⟨bs, os + kk, none⟩ = some (.int .i64 (Fr : Int)) ∧ w3.drew.cell? ⟨bt, ot + kk, none⟩ = some (.string s) ∧ (convert 22 9 (.slice a5 s.size c5)).run Try.prog w3.drew = .ok (.string s) w3.drew) := by
            refine ⟨hcl3, hcE3, hcS3, hcT3, ?_⟩
            have := mine_string O5.out.drew (by omega) HNS.out
            rwa [strOf_nums] at this
          go_upto_region 16 with fail
          go_region_held3 (fun w' => w'.cell? ⟨bl, ol + i, none⟩ = some (.string s) ∧ w'.cell? ⟨be, oe + kk, none⟩ = some (.int .i64 (En : Int)) ∧ w'.cell? ⟨bs, os + kk, none⟩ = some (.int .i64 (Fr : Int)) ∧ w'.cell? ⟨bt, ot + kk, none⟩ = some (.string s) ∧ (convert 22 9 (.slice a5 s.size c5)).run Try.prog w' = .ok (.string s) w') (exact HSD.out) (fail)
          have KD : Hid (Below x2.heap.size x2 w3.drew) := KW.out.drew
          clear hcl3 hcE3 hcS3 hcT3 HSD O5 hst KW
          generalize w3.drew = w4 at *
          go_wp2
          go_roundw
          case rel => exact ⟨kk + 1, i + 1, by go_num, by go_num, by omega, by omega, by omega, HQ3, KD⟩
          case measure => simp [intOf]; omega
      · have HB : Hid ((bodiesK ss (i + 1)).length = kk) := by show _ = _; rw [BN.out (decide_eq_false hf)]; exact HKK.out
        have hf' : s.size < 1 ∨ 2000 < s.size := by omega
        clear BN hf FO1
        rcases hf' with f1 | f1
        · have t1 : (s.size : Int) < 1 := by omega
          go_wp2
          go_roundw
          case rel => exact ⟨kk, i + 1, rfl, by go_num, by omega, by omega, hkk, HB, HW⟩
          case measure => simp [intOf]; omega
        · have t1 : ¬ ((s.size : Int) < 1) := by omega
          have t2 : (2000 : Int) < s.size := by omega
          go_wp2
          go_roundw
          case rel => exact ⟨kk, i + 1, rfl, by go_num, by omega, by omega, hkk, HB, HW⟩
          case measure => simp [intOf]; omega
    · have hkn : kk = ne := by rw [← HKK.out, HEND.out i hi hi20 hlt, HNE.out]
      have hk' : ¬ ((i : Int) < n) ∨ ¬ ((i : Int) < 20) := by omega
      have G := hide (getframe_end ab nb cb (laidS gs) wr (by omega) hcb (R2.out.below HW.out (Nat.le_refl _)))
      have KW : Hid (Below w.heap.size w wr) := bel_to K2.out (Nat.le_refl _) HW.out
      subst hkn
      clear hlt HEND HFO HBN
      rcases hk' with h | h
      · go_wp2_with fail
        refine G.out.mono ?_
        rintro e w3 ⟨rfl, k5⟩
        have K5 : Hid (Below w.heap.size w w3) := bel_to KW.out (Nat.le_refl _) k5
        clear k5 G
        go_wp2_with fail
        refine (awake_any _).mono ?_
        rintro e x4 ⟨rfl, k6⟩
        go_wp2
        go_ret
        exact ⟨rfl, bel_to K5.out (Nat.le_refl _) k6⟩
      · by_cases h3 : (i : Int) < n
        · go_wp2_with fail
          refine G.out.mono ?_
          rintro e w3 ⟨rfl, k5⟩
          have K5 : Hid (Below w.heap.size w w3) := bel_to KW.out (Nat.le_refl _) k5
          clear k5 G
          go_wp2_with fail
          refine (awake_any _).mono ?_
          rintro e x4 ⟨rfl, k6⟩
          go_wp2
          go_ret
          exact ⟨rfl, bel_to K5.out (Nat.le_refl _) k6⟩
        · go_wp2_with fail
          refine G.out.mono ?_
          rintro e w3 ⟨rfl, k5⟩
          have K5 : Hid (Below w.heap.size w w3) := bel_to KW.out (Nat.le_refl _) k5
          clear k5 G
          go_wp2_with fail
          refine (awake_any _).mono ?_
          rintro e x4 ⟨rfl, k6⟩
          go_wp2
          go_ret
          exact ⟨rfl, bel_to K5.out (Nat.le_refl _) k6⟩
end Go.Proofs.Ytbpmmeagpefglab

namespace Go.Proofs.Ytbpmmeagpefglab.frameMany
open Go.ChangeShapes Go.WideShapes Go.ChangeAt Go.RowKit
open Go.ChangeMaps (open_string shut_string)
open Go.ChangeShapes
set_option linter.unusedVariables false

theorem own : ownKnob Try.prog.godebug = none := by kernel_rfl
theorem laidOut : laidOutB Try.prog = true := by kernel_rfl

set_option maxRecDepth 100000 in
theorem lifted (os : Os) (started : os.Started) (H : Type) (enc : TypeId × Value → H) :
    ReturnsInHanded {} Try.checked os 4 .any (Rows.frameManySpec.pre6 enc Try.prog Try.f4 Rows.frameManyRow.domain false) (Rows.frameManySpec.post enc Try.prog Try.f4 false true false false) := by
  refine returnsInHanded_of_change_sized (C := Try.checked) own started (by kernel_rfl) Try.func4
    (ChangeSpec.witness6 (enc := enc) (C := Try.checked) false ⟨#[], #[.slice none 0 0], []⟩ 8 (by kernel_rfl) (by kernel_rfl) (by kernel_rfl) (by kernel_rfl)) ?_
  intro W base args ds gs before hval0 hW hcnd hsz0 _
  have hsz : (DataW.weightsEach Try.prog (Try.f4.params.toList ++ Rows.frameManySpec.plain.varTypes Try.prog) (ds ++ gs)).all (· ≤ reachBytes) = true := hsz0
  have hval : ∀ (j : Nat) t v, Try.f4.params[j]? = some t → args[j]? = some v → Value.okWide Try.prog W .any base t v := hval0
  have hW' := hW
  obtain ⟨p, q, hA0, hV, rfl, hfz, hnd⟩ := hW
  have hA : DataW.TrodAll enc Try.prog W 0 (fun _ => true) true Try.f4.params.toList args.toList ds p := hA0
  rw [Try.params4] at hA hval hsz
  obtain ⟨v0, vs0, d0, ds0, p0, q0, hargs, rfl, rfl, h0, r0⟩ := trodAll_cons hA
  obtain ⟨rfl, rfl, rfl⟩ := trodAll_nil r0
  obtain rfl : args = #[v0] := by cases args; simp_all
  obtain ⟨rfl, rfl⟩ := trodVars_none hV
  obtain ⟨a0, len0, cap0, rfl⟩ := okWide_slice Try.underlying29 (hval 0 29 v0 rfl rfl)
  have k0 := h0
  have lt0 : ∀ x ∈ p0, x.block < W.heap.size := by obtain ⟨m, hm⟩ := k0; exact DataW.trod_lt m _ _ _ hm
  obtain ⟨z0, w0⟩ : ∃ ss, IsTextsF W a0 len0 cap0 ss := by
    obtain ⟨fuel, hf⟩ := h0
    rcases open_strings Try.underlying29 Try.underlying9 (by kernel_rfl) hf with ⟨hcs, _⟩ | ⟨x, l, c, ss, hcs, _, hl, hm, hz, hx, hcell, hws⟩
    · simp [Value.cells] at hcs
      obtain ⟨rfl, rfl, rfl⟩ := hcs
      exact ⟨[], by decide, .inl ⟨rfl, rfl, rfl, rfl⟩⟩
    · simp [Value.cells] at hcs
      obtain ⟨rfl, rfl, rfl⟩ := hcs
      have hd := congrArg Prod.fst hx
      simp only at hd
      have hzc : ss.length = cap0 := by simpa using hz
      have hs := sized_slice hsz (j := 0) (t := 29) (e := 9) rfl (by rw [hd]; rfl) Try.underlying29
      rw [show Try.prog.bytesOf 9 = 16 from by kernel_rfl] at hs
      simp only [strs, List.length_map, List.length_take, List.length_drop, reachBytes] at hs
      exact ⟨ss, by omega, .inr ⟨_, rfl, hl, hzc, hcell⟩⟩
  clear hA0 hval0 hsz0 hsz
  refine (walk_many a0 len0 cap0 z0 W w0).mono fun e W' ⟨he, bel⟩ => ?_
  subst he
  exact ⟨_, rfl, _, _, _, [], _, [], hW', trodAll_mk1 (shut_bool Try.underlying4 _), (trodAll_cons_mk (Below.trod laidOut (by kernel_rfl) (of_decide_eq_true (by kernel_rfl)) k0 bel lt0) trodAll_mk0), rfl, bel.frame _, fun h => by cases h⟩

theorem proved : Rows.FrameManySaid :=
  OpenClaim.holds_of_wide 4 Try.f4 rfl rfl rfl rfl rfl rfl rfl ⟨rfl, rfl, rfl, rfl, rfl⟩ rfl rfl rfl rfl rfl (by kernel_rfl) Try.func4 (by kernel_rfl)
    (of_decide_eq_true (by kernel_rfl)) (by unfold Func.isWrapper; first | (rw [if_pos (by decide +kernel)]; kernel_rfl) | (rw [if_neg (by decide +kernel)]; exact ⟨rfl, rfl⟩))
    (fun os started H enc _ => lifted os started H enc)
end Go.Proofs.Ytbpmmeagpefglab.frameMany
