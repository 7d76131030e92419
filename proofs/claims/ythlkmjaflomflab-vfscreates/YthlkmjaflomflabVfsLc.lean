/-
  Statement VfsCreates over the landed file system: a contract, for every world (written by gen/vfslc.gen.py).
  Conditions: the arguments are told.
-/
import Derived.Test.YthlkmjaflomflabVfsLa
import Derived.Test.YthlkmjaflomflabVfsLb
import Derived.Test.YthlkmjaflomflabPlace
namespace Go.Proofs.Ythlkmjaflomflab
open Go.RowKit Go.Maps
set_option maxRecDepth 20000
set_option linter.unusedVariables false

theorem onL_from {w v u : World} {g : Nat} {F : Fs} (b : Below w.heap.size w v) (h : MadeV LAt v u g F) : OnL w.heap.size w u g F := by
  obtain ⟨S, q1, q2, q3⟩ := h
  exact ⟨S, q1, fun k hk => Nat.le_trans b.size (q2 k hk), b.trans (q3.mono b.size), Nat.le_trans b.size q3.size⟩
theorem one_name (v : World) (s : ByteArray) (e : TypeId) : RowX (v.alloc (.cells #[.string s] e)) (some ⟨v.heap.size, 0, none⟩) 1 [s] :=
  ⟨rfl, by decide, Or.inr ⟨v.heap.size, 0, rfl, fun i hi => by
    obtain rfl : i = 0 := by omega
    rw [World.cell?_alloc_mark]; rfl⟩⟩
theorem one_data (v : World) (x : H3) (d : List Int) (e : TypeId) (hr : Row .u8 v x.1 x.2.1 d) (h1 : x.2.1 ≤ x.2.2) (h2 : x.1 = none → x.2.2 = 0) : RowBB (v.alloc (.cells #[.slice x.1 x.2.1 x.2.2] e)) (some ⟨v.heap.size, 0, none⟩) 1 [x] [d] :=
  ⟨rfl, rfl, Or.inr ⟨v.heap.size, 0, rfl, fun i h hi => by
    match i, hi with
    | 0, hi =>
      obtain rfl := Option.some.inj hi
      rw [World.cell?_alloc_mark]; rfl
    | i + 1, hi => simp at hi⟩, fun i h z hi hz => by
    match i, hi, hz with
    | 0, hi, hz =>
      obtain rfl := Option.some.inj hi
      obtain rfl := Option.some.inj hz
      exact ⟨hr.alloc _, h1, h2⟩
    | i + 1, hi, hz => simp at hi⟩

set_option maxHeartbeats 16000000 in
theorem creates_walk (a : Option Addr) (n c : Nat) (zs : List Int) (a2 : Option Addr) (n2 c2 : Nat) (zs2 : List Int) (ops : Int) (w : World) (h1 : IsRow .u8 w a n c zs) (h2 : IsRow .u8 w a2 n2 c2 zs2) (ho : (Lit.int .i64 ops).wf = true) :
    Calls Try.prog 3 #[.slice a n c, .slice a2 n2 c2, .int .i64 ops] w fun e w' => e = .returned (.bool true) ∧ Below w.heap.size w w' := by
  obtain ⟨hnc1, -, hc1, r1⟩ := row_of h1
  obtain ⟨hnc2, -, hc2, r2⟩ := row_of h2
  obtain ⟨data, hdata⟩ : ∃ data, zs.take n = data := ⟨_, rfl⟩
  obtain ⟨more, hmore⟩ : ∃ more, zs2.take n2 = more := ⟨_, rfl⟩
  rw [hdata] at r1
  rw [hmore] at r2
  have R1 := hide r1
  have R2 := hide r2
  clear h1 h2 r1 r2 hdata hmore
  by_cases hbig : 1000 < n ∨ 1000 < n2
  · by_cases hb1 : 1000 < n
    · have d1 : decide ((1000 : Int) < (n : Int)) = true := decide_eq_true (by omega)
      have d2 : decide (1000 < n) = true := decide_eq_true hb1
      go_enter Try.func3, Try.ntmps3
      go_wp2_with fail
      with_reducible refine (awakeV_any _).mono ?_
      rintro e u0 ⟨rfl, b0⟩
      have B0 := hide b0
      clear b0
      go_wp2_with fail
      with_reducible refine (awakeV_any _).mono ?_
      rintro e u1 ⟨rfl, b1⟩
      have B1 := hide (bel_to B0.out (Nat.le_refl _) b1)
      clear b1 B0
      go_wp2
      go_ret
      exact ⟨rfl, B1.out⟩
    · have d1 : decide ((1000 : Int) < (n : Int)) = false := decide_eq_false (by omega)
      have d2 : decide (1000 < n) = false := decide_eq_false hb1
      have hb2 : 1000 < n2 := hbig.resolve_left hb1
      have d3 : decide ((1000 : Int) < (n2 : Int)) = true := decide_eq_true (by omega)
      have d4 : decide (1000 < n2) = true := decide_eq_true hb2
      go_enter Try.func3, Try.ntmps3
      go_wp2_with fail
      with_reducible refine (awakeV_any _).mono ?_
      rintro e u0 ⟨rfl, b0⟩
      have B0 := hide b0
      clear b0
      go_wp2_with fail
      with_reducible refine (awakeV_any _).mono ?_
      rintro e u1 ⟨rfl, b1⟩
      have B1 := hide (bel_to B0.out (Nat.le_refl _) b1)
      clear b1 B0
      go_wp2
      go_ret
      exact ⟨rfl, B1.out⟩
  · have hn1 : n ≤ 1000 := by omega
    have hn2 : n2 ≤ 1000 := by omega
    have d1 : decide ((1000 : Int) < (n : Int)) = false := decide_eq_false (by omega)
    have d2 : decide (1000 < n) = false := decide_eq_false (by omega)
    have d3 : decide ((1000 : Int) < (n2 : Int)) = false := decide_eq_false (by omega)
    have d4 : decide (1000 < n2) = false := decide_eq_false (by omega)
    clear hbig
    go_enter Try.func3, Try.ntmps3
    go_wp2_with fail
    with_reducible refine (awakeV_any _).mono ?_
    rintro e u0 ⟨rfl, b0⟩
    have BW0 := hide b0
    clear b0
    have BD := hide (bytes8_any a n c data (u0.alloc (.cells #[.string ⟨#[97]⟩] 9)) (R1.out.below (bel_al BW0.out (Nat.le_refl _) _) (Nat.le_refl _)) hc1 (by omega))
    go_wp2_with fail
    with_reducible refine BD.out.mono ?_
    rintro e v1 ⟨xa, xc, rfl, ox, b1⟩
    have bn1 : Below u0.heap.size u0 v1 := ((Below.refl _ _).alloc (Nat.le_refl _) _).trans (b1.mono (by simp))
    have NM : Hid (RowX (v1.alloc (.cells #[.slice xa n xc] 22)) (some ⟨u0.heap.size, 0, none⟩) 1 [⟨#[97]⟩]) := ((one_name u0 ⟨#[97]⟩ 9).below b1 (Nat.le_refl _)).below ((Below.refl _ _).alloc (Nat.le_refl _) _) (Nat.le_refl _)
    have DB := hide (one_data v1 (xa, n, xc) data 22 (ownB_row ox (by show n ≤ _; omega) R1.out.bytes) (OwnG.capped ox).1 (fun e => ((OwnG.capped ox).2 e).2))
    have BV1 : Hid (Below w.heap.size w (v1.alloc (.cells #[.slice xa n xc] 22))) := bel_al (BW0.out.trans (bn1.mono BW0.out.size)) (Nat.le_refl _) _
    have LD := hide (llaid_any (some ⟨u0.heap.size, 0, none⟩) 1 1 [⟨#[97]⟩] (some ⟨v1.heap.size, 0, none⟩) 1 1 [(xa, n, xc)] [data] _ NM.out (fun s hs => by obtain rfl := List.mem_singleton.1 hs; decide) DB.out (by omega) (by omega))
    rw [oneL_laid (by have := R1.out.1; omega)] at LD
    clear ox b1 bn1 BD NM DB BW0
    go_wp2_with fail
    with_reducible refine LD.out.mono ?_
    rintro e u1 ⟨-, g, rfl, hm⟩
    have H1 := hide (onL_from BV1.out hm)
    clear hm LD BV1
    have hdl := R1.out.1
    have L1 := hide (oneL_lim (data := data) (m := 1000) (by omega) (by omega))
    have CR := hide (on_create H1.out L1.out (by omega) ⟨#[97]⟩ (by decide))
    rw [cr_create] at CR
    have L2 : Hid (LimB 1002 (cr1 data)) := by have := L1.out.create ⟨#[97]⟩; rw [cr_create] at this; exact this
    clear H1
    go_wp2_with fail
    with_reducible refine CR.out.mono ?_
    rintro e u2 ⟨rfl, h2⟩
    have H2 := hide h2
    have RD := hide (on_read h2 L2.out (by omega) ⟨#[97]⟩ (by decide))
    rw [cr_read] at RD
    clear h2 CR
    go_wp2_with fail
    with_reducible refine RD.out.mono ?_
    rintro e u3 ⟨b3, ar, ac, rfl, -⟩
    have H3 := hide (H2.out.below b3)
    clear b3 RD H2
    have BM := hide (bytes8_any a2 n2 c2 more u3 (R2.out.below H3.out.bel (Nat.le_refl _)) hc2 (by omega))
    go_wp2_with fail
    with_reducible refine BM.out.mono ?_
    rintro e v3 ⟨xa2, xc2, rfl, ox2, b4⟩
    have AP := hide (on_append (H3.out.below b4) L2.out (by omega) ⟨#[97]⟩ (by decide) xa2 n2 xc2 more (ownB_row ox2 (by omega) R2.out.bytes) (by omega) (OwnG.capped ox2).1)
    have hml := R2.out.1
    rw [cr_append data (by omega)] at AP
    have L4 : Hid (LimB 3003 (cr2 data more)) := by have := L2.out.append ⟨#[97]⟩ more; rw [cr_append data (by omega)] at this; exact this.mono (by omega)
    clear ox2 b4 BM H3
    go_wp2_with fail
    with_reducible refine AP.out.mono ?_
    rintro e u4 ⟨rfl, h4⟩
    have H4 := hide h4
    have SY := hide (on_sync h4 L4.out (by omega) ⟨#[97]⟩ (by decide))
    rw [cr_sync] at SY
    have L5 : Hid (LimB 3004 (cr3 data more)) := by have := L4.out.sync ⟨#[97]⟩; rw [cr_sync] at this; exact this
    clear h4 AP H4
    go_wp2_with fail
    with_reducible refine SY.out.mono ?_
    rintro e u5 ⟨rfl, h5⟩
    have CS := hide (on_crash h5 L5.out (by omega) ops ho none 0 0 [] ⟨rfl, by decide, fun z hz => by simp at hz, Or.inl rfl⟩ (by omega))
    have H5 := hide h5
    clear h5 SY
    go_wp2_with fail
    with_reducible refine CS.out.mono ?_
    rintro e u6 ⟨g6, rfl, b6, h6⟩
    have R6 := hide (on_read h6 (L5.out.crash ops []) (by omega) ⟨#[97]⟩ (by decide))
    rw [cr_crash] at R6
    have H6 := hide h6
    clear h6 b6 CS H5
    go_wp2_with fail
    with_reducible refine R6.out.mono ?_
    rintro e u7 ⟨b7, ar7, ac7, rfl, o7⟩
    have H7 := hide (H6.out.below b7)
    have S1 := string8 (R1.out.below H7.out.bel (Nat.le_refl _)) (cap := c)
    have S2 := string8 (R2.out.below H7.out.bel (Nat.le_refl _)) (cap := c2)
    by_cases hop : 1 ≤ ops
    · rw [if_pos hop] at o7 ⊢
      have S7 := string8 (ownB_row o7 (by omega) R2.out.bytes) (cap := ac7)
      rw [hml] at S7 ⊢
      generalize strOfNums more = sm at S7 S2
      clear o7 b7 R6 H6
      go_wp2
      go_ret
      exact ⟨rfl, H7.out.bel⟩
    · rw [if_neg hop] at o7 ⊢
      have S7 := string8 (ownB_row o7 (by omega) R1.out.bytes) (cap := ac7)
      rw [hdl] at S7 ⊢
      generalize strOfNums data = sm at S7 S1
      clear o7 b7 R6 H6
      go_wp2
      go_ret
      exact ⟨rfl, H7.out.bel⟩
end Go.Proofs.Ythlkmjaflomflab
