/-
  A list that rises, by the reader: a contract, for every world: the reader alone turns; and the reader's list and gauge where it is spoilt.
  Conditions: the reader's bytes lie in memory older than itself; at most 1048576 of them, or as many numbers.
-/
import Derived.Test.YtadcaonkmncgoaaGreatBytB
import Derived.Test.YtadcaonkmncgoaaGreatChK
import Derived.Test.YtadcaonkmncgoaaGreatHistRz
import Derived.Test.YtadcaonkmncgoaaGreatGaugeBz
namespace Go.Proofs.YtadcaonkmncgoaaGreat
open Go.RowKit
set_option maxRecDepth 20000

theorem Only.chh {g : Nat} {w w' : World} (h : Only g w w') : Ch (fun k => k = g) w w' := ⟨h.os, h.tape, h.output, by rw [h.size]; exact Nat.le_refl _, fun k _ hn => h.block k hn⟩
theorem ch_lo {g B : Nat} {w W : World} (c : Ch (fun k => k = g) w W) (hB : B ≤ g) (hw : B ≤ w.heap.size) : Below B w W := c.below hw (fun k hk e => by omega)
theorem ch_bel {S : Nat → Prop} {w X y : World} (c : Ch S w X) (b : Below w.heap.size X y) : Ch S w y :=
  ⟨b.os.trans c.os, b.tape.trans c.tape, b.output.trans c.output, Nat.le_trans c.size b.size, fun k hk hn => (b.block k hk).trans (c.block k hk hn)⟩
/-- How it stands behind k rounds: all is well, or the reader is spoilt. -/
def StandC (B : Nat) (zs : List Int) (p0 most : Int) (m g : Nat) (a : Option Addr) (n cap k : Nat) (ar : Option Addr) (nr capr : Nat) (wr : World) : Prop :=
  (∃ q p pre, RB wr g a n cap q false ∧ 0 ≤ q ∧ q ≤ n ∧ k = nr ∧ MineL wr B ar nr capr pre ∧ -1 ≤ p ∧ p ≤ 18446744073709551615 ∧ (k = 0 → p = -1) ∧ (0 < k → 0 ≤ p ∧ pre.getD (k - 1) 0 = p) ∧ (∀ z ∈ pre, W64 z) ∧
    riseS zs p0 most = (riseG zs (m - k) p q).map fun r => (pre ++ r.1, r.2)) ∨
  (∃ q, RB wr g a n cap q true ∧ riseS zs p0 most = none)
/-- What the reader's Rise leaves. -/
def ReadC (g : Nat) (a : Option Addr) (n cap : Nat) (r : Option (List Int × Int)) (w w' : World) (e : Ending) : Prop :=
  Ch (fun k => k = g) w w' ∧ match r with
  | none => e = .returned (.slice none 0 0) ∧ ∃ p', RB w' g a n cap p' true
  | some q => ∃ a' cap', e = .returned (.slice a' q.1.length cap') ∧ MineL w' w.heap.size a' q.1.length cap' q.1 ∧ RB w' g a n cap q.2 false

set_option maxRecDepth 100000 in
set_option maxHeartbeats 2000000 in
theorem rrise_ch (p most : Int) (g : Nat) (a : Option Addr) (n cap : Nat) (zs : List Int) (w0 w : World) (hp : (Lit.int .i64 p).wf = true) (hm : (Lit.int .i64 most).wf = true) (hc : n ≤ cap) (hn : n ≤ 1048576 ∨ most ≤ 1048576) (hr : Row .u8 w0 a n zs) (hg : w0.heap.size ≤ g) (hb : Below w0.heap.size w0 w) (hrb : RB w g a n cap p false) :
    Calls Tryz.prog 29 #[.pointer (some ⟨g, 0, none⟩), .int .i64 most] w fun e w' => ReadC g a n cap (riseS zs p most) w w' e := by
  have C := hide (rcount_any p most g a n cap zs w0 w hp hm hc hr hg hb hrb)
  have HR := hide hr
  have HB := hide hb
  have hl := hr.1
  have hn2 := hr.2.1
  have hgw := hrb.lt
  obtain ⟨i0, hi, hz0, hz1, hz2⟩ := info_parts Tryz.info22
  clear hp hm hb hrb
  cases hs : sizeS zs p most with
  | none =>
    have HE : Hid (riseS zs p most = none) := by show _ = _; unfold riseS; rw [hs]
    rw [hs] at C
    simp only [CountP] at C
    clear hs hl hi hz0 hz1 hz2 hr
    go_enter Tryz.func29, Tryz.ntmps29
    go_wp2_with fail
    refine C.out.mono ?_
    rintro e x ⟨k, rfl, p', hrb⟩
    obtain ⟨_, _, d2, _⟩ := hrb.cell
    have RS := hide hrb
    have OS := hide k.chh
    clear k hrb C
    go_wp2
    refine wp_loop_rounds 1 ?_
    rw [rounds_succ]
    go_wp2
    go_ret
    rw [HE.out]
    exact ⟨OS.out, rfl, _, RS.out⟩
  | some q0 =>
    obtain ⟨v0, fr⟩ := q0
    obtain ⟨_, hv0, hvm, hf0, hle⟩ := sizeS_some hr.bytes hs
    obtain ⟨m, rfl⟩ := Int.eq_ofNat_of_zero_le hv0
    have hmn : m ≤ n := by omega
    have hmm : m ≤ 1048576 := by
      rcases hn with h | h
      · omega
      · omega
    have hfn : fr ≤ n := by omega
    have HE : Hid (riseS zs p most = riseG zs m (-1) fr) := by show _ = _; unfold riseS; rw [hs]; rfl
    rw [hs] at C
    simp only [CountP] at C
    clear hs hl hr hle hv0 hvm
    go_enter Tryz.func29, Tryz.ntmps29
    go_wp2_with fail
    refine C.out.mono ?_
    rintro e x ⟨k, rfl, hrb⟩
    have RS := hide hrb
    have OS := hide k.chh
    have hgx : g < x.heap.size := hrb.lt
    clear k hrb C
    go_wp2
    go_loopw [6, 7] (fun l i wr => ∃ (k : Nat) (ar : Option Addr) (nr capr : Nat), k ≤ m ∧ nr ≤ 1048576 ∧ i = .int .i64 k ∧ l = .slice ar nr capr ∧ Hid (Ch (fun k => k = g) w wr) ∧ Hid (g < wr.heap.size) ∧ Hid (StandC w.heap.size zs p most m g a n cap k ar nr capr wr)) (fun _ i _ => m - (intOf i).toNat)
    case atStart =>
      refine ⟨0, none, 0, 0, by omega, by omega, rfl, rfl, OS, hgx, Or.inl ⟨fr, -1, [], RS, hf0, hfn, rfl, own_nil _ _ _ _, by omega, by omega, fun _ => rfl, fun h => absurd h (by omega), by simp, ?_⟩⟩
      rw [HE.out, Nat.sub_zero]
      cases riseG zs m (-1) fr <;> simp
    case round =>
      obtain ⟨k, ar, nr, capr, hk, hnr, rfl, rfl, HW, HG, HS⟩ := hrel
      clear RS OS
      rcases HS.out with ⟨q, pp, pre, hrb, q0, q1, rfl, hown, p0, p1, e0, e1, e4, e5⟩ | ⟨q, hrb, hnone⟩
      · obtain ⟨_, _, d2, _⟩ := hrb.cell
        by_cases hlt : k < m
        · have hbw : Below w0.heap.size w0 wr := HB.out.trans (ch_lo HW.out hg HB.out.size)
          have N := hide (num_var q g a n cap zs w0 wr (i64_wf (by omega) (by omega)) HR.out hg hbw hrb)
          have HO := hide hown
          have HE1 := hide e1
          have HE0 := hide e0
          have HE4 := hide e4
          have HE5 := hide e5
          clear e0 e1 e4 e5 hrb hown HS hbw HE
          go_wp2_with fail
          refine N.out.mono ?_
          rintro e x ⟨v, q', bad, rfl, k8, hrb, hv, hgot⟩
          obtain ⟨_, _, b2, bf⟩ := hrb.cell
          have bf2 := bf 2
          have v0 := hv.1
          have v1 := hv.2
          have OX := hide (HO.out.only k8 (by omega))
          have KX : Hid (Ch (fun k => k = g) w x) := HW.out.trans k8.chh
          have hwx := KX.out.size
          have hgx2 : g < x.heap.size := hrb.lt
          have RBX := hide hrb
          have HNS : Hid (¬ 18446744073709551615 - pp ≤ v → ∀ y ar' cap', RB y g a n cap q' bad → MineL y w.heap.size ar' (k + 1) cap' (pre ++ [pp + v + 1]) → StandC w.heap.size zs p most m g a n cap (k + 1) ar' (k + 1) cap' y) := by
            intro hno y ar' cap' h1 h2
            have hpl := HO.out.len
            rcases hgot with ⟨rfl, hgs⟩ | ⟨rfl, hgs⟩
            · obtain ⟨_, kk, _, _, hnx, hle, _⟩ := getS_some HR.out.bytes hgs
              have hzl := HR.out.1
              refine Or.inl ⟨q', pp + v + 1, pre ++ [pp + v + 1], h1, by omega, by omega, rfl, h2, by omega, by omega, fun h => absurd h (by omega), fun _ => ⟨by omega, ?_⟩, ?_, ?_⟩
              · rw [Nat.add_sub_cancel, ← hpl]; simp
              · intro z hz
                rcases List.mem_append.1 hz with hz | hz
                · exact HE4.out z hz
                · simp at hz; subst hz; exact ⟨by omega, by omega⟩
              · rw [HE5.out, riseG_some hlt hgs, if_neg hno, map_pre]
            · exact Or.inr ⟨q', h1, by rw [HE5.out, riseG_none hlt hgs]; rfl⟩
          have HBAD : Hid (18446744073709551615 - pp ≤ v → riseS zs p most = none) := by
            intro hyes
            rcases hgot with ⟨rfl, hgs⟩ | ⟨rfl, hgs⟩
            · rw [HE5.out, riseG_some hlt hgs, if_pos hyes]; rfl
            · rw [HE5.out, riseG_none hlt hgs]; rfl
          clear k8 hrb hgot hv bf N HE5 HO
          by_cases hk0 : k = 0
          · have hp1 : pp = -1 := HE0.out hk0
            have hz : pp + v + 1 = v := by omega
            rw [hz] at HNS
            have tk : ((k : Int) == 0) = true := by simp [hk0]
            have HN2 := hide (HNS.out (by omega))
            have H1 := hide (one_row (k := .u64) x v (wf_of_u64 ⟨v0, v1⟩) 24 (0, 0))
            have SA : Hid (Src 24 .u64 (x.alloc (.cells #[.int .u64 v] 24)) w.heap.size ar k capr pre) := Or.inl (OX.out.alloc _)
            have HBW : Hid (w.heap.size ≤ (x.alloc (.cells #[.int .u64 v] 24)).heap.size) := by
              show _ ≤ _
              simp; omega
            clear hp1 hz HNS hk0 p0
            go_wp2_with (at_builtin; refine wpList_append_src (ek := .u64) _ rfl _ _ 23 rfl w.heap.size 24 i0 8 Tryz.underlying23 hi hz0 hz1 hz2 ar k capr _ rfl SA.out _ 1 1 [v] rfl (by decide) H1.out (by omega) (by decide) HBW.out ?_)
            intro a' cap' y h1 h2
            have RY : RB y g a n cap q' bad := (RBX.out.below ((Below.refl x.heap.size x).alloc (Nat.le_refl _) (.cells #[.int .u64 v] 24)) hgx2).below h2 (by omega)
            have HST := hide (HN2.out y a' cap' RY h1)
            have KY : Hid (Ch (fun k => k = g) w y) := ch_bel (KX.out.alloc _) h2
            have hgy : Hid (g < y.heap.size) := RY.lt
            clear h1 h2 RY SA H1 HBW HN2
            go_wp2
            go_roundw
            case rel => exact ⟨k + 1, a', k + 1, cap', by omega, by omega, by go_num, rfl, KY, hgy, HST⟩
            case measure => simp [intOf]; omega
          · obtain ⟨j, rfl⟩ : ∃ j, k = j + 1 := ⟨k - 1, by omega⟩
            have hp1 : 0 ≤ pp := (HE1.out (by omega)).1
            have hp2 : pre.getD j 0 = pp := (HE1.out (by omega)).2
            have tk : ((j : Int) + 1 == 0) = false := by simp; omega
            have j1 : (0 : Int) ≤ (j : Int) := by omega
            have j2 : (j : Int) < (j : Int) + 1 := by omega
            obtain ⟨_, _, _, h | ⟨lb, lo, rfl, hcell⟩⟩ := OX.out.row (by omega) (words_wf' HE4.out)
            · omega
            have hcj := hcell j (by omega)
            rw [hp2] at hcj
            clear hcell hp2 hk0 p0
            by_cases hyes : 18446744073709551615 - pp ≤ v
            · have HN2 := hide (HBAD.out hyes)
              have RS := hide RBX.out.spoil
              have KS : Hid (Ch (fun k => k = g) w (x.setCell ⟨g, 2, none⟩ (.bool true))) := KX.out.trans (ch_set x g 2 _)
              go_wp2
              go_ret
              rw [HN2.out]
              exact ⟨KS.out, rfl, _, RS.out⟩
            · have HN2 := hide (HNS.out hyes)
              have hs1 : pp + v ≤ 18446744073709551614 := by omega
              have hs4 : 0 ≤ pp + v + 1 := by omega
              have H1 := hide (one_row (k := .u64) x (pp + v + 1) (wf_of_u64 ⟨by omega, by omega⟩) 24 (0, 0))
              have SA : Hid (Src 24 .u64 (x.alloc (.cells #[.int .u64 (pp + v + 1)] 24)) w.heap.size (some ⟨lb, lo, none⟩) (j + 1) capr pre) := Or.inl (OX.out.alloc _)
              have HBW : Hid (w.heap.size ≤ (x.alloc (.cells #[.int .u64 (pp + v + 1)] 24)).heap.size) := by
                show _ ≤ _
                simp; omega
              clear HNS
              go_wp2_with (at_builtin; refine wpList_append_src (ek := .u64) _ rfl _ _ 23 rfl w.heap.size 24 i0 8 Tryz.underlying23 hi hz0 hz1 hz2 (some ⟨lb, lo, none⟩) (j + 1) capr _ rfl SA.out _ 1 1 [pp + v + 1] rfl (by decide) H1.out (by omega) (by decide) HBW.out ?_)
              intro a' cap' y h1 h2
              have RY : RB y g a n cap q' bad := (RBX.out.below ((Below.refl x.heap.size x).alloc (Nat.le_refl _) (.cells #[.int .u64 (pp + v + 1)] 24)) hgx2).below h2 (by omega)
              have HST := hide (HN2.out y a' cap' RY h1)
              have KY : Hid (Ch (fun k => k = g) w y) := ch_bel (KX.out.alloc _) h2
              have hgy : Hid (g < y.heap.size) := RY.lt
              clear h1 h2 RY SA H1 HBW HN2
              go_wp2
              go_roundw
              case rel => exact ⟨j + 1 + 1, a', j + 1 + 1, cap', by omega, by omega, by go_num, rfl, KY, hgy, HST⟩
              case measure => simp [intOf]; omega
        · have : k = m := by omega
          subst this
          have HF : Hid (riseS zs p most = some (pre, q)) := by
            show _ = _
            rw [e5, Nat.sub_self, riseG]; simp
          have HO := hide (And.intro hown hrb)
          have hpl := hown.len
          clear e0 e1 e4 e5 hrb hown HS
          go_wp2
          go_ret
          rw [HF.out]
          refine ⟨HW.out, ar, capr, ?_, ?_, HO.out.2⟩
          · show Ending.returned (.slice ar k capr) = _
            rw [hpl]
          · rw [hpl]; exact HO.out.1
      · obtain ⟨_, _, d2, _⟩ := hrb.cell
        have HN := hide (And.intro hrb hnone)
        clear hrb hnone HS
        by_cases hlt : k < m
        · go_wp2
          go_ret
          rw [HN.out.2]
          exact ⟨HW.out, rfl, _, HN.out.1⟩
        · have : k = m := by omega
          subst this
          go_wp2
          go_ret
          rw [HN.out.2]
          exact ⟨HW.out, rfl, _, HN.out.1⟩

set_option maxHeartbeats 1000000 in
theorem risebad_any (g : Nat) (a : Option Addr) (n cap : Nat) (p most : Int) (w : World) (hrb : RB w g a n cap p true) :
    Calls Tryz.prog 29 #[.pointer (some ⟨g, 0, none⟩), .int .i64 most] w fun e w' => e = .returned (.slice none 0 0) ∧ Ch (fun k => k = g) w w' ∧ RB w' g a n cap p true := by
  have C := hide (countbad_any g a n cap p most w hrb)
  clear hrb
  go_enter Tryz.func29, Tryz.ntmps29
  go_wp2_with fail
  refine C.out.mono ?_
  rintro e x ⟨rfl, k, hrb⟩
  obtain ⟨_, _, d2, _⟩ := hrb.cell
  have RS := hide hrb
  have OS := hide k.chh
  clear k hrb C
  go_wp2
  refine wp_loop_rounds 1 ?_
  rw [rounds_succ]
  go_wp2
  go_ret
  exact ⟨rfl, OS.out, RS.out⟩

theorem rd_newb (w : World) (t : TypeId) {g : Nat} {a : Option Addr} {n cap : Nat} {p : Int} (h : RB w g a n cap p true) :
    Rd w ((w.alloc (.cells #[.int .u64 0, .int .u64 0, .int .u64 0, .int .u64 0] t)).alloc (.cells #[.int .u64 0, .int .u64 0, .int .u64 0, .int .u64 0] t)) g w.heap.size (w.heap.size + 1) a n cap p true g0 := by
  have hl := h.lt'
  have b := bel2 w (.cells #[.int .u64 0, .int .u64 0, .int .u64 0, .int .u64 0] t) (.cells #[.int .u64 0, .int .u64 0, .int .u64 0, .int .u64 0] t)
  exact ⟨h.block (b.block _ hl), (GBox.new w t 0 0 0 0).alloc _, GBox.new2 w _ t 0 0 0 0, (Ch.of_below b).more (fun _ _ e => e.elim), hl, by omega, by omega, Nat.le_refl _, by omega⟩

set_option maxHeartbeats 2000000 in
theorem ggetbad_any (g : Nat) (a : Option Addr) (n cap : Nat) (p : Int) (w : World) (hrb : RB w g a n cap p true) :
    Calls Tryz.prog 30 #[.pointer (some ⟨g, 0, none⟩)] w fun e w' => e = .returned (.agg #[.int .u64 0, .int .u64 0, .int .u64 0, .int .u64 0]) ∧ Ch (fun k => k = g) w w' ∧ RB w' g a n cap p true := by
  have R0 := hide (rd_newb w 26 hrb)
  have N := hide (fun W q (h : RB W g a n cap q true) => numbad_any g a n cap q W h)
  obtain ⟨A, hA⟩ : ∃ A, Hid (w.heap.size = A) := ⟨_, rfl⟩
  obtain ⟨V, hV⟩ : ∃ V, Hid (A + 1 = V) := ⟨_, rfl⟩
  rw [hA.out] at R0
  rw [hV.out] at R0
  clear hrb
  go_enter Tryz.func30, Tryz.ntmps30
  go_upto_region 2 with fail
  generalize (w.alloc (.cells #[.int .u64 0, .int .u64 0, .int .u64 0, .int .u64 0] 26)).alloc (.cells #[.int .u64 0, .int .u64 0, .int .u64 0, .int .u64 0] 26) = u0 at R0 ⊢
  rw [hA.out, hV.out]
  clear hA hV
  go_wp2_with fail
  with_reducible refine (N.out _ _ R0.out.rb).mono ?_
  rintro e u1 ⟨rfl, o1, b1⟩
  have R1 := hide (R0.out.only o1 b1)
  have R2 := hide (R1.out.nans 0)
  clear o1 b1 R0
  have c1 := R1.out.bv.c1
  have f1 := R1.out.bv.f1
  go_upto_region 3 with fail
  generalize u1.setCell ⟨V, 1, none⟩ (.int .u64 0) = u2 at R2 ⊢
  clear c1 f1 R1
  go_wp2_with fail
  with_reducible refine (N.out _ _ R2.out.rb).mono ?_
  rintro e u3 ⟨rfl, o1, b1⟩
  have R3 := hide (R2.out.only o1 b1)
  have R4 := hide (R3.out.num 0)
  clear o1 b1 R2
  have c0 := R3.out.bv.c0
  have f0 := R3.out.bv.f0
  go_upto_region 4 with fail
  generalize u3.setCell ⟨V, 0, none⟩ (.int .u64 0) = u4 at R4 ⊢
  clear c0 f0 R3
  have d2 := R4.out.rb.cell.2.2.1
  have df := R4.out.rb.cell.2.2.2 2
  have R5 := hide R4.out.spoil
  go_upto_region 9 with fail
  generalize u4.setCell ⟨g, 2, none⟩ (.bool true) = u5 at R5 ⊢
  clear d2 df R4
  have F := hide (R5.out.ans g0)
  have z0 := R5.out.ba.c0
  have z1 := R5.out.ba.c1
  have z2 := R5.out.ba.c2
  have z3 := R5.out.ba.c3
  have y0 := R5.out.ba.f0
  have y1 := R5.out.ba.f1
  have y2 := R5.out.ba.f2
  have y3 := R5.out.ba.f3
  dsimp only [g0] at F
  go_wp2
  obtain ⟨e0, _, _⟩ := id F.out
  have q0 := e0.c0
  have q1 := e0.c1
  have q2 := e0.c2
  have q3 := e0.c3
  exact bodyPost_ret (v := .agg #[.int .u64 0, .int .u64 0, .int .u64 0, .int .u64 0]) (by simp [results, Tryz.results30, go_sem, q0, q1, q2, q3]) rfl ⟨rfl, F.out.2.2, F.out.2.1⟩
end Go.Proofs.YtadcaonkmncgoaaGreat
