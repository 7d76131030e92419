/-
  A list that rises, by the reader: a contract, for every world.
  Conditions: the reader's bytes lie in memory older than itself, no more than 1048576 of them.
-/
import Derived.Test.YtemgapgggeanjaaVintO
import Derived.Test.YtemgapgggeanjaaVintD
namespace Go.Proofs.Ytemgapgggeanjaa
open Go.RowKit

theorem num_var (p : Int) (g : Nat) (a : Option Addr) (n cap : Nat) (zs : List Int) (w0 w : World) (hp : (Lit.int .i64 p).wf = true) (hr : Row .u8 w0 a n zs) (hg : w0.heap.size ≤ g) (hb : Below w0.heap.size w0 w) (hrb : RB w g a n cap p false) :
    Calls Try.prog 13 #[.pointer (some ⟨g, 0, none⟩)] w fun e w' => ∃ v q bad, e = .returned (.int .u64 v) ∧ Only g w w' ∧ RB w' g a n cap q bad ∧ W64 v ∧
      ((bad = false ∧ getS zs p = some (v, q)) ∨ (bad = true ∧ getS zs p = none)) := by
  refine (num_any p g a n cap zs w0 w hp hr hg hb hrb).mono ?_
  intro e w' h
  unfold NumP at h
  cases hx : getS zs p with
  | none =>
    rw [hx] at h
    obtain ⟨h1, h2, p', h3⟩ := h
    exact ⟨0, p', true, h2, h1, h3, ⟨by decide, by decide⟩, Or.inr ⟨rfl, rfl⟩⟩
  | some q =>
    rw [hx] at h
    obtain ⟨h1, h2, h3⟩ := h
    obtain ⟨v, q⟩ := q
    exact ⟨v, q, false, h2, h1, h3, (getS_some hr.bytes hx).1, Or.inl ⟨rfl, rfl⟩⟩

theorem words_wf' {zs : List Int} (h : ∀ z ∈ zs, W64 z) : ∀ z ∈ zs, (Lit.int .u64 z).wf = true := fun z hz => wf_of_u64 (h z hz)

theorem RB.below {B : Nat} {w w' : World} {g : Nat} {a : Option Addr} {n cap : Nat} {p : Int} {bad : Bool} (h : RB w g a n cap p bad) (hb : Below B w w') (hg : g < B) : RB w' g a n cap p bad := by
  unfold RB at *
  rw [hb.block g hg]; exact h
theorem RB.lt {w : World} {g : Nat} {a : Option Addr} {n cap : Nat} {p : Int} {bad : Bool} (h : RB w g a n cap p bad) : g < w.heap.size := by
  unfold RB at h
  by_cases hg : g < w.heap.size
  · exact hg
  · rw [Array.getElem?_eq_none (by omega)] at h; simp at h
theorem Own.only {e : TypeId} {k : IntKind} {w w' : World} {g base n cap : Nat} {a : Option Addr} {zs : List Int} (h : Own e k w base a n cap zs) (ho : Only g w w') (hg : g < base) : Own e k w' base a n cap zs := by
  unfold Own at *
  refine ⟨h.1, ?_⟩
  rcases h.2 with h1 | ⟨b, c, cur, h1, h2, h3, h4⟩
  · exact Or.inl h1
  · exact Or.inr ⟨b, c, cur, h1, h2, by rw [ho.block b (by omega)]; exact h3, h4⟩

/-- How it stands behind k rounds: all is well, or the reader is spoilt. -/
def Stand (zs : List Int) (p0 most : Int) (m g : Nat) (a : Option Addr) (n cap k : Nat) (ar : Option Addr) (nr capr : Nat) (wr : World) : Prop :=
  (∃ q p pre, RB wr g a n cap q false ∧ 0 ≤ q ∧ q ≤ n ∧ k = nr ∧ MineL wr (g + 1) ar nr capr pre ∧ -1 ≤ p ∧ p ≤ 18446744073709551615 ∧ (k = 0 → p = -1) ∧ (0 < k → 0 ≤ p ∧ pre.getD (k - 1) 0 = p) ∧ (∀ z ∈ pre, W64 z) ∧
    riseS zs p0 most = (riseG zs (m - k) p q).map fun r => (pre ++ r.1, r.2)) ∨
  (∃ q, RB wr g a n cap q true ∧ riseS zs p0 most = none)

/-- What the reader's Rise leaves. -/
def ReadP (g : Nat) (a : Option Addr) (n cap : Nat) (r : Option (List Int × Int)) (w w' : World) (e : Ending) : Prop :=
  Below g w w' ∧ match r with
  | none => e = .returned (.slice none 0 0) ∧ ∃ p', RB w' g a n cap p' true
  | some q => ∃ a' cap', e = .returned (.slice a' q.1.length cap') ∧ MineL w' (g + 1) a' q.1.length cap' q.1 ∧ RB w' g a n cap q.2 false

set_option maxRecDepth 100000 in
set_option maxHeartbeats 2000000 in
theorem rrise_any (p most : Int) (g : Nat) (a : Option Addr) (n cap : Nat) (zs : List Int) (w0 w : World) (hp : (Lit.int .i64 p).wf = true) (hm : (Lit.int .i64 most).wf = true) (hc : n ≤ cap) (hn : n ≤ 1048576) (hr : Row .u8 w0 a n zs) (hg : w0.heap.size ≤ g) (hb : Below w0.heap.size w0 w) (hrb : RB w g a n cap p false) :
    Calls Try.prog 27 #[.pointer (some ⟨g, 0, none⟩), .int .i64 most] w fun e w' => ReadP g a n cap (riseS zs p most) w w' e := by
  have C := hide (rcount_any p most g a n cap zs w0 w hp hm hc hr hg hb hrb)
  have HR := hide hr
  have HB := hide hb
  have hl := hr.1
  have hgw := hrb.lt
  obtain ⟨i0, hi, hz0, hz1, hz2⟩ := info_parts Try.info22
  clear hp hm hb hrb
  cases hs : sizeS zs p most with
  | none =>
    have HE : Hid (riseS zs p most = none) := by show _ = _; unfold riseS; rw [hs]
    rw [hs] at C
    simp only [CountP] at C
    clear hs hl hi hz0 hz1 hz2 hr
    go_enter Try.func27, Try.ntmps27
    go_wp2_with fail
    refine C.out.mono ?_
    rintro e x ⟨k, rfl, p', hrb⟩
    obtain ⟨_, _, d2, _⟩ := hrb.cell
    have RS := hide hrb
    have OS := hide (k.below (Nat.le_refl _))
    clear k hrb C
    go_wp2
    refine wp_loop_rounds 1 ?_
    rw [rounds_succ]
    go_wp2
    go_ret
    rw [HE.out]
    exact ⟨OS.out, rfl, _, RS.out⟩
  | some q0 =>
    obtain ⟨v0, fr⟩ := q0
    obtain ⟨_, hv0, _, hf0, hle⟩ := sizeS_some hr.bytes hs
    obtain ⟨m, rfl⟩ := Int.eq_ofNat_of_zero_le hv0
    have hmn : m ≤ n := by omega
    have hfn : fr ≤ n := by omega
    have HE : Hid (riseS zs p most = riseG zs m (-1) fr) := by show _ = _; unfold riseS; rw [hs]; rfl
    rw [hs] at C
    simp only [CountP] at C
    clear hs hl hr hle hv0
    go_enter Try.func27, Try.ntmps27
    go_wp2_with fail
    refine C.out.mono ?_
    rintro e x ⟨k, rfl, hrb⟩
    have RS := hide hrb
    have OS := hide (k.below (Nat.le_refl g))
    have hgx : g < x.heap.size := hrb.lt
    clear k hrb C
    go_wp2
    go_loopw [6, 7] (fun l i wr => ∃ (k : Nat) (ar : Option Addr) (nr capr : Nat), k ≤ m ∧ nr ≤ 1048576 ∧ i = .int .i64 k ∧ l = .slice ar nr capr ∧ Hid (Below g w wr) ∧ Hid (g < wr.heap.size) ∧ Hid (Stand zs p most m g a n cap k ar nr capr wr)) (fun _ i _ => m - (intOf i).toNat)
    case atStart =>
      refine ⟨0, none, 0, 0, by omega, by omega, rfl, rfl, OS, hgx, Or.inl ⟨fr, -1, [], RS, hf0, hfn, rfl, own_nil _ _ _ _, by omega, by omega, fun _ => rfl, fun h => absurd h (by omega), by simp, ?_⟩⟩
      rw [HE.out, Nat.sub_zero]
      cases riseG zs m (-1) fr <;> simp
    case round =>
      obtain ⟨k, ar, nr, capr, hk, hnr, rfl, rfl, HW, HG, HS⟩ := hrel
      clear RS OS
      rcases HS.out with ⟨q, pp, pre, hrb, q0, q1, rfl, hown, p0, p1, e0, e1, e4, e5⟩ | ⟨q, hrb, hnone⟩
      · obtain ⟨_, _, d2, _⟩ := hrb.cell
        by_cases hlt : k < m
        · have hbw : Below w0.heap.size w0 wr := HB.out.trans (HW.out.mono hg)
          have N := hide (num_var q g a n cap zs w0 wr (i64_wf (by omega) (by omega)) HR.out hg hbw hrb)
          have HO := hide hown
          have HE1 := hide e1
          have HE0 := hide e0
          have HE4 := hide e4
          have HE5 := hide e5
          clear e0 e1 e4 e5 hrb hown HS hbw HE
          go_wp2_with fail
          refine N.out.mono ?_
          rintro e x ⟨v, q', bad, rfl, k8, hrb, hv, hgot⟩
          obtain ⟨_, _, b2, bf⟩ := hrb.cell
          have bf2 := bf 2
          have v0 := hv.1
          have v1 := hv.2
          have OX := hide (HO.out.only k8 (by omega))
          have KX : Hid (Below g w x) := HW.out.trans (k8.below (Nat.le_refl _))
          have hgx2 : g < x.heap.size := hrb.lt
          have RBX := hide hrb
          have HNS : Hid (¬ 18446744073709551615 - pp ≤ v → ∀ y ar' cap', RB y g a n cap q' bad → MineL y (g + 1) ar' (k + 1) cap' (pre ++ [pp + v + 1]) → Stand zs p most m g a n cap (k + 1) ar' (k + 1) cap' y) := by
            intro hno y ar' cap' h1 h2
            have hpl := HO.out.len
            rcases hgot with ⟨rfl, hgs⟩ | ⟨rfl, hgs⟩
            · obtain ⟨_, kk, _, _, hnx, hle, _⟩ := getS_some HR.out.bytes hgs
              have hzl := HR.out.1
              refine Or.inl ⟨q', pp + v + 1, pre ++ [pp + v + 1], h1, by omega, by omega, rfl, h2, by omega, by omega, fun h => absurd h (by omega), fun _ => ⟨by omega, ?_⟩, ?_, ?_⟩
              · rw [Nat.add_sub_cancel, ← hpl]; simp
              · intro z hz
                rcases List.mem_append.1 hz with hz | hz
                · exact HE4.out z hz
                · simp at hz; subst hz; exact ⟨by omega, by omega⟩
              · rw [HE5.out, riseG_some hlt hgs, if_neg hno, map_pre]
            · exact Or.inr ⟨q', h1, by rw [HE5.out, riseG_none hlt hgs]; rfl⟩
          have HBAD : Hid (18446744073709551615 - pp ≤ v → riseS zs p most = none) := by
            intro hyes
            rcases hgot with ⟨rfl, hgs⟩ | ⟨rfl, hgs⟩
            · rw [HE5.out, riseG_some hlt hgs, if_pos hyes]; rfl
            · rw [HE5.out, riseG_none hlt hgs]; rfl
          clear k8 hrb hgot hv bf N HE5 HO
          by_cases hk0 : k = 0
          · have hp1 : pp = -1 := HE0.out hk0
            have hz : pp + v + 1 = v := by omega
            rw [hz] at HNS
            have tk : ((k : Int) == 0) = true := by simp [hk0]
            have HN2 := hide (HNS.out (by omega))
            have H1 := hide (one_row (k := .u64) x v (wf_of_u64 ⟨v0, v1⟩) 22 (0, 0))
            have SA : Hid (Src 22 .u64 (x.alloc (.cells #[.int .u64 v] 22)) (g + 1) ar k capr pre) := Or.inl (OX.out.alloc _)
            have HBW : Hid (g + 1 ≤ (x.alloc (.cells #[.int .u64 v] 22)).heap.size) := by
              show _ ≤ _
              simp; omega
            clear hp1 hz HNS hk0 p0
            go_wp2_with (at_builtin; refine wpList_append_src (ek := .u64) _ rfl _ _ 47 rfl (g + 1) 22 i0 8 Try.underlying47 hi hz0 hz1 hz2 ar k capr _ rfl SA.out _ 1 1 [v] rfl (by decide) H1.out (by omega) (by decide) HBW.out ?_)
            intro a' cap' y h1 h2
            have RY : RB y g a n cap q' bad := (RBX.out.below ((Below.refl x.heap.size x).alloc (Nat.le_refl _) (.cells #[.int .u64 v] 22)) hgx2).below h2 (by omega)
            have HST := hide (HN2.out y a' cap' RY h1)
            have KY : Hid (Below g w y) := (KX.out.alloc (Nat.le_of_lt hgx2) _).trans (h2.mono (by omega))
            have hgy : Hid (g < y.heap.size) := RY.lt
            clear h1 h2 RY SA H1 HBW HN2
            go_wp2
            go_roundw
            case rel => exact ⟨k + 1, a', k + 1, cap', by omega, by omega, by go_num, rfl, KY, hgy, HST⟩
            case measure => simp [intOf]; omega
          · obtain ⟨j, rfl⟩ : ∃ j, k = j + 1 := ⟨k - 1, by omega⟩
            have hp1 : 0 ≤ pp := (HE1.out (by omega)).1
            have hp2 : pre.getD j 0 = pp := (HE1.out (by omega)).2
            have tk : ((j : Int) + 1 == 0) = false := by simp; omega
            have j1 : (0 : Int) ≤ (j : Int) := by omega
            have j2 : (j : Int) < (j : Int) + 1 := by omega
            obtain ⟨_, _, _, h | ⟨lb, lo, rfl, hcell⟩⟩ := OX.out.row (by omega) (words_wf' HE4.out)
            · omega
            have hcj := hcell j (by omega)
            rw [hp2] at hcj
            clear hcell hp2 hk0 p0
            by_cases hyes : 18446744073709551615 - pp ≤ v
            · have HN2 := hide (HBAD.out hyes)
              have RS := hide RBX.out.spoil
              have KS : Hid (Below g w (x.setCell ⟨g, 2, none⟩ (.bool true))) := KX.out.setCell (Nat.le_refl _) _
              go_wp2
              go_ret
              rw [HN2.out]
              exact ⟨KS.out, rfl, _, RS.out⟩
            · have HN2 := hide (HNS.out hyes)
              have hs1 : pp + v ≤ 18446744073709551614 := by omega
              have hs4 : 0 ≤ pp + v + 1 := by omega
              have H1 := hide (one_row (k := .u64) x (pp + v + 1) (wf_of_u64 ⟨by omega, by omega⟩) 22 (0, 0))
              have SA : Hid (Src 22 .u64 (x.alloc (.cells #[.int .u64 (pp + v + 1)] 22)) (g + 1) (some ⟨lb, lo, none⟩) (j + 1) capr pre) := Or.inl (OX.out.alloc _)
              have HBW : Hid (g + 1 ≤ (x.alloc (.cells #[.int .u64 (pp + v + 1)] 22)).heap.size) := by
                show _ ≤ _
                simp; omega
              clear HNS
              go_wp2_with (at_builtin; refine wpList_append_src (ek := .u64) _ rfl _ _ 47 rfl (g + 1) 22 i0 8 Try.underlying47 hi hz0 hz1 hz2 (some ⟨lb, lo, none⟩) (j + 1) capr _ rfl SA.out _ 1 1 [pp + v + 1] rfl (by decide) H1.out (by omega) (by decide) HBW.out ?_)
              intro a' cap' y h1 h2
              have RY : RB y g a n cap q' bad := (RBX.out.below ((Below.refl x.heap.size x).alloc (Nat.le_refl _) (.cells #[.int .u64 (pp + v + 1)] 22)) hgx2).below h2 (by omega)
              have HST := hide (HN2.out y a' cap' RY h1)
              have KY : Hid (Below g w y) := (KX.out.alloc (Nat.le_of_lt hgx2) _).trans (h2.mono (by omega))
              have hgy : Hid (g < y.heap.size) := RY.lt
              clear h1 h2 RY SA H1 HBW HN2
              go_wp2
              go_roundw
              case rel => exact ⟨j + 1 + 1, a', j + 1 + 1, cap', by omega, by omega, by go_num, rfl, KY, hgy, HST⟩
              case measure => simp [intOf]; omega
        · have : k = m := by omega
          subst this
          have HF : Hid (riseS zs p most = some (pre, q)) := by
            show _ = _
            rw [e5, Nat.sub_self, riseG]; simp
          have HO := hide (And.intro hown hrb)
          have hpl := hown.len
          clear e0 e1 e4 e5 hrb hown HS
          go_wp2
          go_ret
          rw [HF.out]
          refine ⟨HW.out, ar, capr, ?_, ?_, HO.out.2⟩
          · show Ending.returned (.slice ar k capr) = _
            rw [hpl]
          · rw [hpl]; exact HO.out.1
      · obtain ⟨_, _, d2, _⟩ := hrb.cell
        have HN := hide (And.intro hrb hnone)
        clear hrb hnone HS
        by_cases hlt : k < m
        · go_wp2
          go_ret
          rw [HN.out.2]
          exact ⟨HW.out, rfl, _, HN.out.1⟩
        · have : k = m := by omega
          subst this
          go_wp2
          go_ret
          rw [HN.out.2]
          exact ⟨HW.out, rfl, _, HN.out.1⟩
end Go.Proofs.Ytemgapgggeanjaa
