/-
  A set's bytes got by the document's reader: a contract, for every world: the reader alone turns.
  Conditions: the reader's bytes lie in memory older than itself.
-/
import Derived.Test.YtoepdgdagjckbabLabGd
import Derived.Test.YtoepdgdagjckbabLabN
namespace Go.Proofs.Ytoepdgdagjckbab
open Go.RowKit
set_option maxRecDepth 20000

theorem Only.chL {g : Nat} {w w' : World} (h : Only g w w') : Ch (fun k => k = g) w w' := ⟨h.os, h.tape, h.output, by rw [h.size]; exact Nat.le_refl _, fun k _ hn => h.block k hn⟩
theorem chL_lo {g B : Nat} {w W : World} (c : Ch (fun k => k = g) w W) (hB : B ≤ g) (hw : B ≤ w.heap.size) : Below B w W := c.below hw (fun k hk e => by omega)
theorem chL_bel {S : Nat → Prop} {w X y : World} (c : Ch S w X) (b : Below w.heap.size X y) : Ch S w y :=
  ⟨b.os.trans c.os, b.tape.trans c.tape, b.output.trans c.output, Nat.le_trans c.size b.size, fun k hk hn => (b.block k hk).trans (c.block k hk hn)⟩

/-- The reader's Text, whatever the reader says. -/
theorem text_var (p most : Int) (g : Nat) (a : Option Addr) (n cap : Nat) (zs : List Int) (bad : Bool) (w0 w : World) (hp : bad = false → 0 ≤ p ∧ p ≤ n) (hm : (Lit.int .i64 most).wf = true) (hc : n ≤ cap) (hr : Row .u8 w0 a n zs) (hg : w0.heap.size ≤ g) (hb : Below w0.heap.size w0 w) (hrb : RB w g a n cap p bad) :
    Calls Try.prog 33 #[.pointer (some ⟨g, 0, none⟩), .int .i64 most] w fun e w' => ∃ s q' bad', e = .returned (.string s) ∧ Only g w w' ∧ RB w' g a n cap q' bad' ∧ s.size ≤ 281474976710656 ∧ (bad' = false → 0 ≤ q' ∧ q' ≤ n) ∧
      ((bad' = false ∧ bad = false ∧ ∃ zs', s = strOfNums zs' ∧ textS zs p most = some (zs', q')) ∨ (bad' = true ∧ (bad = true ∨ textS zs p most = none))) := by
  have hn := hr.2.1
  cases bad with
  | true =>
    refine (textbad_any most g a n cap p w hrb).mono ?_
    rintro e w' ⟨rfl, o, b⟩
    exact ⟨_, p, true, rfl, o, b, by decide, fun h => by simp at h, Or.inr ⟨rfl, Or.inl rfl⟩⟩
  | false =>
    have hp' := hp rfl
    refine (rtext_any p most g a n cap zs w0 w (i64_wf (by omega) (by omega)) hm hc hr hg hb hrb).mono ?_
    intro e w' h
    unfold TextP at h
    cases ht : textS zs p most with
    | none =>
      rw [ht] at h
      obtain ⟨o, rfl, p', b⟩ := h
      exact ⟨_, p', true, rfl, o, b, by decide, fun h => by simp at h, Or.inr ⟨rfl, Or.inr rfl⟩⟩
    | some r =>
      obtain ⟨s, e'⟩ := r
      rw [ht] at h
      obtain ⟨o, rfl, b⟩ := h
      obtain ⟨y0, y1, y2⟩ := textS_fit hr.bytes ht
      rw [hr.1] at y1 y2
      exact ⟨_, e', false, rfl, o, b, by show (strOfNums s).size ≤ _; omega, fun _ => ⟨y0, y1⟩, Or.inl ⟨rfl, rfl, s, rfl, rfl⟩⟩

/-- How it stands behind k rounds: all is well, or the reader is spoilt. -/
def StandL (B : Nat) (zs : List Int) (R : Option (List Lb × Int)) (m g : Nat) (a : Option Addr) (n cap k : Nat) (ar : Option Addr) (cr : Nat) (wr : World) : Prop :=
  (∃ q pre, RB wr g a n cap q false ∧ 0 ≤ q ∧ q ≤ n ∧ OwnL wr B ar k cr pre ∧ (∀ x ∈ pre, LbW x) ∧ R = (rdL zs (m - k) q).map fun r => (pre ++ r.1, r.2)) ∨
  (∃ q, RB wr g a n cap q true ∧ R = none)
/-- What the document's Get leaves. -/
def ReadL (g : Nat) (a : Option Addr) (n cap : Nat) (r : Option (List Lb × Int)) (w w' : World) (e : Ending) : Prop :=
  Ch (fun k => k = g) w w' ∧ match r with
  | none => e = .returned (.slice none 0 0) ∧ ∃ p', RB w' g a n cap p' true
  | some q => ∃ a' cap', e = .returned (.slice a' q.1.length cap') ∧ RowL w' a' q.1.length q.1 ∧ RB w' g a n cap q.2 false

set_option maxHeartbeats 4000000 in
theorem reflget_any (p : Int) (g : Nat) (a : Option Addr) (n cap : Nat) (zs : List Int) (w0 w : World) (hp : (Lit.int .i64 p).wf = true) (hc : n ≤ cap) (hr : Row .u8 w0 a n zs) (hg : w0.heap.size ≤ g) (hb : Below w0.heap.size w0 w) (hrb : RB w g a n cap p false) :
    Calls Try.prog 15 #[.pointer (some ⟨g, 0, none⟩)] w fun e w' => ReadL g a n cap (getL zs p) w w' e := by
  have C := hide (rcount_any p 8 g a n cap zs w0 w hp (by decide) hc hr hg hb hrb)
  have HGC := hide (getL_count (p := p) hr.bytes)
  have HR := hide hr
  have HB := hide hb
  have HGW := hide hrb.lt
  have hn := hr.2.1
  obtain ⟨i0, hi, hz0, hz1, hz2⟩ := info_parts Try.infoL
  clear hp hb hrb
  cases hs : sizeS zs p 8 with
  | none =>
    have HE : Hid (getL zs p = none) := by show _ = _; rw [HGC.out, hs]
    rw [hs] at C
    simp only [CountP] at C
    clear hs hi hz0 hz1 hz2 hr HGC
    go_enter Try.func15, Try.ntmps15
    go_wp2_with fail
    with_reducible refine C.out.mono ?_
    rintro e x ⟨k, rfl, p', hrb⟩
    obtain ⟨_, _, d2, df⟩ := hrb.cell
    have df2 := df 2
    have RS := hide hrb.spoil
    have OS : Hid (Ch (fun k => k = g) w (x.setCell ⟨g, 2, none⟩ (.bool true))) := k.chL.trans (ch_set x g 2 _)
    clear k hrb C df
    go_wp2
    refine wp_loop_rounds 1 ?_
    rw [rounds_succ]
    go_wp2
    go_ret
    rw [HE.out]
    exact ⟨OS.out, rfl, _, RS.out⟩
  | some q0 =>
    obtain ⟨v0, fr⟩ := q0
    obtain ⟨-, hv0, hvm, hf0, hle⟩ := sizeS_some hr.bytes hs
    obtain ⟨m, rfl⟩ := Int.eq_ofNat_of_zero_le hv0
    rw [hr.1] at hle
    have hfn : fr ≤ n := by omega
    have hm8 : m ≤ 8 := by omega
    obtain ⟨R, hR⟩ : ∃ R, Hid (rdL zs m fr = R) := ⟨_, rfl⟩
    have HE : Hid (getL zs p = finL R) := by show _ = _; rw [HGC.out, hs, ← hR.out]; simp only [Int.toNat_natCast]
    rw [hs] at C
    simp only [CountP] at C
    clear hs hr hle hv0 hvm HGC
    go_enter Try.func15, Try.ntmps15
    go_wp2_with fail
    with_reducible refine C.out.mono ?_
    rintro e x ⟨k, rfl, hrb⟩
    have RS := hide hrb
    have OS := hide k.chL
    clear k hrb C
    go_wp2
    go_loopw [4, 5] (fun l i wr => ∃ (k : Nat) (ar : Option Addr) (cr : Nat), k ≤ m ∧ i = .int .i64 k ∧ l = .slice ar k cr ∧ Hid (Ch (fun k => k = g) w wr) ∧ Hid (StandL w.heap.size zs R m g a n cap k ar cr wr)) (fun _ i _ => m - (intOf i).toNat)
    case atStart =>
      refine ⟨0, none, 0, by omega, rfl, rfl, OS, Or.inl ⟨fr, [], RS, hf0, hfn, ownL_nil _ _, fun x hx => by simp at hx, ?_⟩⟩
      rw [Nat.sub_zero, hR.out]
      cases R <;> simp
    case round =>
      obtain ⟨k, ar, cr, hk, rfl, rfl, HW, HS⟩ := hrel
      obtain ⟨u, rfl⟩ : ∃ u, u = wr := ⟨wr, rfl⟩
      clear RS OS hR
      rcases HS.out with ⟨q, pre, hrb, q0, q1, hown, hpw, hre⟩ | ⟨q, hrb, hnone⟩
      · obtain ⟨_, _, d2, df⟩ := hrb.cell
        have df2 := df 2
        by_cases hlt : k < m
        · have hbw : Below w0.heap.size w0 u := HB.out.trans (chL_lo HW.out hg HB.out.size)
          have T := hide (text_var q 32 g a n cap zs false w0 u (fun _ => ⟨q0, q1⟩) (by decide) hc HR.out hg hbw hrb)
          have HO := hide hown
          have HPW := hide hpw
          have HRE := hide hre
          clear hown hpw hre hrb HS hbw df
          go_wp2_with fail
          with_reducible refine T.out.mono ?_
          rintro e x1 ⟨s, qa, bad1, rfl, o1, rb1, hs1, f1, c1⟩
          have K1 : Hid (Ch (fun k => k = g) w x1) := HW.out.trans o1.chL
          have hbw1 : Below w0.heap.size w0 x1 := HB.out.trans (chL_lo K1.out hg HB.out.size)
          have T2 := hide (text_var qa 64 g a n cap zs bad1 w0 x1 f1 (by decide) hc HR.out hg hbw1 rb1)
          have HO1 := hide (HO.out.ch o1.chL (fun g' h' e => by have := HO.out.block g' h'; have := HGW.out; omega))
          have C1 := hide c1
          clear o1 rb1 f1 c1 hbw1 T HO HW d2 df2
          go_wp2_with fail
          with_reducible refine T2.out.mono ?_
          rintro e x2 ⟨t, qb, bad2, rfl, o2, rb2, ht1, f2, c2⟩
          have K2 : Hid (Ch (fun k => k = g) w x2) := K1.out.trans o2.chL
          have HO2 := hide (HO1.out.ch o2.chL (fun g' h' e => by have := HO1.out.block g' h'; have := HGW.out; omega))
          have RB2 := hide rb2
          have ST : Hid (∀ y ar' cr', RB y g a n cap qb bad2 → OwnL y w.heap.size ar' (k + 1) cr' (pre ++ [(s, t)]) → StandL w.heap.size zs R m g a n cap (k + 1) ar' cr' y) := by
            intro y ar' cr' h1 h2
            rcases c2 with ⟨rfl, rfl, zt, rfl, e2⟩ | ⟨rfl, c2⟩
            · rcases C1.out with ⟨-, -, zs', rfl, e1⟩ | ⟨c, -⟩
              · refine Or.inl ⟨qb, _, h1, (f2 rfl).1, (f2 rfl).2, h2, ?_, rdL_more hlt HRE.out e1 e2⟩
                intro x hx
                rcases List.mem_append.1 hx with hx | hx
                · exact HPW.out x hx
                · simp only [List.mem_singleton] at hx
                  subst hx
                  exact ⟨by show (strOfNums zs').size ≤ _; omega, by show (strOfNums zt).size ≤ _; omega⟩
              · cases c
            · refine Or.inr ⟨qb, h1, ?_⟩
              rcases c2 with rfl | e2
              · rcases C1.out with ⟨c, -⟩ | ⟨-, c | e1⟩
                · cases c
                · cases c
                · exact rdL_stop1 hlt HRE.out e1
              · rcases C1.out with ⟨-, -, zs', rfl, e1⟩ | ⟨-, c | e1⟩
                · exact rdL_stop2 hlt HRE.out e1 e2
                · cases c
                · exact rdL_stop1 hlt HRE.out e1
          have HBW : Hid (w.heap.size ≤ x2.heap.size) := K2.out.size
          have HH : Hid (∀ ad, some (⟨x2.heap.size, 0, none⟩ : Addr) = some ad → ∀ j u', (flatL [(s, t)])[j]? = some u' → (x2.alloc (.cells #[.string s, .string t] 40)).cell? (ad.add j) = some u') := by
            intro ad e j u' h
            simp only [Option.some.injEq] at e
            subst e
            exact lab_cells x2 (s, t) _ j u' h
          have HBA : Hid (w.heap.size ≤ (x2.alloc (.cells #[.string s, .string t] 40)).heap.size) := by
            have := HBW.out
            show _ ≤ _
            simp
            omega
          have HO3 := hide (HO2.out.alloc (.cells #[.string s, .string t] 40))
          clear o2 rb2 f2 c2 T2 HO1 K1 C1 HO2
          go_wp2_with (at_builtin; refine wpList_append_labs _ rfl _ _ 22 rfl w.heap.size i0 Try.underlying22 hi hz0 hz1 hz2 ar k cr pre rfl HO3.out (some ⟨x2.heap.size, 0, none⟩) 1 1 [(s, t)] rfl rfl HH.out (fun e => by simp at e) (by omega) HBA.out ?_)
          intro a' c' y h1 h2
          have RY : RB y g a n cap qb bad2 := (RB2.out.below ((Below.refl x2.heap.size x2).alloc (Nat.le_refl _) (.cells #[.string s, .string t] 40)) RB2.out.lt).below h2 HGW.out
          have HST := hide (ST.out y a' c' RY h1)
          have KY : Hid (Ch (fun k => k = g) w y) := chL_bel (K2.out.alloc _) h2
          clear h1 h2 RY HO3 HH HBA ST K2 RB2
          go_wp2
          go_roundw
          case rel => exact ⟨k + 1, a', c', by omega, by go_num, rfl, KY, HST⟩
          case measure => simp [intOf]; omega
        · have : k = m := by omega
          subst this
          have HRR : Hid (R = some (pre, q)) := by
            show _ = _
            rw [hre, Nat.sub_self, rdL]
            simp
          rw [HRR.out] at HE
          have RW := hide (hown.row (by omega) hpw)
          have HLN := hide hown.len
          have CC := hide (quietB0 (refchkl_any ar k cr pre u RW.out))
          have RBU := hide hrb
          clear hown hpw hre HRR HS df df2 hrb hi hz0 hz1 hz2
          cases hck : chkL pre with
          | false =>
            rw [hck] at CC
            have HE3 : Hid (getL zs p = none) := by
              show _ = _
              rw [HE.out, finL]
              simp only [hck]
              rfl
            clear HE hck
            go_wp2_with fail
            with_reducible refine CC.out.mono ?_
            rintro e w2 ⟨rfl, b2⟩
            have RB2 := hide (RBU.out.below b2 RBU.out.lt)
            have K2 : Hid (Ch (fun k => k = g) w w2) := chL_bel HW.out (b2.mono HW.out.size)
            obtain ⟨_, _, d3, df⟩ := RB2.out.cell
            have df3 := df 2
            have RS := hide RB2.out.spoil
            have OS : Hid (Ch (fun k => k = g) w (w2.setCell ⟨g, 2, none⟩ (.bool true))) := K2.out.trans (ch_set w2 g 2 _)
            clear b2 CC df d2
            go_wp2
            go_ret
            rw [HE3.out]
            exact ⟨OS.out, rfl, _, RS.out⟩
          | true =>
            rw [hck] at CC
            have HE3 : Hid (getL zs p = some (pre, q)) := by
              show _ = _
              rw [HE.out, finL]
              simp only [hck]
              rfl
            clear HE hck
            go_wp2_with fail
            with_reducible refine CC.out.mono ?_
            rintro e w2 ⟨rfl, b2⟩
            have RB2 := hide (RBU.out.below b2 RBU.out.lt)
            have K2 : Hid (Ch (fun k => k = g) w w2) := chL_bel HW.out (b2.mono HW.out.size)
            have R2 := hide (RW.out.below b2 (Nat.le_refl _))
            clear b2 CC d2
            go_wp2
            go_ret
            rw [HE3.out]
            refine ⟨K2.out, ar, cr, ?_, ?_, RB2.out⟩
            · rw [HLN.out]; rfl
            · rw [HLN.out]; exact R2.out
      · obtain ⟨_, _, d2, df⟩ := hrb.cell
        have df2 := df 2
        have RS := hide hrb.spoil
        have OS : Hid (Ch (fun k => k = g) w (u.setCell ⟨g, 2, none⟩ (.bool true))) := HW.out.trans (ch_set u g 2 _)
        have HE3 : Hid (getL zs p = none) := by
          show _ = _
          rw [HE.out, hnone, finL]
        clear hrb df hnone HS HE hi hz0 hz1 hz2
        by_cases hlt : k < m
        · go_wp2
          go_ret
          rw [HE3.out]
          exact ⟨OS.out, rfl, _, RS.out⟩
        · have : k = m := by omega
          subst this
          go_wp2
          go_ret
          rw [HE3.out]
          exact ⟨OS.out, rfl, _, RS.out⟩
end Go.Proofs.Ytoepdgdagjckbab
