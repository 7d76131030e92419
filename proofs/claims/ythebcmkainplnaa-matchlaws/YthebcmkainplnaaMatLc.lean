/-
  The document's look at a matcher of And, Or, Not: contracts over its kids', for every world: the count alone turns (written by gen/matlc.gen.py).
  Conditions: the matcher lies in blocks apart from the count's; its kids are looked at as told.
-/
import Derived.Test.YthebcmkainplnaaMatLb
namespace Go.Proofs.Ythebcmkainplnaa
open Go.RowKit
set_option maxRecDepth 20000

theorem look_le (m : Mt) : ∀ d n b r, lookF m d n b = some r → r.1 ≤ 64 ∧ r.2 ≤ 4096 := by
  refine Mt.ind (P := fun m => ∀ d n b r, lookF m d n b = some r → r.1 ≤ 64 ∧ r.2 ≤ 4096) ?_ m
  intro m ih d n b r h
  rw [lookF_eq] at h
  split at h
  · cases h
  · rename_i hc
    have : ∀ (ks : List Mt) (d n b : Nat) (r : Nat × Nat), (∀ k ∈ ks, ∀ d n b r, lookF k d n b = some r → r.1 ≤ 64 ∧ r.2 ≤ 4096) → n ≤ 64 → b ≤ 4096 → lookKs ks d n b = some r → r.1 ≤ 64 ∧ r.2 ≤ 4096 := by
      intro ks
      induction ks with
      | nil => intro d n b r _ hn hb h; simp [lookKs] at h; subst h; exact ⟨hn, hb⟩
      | cons x t iht =>
        intro d n b r hk hn hb h
        rw [lookKs] at h
        cases hx : lookF x d n b with
        | none => rw [hx] at h; cases h
        | some y =>
          rw [hx] at h
          have h1 := hk x (by simp) d n b y hx
          exact iht d y.1 y.2 r (fun k hk' => hk k (by simp [hk'])) h1.1 h1.2 h
    exact this m.ks _ _ _ _ ih (by omega) (by omega) h
/-- How the count stands behind j kids. -/
def StandK (R : Option (Nat × Nat)) (ks : List Mt) (d n b j : Nat) (g : Nat) (bad : Bool) (wr : World) : Prop :=
  ∃ x y : Int, SZ wr g x y bad ∧ ((bad = true ∧ R = none) ∨ (bad = false ∧ R = lookKs ks d n b ∧ ∃ nn bb : Nat, x = nn ∧ y = bb ∧ nn ≤ 64 ∧ bb ≤ 4096 ∧ lookKs (ks.take j) d n b = some (nn, bb)))
theorem StandK.bad {R : Option (Nat × Nat)} {ks : List Mt} {d n b j g : Nat} {wr : World} (q : StandK R ks d n b j g true wr) : R = none ∧ ∃ n b : Int, SZ wr g n b true := by
  obtain ⟨x, y, s, ⟨_, h⟩ | ⟨h, _⟩⟩ := q
  · exact ⟨h, x, y, s⟩
  · cases h
theorem StandK.good {R : Option (Nat × Nat)} {ks : List Mt} {d n b j g : Nat} {wr : World} (q : StandK R ks d n b j g false wr) : R = lookKs ks d n b ∧ ∃ nn bb : Nat, SZ wr g nn bb false ∧ nn ≤ 64 ∧ bb ≤ 4096 ∧ lookKs (ks.take j) d n b = some (nn, bb) := by
  obtain ⟨x, y, s, ⟨h, _⟩ | ⟨_, h1, nn, bb, rfl, rfl, h2, h3, h4⟩⟩ := q
  · cases h
  · exact ⟨h1, nn, bb, s, h2, h3, h4⟩
theorem StandK.cell {R : Option (Nat × Nat)} {ks : List Mt} {d n b j g : Nat} {bad : Bool} {wr : World} (q : StandK R ks d n b j g bad wr) : wr.cell? ⟨g, 2, none⟩ = some (.bool bad) := by
  obtain ⟨x, y, s, _⟩ := q
  exact s.cell.2.2.1
theorem StandK.fin {R : Option (Nat × Nat)} {ks : List Mt} {d n b g : Nat} {bad : Bool} {w wr : World} (q : StandK R ks d n b ks.length g bad wr) (c : Ch (fun k => k = g) w wr) : LookP R g w wr (.returned (.tuple #[])) := by
  refine ⟨rfl, c, ?_⟩
  cases bad with
  | true =>
    obtain ⟨h1, h2⟩ := q.bad
    subst h1
    exact h2
  | false =>
    obtain ⟨h1, nn, bb, h2, _, _, h3⟩ := q.good
    rw [List.take_length] at h3
    rw [h3] at h1
    subst h1
    exact h2
theorem LookP.stand {R : Option (Nat × Nat)} {ks : List Mt} {k : Mt} {d n b j g nn bb : Nat} {w w' : World} {e : Ending} (p : LookP (lookF k d nn bb) g w w' e) (h : R = lookKs ks d n b) (hk : ks[j]? = some k) (hl : lookKs (ks.take j) d n b = some (nn, bb)) : ∃ bad, StandK R ks d n b (j + 1) g bad w' := by
  have ha := lookKs_append (ks.take j) k d n b
  rw [← take_kid hk, hl, Option.bind_some] at ha
  obtain ⟨_, _, p⟩ := p
  cases hf : lookF k d nn bb with
  | none =>
    rw [hf] at p ha
    obtain ⟨x, y, s⟩ := p
    refine ⟨true, x, y, s, Or.inl ⟨rfl, ?_⟩⟩
    rw [h, ← List.take_append_drop (j + 1) ks]
    exact lookKs_none ha
  | some r =>
    rw [hf] at p ha
    have hr := look_le k d nn bb r hf
    exact ⟨false, _, _, p, Or.inr ⟨rfl, h, r.1, r.2, rfl, rfl, hr.1, hr.2, ha⟩⟩

set_option maxHeartbeats 8000000 in
theorem look_5 (S : Nat → Prop) (m : Mt) (nm vl : ByteArray) (va : Option Addr) (vn vc : Nat) (ka : Option Addr) (kn kc : Nat) (d n b g : Nat) (w : World) (R : Option (Nat × Nat)) (q : SeeM S w m ⟨5, nm, vl, va, vn, vc, ka, kn, kc⟩) (hS : ∀ k, S k → k ≠ g) (hb : SZ w g n b false) (hd : d ≤ 8) (hn : n < 64) (hb4 : b ≤ 4096)
    (IH0 : ∀ k ∈ m.ks, ∀ (S : Nat → Prop) (h : Hm) (d n b g : Nat) (w : World), SeeM S w k h → (∀ k, S k → k ≠ g) → SZ w g n b false → d ≤ 9 → n ≤ 64 → b ≤ 4096 → Calls Try.prog 30 #[.pointer (some ⟨g, 0, none⟩), .agg #[.int .i64 h.op, .string h.nm, .string h.vl, .slice h.va h.vn h.vc, .slice h.ka h.kn h.kc], .int .i64 d] w fun e w' => LookP (lookF k d n b) g w w' e)
    (hyes : ((decide (vl.size = 0) && (decide (nm.size = 0) && decide (vn = 0)))) = true → R = lookKs m.ks (d + 1) (n + 1) b) (hno : ((decide (vl.size = 0) && (decide (nm.size = 0) && decide (vn = 0)))) = false → R = none) :
    Calls Try.prog 30 #[.pointer (some ⟨g, 0, none⟩), .agg #[.int .i64 5, .string nm, .string vl, .slice va vn vc, .slice ka kn kc], .int .i64 d] w fun e w' => LookP R g w w' e := by
  obtain ⟨-, -, -, hw, hv, hk, -⟩ := seeM_iff.1 q
  dsimp only at hv hk
  have C := hide (fun W => bare_fft ⟨5, nm, vl, va, vn, vc, ka, kn, kc⟩ W hw)
  dsimp only at C
  have w1 : nm.size ≤ 9223372036854775807 := hw.nm
  have w2 : vl.size ≤ 9223372036854775807 := hw.vl
  have w4 : kn * 88 ≤ 140737488355328 := hw.kn
  have HQ := hide q
  have HKL := hide hk
  have HS := hide hS
  have IH := hide IH0
  have HY := hide hyes
  have HNO := hide hno
  clear hyes hno IH0
  generalize (decide (vl.size = 0) && (decide (nm.size = 0) && decide (vn = 0))) = f at C HY HNO
  obtain ⟨W, hW⟩ : ∃ W, Hid ((w.alloc (.cells #[.int .i64 5, .string nm, .string vl, .slice va vn vc, .slice ka kn kc] 25)).setCell ⟨g, 0, none⟩ (.int .i64 ((n : Int) + 1)) = W) := ⟨_, rfl⟩
  have B : Hid (Beg w W g n b ⟨5, nm, vl, va, vn, vc, ka, kn, kc⟩) := by rw [← hW.out]; exact beg_of (h := ⟨5, nm, vl, va, vn, vc, ka, kn, kc⟩) hb
  have HNE := hide B.out.ne
  have B1 := hide (hb.block (w' := w.alloc (.cells #[.int .i64 5, .string nm, .string vl, .slice va vn vc, .slice ka kn kc] 25)) (Below.heap_alloc w _ g hb.lt))
  obtain ⟨c0, _, _, cf⟩ := B1.out.cell
  have cf0 := cf 0
  obtain ⟨d0, d1, d2, _⟩ := B.out.cnt.cell
  obtain ⟨e0, e1, e2, e3, e4, _⟩ := B.out.box.all
  dsimp only at e0 e1 e2 e3 e4
  have a1 : ¬ (64 : Int) < (n : Int) + 1 := by omega
  have a2 : ¬ (8 : Int) < (d : Int) := by omega
  clear hb B1 cf hw hv hk hS q
  go_enter Try.func30, Try.ntmps30
  go_upto_region 2 with fail
  rw [hW.out]
  clear hW c0 cf0
  go_wp2_with fail
  with_reducible refine (C.out _).mono ?_
  rintro e v ⟨rfl, b2⟩
  have B2 := hide (B.out.below b2)
  clear b2 d0 d1 d2 e0 e1 e2 e3 e4 B C
  obtain ⟨d0, d1, d2, df⟩ := B2.out.cnt.cell
  have df2 := df 2
  obtain ⟨e0, e1, e2, e3, e4, _⟩ := B2.out.box.all
  dsimp only at e0 e1 e2 e3 e4
  clear df
  cases f with
  | false =>
    have HR := hide (HNO.out rfl)
    have S0 : Hid (BoxM (v.setCell ⟨g, 2, none⟩ (.bool true)) w.heap.size ⟨5, nm, vl, va, vn, vc, ka, kn, kc⟩ ∧ SZ (v.setCell ⟨g, 2, none⟩ (.bool true)) g ((n : Int) + 1) b true ∧ Ch (fun k => k = g) w (v.setCell ⟨g, 2, none⟩ (.bool true))) := ⟨B2.out.box.block (Below.heap_setCell _ _ _ _ B2.out.ne), B2.out.cnt.mark _, B2.out.ch.trans (ch_set v g 2 _)⟩
    go_upto_region 25 with fail
    generalize v.setCell ⟨g, 2, none⟩ (.bool true) = u at S0 ⊢
    clear e0 e1 e2 e3 e4 d0 d1 d2 df2 B2
    have ST : Hid (StandK R m.ks (d + 1) (n + 1) b 0 g true u) := ⟨_, _, S0.out.2.1, Or.inl ⟨rfl, HR.out⟩⟩
    go_wp2
    go_loopw [7] (fun i wr => ∃ (j : Nat) (bad : Bool), j ≤ kn ∧ i = .int .i64 j ∧ Hid (StandK R m.ks (d + 1) (n + 1) b j g bad wr) ∧ Hid (BoxM wr w.heap.size ⟨5, nm, vl, va, vn, vc, ka, kn, kc⟩) ∧ Hid (Ch (fun k => k = g) w wr)) (fun i _ => kn - (intOf i).toNat)
    case atStart => exact ⟨0, true, by omega, rfl, ST, S0.out.1, S0.out.2.2⟩
    case round =>
      obtain ⟨j, bad, hj, rfl, HM, HX, HC⟩ := hrel
      obtain ⟨u3, rfl⟩ : ∃ u3, u3 = wr := ⟨wr, rfl⟩
      clear ST S0
      obtain ⟨e0, e1, e2, e3, e4, _⟩ := HX.out.all
      dsimp only at e0 e1 e2 e3 e4
      have d2 := HM.out.cell
      by_cases hlt : j < kn
      · have i1 : (0 : Int) ≤ (j : Int) := by omega
        have i2 : (j : Int) < (kn : Int) := by omega
        cases bad with
        | true =>
          obtain ⟨hR, hE⟩ := HM.out.bad
          have HE := hide (And.intro hR hE)
          clear hR hE
          go_wp2
          go_end0
          rw [HE.out.1]
          exact ⟨rfl, HC.out, HE.out.2⟩
        | false =>
          obtain ⟨x1, y1, kd, h', e, hkd, -, q5, qk⟩ := (HQ.out.ch HC.out (fun k hk => HS.out k hk)).kid hlt
          obtain ⟨p0, p1, p2, p3, p4, p5, p6, p7, p8⟩ := h'
          dsimp only at e
          subst e
          obtain ⟨g0, g1, g2, g3, g4⟩ := q5.all
          dsimp only at g0 g1 g2 g3 g4
          obtain ⟨hR, nn, bb, hz, hnn, hbb, hl⟩ := HM.out.good
          have T := hide (IH.out kd (List.mem_of_getElem? hkd) S _ (d + 1) nn bb g u3 qk HS.out hz (by omega) hnn hbb)
          rw [show ((d + 1 : Nat) : Int) = (d : Int) + 1 from rfl] at T
          dsimp only at T
          have HK := hide (And.intro hR (And.intro hkd hl))
          clear hkd q5 qk hR hz hl hnn hbb
          go_wp2_with fail
          with_reducible refine T.out.mono ?_
          intro e u4 p
          obtain ⟨bad4, st4⟩ := p.stand HK.out.1 HK.out.2.1 HK.out.2.2
          obtain ⟨rfl, c4, -⟩ := p
          have M5 := hide st4
          have X5 := hide (HX.out.block (c4.block _ HX.out.lt HNE.out))
          have C5 := hide (HC.out.trans c4)
          clear c4 st4 T e0 e1 e2 e3 e4 d2 g0 g1 g2 g3 g4 HM HX HC
          go_wp2
          go_roundw
          case rel => exact ⟨j + 1, bad4, by omega, by go_num, M5, X5, C5⟩
          case measure => simp [intOf]; omega
      · obtain ⟨j0, hj0⟩ : ∃ j0, j0 = j := ⟨j, rfl⟩
        have : kn = j0 := by omega
        subst this
        subst hj0
        have HE := hide (StandK.fin (ks := m.ks) (d := d + 1) (n := n + 1) (b := b) (bad := bad) (by rw [HKL.out]; exact HM.out) HC.out)
        go_wp2
        go_end0
        exact HE.out
  | true =>
    have HR := hide (HY.out rfl)
    have S0 : Hid (BoxM (v.setCell ⟨g, 2, none⟩ (.bool false)) w.heap.size ⟨5, nm, vl, va, vn, vc, ka, kn, kc⟩ ∧ SZ (v.setCell ⟨g, 2, none⟩ (.bool false)) g ((n : Int) + 1) b false ∧ Ch (fun k => k = g) w (v.setCell ⟨g, 2, none⟩ (.bool false))) := ⟨B2.out.box.block (Below.heap_setCell _ _ _ _ B2.out.ne), B2.out.cnt.mark _, B2.out.ch.trans (ch_set v g 2 _)⟩
    go_upto_region 25 with fail
    generalize v.setCell ⟨g, 2, none⟩ (.bool false) = u at S0 ⊢
    clear e0 e1 e2 e3 e4 d0 d1 d2 df2 B2
    have ST : Hid (StandK R m.ks (d + 1) (n + 1) b 0 g false u) := ⟨_, _, S0.out.2.1, Or.inr ⟨rfl, HR.out, n + 1, b, rfl, rfl, by omega, hb4, by rw [List.take_zero, lookKs]⟩⟩
    go_wp2
    go_loopw [7] (fun i wr => ∃ (j : Nat) (bad : Bool), j ≤ kn ∧ i = .int .i64 j ∧ Hid (StandK R m.ks (d + 1) (n + 1) b j g bad wr) ∧ Hid (BoxM wr w.heap.size ⟨5, nm, vl, va, vn, vc, ka, kn, kc⟩) ∧ Hid (Ch (fun k => k = g) w wr)) (fun i _ => kn - (intOf i).toNat)
    case atStart => exact ⟨0, false, by omega, rfl, ST, S0.out.1, S0.out.2.2⟩
    case round =>
      obtain ⟨j, bad, hj, rfl, HM, HX, HC⟩ := hrel
      obtain ⟨u3, rfl⟩ : ∃ u3, u3 = wr := ⟨wr, rfl⟩
      clear ST S0
      obtain ⟨e0, e1, e2, e3, e4, _⟩ := HX.out.all
      dsimp only at e0 e1 e2 e3 e4
      have d2 := HM.out.cell
      by_cases hlt : j < kn
      · have i1 : (0 : Int) ≤ (j : Int) := by omega
        have i2 : (j : Int) < (kn : Int) := by omega
        cases bad with
        | true =>
          obtain ⟨hR, hE⟩ := HM.out.bad
          have HE := hide (And.intro hR hE)
          clear hR hE
          go_wp2
          go_end0
          rw [HE.out.1]
          exact ⟨rfl, HC.out, HE.out.2⟩
        | false =>
          obtain ⟨x1, y1, kd, h', e, hkd, -, q5, qk⟩ := (HQ.out.ch HC.out (fun k hk => HS.out k hk)).kid hlt
          obtain ⟨p0, p1, p2, p3, p4, p5, p6, p7, p8⟩ := h'
          dsimp only at e
          subst e
          obtain ⟨g0, g1, g2, g3, g4⟩ := q5.all
          dsimp only at g0 g1 g2 g3 g4
          obtain ⟨hR, nn, bb, hz, hnn, hbb, hl⟩ := HM.out.good
          have T := hide (IH.out kd (List.mem_of_getElem? hkd) S _ (d + 1) nn bb g u3 qk HS.out hz (by omega) hnn hbb)
          rw [show ((d + 1 : Nat) : Int) = (d : Int) + 1 from rfl] at T
          dsimp only at T
          have HK := hide (And.intro hR (And.intro hkd hl))
          clear hkd q5 qk hR hz hl hnn hbb
          go_wp2_with fail
          with_reducible refine T.out.mono ?_
          intro e u4 p
          obtain ⟨bad4, st4⟩ := p.stand HK.out.1 HK.out.2.1 HK.out.2.2
          obtain ⟨rfl, c4, -⟩ := p
          have M5 := hide st4
          have X5 := hide (HX.out.block (c4.block _ HX.out.lt HNE.out))
          have C5 := hide (HC.out.trans c4)
          clear c4 st4 T e0 e1 e2 e3 e4 d2 g0 g1 g2 g3 g4 HM HX HC
          go_wp2
          go_roundw
          case rel => exact ⟨j + 1, bad4, by omega, by go_num, M5, X5, C5⟩
          case measure => simp [intOf]; omega
      · obtain ⟨j0, hj0⟩ : ∃ j0, j0 = j := ⟨j, rfl⟩
        have : kn = j0 := by omega
        subst this
        subst hj0
        have HE := hide (StandK.fin (ks := m.ks) (d := d + 1) (n := n + 1) (b := b) (bad := bad) (by rw [HKL.out]; exact HM.out) HC.out)
        go_wp2
        go_end0
        exact HE.out
set_option maxHeartbeats 8000000 in
theorem look_6 (S : Nat → Prop) (m : Mt) (nm vl : ByteArray) (va : Option Addr) (vn vc : Nat) (ka : Option Addr) (kn kc : Nat) (d n b g : Nat) (w : World) (R : Option (Nat × Nat)) (q : SeeM S w m ⟨6, nm, vl, va, vn, vc, ka, kn, kc⟩) (hS : ∀ k, S k → k ≠ g) (hb : SZ w g n b false) (hd : d ≤ 8) (hn : n < 64) (hb4 : b ≤ 4096)
    (IH0 : ∀ k ∈ m.ks, ∀ (S : Nat → Prop) (h : Hm) (d n b g : Nat) (w : World), SeeM S w k h → (∀ k, S k → k ≠ g) → SZ w g n b false → d ≤ 9 → n ≤ 64 → b ≤ 4096 → Calls Try.prog 30 #[.pointer (some ⟨g, 0, none⟩), .agg #[.int .i64 h.op, .string h.nm, .string h.vl, .slice h.va h.vn h.vc, .slice h.ka h.kn h.kc], .int .i64 d] w fun e w' => LookP (lookF k d n b) g w w' e)
    (hyes : ((decide (vl.size = 0) && (decide (nm.size = 0) && decide (vn = 0)))) = true → R = lookKs m.ks (d + 1) (n + 1) b) (hno : ((decide (vl.size = 0) && (decide (nm.size = 0) && decide (vn = 0)))) = false → R = none) :
    Calls Try.prog 30 #[.pointer (some ⟨g, 0, none⟩), .agg #[.int .i64 6, .string nm, .string vl, .slice va vn vc, .slice ka kn kc], .int .i64 d] w fun e w' => LookP R g w w' e := by
  obtain ⟨-, -, -, hw, hv, hk, -⟩ := seeM_iff.1 q
  dsimp only at hv hk
  have C := hide (fun W => bare_fft ⟨6, nm, vl, va, vn, vc, ka, kn, kc⟩ W hw)
  dsimp only at C
  have w1 : nm.size ≤ 9223372036854775807 := hw.nm
  have w2 : vl.size ≤ 9223372036854775807 := hw.vl
  have w4 : kn * 88 ≤ 140737488355328 := hw.kn
  have HQ := hide q
  have HKL := hide hk
  have HS := hide hS
  have IH := hide IH0
  have HY := hide hyes
  have HNO := hide hno
  clear hyes hno IH0
  generalize (decide (vl.size = 0) && (decide (nm.size = 0) && decide (vn = 0))) = f at C HY HNO
  obtain ⟨W, hW⟩ : ∃ W, Hid ((w.alloc (.cells #[.int .i64 6, .string nm, .string vl, .slice va vn vc, .slice ka kn kc] 25)).setCell ⟨g, 0, none⟩ (.int .i64 ((n : Int) + 1)) = W) := ⟨_, rfl⟩
  have B : Hid (Beg w W g n b ⟨6, nm, vl, va, vn, vc, ka, kn, kc⟩) := by rw [← hW.out]; exact beg_of (h := ⟨6, nm, vl, va, vn, vc, ka, kn, kc⟩) hb
  have HNE := hide B.out.ne
  have B1 := hide (hb.block (w' := w.alloc (.cells #[.int .i64 6, .string nm, .string vl, .slice va vn vc, .slice ka kn kc] 25)) (Below.heap_alloc w _ g hb.lt))
  obtain ⟨c0, _, _, cf⟩ := B1.out.cell
  have cf0 := cf 0
  obtain ⟨d0, d1, d2, _⟩ := B.out.cnt.cell
  obtain ⟨e0, e1, e2, e3, e4, _⟩ := B.out.box.all
  dsimp only at e0 e1 e2 e3 e4
  have a1 : ¬ (64 : Int) < (n : Int) + 1 := by omega
  have a2 : ¬ (8 : Int) < (d : Int) := by omega
  clear hb B1 cf hw hv hk hS q
  go_enter Try.func30, Try.ntmps30
  go_upto_region 2 with fail
  rw [hW.out]
  clear hW c0 cf0
  go_wp2_with fail
  with_reducible refine (C.out _).mono ?_
  rintro e v ⟨rfl, b2⟩
  have B2 := hide (B.out.below b2)
  clear b2 d0 d1 d2 e0 e1 e2 e3 e4 B C
  obtain ⟨d0, d1, d2, df⟩ := B2.out.cnt.cell
  have df2 := df 2
  obtain ⟨e0, e1, e2, e3, e4, _⟩ := B2.out.box.all
  dsimp only at e0 e1 e2 e3 e4
  clear df
  cases f with
  | false =>
    have HR := hide (HNO.out rfl)
    have S0 : Hid (BoxM (v.setCell ⟨g, 2, none⟩ (.bool true)) w.heap.size ⟨6, nm, vl, va, vn, vc, ka, kn, kc⟩ ∧ SZ (v.setCell ⟨g, 2, none⟩ (.bool true)) g ((n : Int) + 1) b true ∧ Ch (fun k => k = g) w (v.setCell ⟨g, 2, none⟩ (.bool true))) := ⟨B2.out.box.block (Below.heap_setCell _ _ _ _ B2.out.ne), B2.out.cnt.mark _, B2.out.ch.trans (ch_set v g 2 _)⟩
    go_upto_region 25 with fail
    generalize v.setCell ⟨g, 2, none⟩ (.bool true) = u at S0 ⊢
    clear e0 e1 e2 e3 e4 d0 d1 d2 df2 B2
    have ST : Hid (StandK R m.ks (d + 1) (n + 1) b 0 g true u) := ⟨_, _, S0.out.2.1, Or.inl ⟨rfl, HR.out⟩⟩
    go_wp2
    go_loopw [7] (fun i wr => ∃ (j : Nat) (bad : Bool), j ≤ kn ∧ i = .int .i64 j ∧ Hid (StandK R m.ks (d + 1) (n + 1) b j g bad wr) ∧ Hid (BoxM wr w.heap.size ⟨6, nm, vl, va, vn, vc, ka, kn, kc⟩) ∧ Hid (Ch (fun k => k = g) w wr)) (fun i _ => kn - (intOf i).toNat)
    case atStart => exact ⟨0, true, by omega, rfl, ST, S0.out.1, S0.out.2.2⟩
    case round =>
      obtain ⟨j, bad, hj, rfl, HM, HX, HC⟩ := hrel
      obtain ⟨u3, rfl⟩ : ∃ u3, u3 = wr := ⟨wr, rfl⟩
      clear ST S0
      obtain ⟨e0, e1, e2, e3, e4, _⟩ := HX.out.all
      dsimp only at e0 e1 e2 e3 e4
      have d2 := HM.out.cell
      by_cases hlt : j < kn
      · have i1 : (0 : Int) ≤ (j : Int) := by omega
        have i2 : (j : Int) < (kn : Int) := by omega
        cases bad with
        | true =>
          obtain ⟨hR, hE⟩ := HM.out.bad
          have HE := hide (And.intro hR hE)
          clear hR hE
          go_wp2
          go_end0
          rw [HE.out.1]
          exact ⟨rfl, HC.out, HE.out.2⟩
        | false =>
          obtain ⟨x1, y1, kd, h', e, hkd, -, q5, qk⟩ := (HQ.out.ch HC.out (fun k hk => HS.out k hk)).kid hlt
          obtain ⟨p0, p1, p2, p3, p4, p5, p6, p7, p8⟩ := h'
          dsimp only at e
          subst e
          obtain ⟨g0, g1, g2, g3, g4⟩ := q5.all
          dsimp only at g0 g1 g2 g3 g4
          obtain ⟨hR, nn, bb, hz, hnn, hbb, hl⟩ := HM.out.good
          have T := hide (IH.out kd (List.mem_of_getElem? hkd) S _ (d + 1) nn bb g u3 qk HS.out hz (by omega) hnn hbb)
          rw [show ((d + 1 : Nat) : Int) = (d : Int) + 1 from rfl] at T
          dsimp only at T
          have HK := hide (And.intro hR (And.intro hkd hl))
          clear hkd q5 qk hR hz hl hnn hbb
          go_wp2_with fail
          with_reducible refine T.out.mono ?_
          intro e u4 p
          obtain ⟨bad4, st4⟩ := p.stand HK.out.1 HK.out.2.1 HK.out.2.2
          obtain ⟨rfl, c4, -⟩ := p
          have M5 := hide st4
          have X5 := hide (HX.out.block (c4.block _ HX.out.lt HNE.out))
          have C5 := hide (HC.out.trans c4)
          clear c4 st4 T e0 e1 e2 e3 e4 d2 g0 g1 g2 g3 g4 HM HX HC
          go_wp2
          go_roundw
          case rel => exact ⟨j + 1, bad4, by omega, by go_num, M5, X5, C5⟩
          case measure => simp [intOf]; omega
      · obtain ⟨j0, hj0⟩ : ∃ j0, j0 = j := ⟨j, rfl⟩
        have : kn = j0 := by omega
        subst this
        subst hj0
        have HE := hide (StandK.fin (ks := m.ks) (d := d + 1) (n := n + 1) (b := b) (bad := bad) (by rw [HKL.out]; exact HM.out) HC.out)
        go_wp2
        go_end0
        exact HE.out
  | true =>
    have HR := hide (HY.out rfl)
    have S0 : Hid (BoxM (v.setCell ⟨g, 2, none⟩ (.bool false)) w.heap.size ⟨6, nm, vl, va, vn, vc, ka, kn, kc⟩ ∧ SZ (v.setCell ⟨g, 2, none⟩ (.bool false)) g ((n : Int) + 1) b false ∧ Ch (fun k => k = g) w (v.setCell ⟨g, 2, none⟩ (.bool false))) := ⟨B2.out.box.block (Below.heap_setCell _ _ _ _ B2.out.ne), B2.out.cnt.mark _, B2.out.ch.trans (ch_set v g 2 _)⟩
    go_upto_region 25 with fail
    generalize v.setCell ⟨g, 2, none⟩ (.bool false) = u at S0 ⊢
    clear e0 e1 e2 e3 e4 d0 d1 d2 df2 B2
    have ST : Hid (StandK R m.ks (d + 1) (n + 1) b 0 g false u) := ⟨_, _, S0.out.2.1, Or.inr ⟨rfl, HR.out, n + 1, b, rfl, rfl, by omega, hb4, by rw [List.take_zero, lookKs]⟩⟩
    go_wp2
    go_loopw [7] (fun i wr => ∃ (j : Nat) (bad : Bool), j ≤ kn ∧ i = .int .i64 j ∧ Hid (StandK R m.ks (d + 1) (n + 1) b j g bad wr) ∧ Hid (BoxM wr w.heap.size ⟨6, nm, vl, va, vn, vc, ka, kn, kc⟩) ∧ Hid (Ch (fun k => k = g) w wr)) (fun i _ => kn - (intOf i).toNat)
    case atStart => exact ⟨0, false, by omega, rfl, ST, S0.out.1, S0.out.2.2⟩
    case round =>
      obtain ⟨j, bad, hj, rfl, HM, HX, HC⟩ := hrel
      obtain ⟨u3, rfl⟩ : ∃ u3, u3 = wr := ⟨wr, rfl⟩
      clear ST S0
      obtain ⟨e0, e1, e2, e3, e4, _⟩ := HX.out.all
      dsimp only at e0 e1 e2 e3 e4
      have d2 := HM.out.cell
      by_cases hlt : j < kn
      · have i1 : (0 : Int) ≤ (j : Int) := by omega
        have i2 : (j : Int) < (kn : Int) := by omega
        cases bad with
        | true =>
          obtain ⟨hR, hE⟩ := HM.out.bad
          have HE := hide (And.intro hR hE)
          clear hR hE
          go_wp2
          go_end0
          rw [HE.out.1]
          exact ⟨rfl, HC.out, HE.out.2⟩
        | false =>
          obtain ⟨x1, y1, kd, h', e, hkd, -, q5, qk⟩ := (HQ.out.ch HC.out (fun k hk => HS.out k hk)).kid hlt
          obtain ⟨p0, p1, p2, p3, p4, p5, p6, p7, p8⟩ := h'
          dsimp only at e
          subst e
          obtain ⟨g0, g1, g2, g3, g4⟩ := q5.all
          dsimp only at g0 g1 g2 g3 g4
          obtain ⟨hR, nn, bb, hz, hnn, hbb, hl⟩ := HM.out.good
          have T := hide (IH.out kd (List.mem_of_getElem? hkd) S _ (d + 1) nn bb g u3 qk HS.out hz (by omega) hnn hbb)
          rw [show ((d + 1 : Nat) : Int) = (d : Int) + 1 from rfl] at T
          dsimp only at T
          have HK := hide (And.intro hR (And.intro hkd hl))
          clear hkd q5 qk hR hz hl hnn hbb
          go_wp2_with fail
          with_reducible refine T.out.mono ?_
          intro e u4 p
          obtain ⟨bad4, st4⟩ := p.stand HK.out.1 HK.out.2.1 HK.out.2.2
          obtain ⟨rfl, c4, -⟩ := p
          have M5 := hide st4
          have X5 := hide (HX.out.block (c4.block _ HX.out.lt HNE.out))
          have C5 := hide (HC.out.trans c4)
          clear c4 st4 T e0 e1 e2 e3 e4 d2 g0 g1 g2 g3 g4 HM HX HC
          go_wp2
          go_roundw
          case rel => exact ⟨j + 1, bad4, by omega, by go_num, M5, X5, C5⟩
          case measure => simp [intOf]; omega
      · obtain ⟨j0, hj0⟩ : ∃ j0, j0 = j := ⟨j, rfl⟩
        have : kn = j0 := by omega
        subst this
        subst hj0
        have HE := hide (StandK.fin (ks := m.ks) (d := d + 1) (n := n + 1) (b := b) (bad := bad) (by rw [HKL.out]; exact HM.out) HC.out)
        go_wp2
        go_end0
        exact HE.out
set_option maxHeartbeats 8000000 in
theorem look_7 (S : Nat → Prop) (m : Mt) (nm vl : ByteArray) (va : Option Addr) (vn vc : Nat) (ka : Option Addr) (kn kc : Nat) (d n b g : Nat) (w : World) (R : Option (Nat × Nat)) (q : SeeM S w m ⟨7, nm, vl, va, vn, vc, ka, kn, kc⟩) (hS : ∀ k, S k → k ≠ g) (hb : SZ w g n b false) (hd : d ≤ 8) (hn : n < 64) (hb4 : b ≤ 4096)
    (IH0 : ∀ k ∈ m.ks, ∀ (S : Nat → Prop) (h : Hm) (d n b g : Nat) (w : World), SeeM S w k h → (∀ k, S k → k ≠ g) → SZ w g n b false → d ≤ 9 → n ≤ 64 → b ≤ 4096 → Calls Try.prog 30 #[.pointer (some ⟨g, 0, none⟩), .agg #[.int .i64 h.op, .string h.nm, .string h.vl, .slice h.va h.vn h.vc, .slice h.ka h.kn h.kc], .int .i64 d] w fun e w' => LookP (lookF k d n b) g w w' e)
    (hyes : ((decide (vl.size = 0) && (decide (nm.size = 0) && decide (vn = 0))) && decide (kn = 1)) = true → R = lookKs m.ks (d + 1) (n + 1) b) (hno : ((decide (vl.size = 0) && (decide (nm.size = 0) && decide (vn = 0))) && decide (kn = 1)) = false → R = none) :
    Calls Try.prog 30 #[.pointer (some ⟨g, 0, none⟩), .agg #[.int .i64 7, .string nm, .string vl, .slice va vn vc, .slice ka kn kc], .int .i64 d] w fun e w' => LookP R g w w' e := by
  obtain ⟨-, -, -, hw, hv, hk, -⟩ := seeM_iff.1 q
  dsimp only at hv hk
  have C := hide (fun W => bare_fft ⟨7, nm, vl, va, vn, vc, ka, kn, kc⟩ W hw)
  dsimp only at C
  have w1 : nm.size ≤ 9223372036854775807 := hw.nm
  have w2 : vl.size ≤ 9223372036854775807 := hw.vl
  have w4 : kn * 88 ≤ 140737488355328 := hw.kn
  have HQ := hide q
  have HKL := hide hk
  have HS := hide hS
  have IH := hide IH0
  have HY := hide hyes
  have HNO := hide hno
  clear hyes hno IH0
  generalize (decide (vl.size = 0) && (decide (nm.size = 0) && decide (vn = 0))) = f at C HY HNO
  obtain ⟨W, hW⟩ : ∃ W, Hid ((w.alloc (.cells #[.int .i64 7, .string nm, .string vl, .slice va vn vc, .slice ka kn kc] 25)).setCell ⟨g, 0, none⟩ (.int .i64 ((n : Int) + 1)) = W) := ⟨_, rfl⟩
  have B : Hid (Beg w W g n b ⟨7, nm, vl, va, vn, vc, ka, kn, kc⟩) := by rw [← hW.out]; exact beg_of (h := ⟨7, nm, vl, va, vn, vc, ka, kn, kc⟩) hb
  have HNE := hide B.out.ne
  have B1 := hide (hb.block (w' := w.alloc (.cells #[.int .i64 7, .string nm, .string vl, .slice va vn vc, .slice ka kn kc] 25)) (Below.heap_alloc w _ g hb.lt))
  obtain ⟨c0, _, _, cf⟩ := B1.out.cell
  have cf0 := cf 0
  obtain ⟨d0, d1, d2, _⟩ := B.out.cnt.cell
  obtain ⟨e0, e1, e2, e3, e4, _⟩ := B.out.box.all
  dsimp only at e0 e1 e2 e3 e4
  have a1 : ¬ (64 : Int) < (n : Int) + 1 := by omega
  have a2 : ¬ (8 : Int) < (d : Int) := by omega
  clear hb B1 cf hw hv hk hS q
  go_enter Try.func30, Try.ntmps30
  go_upto_region 2 with fail
  rw [hW.out]
  clear hW c0 cf0
  go_wp2_with fail
  with_reducible refine (C.out _).mono ?_
  rintro e v ⟨rfl, b2⟩
  have B2 := hide (B.out.below b2)
  clear b2 d0 d1 d2 e0 e1 e2 e3 e4 B C
  obtain ⟨d0, d1, d2, df⟩ := B2.out.cnt.cell
  have df2 := df 2
  obtain ⟨e0, e1, e2, e3, e4, _⟩ := B2.out.box.all
  dsimp only at e0 e1 e2 e3 e4
  clear df
  cases f with
  | false =>
    have HR := hide (HNO.out (Bool.false_and _))
    have S0 : Hid (BoxM (v.setCell ⟨g, 2, none⟩ (.bool true)) w.heap.size ⟨7, nm, vl, va, vn, vc, ka, kn, kc⟩ ∧ SZ (v.setCell ⟨g, 2, none⟩ (.bool true)) g ((n : Int) + 1) b true ∧ Ch (fun k => k = g) w (v.setCell ⟨g, 2, none⟩ (.bool true))) := ⟨B2.out.box.block (Below.heap_setCell _ _ _ _ B2.out.ne), B2.out.cnt.mark _, B2.out.ch.trans (ch_set v g 2 _)⟩
    go_upto_region 25 with fail
    generalize v.setCell ⟨g, 2, none⟩ (.bool true) = u at S0 ⊢
    clear e0 e1 e2 e3 e4 d0 d1 d2 df2 B2
    have ST : Hid (StandK R m.ks (d + 1) (n + 1) b 0 g true u) := ⟨_, _, S0.out.2.1, Or.inl ⟨rfl, HR.out⟩⟩
    go_wp2
    go_loopw [7] (fun i wr => ∃ (j : Nat) (bad : Bool), j ≤ kn ∧ i = .int .i64 j ∧ Hid (StandK R m.ks (d + 1) (n + 1) b j g bad wr) ∧ Hid (BoxM wr w.heap.size ⟨7, nm, vl, va, vn, vc, ka, kn, kc⟩) ∧ Hid (Ch (fun k => k = g) w wr)) (fun i _ => kn - (intOf i).toNat)
    case atStart => exact ⟨0, true, by omega, rfl, ST, S0.out.1, S0.out.2.2⟩
    case round =>
      obtain ⟨j, bad, hj, rfl, HM, HX, HC⟩ := hrel
      obtain ⟨u3, rfl⟩ : ∃ u3, u3 = wr := ⟨wr, rfl⟩
      clear ST S0
      obtain ⟨e0, e1, e2, e3, e4, _⟩ := HX.out.all
      dsimp only at e0 e1 e2 e3 e4
      have d2 := HM.out.cell
      by_cases hlt : j < kn
      · have i1 : (0 : Int) ≤ (j : Int) := by omega
        have i2 : (j : Int) < (kn : Int) := by omega
        cases bad with
        | true =>
          obtain ⟨hR, hE⟩ := HM.out.bad
          have HE := hide (And.intro hR hE)
          clear hR hE
          go_wp2
          go_end0
          rw [HE.out.1]
          exact ⟨rfl, HC.out, HE.out.2⟩
        | false =>
          obtain ⟨x1, y1, kd, h', e, hkd, -, q5, qk⟩ := (HQ.out.ch HC.out (fun k hk => HS.out k hk)).kid hlt
          obtain ⟨p0, p1, p2, p3, p4, p5, p6, p7, p8⟩ := h'
          dsimp only at e
          subst e
          obtain ⟨g0, g1, g2, g3, g4⟩ := q5.all
          dsimp only at g0 g1 g2 g3 g4
          obtain ⟨hR, nn, bb, hz, hnn, hbb, hl⟩ := HM.out.good
          have T := hide (IH.out kd (List.mem_of_getElem? hkd) S _ (d + 1) nn bb g u3 qk HS.out hz (by omega) hnn hbb)
          rw [show ((d + 1 : Nat) : Int) = (d : Int) + 1 from rfl] at T
          dsimp only at T
          have HK := hide (And.intro hR (And.intro hkd hl))
          clear hkd q5 qk hR hz hl hnn hbb
          go_wp2_with fail
          with_reducible refine T.out.mono ?_
          intro e u4 p
          obtain ⟨bad4, st4⟩ := p.stand HK.out.1 HK.out.2.1 HK.out.2.2
          obtain ⟨rfl, c4, -⟩ := p
          have M5 := hide st4
          have X5 := hide (HX.out.block (c4.block _ HX.out.lt HNE.out))
          have C5 := hide (HC.out.trans c4)
          clear c4 st4 T e0 e1 e2 e3 e4 d2 g0 g1 g2 g3 g4 HM HX HC
          go_wp2
          go_roundw
          case rel => exact ⟨j + 1, bad4, by omega, by go_num, M5, X5, C5⟩
          case measure => simp [intOf]; omega
      · obtain ⟨j0, hj0⟩ : ∃ j0, j0 = j := ⟨j, rfl⟩
        have : kn = j0 := by omega
        subst this
        subst hj0
        have HE := hide (StandK.fin (ks := m.ks) (d := d + 1) (n := n + 1) (b := b) (bad := bad) (by rw [HKL.out]; exact HM.out) HC.out)
        go_wp2
        go_end0
        exact HE.out
  | true =>
    by_cases h1 : kn = 1
    · have t1 : ((kn : Int) != 1) = false := by simp [h1]
      have HR := hide (HY.out (by rw [Bool.true_and]; exact decide_eq_true h1))
      clear h1
      have S0 : Hid (BoxM (v.setCell ⟨g, 2, none⟩ (.bool false)) w.heap.size ⟨7, nm, vl, va, vn, vc, ka, kn, kc⟩ ∧ SZ (v.setCell ⟨g, 2, none⟩ (.bool false)) g ((n : Int) + 1) b false ∧ Ch (fun k => k = g) w (v.setCell ⟨g, 2, none⟩ (.bool false))) := ⟨B2.out.box.block (Below.heap_setCell _ _ _ _ B2.out.ne), B2.out.cnt.mark _, B2.out.ch.trans (ch_set v g 2 _)⟩
      go_upto_region 25 with fail
      generalize v.setCell ⟨g, 2, none⟩ (.bool false) = u at S0 ⊢
      clear e0 e1 e2 e3 e4 d0 d1 d2 df2 B2
      have ST : Hid (StandK R m.ks (d + 1) (n + 1) b 0 g false u) := ⟨_, _, S0.out.2.1, Or.inr ⟨rfl, HR.out, n + 1, b, rfl, rfl, by omega, hb4, by rw [List.take_zero, lookKs]⟩⟩
      go_wp2
      go_loopw [7] (fun i wr => ∃ (j : Nat) (bad : Bool), j ≤ kn ∧ i = .int .i64 j ∧ Hid (StandK R m.ks (d + 1) (n + 1) b j g bad wr) ∧ Hid (BoxM wr w.heap.size ⟨7, nm, vl, va, vn, vc, ka, kn, kc⟩) ∧ Hid (Ch (fun k => k = g) w wr)) (fun i _ => kn - (intOf i).toNat)
      case atStart => exact ⟨0, false, by omega, rfl, ST, S0.out.1, S0.out.2.2⟩
      case round =>
        obtain ⟨j, bad, hj, rfl, HM, HX, HC⟩ := hrel
        obtain ⟨u3, rfl⟩ : ∃ u3, u3 = wr := ⟨wr, rfl⟩
        clear ST S0
        obtain ⟨e0, e1, e2, e3, e4, _⟩ := HX.out.all
        dsimp only at e0 e1 e2 e3 e4
        have d2 := HM.out.cell
        by_cases hlt : j < kn
        · have i1 : (0 : Int) ≤ (j : Int) := by omega
          have i2 : (j : Int) < (kn : Int) := by omega
          cases bad with
          | true =>
            obtain ⟨hR, hE⟩ := HM.out.bad
            have HE := hide (And.intro hR hE)
            clear hR hE
            go_wp2
            go_end0
            rw [HE.out.1]
            exact ⟨rfl, HC.out, HE.out.2⟩
          | false =>
            obtain ⟨x1, y1, kd, h', e, hkd, -, q5, qk⟩ := (HQ.out.ch HC.out (fun k hk => HS.out k hk)).kid hlt
            obtain ⟨p0, p1, p2, p3, p4, p5, p6, p7, p8⟩ := h'
            dsimp only at e
            subst e
            obtain ⟨g0, g1, g2, g3, g4⟩ := q5.all
            dsimp only at g0 g1 g2 g3 g4
            obtain ⟨hR, nn, bb, hz, hnn, hbb, hl⟩ := HM.out.good
            have T := hide (IH.out kd (List.mem_of_getElem? hkd) S _ (d + 1) nn bb g u3 qk HS.out hz (by omega) hnn hbb)
            rw [show ((d + 1 : Nat) : Int) = (d : Int) + 1 from rfl] at T
            dsimp only at T
            have HK := hide (And.intro hR (And.intro hkd hl))
            clear hkd q5 qk hR hz hl hnn hbb
            go_wp2_with fail
            with_reducible refine T.out.mono ?_
            intro e u4 p
            obtain ⟨bad4, st4⟩ := p.stand HK.out.1 HK.out.2.1 HK.out.2.2
            obtain ⟨rfl, c4, -⟩ := p
            have M5 := hide st4
            have X5 := hide (HX.out.block (c4.block _ HX.out.lt HNE.out))
            have C5 := hide (HC.out.trans c4)
            clear c4 st4 T e0 e1 e2 e3 e4 d2 g0 g1 g2 g3 g4 HM HX HC
            go_wp2
            go_roundw
            case rel => exact ⟨j + 1, bad4, by omega, by go_num, M5, X5, C5⟩
            case measure => simp [intOf]; omega
        · obtain ⟨j0, hj0⟩ : ∃ j0, j0 = j := ⟨j, rfl⟩
          have : kn = j0 := by omega
          subst this
          subst hj0
          have HE := hide (StandK.fin (ks := m.ks) (d := d + 1) (n := n + 1) (b := b) (bad := bad) (by rw [HKL.out]; exact HM.out) HC.out)
          go_wp2
          go_end0
          exact HE.out
    · have t1 : ((kn : Int) != 1) = true := by simp; omega
      have HR := hide (HNO.out (by rw [Bool.true_and]; exact decide_eq_false h1))
      clear h1
      have S0 : Hid (BoxM (v.setCell ⟨g, 2, none⟩ (.bool true)) w.heap.size ⟨7, nm, vl, va, vn, vc, ka, kn, kc⟩ ∧ SZ (v.setCell ⟨g, 2, none⟩ (.bool true)) g ((n : Int) + 1) b true ∧ Ch (fun k => k = g) w (v.setCell ⟨g, 2, none⟩ (.bool true))) := ⟨B2.out.box.block (Below.heap_setCell _ _ _ _ B2.out.ne), B2.out.cnt.mark _, B2.out.ch.trans (ch_set v g 2 _)⟩
      go_upto_region 25 with fail
      generalize v.setCell ⟨g, 2, none⟩ (.bool true) = u at S0 ⊢
      clear e0 e1 e2 e3 e4 d0 d1 d2 df2 B2
      have ST : Hid (StandK R m.ks (d + 1) (n + 1) b 0 g true u) := ⟨_, _, S0.out.2.1, Or.inl ⟨rfl, HR.out⟩⟩
      go_wp2
      go_loopw [7] (fun i wr => ∃ (j : Nat) (bad : Bool), j ≤ kn ∧ i = .int .i64 j ∧ Hid (StandK R m.ks (d + 1) (n + 1) b j g bad wr) ∧ Hid (BoxM wr w.heap.size ⟨7, nm, vl, va, vn, vc, ka, kn, kc⟩) ∧ Hid (Ch (fun k => k = g) w wr)) (fun i _ => kn - (intOf i).toNat)
      case atStart => exact ⟨0, true, by omega, rfl, ST, S0.out.1, S0.out.2.2⟩
      case round =>
        obtain ⟨j, bad, hj, rfl, HM, HX, HC⟩ := hrel
        obtain ⟨u3, rfl⟩ : ∃ u3, u3 = wr := ⟨wr, rfl⟩
        clear ST S0
        obtain ⟨e0, e1, e2, e3, e4, _⟩ := HX.out.all
        dsimp only at e0 e1 e2 e3 e4
        have d2 := HM.out.cell
        by_cases hlt : j < kn
        · have i1 : (0 : Int) ≤ (j : Int) := by omega
          have i2 : (j : Int) < (kn : Int) := by omega
          cases bad with
          | true =>
            obtain ⟨hR, hE⟩ := HM.out.bad
            have HE := hide (And.intro hR hE)
            clear hR hE
            go_wp2
            go_end0
            rw [HE.out.1]
            exact ⟨rfl, HC.out, HE.out.2⟩
          | false =>
            obtain ⟨x1, y1, kd, h', e, hkd, -, q5, qk⟩ := (HQ.out.ch HC.out (fun k hk => HS.out k hk)).kid hlt
            obtain ⟨p0, p1, p2, p3, p4, p5, p6, p7, p8⟩ := h'
            dsimp only at e
            subst e
            obtain ⟨g0, g1, g2, g3, g4⟩ := q5.all
            dsimp only at g0 g1 g2 g3 g4
            obtain ⟨hR, nn, bb, hz, hnn, hbb, hl⟩ := HM.out.good
            have T := hide (IH.out kd (List.mem_of_getElem? hkd) S _ (d + 1) nn bb g u3 qk HS.out hz (by omega) hnn hbb)
            rw [show ((d + 1 : Nat) : Int) = (d : Int) + 1 from rfl] at T
            dsimp only at T
            have HK := hide (And.intro hR (And.intro hkd hl))
            clear hkd q5 qk hR hz hl hnn hbb
            go_wp2_with fail
            with_reducible refine T.out.mono ?_
            intro e u4 p
            obtain ⟨bad4, st4⟩ := p.stand HK.out.1 HK.out.2.1 HK.out.2.2
            obtain ⟨rfl, c4, -⟩ := p
            have M5 := hide st4
            have X5 := hide (HX.out.block (c4.block _ HX.out.lt HNE.out))
            have C5 := hide (HC.out.trans c4)
            clear c4 st4 T e0 e1 e2 e3 e4 d2 g0 g1 g2 g3 g4 HM HX HC
            go_wp2
            go_roundw
            case rel => exact ⟨j + 1, bad4, by omega, by go_num, M5, X5, C5⟩
            case measure => simp [intOf]; omega
        · obtain ⟨j0, hj0⟩ : ∃ j0, j0 = j := ⟨j, rfl⟩
          have : kn = j0 := by omega
          subst this
          subst hj0
          have HE := hide (StandK.fin (ks := m.ks) (d := d + 1) (n := n + 1) (b := b) (bad := bad) (by rw [HKL.out]; exact HM.out) HC.out)
          go_wp2
          go_end0
          exact HE.out
end Go.Proofs.Ythebcmkainplnaa
