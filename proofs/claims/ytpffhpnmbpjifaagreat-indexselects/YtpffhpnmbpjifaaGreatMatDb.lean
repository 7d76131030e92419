/-
  The program's own Check of a matcher (takes, by what room is left): contracts, for every world: the room alone turns.
  Conditions: the matcher lies in blocks apart from the room's.
-/
import Derived.Test.YtpffhpnmbpjifaaGreatMatDa
import Derived.Test.YtpffhpnmbpjifaaGreatLabZa
import Derived.Test.YtpffhpnmbpjifaaGreatVintZa
namespace Go.Proofs.YtpffhpnmbpjifaaGreat
open Go.RowKit
set_option maxRecDepth 20000

/-- The room that is left, in memory. -/
def RM (w : World) (g : Nat) (n t : Int) : Prop := w.heap[g]? = some (.cells #[.int .i64 n, .int .i64 t] 83 (0, 0))
theorem RM.cell {w : World} {g : Nat} {n t : Int} (h : RM w g n t) : w.cell? ⟨g, 0, none⟩ = some (.int .i64 n) ∧ w.cell? ⟨g, 1, none⟩ = some (.int .i64 t) ∧ ∀ o, w.frozen? ⟨g, o, none⟩ = false := by
  unfold RM at h
  refine ⟨?_, ?_, fun o => ?_⟩
  · simp [World.cell?, h]
  · simp [World.cell?, h]
  · simp [World.frozen?, h]
theorem RM.lt {w : World} {g : Nat} {n t : Int} (h : RM w g n t) : g < w.heap.size := by
  unfold RM at h
  exact (Array.getElem?_eq_some_iff.1 h).1
theorem RM.nodes {w : World} {g : Nat} {n t : Int} (h : RM w g n t) (v : Int) : RM (w.setCell ⟨g, 0, none⟩ (.int .i64 v)) g v t := by
  unfold RM at *
  simp [World.setCell, Array.getElem?_modify, h]
theorem RM.text {w : World} {g : Nat} {n t : Int} (h : RM w g n t) (v : Int) : RM (w.setCell ⟨g, 1, none⟩ (.int .i64 v)) g n v := by
  unfold RM at *
  simp [World.setCell, Array.getElem?_modify, h]
theorem RM.block {w w' : World} {g : Nat} {n t : Int} (h : RM w g n t) (e : w'.heap[g]? = w.heap[g]?) : RM w' g n t := by
  unfold RM at *
  rw [e]; exact h
theorem rm_new (w : World) (n t : Int) : RM (w.alloc (.cells #[.int .i64 n, .int .i64 t] 83)) w.heap.size n t := heap_alloc_new w _

/-- What takes tells. -/
def TakP (r : Option (Nat × Nat)) (g : Nat) (w' : World) (e : Ending) : Prop :=
  match r with
  | none => e = .returned (.bool false)
  | some r => e = .returned (.bool true) ∧ RM w' g (64 - (r.1 : Int)) (4096 - (r.2 : Int))

theorem sum_take {vs : List ByteArray} {k : Nat} {s : ByteArray} (h : vs[k]? = some s) : sumB' (vs.take (k + 1)) = sumB' (vs.take k) + s.size := by
  unfold sumB'
  rw [List.take_add_one, h]
  simp
theorem sum_le (vs : List ByteArray) (k : Nat) : sumB' (vs.take k) ≤ sumB' vs := by
  unfold sumB'
  have h : vs = vs.take k ++ vs.drop k := (List.take_append_drop k vs).symm
  calc ((vs.take k).map (·.size)).sum ≤ ((vs.take k).map (·.size)).sum + ((vs.drop k).map (·.size)).sum := Nat.le_add_right _ _
    _ = (vs.map (·.size)).sum := by rw [← List.sum_append, ← List.map_append, List.take_append_drop]
theorem ris_len {l : List ByteArray} (h : valsB l = true) : sumB' l ≤ 1024 := by
  unfold valsB at h
  simp only [Bool.and_eq_true, decide_eq_true_eq] at h
  have hr := risB_iff.1 h.2
  have key : ∀ (l : List ByteArray), (∀ s ∈ l, s.size ≤ 64) → sumB' l ≤ 64 * l.length := by
    intro l
    induction l with
    | nil => intro _; simp [sumB']
    | cons x t ih =>
      intro hx
      have := ih (fun s hs => hx s (by simp [hs]))
      have h1 := hx x (by simp)
      unfold sumB' at *
      simp only [List.map_cons, List.sum_cons, List.length_cons]
      omega
  have := key l (fun s hs => by
    obtain ⟨i, hi⟩ := List.getElem?_of_mem hs
    exact (hr i s hi).1)
  omega
theorem fit_own {m : Mt} (h : fitB m = true) : m.nm.size ≤ 32 ∧ m.vl.size ≤ 64 ∧ m.vs.length ≤ 16 ∧ sumB' m.vs ≤ 1024 := by
  have hn : ∀ {s : ByteArray}, nameB s = true → s.size ≤ 32 := fun {s} h => by
    unfold nameB at h
    simp only [Bool.and_eq_true, decide_eq_true_eq] at h
    exact h.2.2
  have h0 : (ByteArray.empty).size = 0 := rfl
  rcases fit_names h with ⟨-, rfl⟩ | ⟨ho, h1, h2, -⟩ | ⟨-, h1, h2, h3, -⟩ | ⟨-, h1, h2, h3, -⟩
  · exact ⟨by decide, by decide, by decide, by decide⟩
  · refine ⟨hn h1, ?_, by rw [h2]; decide, by rw [h2]; decide⟩
    unfold fitB at h
    rw [if_neg (by omega), if_pos ho] at h
    simp only [Bool.and_eq_true, decide_eq_true_eq] at h
    exact h.2
  · refine ⟨hn h1, by rw [h2]; decide, ?_, ris_len h3⟩
    unfold valsB at h3
    simp only [Bool.and_eq_true, decide_eq_true_eq] at h3
    exact h3.1.2
  · exact ⟨by rw [h1]; decide, by rw [h2]; decide, by rw [h3]; decide, by rw [h3]; decide⟩
theorem look_up (m : Mt) : ∀ d n b r, lookF m d n b = some r → n < r.1 ∧ r.1 ≤ 64 ∧ b ≤ r.2 ∧ r.2 ≤ 4096 := by
  refine Mt.ind (P := fun m => ∀ d n b r, lookF m d n b = some r → n < r.1 ∧ r.1 ≤ 64 ∧ b ≤ r.2 ∧ r.2 ≤ 4096) ?_ m
  intro m ih d n b r h
  obtain ⟨h1, -, -, h2, h3⟩ := lookF_some h
  have key : ∀ (ks : List Mt) (n b : Nat), (∀ k ∈ ks, k ∈ m.ks) → n ≤ 64 → b ≤ 4096 → lookKs ks (d + 1) n b = some r → n ≤ r.1 ∧ r.1 ≤ 64 ∧ b ≤ r.2 ∧ r.2 ≤ 4096 := by
    intro ks
    induction ks with
    | nil =>
      intro n b _ hn hb h
      rw [lookKs] at h
      simp only [Option.some.injEq] at h
      subst h
      exact ⟨Nat.le_refl _, hn, Nat.le_refl _, hb⟩
    | cons x t iht =>
      intro n b hm hn hb h
      obtain ⟨r', hx, ht⟩ := lookKs_cons h
      obtain ⟨q1, q2, q3, q4⟩ := ih x (hm x (by simp)) _ _ _ _ hx
      obtain ⟨p1, p2, p3, p4⟩ := iht r'.1 r'.2 (fun k hk => hm k (by simp [hk])) q2 q4 ht
      exact ⟨by omega, p2, by omega, p4⟩
  obtain ⟨p1, p2, p3, p4⟩ := key m.ks _ _ (fun k hk => hk) h1 h2 h3
  exact ⟨by omega, p2, by omega, p4⟩

set_option maxHeartbeats 8000000 in
theorem takes_any (m : Mt) : ∀ (S : Nat → Prop) (h : Hm) (d n b g : Nat) (w : World), SeeM S w m h → (∀ k, S k → k ≠ g) → RM w g (64 - (n : Int)) (4096 - (b : Int)) → d ≤ 9 → n ≤ 64 → b ≤ 4096 →
    Calls Tryz.prog 41 #[.pointer (some ⟨g, 0, none⟩), .agg #[.int .i64 h.op, .string h.nm, .string h.vl, .slice h.va h.vn h.vc, .slice h.ka h.kn h.kc], .int .i64 d] w fun e w' => Ch (fun k => k = g) w w' ∧ TakP (lookF m d n b) g w' e := by
  refine Mt.ind (P := fun m => ∀ (S : Nat → Prop) (h : Hm) (d n b g : Nat) (w : World), SeeM S w m h → (∀ k, S k → k ≠ g) → RM w g (64 - (n : Int)) (4096 - (b : Int)) → d ≤ 9 → n ≤ 64 → b ≤ 4096 →
    Calls Tryz.prog 41 #[.pointer (some ⟨g, 0, none⟩), .agg #[.int .i64 h.op, .string h.nm, .string h.vl, .slice h.va h.vn h.vc, .slice h.ka h.kn h.kc], .int .i64 d] w fun e w' => Ch (fun k => k = g) w w' ∧ TakP (lookF m d n b) g w' e) ?_ m
  intro m ih S h d n b g w q hS hb hd hn hb4
  obtain ⟨op, nm, vl, va, vn, vc, ka, kn, kc⟩ := h
  have IH := hide ih
  have HS := hide hS
  obtain ⟨e1, e2, e3, hw, hv, hk, -⟩ := seeM_iff.1 q
  dsimp only at e1 e2 e3 hv hk ⊢
  have w1 : nm.size ≤ 9223372036854775807 := hw.nm
  have w2 : vl.size ≤ 9223372036854775807 := hw.vl
  have w3 : vn * 16 ≤ 140737488355328 := hv.2.1
  have w4 : kn * 88 ≤ 140737488355328 := hw.kn
  have HVL := hide hv.1
  have HKL := hide hk
  have HT := hide (lookF_eq m d n b)
  have HE : Hid (m.nm = nm ∧ m.vl = vl) := ⟨e2.symm, e3.symm⟩
  have HQ := hide q
  have HV := hide hv
  obtain ⟨W, hW⟩ : ∃ W, Hid (w.alloc (.cells #[.int .i64 op, .string nm, .string vl, .slice va vn vc, .slice ka kn kc] 26) = W) := ⟨_, rfl⟩
  have LW : Hid (Below w.heap.size w W) := by rw [← hW.out]; exact (Below.refl _ _).alloc (Nat.le_refl _) _
  have RW : Hid (RM W g (64 - (n : Int)) (4096 - (b : Int))) := hb.block (LW.out.block g hb.lt)
  have hgb : w.heap.size ≠ g := by have := hb.lt; omega
  have HGB := hide hgb
  have BW : Hid (BoxM W w.heap.size ⟨op, nm, vl, va, vn, vc, ka, kn, kc⟩) := by rw [← hW.out]; exact boxM_new w ⟨op, nm, vl, va, vn, vc, ka, kn, kc⟩
  have FC := hide (fits_any S m ⟨op, nm, vl, va, vn, vc, ka, kn, kc⟩ W (q.below LW.out))
  dsimp only at FC
  have CW : Hid (Ch (fun k => k = g) w W) := (Ch.of_below LW.out).more (fun _ _ => False.elim)
  obtain ⟨r0, r1, rf⟩ := RW.out.cell
  obtain ⟨b0, b1, b2, b3, b4, _⟩ := BW.out.all
  dsimp only at b0 b1 b2 b3 b4
  clear ih hS q hv hk e1 e2 e3 hw hb hgb
  by_cases c1 : n = 64
  · have t1 : ((64 - (n : Int)) == 0) = true := by simp; omega
    have HF : Hid (Ch (fun k => k = g) w W ∧ TakP (lookF m d n b) g W (.returned (.bool false))) := by
      rw [HT.out, if_pos (by omega)]
      exact ⟨CW.out, rfl⟩
    clear HT IH HQ HV FC c1
    go_enter Tryz.func41, Tryz.ntmps41
    go_upto_region 1 with fail
    rw [hW.out]
    go_wp2
    go_ret
    exact HF.out
  · have t1 : ((64 - (n : Int)) == 0) = false := by simp; omega
    by_cases c2 : 8 < d
    · have t2 : (8 : Int) < (d : Int) := by omega
      have HF : Hid (Ch (fun k => k = g) w W ∧ TakP (lookF m d n b) g W (.returned (.bool false))) := by
        rw [HT.out, if_pos (by omega)]
        exact ⟨CW.out, rfl⟩
      clear HT IH HQ HV FC c1 c2
      go_enter Tryz.func41, Tryz.ntmps41
      go_upto_region 1 with fail
      rw [hW.out]
      go_wp2
      go_ret
      exact HF.out
    · have t2 : ¬ (8 : Int) < (d : Int) := by omega
      cases hf : fitB m with
      | false =>
        rw [hf] at FC
        have HF : Hid (∀ w2, Below W.heap.size W w2 → Ch (fun k => k = g) w w2 ∧ TakP (lookF m d n b) g w2 (.returned (.bool false))) := by
          intro w2 b2
          rw [HT.out, if_pos (Or.inr (Or.inr (Or.inl hf)))]
          exact ⟨CW.out.trans ((Ch.of_below b2).more (fun _ _ => False.elim)), rfl⟩
        clear HT IH HQ HV c1 c2 hf
        go_enter Tryz.func41, Tryz.ntmps41
        go_upto_region 1 with fail
        rw [hW.out]
        go_wp2_with fail
        with_reducible refine FC.out.mono ?_
        rintro e w2 ⟨rfl, bw⟩
        have BWW := hide bw
        clear bw
        go_wp2
        go_ret
        exact HF.out _ BWW.out
      | true =>
        rw [hf] at FC
        obtain ⟨fo1, fo2, fo3, fo4⟩ := fit_own hf
        rw [HE.out.1] at fo1
        rw [HE.out.2] at fo2
        rw [HVL.out] at fo3
        have HT2 : Hid (4096 < b + (nm.size + vl.size + sumB' m.vs) → lookF m d n b = none) := by
          intro hh
          rw [HT.out, if_pos]
          refine Or.inr (Or.inr (Or.inr ?_))
          unfold ownT
          rw [HE.out.1, HE.out.2]
          exact hh
        have HT3 : Hid (b + (nm.size + vl.size + sumB' m.vs) ≤ 4096 → lookF m d n b = lookKs m.ks (d + 1) (n + 1) (b + (nm.size + vl.size + sumB' m.vs))) := by
          intro hh
          rw [HT.out, if_neg]
          · unfold ownT
            rw [HE.out.1, HE.out.2]
          · rw [hf]
            unfold ownT
            rw [HE.out.1, HE.out.2]
            intro hx
            rcases hx with hx | hx | hx | hx
            · omega
            · omega
            · cases hx
            · omega
        have HSL : Hid (∀ k, sumB' (m.vs.take k) ≤ sumB' m.vs) := fun k => sum_le m.vs k
        have HSA : Hid (sumB' (m.vs.take vn) = sumB' m.vs) := by
          show _ = _
          rw [List.take_of_length_le (by rw [HVL.out]; exact Nat.le_refl _)]
        generalize sumB' m.vs = sm at *
        have hn1 : n + 1 ≤ 64 := by omega
        clear HT c1 c2 hf
        go_enter Tryz.func41, Tryz.ntmps41
        go_upto_region 1 with fail
        rw [hW.out]
        clear hW
        go_wp2_with fail
        with_reducible refine FC.out.mono ?_
        rintro e w2 ⟨rfl, bw⟩
        have R2 := hide (RW.out.block (bw.block _ RW.out.lt))
        have B2 := hide (BW.out.block (bw.block _ BW.out.lt))
        have C2 : Hid (Ch (fun k => k = g) w w2) := CW.out.trans ((Ch.of_below bw).more (fun _ _ => False.elim))
        clear bw RW BW CW r0 r1 rf b0 b1 b2 b3 b4 FC LW
        obtain ⟨r0, r1, rf⟩ := R2.out.cell
        have rf0 := rf 0
        have R3 := hide (R2.out.nodes (64 - (n : Int) - 1))
        have B3 := hide (B2.out.block (Below.heap_setCell w2 _ _ _ HGB.out) : BoxM (w2.setCell ⟨g, 0, none⟩ (.int .i64 (64 - (n : Int) - 1))) w.heap.size ⟨op, nm, vl, va, vn, vc, ka, kn, kc⟩)
        have C3 : Hid (Ch (fun k => k = g) w (w2.setCell ⟨g, 0, none⟩ (.int .i64 (64 - (n : Int) - 1)))) := C2.out.trans (ch_set w2 g 0 _)
        clear rf
        go_upto_region 4 with fail
        generalize w2.setCell ⟨g, 0, none⟩ (.int .i64 (64 - (n : Int) - 1)) = w3 at R3 B3 C3 ⊢
        clear R2 B2 C2 r0 r1 rf0
        obtain ⟨r0, r1, rf⟩ := R3.out.cell
        have rf1 := rf 1
        obtain ⟨b0, b1, b2, b3, b4, _⟩ := B3.out.all
        dsimp only at b0 b1 b2 b3 b4
        clear rf b0 b3 b4
        have R4 : Hid (RM (w3.setCell ⟨g, 1, none⟩ (.int .i64 (4096 - (b : Int) - ((nm.size : Int) + (vl.size : Int))))).drew g (64 - (n : Int) - 1) (4096 - (b : Int) - ((nm.size : Int) + (vl.size : Int)))) := R3.out.text _
        have B4 : Hid (BoxM (w3.setCell ⟨g, 1, none⟩ (.int .i64 (4096 - (b : Int) - ((nm.size : Int) + (vl.size : Int))))).drew w.heap.size ⟨op, nm, vl, va, vn, vc, ka, kn, kc⟩) := B3.out.block (Below.heap_setCell _ _ _ _ HGB.out)
        have C4 : Hid (Ch (fun k => k = g) w (w3.setCell ⟨g, 1, none⟩ (.int .i64 (4096 - (b : Int) - ((nm.size : Int) + (vl.size : Int))))).drew) := ch_drewS (C3.out.trans (ch_set w3 g 1 _)) 1
        go_region
        generalize (w3.setCell ⟨g, 1, none⟩ (.int .i64 (4096 - (b : Int) - ((nm.size : Int) + (vl.size : Int))))).drew = w4 at R4 B4 C4 ⊢
        clear R3 B3 C3 r0 r1 rf1 b1 b2
        obtain ⟨_, _, _, b3, b4, _⟩ := B4.out.all
        dsimp only at b3 b4
        have HN0 : Hid ((nm.size : Int) + (vl.size : Int) = ((nm.size + vl.size : Nat) : Int)) := by show _ = _; omega
        rw [HN0.out] at R4
        go_wp2
        go_loopw [49] (fun i wr => ∃ k : Nat, k ≤ vn ∧ i = .int .i64 k ∧ Hid (RM wr g (64 - (n : Int) - 1) (4096 - ((b + (nm.size + vl.size + sumB' (m.vs.take k)) : Nat) : Int)) ∧ BoxM wr w.heap.size ⟨op, nm, vl, va, vn, vc, ka, kn, kc⟩ ∧ Ch (fun k => k = g) w wr)) (fun i _ => vn - (intOf i).toNat)
        case atStart =>
          refine ⟨0, by omega, rfl, ?_, B4.out, C4.out⟩
          have e : (4096 - ((b + (nm.size + vl.size + sumB' (m.vs.take 0)) : Nat) : Int)) = 4096 - (b : Int) - ((nm.size + vl.size : Nat) : Int) := by
            rw [show sumB' (m.vs.take 0) = 0 from rfl]
            omega
          rw [e]
          exact R4.out
        case round =>
          obtain ⟨k, hk, rfl, HR⟩ := hrel
          obtain ⟨u, rfl⟩ : ∃ u, u = wr := ⟨wr, rfl⟩
          clear R4 B4 C4 b3 b4
          obtain ⟨r0, r1, rf⟩ := HR.out.1.cell
          have rf1 := rf 1
          clear rf
          obtain ⟨_, _, _, b3, b4, _⟩ := HR.out.2.1.all
          dsimp only at b3 b4
          have hsk := HSL.out k
          by_cases hlt : k < vn
          · obtain ⟨x1, y1, s, rfl, hs, hsz, -, hc⟩ := (HV.out.ch HR.out.2.2 (fun k hk => HS.out k hk)).at' hlt
            have i1 : (0 : Int) ≤ (k : Int) := by omega
            have i2 : (k : Int) < (vn : Int) := by omega
            have hsk2 := HSL.out (k + 1)
            have ES := hide (sum_take hs)
            rw [ES.out] at hsk2
            have R5 : Hid (RM (u.setCell ⟨g, 1, none⟩ (.int .i64 (4096 - ((b + (nm.size + vl.size + sumB' (m.vs.take k)) : Nat) : Int) - (s.size : Int)))) g (64 - (n : Int) - 1) (4096 - ((b + (nm.size + vl.size + sumB' (m.vs.take (k + 1))) : Nat) : Int)) ∧ BoxM (u.setCell ⟨g, 1, none⟩ (.int .i64 (4096 - ((b + (nm.size + vl.size + sumB' (m.vs.take k)) : Nat) : Int) - (s.size : Int)))) w.heap.size ⟨op, nm, vl, some ⟨x1, y1, none⟩, vn, vc, ka, kn, kc⟩ ∧ Ch (fun k => k = g) w (u.setCell ⟨g, 1, none⟩ (.int .i64 (4096 - ((b + (nm.size + vl.size + sumB' (m.vs.take k)) : Nat) : Int) - (s.size : Int))))) := by
              refine ⟨?_, HR.out.2.1.block (Below.heap_setCell _ _ _ _ HGB.out), HR.out.2.2.trans (ch_set u g 1 _)⟩
              have e : (4096 - ((b + (nm.size + vl.size + sumB' (m.vs.take (k + 1))) : Nat) : Int)) = 4096 - ((b + (nm.size + vl.size + sumB' (m.vs.take k)) : Nat) : Int) - (s.size : Int) := by
                rw [ES.out]
                omega
              rw [e]
              exact HR.out.1.text _
            clear hs
            generalize hz : ((b + (nm.size + vl.size + sumB' (m.vs.take k)) : Nat) : Int) = z at *
            have hz1 : z ≤ 8192 := by omega
            have hz0 : 0 ≤ z := by omega
            clear hz hsk ES
            have hs1 : s.size ≤ 4096 := by omega
            clear hsk2
            go_wp2
            go_roundw
            case rel => exact ⟨k + 1, by omega, by go_num, R5⟩
            case measure => simp [intOf]; omega
          · obtain ⟨j0, hj0⟩ : ∃ j0, j0 = k := ⟨k, rfl⟩
            have : vn = j0 := by omega
            subst this
            subst hj0
            have HR2 := HR
            rw [HSA.out] at HR2 r1
            clear HR hsk
            generalize hz : b + (nm.size + vl.size + sm) = z at *
            have hz1 : z ≤ 8192 := by omega
            have HZ := hide hz
            clear hz
            by_cases hbig : 4096 < z
            · have t3 : 4096 - (z : Int) < 0 := by omega
              have HF : Hid (Ch (fun k => k = g) w u ∧ TakP (lookF m d n b) g u (.returned (.bool false))) := by
                rw [HT2.out hbig]
                exact ⟨HR2.out.2.2, rfl⟩
              go_wp2
              go_ret
              exact HF.out
            · have t3 : ¬ 4096 - (z : Int) < 0 := by omega
              have HL := hide (HT3.out (by omega))
              have RL : Hid (RM u g (64 - ((n + 1 : Nat) : Int)) (4096 - (z : Int))) := by
                have e : (64 - ((n + 1 : Nat) : Int)) = 64 - (n : Int) - 1 := by omega
                rw [e]
                exact HR2.out.1
              go_wp2
              go_loopw [71] (fun i wr => ∃ (k : Nat) (r : Nat × Nat), k ≤ kn ∧ i = .int .i64 k ∧ Hid (lookKs (m.ks.take k) (d + 1) (n + 1) z = some r) ∧ r.1 ≤ 64 ∧ r.2 ≤ 4096 ∧ Hid (RM wr g (64 - (r.1 : Int)) (4096 - (r.2 : Int)) ∧ BoxM wr w.heap.size ⟨op, nm, vl, va, vn, vc, ka, kn, kc⟩ ∧ Ch (fun k => k = g) w wr)) (fun i _ => kn - (intOf i).toNat)
              case atStart => exact ⟨0, (n + 1, z), by omega, rfl, (by show _ = _; rw [List.take_zero, lookKs]), by show n + 1 ≤ 64; omega, by show z ≤ 4096; omega, RL.out, HR2.out.2.1, HR2.out.2.2⟩
              case round =>
                obtain ⟨k, r, hk, rfl, HK, hr1, hr2, HR⟩ := hrel
                obtain ⟨v, rfl⟩ : ∃ v, v = wr := ⟨wr, rfl⟩
                clear HR2 RL r0 r1 rf1 b3 b4
                obtain ⟨_, _, _, b3, b4, _⟩ := HR.out.2.1.all
                dsimp only at b3 b4
                by_cases hlt : k < kn
                · obtain ⟨x1, y1, kd, h', e, hkd, -, q5, qk⟩ := (HQ.out.ch HR.out.2.2 (fun k hk => HS.out k hk)).kid hlt
                  obtain ⟨p0, p1, p2, p3, p4, p5, p6, p7, p8⟩ := h'
                  dsimp only at e
                  subst e
                  obtain ⟨g0, g1, g2, g3, g4⟩ := q5.all
                  dsimp only at g0 g1 g2 g3 g4
                  have i1 : (0 : Int) ≤ (k : Int) := by omega
                  have i2 : (k : Int) < (kn : Int) := by omega
                  have HX : Hid (lookKs (m.ks.take (k + 1)) (d + 1) (n + 1) z = lookF kd (d + 1) r.1 r.2) := by
                    show _ = _
                    rw [take_kid hkd, lookKs_append, HK.out]
                    rfl
                  have HNO : Hid (lookF kd (d + 1) r.1 r.2 = none → lookF m d n b = none) := fun hh => by
                    rw [HL.out, show m.ks = m.ks.take (k + 1) ++ m.ks.drop (k + 1) from (List.take_append_drop _ _).symm]
                    exact lookKs_none (HX.out.trans hh)
                  have hkm := List.mem_of_getElem? hkd
                  have A1 : Hid (Below v.heap.size v (v.alloc (.cells #[.int .i64 p0, .string p1, .string p2, .slice p3 p4 p5, .slice p6 p7 p8] 26))) := (Below.refl _ _).alloc (Nat.le_refl _) _
                  have T := hide (IH.out kd hkm (fun k => S k ∧ k < v.heap.size) _ (d + 1) r.1 r.2 g _ ((qk.mono (fun k hk hs => ⟨hs, hk⟩)).below A1.out) (fun k hk => HS.out k hk.1) (HR.out.1.block (A1.out.block g HR.out.1.lt)) (by omega) hr1 hr2)
                  rw [show ((d + 1 : Nat) : Int) = (d : Int) + 1 from rfl] at T
                  dsimp only at T
                  have BA : Hid (BoxM (v.alloc (.cells #[.int .i64 p0, .string p1, .string p2, .slice p3 p4 p5, .slice p6 p7 p8] 26)) w.heap.size ⟨op, nm, vl, va, vn, vc, some ⟨x1, y1, none⟩, kn, kc⟩) := HR.out.2.1.block (A1.out.block _ HR.out.2.1.lt)
                  have CA : Hid (Ch (fun k => k = g) w (v.alloc (.cells #[.int .i64 p0, .string p1, .string p2, .slice p3 p4 p5, .slice p6 p7 p8] 26))) := HR.out.2.2.alloc _
                  clear hkd q5 qk hkm
                  go_wp2_with fail
                  with_reducible refine T.out.mono ?_
                  rintro e v2 ⟨c2, p2'⟩
                  have BA2 := hide (BA.out.block (c2.block _ BA.out.lt HGB.out))
                  have CA2 := hide (CA.out.trans c2)
                  cases hres : lookF kd (d + 1) r.1 r.2 with
                  | none =>
                    rw [hres] at p2'
                    obtain rfl : e = .returned (.bool false) := p2'
                    have HF : Hid (Ch (fun k => k = g) w v2 ∧ TakP (lookF m d n b) g v2 (.returned (.bool false))) := by
                      rw [HNO.out hres]
                      exact ⟨CA2.out, rfl⟩
                    clear T BA CA c2 g0 g1 g2 g3 g4 b3 b4 hres HNO HX
                    go_wp2
                    go_ret
                    exact HF.out
                  | some r2 =>
                    rw [hres] at p2'
                    obtain ⟨rfl, rm2⟩ : e = .returned (.bool true) ∧ RM v2 g (64 - (r2.1 : Int)) (4096 - (r2.2 : Int)) := p2'
                    obtain ⟨-, q2, -, q4⟩ := look_up kd _ _ _ _ hres
                    have HK2 := hide (HX.out.trans hres)
                    have R6 : Hid (RM v2 g (64 - (r2.1 : Int)) (4096 - (r2.2 : Int)) ∧ BoxM v2 w.heap.size ⟨op, nm, vl, va, vn, vc, some ⟨x1, y1, none⟩, kn, kc⟩ ∧ Ch (fun k => k = g) w v2) := ⟨rm2, BA2.out, CA2.out⟩
                    clear T BA CA c2 g0 g1 g2 g3 g4 b3 b4 hres HNO HX rm2 BA2 CA2 HK HR
                    go_wp2
                    go_roundw
                    case rel => exact ⟨k + 1, r2, by omega, by go_num, HK2, q2, q4, R6⟩
                    case measure => simp [intOf]; omega
                · obtain ⟨j0, hj0⟩ : ∃ j0, j0 = k := ⟨k, rfl⟩
                  have : kn = j0 := by omega
                  subst this
                  subst hj0
                  have HF : Hid (Ch (fun k => k = g) w v ∧ TakP (lookF m d n b) g v (.returned (.bool true))) := by
                    have e := HK.out
                    rw [List.take_of_length_le (by rw [HKL.out]; exact Nat.le_refl _)] at e
                    rw [HL.out, e]
                    exact ⟨HR.out.2.2, rfl, HR.out.1⟩
                  go_wp2
                  go_ret
                  exact HF.out

theorem takP_bool {m : Mt} {g : Nat} {w : World} {e : Ending} (h : TakP (lookF m 1 0 0) g w e) : e = .returned (.bool (chkM m)) := by
  unfold chkM
  cases ht : lookF m 1 0 0 with
  | none =>
    rw [ht] at h
    exact h
  | some n =>
    rw [ht] at h
    exact h.1
set_option maxHeartbeats 1000000 in
theorem chkM_any (S : Nat → Prop) (m : Mt) (h : Hm) (w : World) (q : SeeM S w m h) :
    Calls Tryz.prog 23 #[.agg #[.int .i64 h.op, .string h.nm, .string h.vl, .slice h.va h.vn h.vc, .slice h.ka h.kn h.kc]] w fun e w' => e = .returned (.bool (chkM m)) ∧ Below w.heap.size w w' := by
  have T := hide (fun (W : World) (b : Below w.heap.size w W) => takes_any m (fun k => k < w.heap.size) h 1 0 0 W.heap.size (W.alloc (.cells #[.int .i64 64, .int .i64 4096] 83)) (((q.mono (fun k hk _ => hk)).below b).alloc _) (fun k hk => by have := b.size; omega) (rm_new W 64 4096) (by omega) (by omega) (by omega))
  have BA := hide ((Below.refl w.heap.size w).alloc (Nat.le_refl _) (.cells #[.int .i64 h.op, .string h.nm, .string h.vl, .slice h.va h.vn h.vc, .slice h.ka h.kn h.kc] 26))
  have T1 := hide (T.out _ BA.out)
  have SZ : Hid ((w.alloc (.cells #[.int .i64 h.op, .string h.nm, .string h.vl, .slice h.va h.vn h.vc, .slice h.ka h.kn h.kc] 26)).heap.size = w.heap.size + 1) := by show _ = _; simp
  rw [SZ.out, show ((1 : Nat) : Int) = 1 from rfl] at T1
  clear T q
  go_enter Tryz.func23, Tryz.ntmps23
  go_wp2_with fail
  with_reducible refine T1.out.mono ?_
  rintro e w2 ⟨c, p⟩
  have B2 : Hid (Below w.heap.size w w2) := by
    have b := BA.out.alloc (by simp) (.cells #[.int .i64 64, .int .i64 4096] 83)
    exact b.trans (c.below (by simp; omega) (fun k hk e => by omega))
  obtain rfl := takP_bool p
  clear c p
  go_wp2
  go_ret
  exact ⟨rfl, B2.out⟩
end Go.Proofs.YtpffhpnmbpjifaaGreat
