/-
  The law MatchOnce, walked: one more label, of a name that a matcher does not have, turns no answer; the document's examples hold (written by gen/mator.gen.py).
  Conditions: none.
-/
import Derived.Test.YthebcmkainplnabMatJ
import Derived.Test.YthebcmkainplnabMatO
import Derived.Test.YthebcmkainplnabLabN
namespace Go.Proofs.Ythebcmkainplnab
open Go.RowKit
set_option maxRecDepth 20000

theorem qq_wf {x : ByteArray} (h : x.size ≤ 9223372036854775807) : LbW (⟨#[113, 113]⟩, x) := by
  exact ⟨show (2 : Nat) ≤ _ by omega, h⟩

set_option maxHeartbeats 8000000 in
theorem onceM_any (m : Mt) (h : Hm) (a : Option Addr) (n cap : Nat) (l : List Lb) (x : ByteArray) (w : World) (q : SeeM (fun _ => True) w m h) (hr : RowL w a n l) (hz : a = none → cap = 0) (hx : x.size ≤ 9223372036854775807) :
    Calls Try.prog 6 #[.agg #[.int .i64 h.op, .string h.nm, .string h.vl, .slice h.va h.vn h.vc, .slice h.ka h.kn h.kc], .slice a n cap, .string x] w fun e w' => e = .returned (.bool true) ∧ Below w.heap.size w w' := by
  obtain ⟨i0, hi, hz0, hz1, hz2⟩ := info_parts Try.infoL
  obtain ⟨op, nm, vl, va, vn, vc, ka, kn, kc⟩ := h
  dsimp only
  have hn := hr.2.1
  obtain ⟨W, hW⟩ : ∃ W, Hid (w.alloc (.cells #[.int .i64 op, .string nm, .string vl, .slice va vn vc, .slice ka kn kc] 25) = W) := ⟨_, rfl⟩
  have LW : Hid (Below w.heap.size w W) := by rw [← hW.out]; exact (Below.refl _ _).alloc (Nat.le_refl _) _
  have B : Hid (BoxM W w.heap.size ⟨op, nm, vl, va, vn, vc, ka, kn, kc⟩) := by rw [← hW.out]; exact boxM_new w ⟨op, nm, vl, va, vn, vc, ka, kn, kc⟩
  have T1 := hide (tinyT_any (fun _ => True) m _ W (q.below LW.out))
  have T2 := hide (fun u (hu : Below w.heap.size w u) => refchkM_any (fun _ => True) m ⟨op, nm, vl, va, vn, vc, ka, kn, kc⟩ u (q.below hu))
  have T3 := hide (fun u (hu : Below w.heap.size w u) => names_any ⟨#[113, 113]⟩ m (fun _ => True) ⟨op, nm, vl, va, vn, vc, ka, kn, kc⟩ u (q.below hu))
  have T4 := hide (fun u (hu : Below w.heap.size w u) => labels_any a n cap l u (hr.below hu (Nat.le_refl _)) hz)
  dsimp only at T1 T2 T3 T4
  have AW := hide awakeM_any
  obtain ⟨b0, b1, b2, b3, b4, _⟩ := B.out.all
  dsimp only at b0 b1 b2 b3 b4
  have HQ := hide q
  have HR := hide hr
  have HZ := hide hz
  clear q hr hz
  go_enter Try.func6, Try.ntmps6
  go_upto_region 1 with fail
  rw [hW.out]
  clear hW
  go_wp2_with fail
  with_reducible refine T1.out.mono ?_
  rintro e v1 ⟨rfl, k1⟩
  have L1 : Hid (Below w.heap.size w v1) := bel_to LW.out (Nat.le_refl _) k1
  have B1 := hide (B.out.block (k1.block _ B.out.lt))
  clear T1 k1 b0 b1 b2 b3 b4 B LW
  obtain ⟨b0, b1, b2, b3, b4, _⟩ := B1.out.all
  dsimp only at b0 b1 b2 b3 b4
  cases ht : tinyM m with
  | false =>
    go_wp2_with fail
    with_reducible refine (AW.out _).mono ?_
    rintro e vz ⟨rfl, kz⟩
    have LZ := hide (bel_to L1.out (Nat.le_refl _) kz)
    clear kz
    go_wp2
    go_ret
    exact ⟨rfl, LZ.out⟩
  | true =>
    go_wp2_with fail
    with_reducible refine (T2.out _ L1.out).mono ?_
    rintro e v2 ⟨rfl, k2⟩
    have L2 := hide (bel_to L1.out (Nat.le_refl _) k2)
    have B2 := hide (B1.out.block (k2.block _ B1.out.lt))
    clear T2 k2 b0 b1 b2 b3 b4 B1 L1
    obtain ⟨b0, b1, b2, b3, b4, _⟩ := B2.out.all
    dsimp only at b0 b1 b2 b3 b4
    cases hc : chkM m with
    | false =>
      go_wp2_with fail
      with_reducible refine (AW.out _).mono ?_
      rintro e vz ⟨rfl, kz⟩
      have LZ := hide (bel_to L2.out (Nat.le_refl _) kz)
      clear kz
      go_wp2
      go_ret
      exact ⟨rfl, LZ.out⟩
    | true =>
      by_cases hbig : 50 < n
      · have t1 : (50 : Int) < (n : Int) := by omega
        go_wp2_with fail
        with_reducible refine (AW.out _).mono ?_
        rintro e vz ⟨rfl, kz⟩
        have LZ := hide (bel_to L2.out (Nat.le_refl _) kz)
        clear kz
        go_wp2
        go_ret
        exact ⟨rfl, LZ.out⟩
      · have t1 : ¬ (50 : Int) < (n : Int) := by omega
        by_cases hx0 : x = .empty
        · have t2 : x.toList = [] := by rw [hx0, ByteArray.toList_eq]; rfl
          go_wp2_with fail
          with_reducible refine (AW.out _).mono ?_
          rintro e vz ⟨rfl, kz⟩
          have LZ := hide (bel_to L2.out (Nat.le_refl _) kz)
          clear kz
          go_wp2
          go_ret
          exact ⟨rfl, LZ.out⟩
        · have t2 : ¬ x.toList = [] := fun h => hx0 (ba_void h)
          have t2b : (x.toList == []) = false := by rw [beq_eq_false_iff_ne]; exact t2
          by_cases hx1 : 64 < x.size
          · have t3 : (64 : Int) < (x.size : Int) := by omega
            go_wp2_with fail
            with_reducible refine (AW.out _).mono ?_
            rintro e vz ⟨rfl, kz⟩
            have LZ := hide (bel_to L2.out (Nat.le_refl _) kz)
            clear kz
            go_wp2
            go_ret
            exact ⟨rfl, LZ.out⟩
          · have t3 : ¬ (64 : Int) < (x.size : Int) := by omega
            go_wp2_with fail
            with_reducible refine (T3.out _ L2.out).mono ?_
            rintro e v3 ⟨rfl, k3⟩
            have L3 := hide (bel_to L2.out (Nat.le_refl _) k3)
            have B3 := hide (B2.out.block (k3.block _ B2.out.lt))
            clear T3 k3 b0 b1 b2 b3 b4 B2 L2
            obtain ⟨b0, b1, b2, b3, b4, _⟩ := B3.out.all
            dsimp only at b0 b1 b2 b3 b4
            cases hq : hasM ⟨#[113, 113]⟩ m with
            | true =>
              go_wp2_with fail
              with_reducible refine (AW.out _).mono ?_
              rintro e vz ⟨rfl, kz⟩
              have LZ := hide (bel_to L3.out (Nat.le_refl _) kz)
              clear kz
              go_wp2
              go_ret
              exact ⟨rfl, LZ.out⟩
            | false =>
              go_wp2_with fail
              with_reducible refine (T4.out _ L3.out).mono ?_
              rintro e v4 ⟨a4, c4, rfl, o4, k4⟩
              have L4 := hide (bel_to L3.out (Nat.le_refl _) k4)
              have BL := hide B3.out.lt
              have B4 := hide (B3.out.block (k4.block _ B3.out.lt))
              have O4 := hide o4
              have G4 : Hid (v3.heap.size ≤ v4.heap.size) := k4.size
              clear T4 k4 o4 b0 b1 b2 b3 b4 B3
              go_wp2_with (at_builtin; refine wpList_append_labs _ rfl _ _ 33 rfl v3.heap.size i0 Try.underlying33 hi hz0 hz1 hz2 a4 n c4 l rfl (O4.out.alloc _) (some ⟨v4.heap.size, 0, none⟩) 1 1 [(⟨#[113, 113]⟩, x)] rfl rfl (one_hrow v4 (⟨#[113, 113]⟩, x) _) (fun e => by cases e) (by omega) (Nat.le_trans G4.out (by simp)) ?_)
              intro a5 c5 V o5 k5
              have KV : Hid (Below v3.heap.size v4 V) := ((Below.refl v3.heap.size v4).alloc G4.out _).trans k5
              have LV : Hid (Below w.heap.size w V) := L4.out.trans (KV.out.mono L3.out.size)
              have BV : Hid (BoxM V w.heap.size ⟨op, nm, vl, va, vn, vc, ka, kn, kc⟩) := B4.out.block (KV.out.block _ BL.out)
              have RX : Hid (RowL V a5 (n + 1) (l ++ [(⟨#[113, 113]⟩, x)])) := o5.row (by omega) (fun y hy => by
                rcases List.mem_append.1 hy with hy | hy
                · exact HR.out.2.2.1 y hy
                · rw [List.mem_singleton.1 hy]; exact qq_wf hx)
              have RV : Hid (RowL V a n l) := HR.out.below LV.out (Nat.le_refl _)
              have QV : Hid (SeeM (fun _ => True) V m ⟨op, nm, vl, va, vn, vc, ka, kn, kc⟩) := HQ.out.below LV.out
              clear o5 k5 KV O4 B4 L4 L3 G4 HQ
              obtain ⟨b0, b1, b2, b3, b4, _⟩ := BV.out.all
              dsimp only at b0 b1 b2 b3 b4
              have TM := hide (fun u (hu : u.cell? ⟨w.heap.size, 0, none⟩ = some (.int .i64 op) ∧ u.cell? ⟨w.heap.size, 1, none⟩ = some (.string nm) ∧ u.cell? ⟨w.heap.size, 2, none⟩ = some (.string vl) ∧ u.cell? ⟨w.heap.size, 3, none⟩ = some (.slice va vn vc) ∧ u.cell? ⟨w.heap.size, 4, none⟩ = some (.slice ka kn kc) ∧ Hid (V.heap.size ≤ u.heap.size ∧ Below V.heap.size V u)) => copyM_any (fun _ => True) m ⟨op, nm, vl, va, vn, vc, ka, kn, kc⟩ u (QV.out.below hu.2.2.2.2.2.out.2) ht)
              have TL := hide (fun u (hu : u.cell? ⟨w.heap.size, 0, none⟩ = some (.int .i64 op) ∧ u.cell? ⟨w.heap.size, 1, none⟩ = some (.string nm) ∧ u.cell? ⟨w.heap.size, 2, none⟩ = some (.string vl) ∧ u.cell? ⟨w.heap.size, 3, none⟩ = some (.slice va vn vc) ∧ u.cell? ⟨w.heap.size, 4, none⟩ = some (.slice ka kn kc) ∧ Hid (V.heap.size ≤ u.heap.size ∧ Below V.heap.size V u)) => labels_any a n cap l u (RV.out.below hu.2.2.2.2.2.out.2 (Nat.le_refl _)) HZ.out)
              have TX := hide (fun S h2 u (hu : u.cell? ⟨w.heap.size, 0, none⟩ = some (.int .i64 op) ∧ u.cell? ⟨w.heap.size, 1, none⟩ = some (.string nm) ∧ u.cell? ⟨w.heap.size, 2, none⟩ = some (.string vl) ∧ u.cell? ⟨w.heap.size, 3, none⟩ = some (.slice va vn vc) ∧ u.cell? ⟨w.heap.size, 4, none⟩ = some (.slice ka kn kc) ∧ Hid (V.heap.size ≤ u.heap.size ∧ Below V.heap.size V u)) (q2 : SeeM S u m h2) => evalT_any (l ++ [(⟨#[113, 113]⟩, x)]) S m h2 a5 (n + 1) c5 u q2 hc (RX.out.below hu.2.2.2.2.2.out.2 (Nat.le_refl _)))
              rw [eval_more l (⟨#[113, 113]⟩, x) m hq] at TX
              have TE := hide (fun S h2 al cl u (q2 : SeeM S u m h2) (r2 : RowL u al n l) => evalT_any l S m h2 al n cl u q2 hc r2)
              have HF : Hid (n * 32 ≤ 140737488355328 ∧ ∀ x ∈ l, LbW x) := ⟨HR.out.2.1, HR.out.2.2.1⟩
              dsimp only at TM
              generalize evalM l m = ans at *
              have ea : (ans == ans) = true := by simp
              have S0 : Hid (V.drew.cell? ⟨w.heap.size, 0, none⟩ = some (.int .i64 op) ∧ V.drew.cell? ⟨w.heap.size, 1, none⟩ = some (.string nm) ∧ V.drew.cell? ⟨w.heap.size, 2, none⟩ = some (.string vl) ∧ V.drew.cell? ⟨w.heap.size, 3, none⟩ = some (.slice va vn vc) ∧ V.drew.cell? ⟨w.heap.size, 4, none⟩ = some (.slice ka kn kc) ∧ Hid (V.heap.size ≤ V.drew.heap.size ∧ Below V.heap.size V V.drew)) := ⟨b0, b1, b2, b3, b4, Nat.le_refl _, (Below.refl _ _).drew⟩
              clear ht hc hq
              go_upto_region 4 with fail
              clear b0 b1 b2 b3 b4
              go_region_held3 (fun w' => w'.cell? ⟨w.heap.size, 0, none⟩ = some (.int .i64 op) ∧ w'.cell? ⟨w.heap.size, 1, none⟩ = some (.string nm) ∧ w'.cell? ⟨w.heap.size, 2, none⟩ = some (.string vl) ∧ w'.cell? ⟨w.heap.size, 3, none⟩ = some (.slice va vn vc) ∧ w'.cell? ⟨w.heap.size, 4, none⟩ = some (.slice ka kn kc) ∧ Hid (V.heap.size ≤ w'.heap.size ∧ Below V.heap.size V w')) (first | with_reducible exact S0.out | with_reducible exact keep5c (by assumption) (by assumption)) (first
                | (go_at_call 12; (with_reducible refine (TM.out _ (by assumption)).mono ?_); rintro e v5 ⟨⟨op2, nm2, vl2, va2, vn2, vc2, ka2, kn2, kc2⟩, rfl, s2, bv5⟩; have SM := hide s2; clear s2)
                | (go_at_call 14; (with_reducible refine (TX.out _ ⟨op2, nm2, vl2, va2, vn2, vc2, ka2, kn2, kc2⟩ _ (by assumption) SM.out).mono ?_); rintro e v6 ⟨rfl, bv6⟩)
                | (go_at_call 19; (with_reducible refine (TL.out _ (by assumption)).mono ?_); rintro e v7 ⟨al2, cl2, rfl, o2, bv7⟩; have SN := hide (SM.out.below bv7); have RL := hide (o2.row HF.out.1 HF.out.2); clear o2)
                | (go_at_call 14; (with_reducible refine (TE.out _ ⟨op2, nm2, vl2, va2, vn2, vc2, ka2, kn2, kc2⟩ _ _ _ SN.out RL.out).mono ?_); rintro e v8 ⟨rfl, bv8⟩)
                | (go_at_call 9; (with_reducible refine (AW.out _).mono ?_); rintro e v9 ⟨rfl, bv9⟩))
              rename_i hh
              have FF := hide (LV.out.trans (hh.2.2.2.2.2.out.2.mono LV.out.size))
              clear hh
              go_wp2
              go_ret
              exact ⟨rfl, FF.out⟩
end Go.Proofs.Ythebcmkainplnab
