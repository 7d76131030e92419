/-
  P17.5 (the walk): wherever the power goes: all records that were answered with OK are told, and at most one more. The call returns true, and its arguments read as they did. What a law's shell hands on: the library's table of powers and its error variable, as the rows list them.
  Conditions: as each theorem says.
-/
import Derived.Test.YtknghoecjobkiaaGreatDoorZkm
import Derived.Test.YtknghoecjobkiaaGreatDoorZki
import Derived.Test.YtknghoecjobkiaaGreatDoorRows
import Derived.Lib.SmallJoins
import Derived.Lib.LaidTab
import Derived.Laws.IdiomArrays
import Derived.SizedLaws
import Derived.LaidMore
import Derived.Stop.LaidErr
namespace Go.Proofs.YtknghoecjobkiaaGreatDoor
open Go.RowKit Go.Maps
set_option maxRecDepth 20000
set_option linter.unusedVariables false

theorem exW1_lg : exW1 = lgR 1 [] (fileR []) (clX 3) := by kernel_rfl
theorem goK_zero {base : Nat} {w u : World} {g q p : Nat} (h : OnG base w u g q (lgU 1 1 [⟨[], []⟩] [] (pwX 3 p)) ⟨1, 1, -1, true⟩) : GoK base w u g q 0 := ⟨[], [], 3, p, logK_zero, by omega, by omega, h⟩

/-- A record with many hashes put in. -/
theorem seeR_wide {S : Nat → Prop} {w : World} {i : Nat} {hh : RecH} (q : SeeR S w (recN ((i : Int) + 1) i) hh) (h5 : i % 5 = 0) {a : Option Addr} {c : Nat} (r : Row .u64 w a 300 (wideL 300)) (hc : 300 ≤ c) (hz : a = none → c = 0) (hS : inBl S 300 a) :
    SeeR S w (recW' i) ⟨hh.la, hh.ln, hh.lc, ⟨hh.sk.a, hh.sk.n, hh.sk.c, a, 300, c⟩, hh.m⟩ := by
  have e : skW i = { skN i with keys := wideL 300 } := by unfold skW; rw [if_pos h5]
  refine ⟨q.wsq, q.wkd, ⟨q.row.rl, q.row.lc, q.row.lz, q.row.il, q.row.wat, ?_, q.row.ih, hS⟩, ⟨q.del.wts, q.del.m, q.del.wfr, q.del.wti⟩⟩
  show SeeP w _ (skW i)
  rw [e]
  have s := q.row.sk
  exact ⟨s.rh, r, s.g, s.hc, hc, s.nh, hz, s.sh, by show 300 * 8 ≤ _; omega⟩
theorem recl_wide {i : Nat} (h5 : i % 5 = 0) (hh : RecH) (a : Option Addr) (c : Nat) : (recV (recN ((i : Int) + 1) i, hh)).set 5 (.slice a 300 c) = recV (recW' i, ⟨hh.la, hh.ln, hh.lc, ⟨hh.sk.a, hh.sk.n, hh.sk.c, a, 300, c⟩, hh.m⟩) := by
  have e : recW' i = { recN ((i : Int) + 1) i with sk := { skN i with keys := wideL 300 } } := by
    unfold recW' skW
    rw [if_pos h5]
    rfl
  rw [e]
  rfl
theorem recW_plain {i : Nat} (h5 : ¬ i % 5 = 0) : recW' i = recN ((i : Int) + 1) i := by
  unfold recW' skW
  rw [if_neg h5]
  rfl

set_option maxHeartbeats 64000000 in
theorem keeps_walk (n after ops : Int) (a : Option Addr) (m c : Nat) (zs : List Int) (w : World) (tb : TbP w) (hn : (Lit.int .i64 n).wf = true) (haf : (Lit.int .i64 after).wf = true) (ho : (Lit.int .i64 ops).wf = true) (h3 : IsRow .i64 w a m c zs) (hb3 : c ≤ 17592186044416) :
    Calls Tryz.prog 7 #[.int .i64 n, .int .i64 after, .int .i64 ops, .slice a m c] w fun e w' => e = .returned (.bool true) ∧ Below w.heap.size w w' := by
  obtain ⟨hmc, -, hc3, r3⟩ := row_of h3
  obtain ⟨ps, hps⟩ : ∃ ps, zs.take m = ps := ⟨_, rfl⟩
  rw [hps] at r3
  have R3 := hide r3
  have HT := hide tb
  obtain ⟨p, hp, hp60⟩ : ∃ p : Nat, after % 60 = (p : Int) ∧ p < 60 := by
    have q1 := Int.emod_nonneg after (show (60 : Int) ≠ 0 by omega)
    have q2 := Int.emod_lt_of_pos after (show (0 : Int) < 60 by omega)
    exact ⟨(after % 60).toNat, by omega, by omega⟩
  obtain ⟨N, hN, hN30⟩ : ∃ N : Nat, n % 30 = (N : Int) ∧ N < 30 := by
    have q1 := Int.emod_nonneg n (show (30 : Int) ≠ 0 by omega)
    have q2 := Int.emod_lt_of_pos n (show (0 : Int) < 30 by omega)
    exact ⟨(n % 30).toNat, by omega, by omega⟩
  have P1 := hide (fun u => place_any after 60 (by omega) (by omega) u)
  rw [hp] at P1
  have P2 := hide (fun u => place_any n 30 (by omega) (by omega) u)
  rw [hN] at P2
  have HO := hide ho
  clear hp hN hps r3 h3 tb hn haf ho
  go_enter Tryz.func7, Tryz.ntmps7
  go_wp2_with fail
  with_reducible refine (lnew_any _).mono ?_
  rintro e u0 ⟨g, rfl, hm⟩
  have O0 := hide (on_open_of (onL_made hm) (fun n bs h => by rw [exW_read0] at h; cases h) HT.out (Nat.le_refl _) limB0 (by omega) 1 (by decide) (few_until 0 (by omega) (exW_read0 _)))
  clear hm
  go_wp2_with fail
  with_reducible refine O0.out.mono ?_
  rintro e u1 h1
  obtain ⟨q, a1, c1, rfl, hG1, hR1⟩ := onOpen_ok h1 nm1_ne exW_open0
  have R1 := hide (ong_ready hG1 limB0 (by omega))
  rw [show readyG fs0 ⟨(ow0 1).last, (ow0 1).last, (ow0 1).cut, false⟩ = (exW1, 0, ⟨1, 1, -1, true⟩) from exW_ready] at R1
  dsimp only [ow0, List.length_nil]
  clear h1 hG1 hR1 O0
  go_wp2_with fail
  with_reducible refine R1.out.mono ?_
  rintro e u2 ⟨rfl, hG2⟩
  rw [exW1_lg] at hG2
  have AR := hide (ong_arm hG2 0 (p : Int) (by decide) (by simp [Lit.wf, IntKind.min, IntKind.max, IntKind.signed, IntKind.bits]; omega))
  rw [show lgR 1 [] (fileR []) (clX 3) = lgU 1 1 [⟨[], []⟩] [] (clX 3) from rfl, arm_pw] at AR
  clear hG2 R1
  go_wp2_with fail
  with_reducible refine (P1.out _).mono ?_
  rintro e u ⟨rfl, hu⟩
  rw [hu]
  clear hu P1
  go_wp2_with fail
  with_reducible refine AR.out.mono ?_
  rintro e u3 ⟨rfl, hG3⟩
  have G3 := hide (goK_zero hG3)
  clear hG3 AR
  go_wp2_with fail
  with_reducible refine (P2.out _).mono ?_
  rintro e u ⟨rfl, hu⟩
  rw [hu]
  clear hu P2
  go_upto_block 0 with fail
  go_cut [13] (fun x wx => ∃ k : Nat, x = .int .i64 (k : Int) ∧ k ≤ 30 ∧ Hid (EndK w.heap.size w wx g k))
  case first =>
    go_wp2
    go_loopw [13, 14] (fun x y wr => ∃ i : Nat, i ≤ N ∧ x = .int .i64 (i : Int) ∧ y = .int .i64 (i : Int) ∧ Hid (GoK w.heap.size w wr g q i)) (fun _ y _ => 30 - (intOf y).toNat)
    case atStart => exact ⟨0, by omega, rfl, rfl, G3.out⟩
    case round =>
      clear G3
      obtain ⟨i, hi, rfl, rfl, HG⟩ := hrel
      obtain ⟨v, rfl⟩ : ∃ v, v = wr := ⟨wr, rfl⟩
      by_cases hlt : i < N
      · have i1 : (i : Int) < (N : Int) := by omega
        have wi : IntKind.i64.wrap ((i : Int) + 1) = ((i + 1 : Nat) : Int) := by rw [IntKind.wrap_i64]; omega
        have RC := hide (rec_any ((i : Int) + 1) i (by simp [Lit.wf, IntKind.min, IntKind.max, IntKind.signed, IntKind.bits]; omega) (by simp [Lit.wf, IntKind.min, IntKind.max, IntKind.signed, IntKind.bits]; omega) v)
        go_wp2_with fail
        with_reducible refine RC.out.mono ?_
        rintro e v3 ⟨hh, rfl, s3, b3⟩
        have S3 := hide s3
        have B3 := hide b3
        obtain ⟨X, hX⟩ : ∃ X, Hid (recN ((i : Int) + 1) i = X) := ⟨_, rfl⟩
        have TF : Hid ((v3.alloc (.cells #[.int .i64 0, .int .i64 0, .slice none 0 0, .int .i64 0, .slice none 0 0, .slice none 0 0, .int .u64 0, .int .u64 0, .int .u64 0, .int .u64 0, .int .i64 0, .int .i64 0, .string ⟨#[]⟩, .string ⟨#[]⟩, .slice none 0 0, .slice none 0 0, .int .i64 0, .int .i64 0] 39)).there v3.heap.size 0 18) := there_fresh v3 39 recZ
        obtain ⟨y, hy⟩ : ∃ y, Hid (v3.heap.size = y) := ⟨_, rfl⟩
        obtain ⟨u4, hu4⟩ : ∃ u4, Hid ((v3.alloc (.cells #[.int .i64 0, .int .i64 0, .slice none 0 0, .int .i64 0, .slice none 0 0, .slice none 0 0, .int .u64 0, .int .u64 0, .int .u64 0, .int .u64 0, .int .i64 0, .int .i64 0, .string ⟨#[]⟩, .string ⟨#[]⟩, .slice none 0 0, .slice none 0 0, .int .i64 0, .int .i64 0] 39)).setCells v3.heap.size 0 [.int .i64 (RecX.seq X), .int .i64 (RecX.kind X), .slice (RecH.la hh) (RecH.ln hh) (RecH.lc hh), .int .i64 (RecX.at9 X), .slice (Hd.a (RecH.sk hh)) (Hd.n (RecH.sk hh)) (Hd.c (RecH.sk hh)), .slice (Hd.k (RecH.sk hh)) (Hd.m (RecH.sk hh)) (Hd.d (RecH.sk hh)), .int .u64 (Gz.n (Sp.g (RecX.sk X))), .int .u64 (Gz.nans (Sp.g (RecX.sk X))), .int .u64 (Gz.lo (Sp.g (RecX.sk X))), .int .u64 (Gz.hi (Sp.g (RecX.sk X))), .int .i64 (RecX.tseq X), .int .i64 (Hm.op (RecH.m hh)), .string (Hm.nm (RecH.m hh)), .string (Hm.vl (RecH.m hh)), .slice (Hm.va (RecH.m hh)) (Hm.vn (RecH.m hh)) (Hm.vc (RecH.m hh)), .slice (Hm.ka (RecH.m hh)) (Hm.kn (RecH.m hh)) (Hm.kc (RecH.m hh)), .int .i64 (RecX.frm X), .int .i64 (RecX.till X)] = u4) := ⟨_, rfl⟩
        have Y4 : Hid (BoxV u4 y 39 [.int .i64 (RecX.seq X), .int .i64 (RecX.kind X), .slice (RecH.la hh) (RecH.ln hh) (RecH.lc hh), .int .i64 (RecX.at9 X), .slice (Hd.a (RecH.sk hh)) (Hd.n (RecH.sk hh)) (Hd.c (RecH.sk hh)), .slice (Hd.k (RecH.sk hh)) (Hd.m (RecH.sk hh)) (Hd.d (RecH.sk hh)), .int .u64 (Gz.n (Sp.g (RecX.sk X))), .int .u64 (Gz.nans (Sp.g (RecX.sk X))), .int .u64 (Gz.lo (Sp.g (RecX.sk X))), .int .u64 (Gz.hi (Sp.g (RecX.sk X))), .int .i64 (RecX.tseq X), .int .i64 (Hm.op (RecH.m hh)), .string (Hm.nm (RecH.m hh)), .string (Hm.vl (RecH.m hh)), .slice (Hm.va (RecH.m hh)) (Hm.vn (RecH.m hh)) (Hm.vc (RecH.m hh)), .slice (Hm.ka (RecH.m hh)) (Hm.kn (RecH.m hh)) (Hm.kc (RecH.m hh)), .int .i64 (RecX.frm X), .int .i64 (RecX.till X)]) := by rw [← hu4.out, ← hy.out]; exact BoxV.fresh v3 _ recZ _ rfl
        have B4 : Hid (Below v3.heap.size v3 u4) := by rw [← hu4.out]; exact below_fresh v3 _ recZ 0 _
        rw [hX.out]
        clear s3 b3 RC
        by_cases h5 : i % 5 = 0
        · have j5 : ((i : Int).tmod 5 == 0) = true := by rw [beq_iff_eq, Int.tmod_eq_emod_of_nonneg (by omega)]; omega
          go_upto_region 13 with ((with_reducible show wpList _ _ _ (Oper.mk _ (Op.store 39 _ _) _ _ _ _ :: _) _ _); refine wpStore rfl 39 _ _ rfl v3.heap.size 0 [.int .i64 (RecX.seq X), .int .i64 (RecX.kind X), .slice (RecH.la hh) (RecH.ln hh) (RecH.lc hh), .int .i64 (RecX.at9 X), .slice (Hd.a (RecH.sk hh)) (Hd.n (RecH.sk hh)) (Hd.c (RecH.sk hh)), .slice (Hd.k (RecH.sk hh)) (Hd.m (RecH.sk hh)) (Hd.d (RecH.sk hh)), .int .u64 (Gz.n (Sp.g (RecX.sk X))), .int .u64 (Gz.nans (Sp.g (RecX.sk X))), .int .u64 (Gz.lo (Sp.g (RecX.sk X))), .int .u64 (Gz.hi (Sp.g (RecX.sk X))), .int .i64 (RecX.tseq X), .int .i64 (Hm.op (RecH.m hh)), .string (Hm.nm (RecH.m hh)), .string (Hm.vl (RecH.m hh)), .slice (Hm.va (RecH.m hh)) (Hm.vn (RecH.m hh)) (Hm.vc (RecH.m hh)), .slice (Hm.ka (RecH.m hh)) (Hm.kn (RecH.m hh)) (Hm.kc (RecH.m hh)), .int .i64 (RecX.frm X), .int .i64 (RecX.till X)] rfl rfl TF.out info_rec rfl ?_)
          rw [hu4.out, hy.out]
          have W5 := hide (wide_any u4)
          have BV4 := hide (bel_to B3.out (Nat.le_refl _) B4.out)
          clear TF hu4
          go_wp2_with fail
          with_reducible refine W5.out.mono ?_
          rintro e u5 ⟨a5, c5, rfl, o5, b5⟩
          have hcp := o5.capped
          have Y5 := hide (Y4.out.below b5 Y4.out.lt)
          have y5c := Y5.out.cell (i := 5) rfl
          have y5f := Y5.out.free 5
          have LY : Hid (y < u4.heap.size) := Y4.out.lt
          obtain ⟨u6, hu6⟩ : ∃ u6, Hid (u5.setCell ⟨y, 5, none⟩ (.slice a5 300 c5) = u6) := ⟨_, rfl⟩
          have Y6 : Hid (BoxV u6 y 39 (recV (recW' i, ⟨hh.la, hh.ln, hh.lc, ⟨hh.sk.a, hh.sk.n, hh.sk.c, a5, 300, c5⟩, hh.m⟩))) := by
            rw [← hu6.out, ← recl_wide h5]
            have := Y5.out.set 5 (.slice a5 300 c5)
            rw [← hX.out] at this
            exact this
          have C6 : Hid (Below v3.heap.size v3 u6) := by
            rw [← hu6.out]
            exact (bel_to B4.out (Nat.le_refl _) b5).setCell (p := ⟨y, 5, none⟩) (by rw [← hy.out]; exact Nat.le_refl _) _
          have R5 : Hid (Row .u64 u6 a5 300 (wideL 300)) := by
            rw [← hu6.out]
            have r0 := OwnU.rowU o5 (by omega) (wideL_w64 (Nat.le_refl _))
            refine Row.ch' (S := fun k => u4.heap.size ≤ k) r0 (ch_set u5 y 5 _) (Or.inr fun x hx => (own_lies o5 hx).1) (fun k hk e => by have := LY.out; omega)
          have S6 : Hid (SeeR (fun k => v.heap.size ≤ k) u6 (recW' i) ⟨hh.la, hh.ln, hh.lc, ⟨hh.sk.a, hh.sk.n, hh.sk.c, a5, 300, c5⟩, hh.m⟩) := seeR_wide (S3.out.below C6.out (Nat.le_refl _)) h5 R5.out hcp.1 hcp.2 (Or.inr fun x hx => Nat.le_trans BV4.out.size (own_lies o5 hx).1)
          have V6 := hide (bel_to B3.out (Nat.le_refl _) C6.out)
          have A7 := go_append HG.out (by omega) V6.out S6.out
          have RY := hide Y6.out.range
          clear o5 b5 W5 Y4 Y5 B4 C6 R5 S6 S3 B3 LY hcp
          rcases A7 with A7 | A7
          · have C7 := hide A7
            clear A7
            go_upto_region 15 with fail
            rw [hu6.out]
            clear hu6 y5c y5f
            dsimp only [recV] at RY
            go_wp2_with ((with_reducible show wpList _ _ _ (Oper.mk _ (Op.load 39 _) _ _ _ _ :: _) _ _); refine wpLoad rfl 39 _ rfl y 0 rfl _ _ RY.out Tryz.underlying39 rfl info_rec ?_)
            with_reducible refine C7.out.mono ?_
            rintro e u7 ⟨rfl, h7⟩
            have H7 := hide h7
            clear h7 C7 HG
            go_wp2
            go_roundw
            case rel => exact ⟨i + 1, by omega, by go_num, by go_num, H7⟩
            case measure => simp [intOf]; omega
          · have C7 := hide A7
            clear A7
            go_upto_region 15 with fail
            rw [hu6.out]
            clear hu6 y5c y5f
            dsimp only [recV] at RY
            go_wp2_with ((with_reducible show wpList _ _ _ (Oper.mk _ (Op.load 39 _) _ _ _ _ :: _) _ _); refine wpLoad rfl 39 _ rfl y 0 rfl _ _ RY.out Tryz.underlying39 rfl info_rec ?_)
            with_reducible refine C7.out.mono ?_
            rintro e u7 ⟨rfl, h7⟩
            have H7 := hide h7
            clear h7 C7 HG
            go_wp2
            go_meet
            case rel => exact ⟨i, rfl, by omega, H7⟩
        · have j5 : ((i : Int).tmod 5 == 0) = false := by rw [beq_eq_false_iff_ne, Int.tmod_eq_emod_of_nonneg (by omega)]; omega
          have S4 : Hid (SeeR (fun k => v.heap.size ≤ k) u4 (recW' i) hh) := by show SeeR _ _ _ _; rw [recW_plain h5]; exact S3.out.below B4.out (Nat.le_refl _)
          have V4 := hide (bel_to B3.out (Nat.le_refl _) B4.out)
          have A7 := go_append HG.out (by omega) V4.out S4.out
          rw [recW_plain h5, hX.out] at A7
          have RY := hide Y4.out.range
          clear Y4 B4 S4 S3 B3 V4
          rcases A7 with A7 | A7
          · have C7 := hide A7
            clear A7
            go_upto_region 13 with ((with_reducible show wpList _ _ _ (Oper.mk _ (Op.store 39 _ _) _ _ _ _ :: _) _ _); refine wpStore rfl 39 _ _ rfl v3.heap.size 0 [.int .i64 (RecX.seq X), .int .i64 (RecX.kind X), .slice (RecH.la hh) (RecH.ln hh) (RecH.lc hh), .int .i64 (RecX.at9 X), .slice (Hd.a (RecH.sk hh)) (Hd.n (RecH.sk hh)) (Hd.c (RecH.sk hh)), .slice (Hd.k (RecH.sk hh)) (Hd.m (RecH.sk hh)) (Hd.d (RecH.sk hh)), .int .u64 (Gz.n (Sp.g (RecX.sk X))), .int .u64 (Gz.nans (Sp.g (RecX.sk X))), .int .u64 (Gz.lo (Sp.g (RecX.sk X))), .int .u64 (Gz.hi (Sp.g (RecX.sk X))), .int .i64 (RecX.tseq X), .int .i64 (Hm.op (RecH.m hh)), .string (Hm.nm (RecH.m hh)), .string (Hm.vl (RecH.m hh)), .slice (Hm.va (RecH.m hh)) (Hm.vn (RecH.m hh)) (Hm.vc (RecH.m hh)), .slice (Hm.ka (RecH.m hh)) (Hm.kn (RecH.m hh)) (Hm.kc (RecH.m hh)), .int .i64 (RecX.frm X), .int .i64 (RecX.till X)] rfl rfl TF.out info_rec rfl ?_)
            rw [hu4.out, hy.out]
            clear TF hu4
            go_wp2_with ((with_reducible show wpList _ _ _ (Oper.mk _ (Op.load 39 _) _ _ _ _ :: _) _ _); refine wpLoad rfl 39 _ rfl y 0 rfl _ _ RY.out Tryz.underlying39 rfl info_rec ?_)
            with_reducible refine C7.out.mono ?_
            rintro e u7 ⟨rfl, h7⟩
            have H7 := hide h7
            clear h7 C7 HG
            go_wp2
            go_roundw
            case rel => exact ⟨i + 1, by omega, by go_num, by go_num, H7⟩
            case measure => simp [intOf]; omega
          · have C7 := hide A7
            clear A7
            go_upto_region 13 with ((with_reducible show wpList _ _ _ (Oper.mk _ (Op.store 39 _ _) _ _ _ _ :: _) _ _); refine wpStore rfl 39 _ _ rfl v3.heap.size 0 [.int .i64 (RecX.seq X), .int .i64 (RecX.kind X), .slice (RecH.la hh) (RecH.ln hh) (RecH.lc hh), .int .i64 (RecX.at9 X), .slice (Hd.a (RecH.sk hh)) (Hd.n (RecH.sk hh)) (Hd.c (RecH.sk hh)), .slice (Hd.k (RecH.sk hh)) (Hd.m (RecH.sk hh)) (Hd.d (RecH.sk hh)), .int .u64 (Gz.n (Sp.g (RecX.sk X))), .int .u64 (Gz.nans (Sp.g (RecX.sk X))), .int .u64 (Gz.lo (Sp.g (RecX.sk X))), .int .u64 (Gz.hi (Sp.g (RecX.sk X))), .int .i64 (RecX.tseq X), .int .i64 (Hm.op (RecH.m hh)), .string (Hm.nm (RecH.m hh)), .string (Hm.vl (RecH.m hh)), .slice (Hm.va (RecH.m hh)) (Hm.vn (RecH.m hh)) (Hm.vc (RecH.m hh)), .slice (Hm.ka (RecH.m hh)) (Hm.kn (RecH.m hh)) (Hm.kc (RecH.m hh)), .int .i64 (RecX.frm X), .int .i64 (RecX.till X)] rfl rfl TF.out info_rec rfl ?_)
            rw [hu4.out, hy.out]
            clear TF hu4
            go_wp2_with ((with_reducible show wpList _ _ _ (Oper.mk _ (Op.load 39 _) _ _ _ _ :: _) _ _); refine wpLoad rfl 39 _ rfl y 0 rfl _ _ RY.out Tryz.underlying39 rfl info_rec ?_)
            with_reducible refine C7.out.mono ?_
            rintro e u7 ⟨rfl, h7⟩
            have H7 := hide h7
            clear h7 C7 HG
            go_wp2
            go_meet
            case rel => exact ⟨i, rfl, by omega, H7⟩
      · obtain rfl : i = N := by omega
        have i1 : ¬ (i : Int) < (i : Int) := by omega
        have E7 := hide (go_end HG.out (by omega))
        clear HG
        go_wp2
        go_meet
        case rel => exact ⟨i, rfl, by omega, E7⟩
  case rest =>
    obtain ⟨k, rfl, hk, HE⟩ := hcut
    obtain ⟨v, rfl⟩ : ∃ v, v = wc := ⟨wc, rfl⟩
    have R4 := hide (R3.out.below HE.out.bel (Nat.le_refl _))
    have I8 := hide (ints8_any a m c ps v R4.out hc3 (by omega))
    clear G3 R3 R4
    go_wp2_with fail
    with_reducible refine I8.out.mono ?_
    rintro e u8 ⟨a8, c8, rfl, r8, b8⟩
    obtain ⟨k', hk', C9⟩ := end_crash (HE.out.below b8) (by omega) ops HO.out a8 m c8 ps r8 (by omega)
    have C9 := hide C9
    clear r8 b8 I8 HE
    go_wp2_with fail
    with_reducible refine C9.out.mono ?_
    rintro e u9 ⟨g2, rfl, h9⟩
    have HC := hide h9
    have hk0 : k' ≤ 31 := by omega
    have O9 := hide (cr_open HC.out HT.out (Nat.le_refl _))
    rw [recsK_len] at O9
    clear h9 C9 HC
    go_wp2_with fail
    with_reducible refine O9.out.mono ?_
    rintro e u10 ⟨q2, ar, cr, rfl, ho10, hr10⟩
    have HP := hide ho10
    have HR := hide hr10
    have t1 : ¬ (k' : Int) < (k : Int) := by omega
    have t2 : ¬ (k : Int) + 1 < (k' : Int) := by omega
    have wk : IntKind.i64.wrap ((k : Int) + 1) = (k : Int) + 1 := by rw [IntKind.wrap_i64]; omega
    clear ho10 hr10 O9
    go_wp2
    go_loopw [19] (fun x wr => ∃ i : Nat, i ≤ k' ∧ x = .int .i64 (i : Int) ∧ Hid (wr = u10)) (fun x _ => 40 - (intOf x).toNat)
    case atStart => exact ⟨0, by omega, rfl, rfl⟩
    case round =>
      obtain ⟨i, hi, rfl, HW⟩ := hrel
      have hW := HW.out
      subst hW
      clear HW
      by_cases hlt : i < k'
      · obtain ⟨g9, rfl, l5, l6, d0, -, d3⟩ := HR.out.cell (recsK_at hlt)
        have i0 : (0 : Int) ≤ (i : Int) := by omega
        have i1 : (i : Int) < (k' : Int) := by omega
        have wi : IntKind.i64.wrap ((i : Int) + 1) = (i : Int) + 1 := by rw [IntKind.wrap_i64]; omega
        have D0 : wr.cell? ⟨g9, i * 18, none⟩ = some (.int .i64 ((i : Int) + 1)) := d0
        have D3 : wr.cell? ⟨g9, i * 18 + 3, none⟩ = some (.int .i64 (i : Int)) := d3
        clear d0 d3
        go_wp2
        go_roundw
        case rel => exact ⟨i + 1, by omega, by go_num, trivial⟩
        case measure => simp [intOf]; omega
      · obtain rfl : i = k' := by omega
        have i1 : ¬ (i : Int) < (i : Int) := by omega
        have R11 := hide (op_ready HP.out)
        clear HP HR
        go_wp2_with fail
        with_reducible refine R11.out.mono ?_
        rintro e u11 ⟨rfl, h11⟩
        have H11 := hide h11
        have RC := hide (rec_any 99 99 (by decide) (by decide) u11)
        clear h11 R11
        go_wp2_with fail
        with_reducible refine RC.out.mono ?_
        rintro e u12 ⟨hh, rfl, s12, b12⟩
        have A13 := hide (rd_append H11.out b12 (s := 99) (a := 99) (by unfold I64; omega) (by unfold I64; omega) s12)
        clear s12 b12 RC H11
        go_wp2_with fail
        with_reducible refine A13.out.mono ?_
        rintro e u13 ⟨rfl, h13⟩
        have C14 := hide (mr_crash h13)
        clear h13 A13
        go_wp2_with fail
        with_reducible refine C14.out.mono ?_
        rintro e u14 ⟨g4, rfl, b14, F4, hF4, o14⟩
        have O15 := hide (fin_open hF4 o14 HT.out (Nat.le_refl _))
        rw [recsK_len] at O15
        clear hF4 o14 C14 b14
        go_wp2_with fail
        with_reducible refine O15.out.mono ?_
        rintro e u15 ⟨q4, a4, c4, rfl, b15, hr15⟩
        obtain ⟨g9, rfl, l5, l6, d0, -, -⟩ := hr15.cell (i := i) (r := rcN 99 99) (by rw [List.getElem?_append_right (by rw [recsK_len]; exact Nat.le_refl _), recsK_len, Nat.sub_self]; rfl)
        have D0 : u15.cell? ⟨g9, i * 18, none⟩ = some (.int .i64 99) := d0
        have B15 := hide b15
        have AW := hide (awakeW_any u15 (HT.out.to b15 (Nat.le_refl _)))
        have wi : IntKind.i64.wrap ((i : Int) + 1) = (i : Int) + 1 := by rw [IntKind.wrap_i64]; omega
        have i0 : (0 : Int) ≤ (i : Int) := by omega
        have i2 : (i : Int) < ((i + 1 : Nat) : Int) := by omega
        have i3 : (((i + 1 : Nat) : Int) == (i : Int) + 1) = true := by simp
        clear d0 hr15 b15 O15
        go_wp2_with fail
        with_reducible refine AW.out.mono ?_
        rintro e u16 ⟨rfl, b16⟩
        have B16 := hide (bel_to B15.out (Nat.le_refl _) b16)
        clear b16 AW
        go_wp2
        go_ret
        exact ⟨rfl, B16.out⟩
end Go.Proofs.YtknghoecjobkiaaGreatDoor

namespace Go.Proofs.YtknghoecjobkiaaGreatDoor
open Go.RowKit Go.ChangeShapes Go.WideShapes Go.Joins
set_option maxRecDepth 20000

/-- What the rows list. -/
def laidW3 : List (String × DataW Unit) := [("math/bits.deBruijn32tab", Rows.laid_math_bits_deBruijn32tab), ("math/bits.deBruijn64tab", Rows.laid_math_bits_deBruijn64tab), ("internal/strconv.uint64pow10", Rows.laid_internal_strconv_uint64pow10)]
theorem tPow : (Tryz.prog.globals[2]?).map (·.type) = some 368 := by kernel_rfl
theorem wU64_cells : Tryz.prog.cellsOf 25 = 1 := by kernel_rfl
theorem pow_cells : Tryz.prog.cellsOf 368 = 20 := by kernel_rfl
/-- The door's own heap meets the condition. -/
theorem doorW3_met (os : Os) (args : Array Value) : laidMetH Tryz.prog laidW3 ((World.doorLaid Tryz.prog 400 os).forCall (fun _ _ => 0) ⟨#[], args, []⟩).memory :=
  laidMetH_of_parts3 (fuel := 8) (laidMet_of_run' 8 (by kernel_rfl) (by kernel_rfl)) (by kernel_rfl) (by kernel_rfl)
theorem tab_laid {r : List (String × DataW Unit)} {W : World} (h : laidMet Tryz.prog (("internal/strconv.uint64pow10", Rows.laid_internal_strconv_uint64pow10) :: r) W) : TbP W :=
  Lib.tabIs_of_head gPow tPow Tryz.underlying368 Tryz.underlying25 wU64_cells pow_cells h
theorem tab_of3 {W : World} (h : laidMetH Tryz.prog laidW3 W) : TbP W := by
  rw [MakeChecks.laidMetH_plain _ _ _ (by kernel_rfl)] at h
  exact tab_laid h.tail.tail
end Go.Proofs.YtknghoecjobkiaaGreatDoor
