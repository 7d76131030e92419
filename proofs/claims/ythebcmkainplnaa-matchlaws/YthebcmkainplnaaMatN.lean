/-
  The law MatchLaws, walked: not, and, or are what they are called; the document's examples hold (written by gen/matn.gen.py).
  Conditions: none.
-/
import Derived.Test.YthebcmkainplnaaMatJ
namespace Go.Proofs.Ythebcmkainplnaa
open Go.RowKit
set_option maxRecDepth 20000

def notM (m : Mt) : Mt := .mk 7 .empty .empty [] [m]
def andM (m n : Mt) : Mt := .mk 5 .empty .empty [] [m, n]
def orM (m n : Mt) : Mt := .mk 6 .empty .empty [] [m, n]
def and0 : Mt := .mk 5 .empty .empty [] []
def or0 : Mt := .mk 6 .empty .empty [] []
theorem notM_eval (l : List Lb) (m : Mt) : evalM l (notM m) = !evalM l m := by rw [evalM_eq]; rfl
theorem andM_eval (l : List Lb) (m n : Mt) : evalM l (andM m n) = (evalM l m && evalM l n) := by
  rw [evalM_eq]
  show [m, n].all (evalM l) = _
  simp
theorem orM_eval (l : List Lb) (m n : Mt) : evalM l (orM m n) = (evalM l m || evalM l n) := by
  rw [evalM_eq]
  show [m, n].any (evalM l) = _
  simp
theorem and0_eval (l : List Lb) : evalM l and0 = true := by rw [evalM_eq]; rfl
theorem or0_eval (l : List Lb) : evalM l or0 = false := by rw [evalM_eq]; rfl
theorem and0_chk : chkM and0 = true := by decide +kernel
theorem or0_chk : chkM or0 = true := by decide +kernel
theorem bare_see (w : World) {op : Int} (ho : (Lit.int .i64 op).wf = true) : SeeM (fun _ => True) w (.mk op .empty .empty [] []) ⟨op, ⟨#[]⟩, ⟨#[]⟩, none, 0, 0, none, 0, 0⟩ := by
  rw [seeM_iff]
  refine ⟨rfl, rfl, rfl, ⟨ho, by show (0 : Nat) ≤ _; decide, by show (0 : Nat) ≤ _; decide, Nat.le_refl _, fun _ => rfl, by show (0 : Nat) * 88 ≤ _; decide, Nat.le_refl _, fun _ => rfl⟩, ⟨rfl, by show (0 : Nat) * 16 ≤ _; omega, ?_, Or.inl rfl⟩, rfl, Or.inl rfl⟩
  intro s hs
  cases hs
theorem one_see {W : World} {op : Int} {m : Mt} {h : Hm} {b : Nat} (ho : (Lit.int .i64 op).wf = true) (q : SeeM (fun _ => True) W m h) (f : five W b 0 h) : SeeM (fun _ => True) W (.mk op .empty .empty [] [m]) ⟨op, ⟨#[]⟩, ⟨#[]⟩, none, 0, 0, some ⟨b, 0, none⟩, 1, 1⟩ := by
  refine see_kids (hs := [h]) ho rfl (by decide) trivial ?_
  intro i k hi
  match i, hi with
  | 0, hi =>
    obtain rfl : m = k := by simpa using hi
    exact ⟨h, rfl, by rw [Nat.zero_mul]; exact f, q⟩
  | i + 1, hi => simp at hi
theorem two_see {W : World} {op : Int} {m n : Mt} {h h' : Hm} {b : Nat} (ho : (Lit.int .i64 op).wf = true) (q : SeeM (fun _ => True) W m h) (q' : SeeM (fun _ => True) W n h') (f : five W b 0 h) (f' : five W b 5 h') : SeeM (fun _ => True) W (.mk op .empty .empty [] [m, n]) ⟨op, ⟨#[]⟩, ⟨#[]⟩, none, 0, 0, some ⟨b, 0, none⟩, 2, 2⟩ := by
  refine see_kids (hs := [h, h']) ho rfl (by decide) trivial ?_
  intro i k hi
  match i, hi with
  | 0, hi =>
    obtain rfl : m = k := by simpa using hi
    exact ⟨h, rfl, by rw [Nat.zero_mul]; exact f, q⟩
  | 1, hi =>
    obtain rfl : n = k := by simpa using hi
    exact ⟨h', rfl, by rw [Nat.one_mul]; exact f', q'⟩
  | i + 2, hi => simp at hi
theorem two_new (w : World) (h h' : Hm) (t : TypeId) : five (w.alloc (.cells #[.int .i64 h.op, .string h.nm, .string h.vl, .slice h.va h.vn h.vc, .slice h.ka h.kn h.kc, .int .i64 h'.op, .string h'.nm, .string h'.vl, .slice h'.va h'.vn h'.vc, .slice h'.ka h'.kn h'.kc] t)) w.heap.size 0 h ∧ five (w.alloc (.cells #[.int .i64 h.op, .string h.nm, .string h.vl, .slice h.va h.vn h.vc, .slice h.ka h.kn h.kc, .int .i64 h'.op, .string h'.nm, .string h'.vl, .slice h'.va h'.vn h'.vc, .slice h'.ka h'.kn h'.kc] t)) w.heap.size 5 h' := by
  constructor
  · intro j v hj
    rw [Nat.zero_add, World.cell?_alloc_mark]
    match j, hj with
    | 0, hj => simp [Hm.cells] at hj; subst hj; rfl
    | 1, hj => simp [Hm.cells] at hj; subst hj; rfl
    | 2, hj => simp [Hm.cells] at hj; subst hj; rfl
    | 3, hj => simp [Hm.cells] at hj; subst hj; rfl
    | 4, hj => simp [Hm.cells] at hj; subst hj; rfl
  · intro j v hj
    rw [World.cell?_alloc_mark]
    match j, hj with
    | 0, hj => simp [Hm.cells] at hj; subst hj; rfl
    | 1, hj => simp [Hm.cells] at hj; subst hj; rfl
    | 2, hj => simp [Hm.cells] at hj; subst hj; rfl
    | 3, hj => simp [Hm.cells] at hj; subst hj; rfl
    | 4, hj => simp [Hm.cells] at hj; subst hj; rfl
theorem five.below {w w' : World} {b off : Nat} {h : Hm} (q : five w b off h) (k : Below w.heap.size w w') : five w' b off h := q.block (k.block b q.lt)

set_option maxHeartbeats 8000000 in
theorem lawsM_any (m n : Mt) (h1 h2 : Hm) (a : Option Addr) (nl cap : Nat) (l : List Lb) (w : World) (q1 : SeeM (fun _ => True) w m h1) (q2 : SeeM (fun _ => True) w n h2) (hr : RowL w a nl l) :
    Calls Try.prog 8 #[.agg #[.int .i64 h1.op, .string h1.nm, .string h1.vl, .slice h1.va h1.vn h1.vc, .slice h1.ka h1.kn h1.kc], .agg #[.int .i64 h2.op, .string h2.nm, .string h2.vl, .slice h2.va h2.vn h2.vc, .slice h2.ka h2.kn h2.kc], .slice a nl cap] w fun e w' => e = .returned (.bool true) ∧ Below w.heap.size w w' := by
  obtain ⟨op1, nm1, vl1, va1, vn1, vc1, ka1, kn1, kc1⟩ := h1
  obtain ⟨op2, nm2, vl2, va2, vn2, vc2, ka2, kn2, kc2⟩ := h2
  dsimp only
  have hn := hr.2.1
  obtain ⟨W, hW⟩ : ∃ W, Hid ((w.alloc (.cells #[.int .i64 op1, .string nm1, .string vl1, .slice va1 vn1 vc1, .slice ka1 kn1 kc1] 25)).alloc (.cells #[.int .i64 op2, .string nm2, .string vl2, .slice va2 vn2 vc2, .slice ka2 kn2 kc2] 25) = W) := ⟨_, rfl⟩
  have LW : Hid (Below w.heap.size w W) := by rw [← hW.out]; exact bel_al (bel_al (Below.refl _ _) (Nat.le_refl _) _) (Nat.le_refl _) _
  have BM : Hid (BoxM W w.heap.size ⟨op1, nm1, vl1, va1, vn1, vc1, ka1, kn1, kc1⟩) := by
    rw [← hW.out]
    exact (boxM_new w ⟨op1, nm1, vl1, va1, vn1, vc1, ka1, kn1, kc1⟩).block (Below.heap_alloc _ _ _ (by simp))
  have BN : Hid (BoxM W (w.heap.size + 1) ⟨op2, nm2, vl2, va2, vn2, vc2, ka2, kn2, kc2⟩) := by
    rw [← hW.out]
    have := boxM_new (w.alloc (.cells #[.int .i64 op1, .string nm1, .string vl1, .slice va1 vn1 vc1, .slice ka1 kn1 kc1] 25)) ⟨op2, nm2, vl2, va2, vn2, vc2, ka2, kn2, kc2⟩
    rwa [show (w.alloc (.cells #[.int .i64 op1, .string nm1, .string vl1, .slice va1 vn1 vc1, .slice ka1 kn1 kc1] 25)).heap.size = w.heap.size + 1 by simp] at this
  have T1 := hide (fun u (hu : Below w.heap.size w u) => tinyT_any (fun _ => True) m ⟨op1, nm1, vl1, va1, vn1, vc1, ka1, kn1, kc1⟩ u (q1.below hu))
  have T2 := hide (fun u (hu : Below w.heap.size w u) => tinyT_any (fun _ => True) n ⟨op2, nm2, vl2, va2, vn2, vc2, ka2, kn2, kc2⟩ u (q2.below hu))
  have C1 := hide (fun u (hu : Below w.heap.size w u) => refchkM_any (fun _ => True) m ⟨op1, nm1, vl1, va1, vn1, vc1, ka1, kn1, kc1⟩ u (q1.below hu))
  have C2 := hide (fun u (hu : Below w.heap.size w u) => refchkM_any (fun _ => True) n ⟨op2, nm2, vl2, va2, vn2, vc2, ka2, kn2, kc2⟩ u (q2.below hu))
  dsimp only at T1 T2 C1 C2
  have AW := hide awakeM_any
  have Q1 := hide q1
  have Q2 := hide q2
  have HR := hide hr
  clear q1 q2 hr
  obtain ⟨b0, b1, b2, b3, b4, _⟩ := BM.out.all
  obtain ⟨c0, c1, c2, c3, c4, _⟩ := BN.out.all
  dsimp only at b0 b1 b2 b3 b4 c0 c1 c2 c3 c4
  go_enter Try.func8, Try.ntmps8
  go_upto_region 1 with fail
  rw [hW.out]
  clear hW
  go_wp2_with fail
  with_reducible refine (T1.out _ LW.out).mono ?_
  rintro e v1 ⟨rfl, kk1⟩
  have L1 := hide (bel_to LW.out (Nat.le_refl _) kk1)
  have BM1 := hide (BM.out.block (kk1.block _ BM.out.lt))
  have BN1 := hide (BN.out.block (kk1.block _ BN.out.lt))
  clear kk1 b0 b1 b2 b3 b4 c0 c1 c2 c3 c4 BM BN LW
  obtain ⟨b0, b1, b2, b3, b4, _⟩ := BM1.out.all
  obtain ⟨c0, c1, c2, c3, c4, _⟩ := BN1.out.all
  dsimp only at b0 b1 b2 b3 b4 c0 c1 c2 c3 c4
  cases ht1 : tinyM m with
  | false =>
    go_wp2_with fail
    with_reducible refine (AW.out _).mono ?_
    rintro e vz ⟨rfl, kz⟩
    have LZ := hide (bel_to L1.out (Nat.le_refl _) kz)
    clear kz
    go_wp2
    go_ret
    exact ⟨rfl, LZ.out⟩
  | true =>
    go_wp2_with fail
    with_reducible refine (T2.out _ L1.out).mono ?_
    rintro e v2 ⟨rfl, kk2⟩
    have L2 := hide (bel_to L1.out (Nat.le_refl _) kk2)
    have BM2 := hide (BM1.out.block (kk2.block _ BM1.out.lt))
    have BN2 := hide (BN1.out.block (kk2.block _ BN1.out.lt))
    clear kk2 b0 b1 b2 b3 b4 c0 c1 c2 c3 c4 BM1 BN1 L1
    obtain ⟨b0, b1, b2, b3, b4, _⟩ := BM2.out.all
    obtain ⟨c0, c1, c2, c3, c4, _⟩ := BN2.out.all
    dsimp only at b0 b1 b2 b3 b4 c0 c1 c2 c3 c4
    cases ht2 : tinyM n with
    | false =>
      go_wp2_with fail
      with_reducible refine (AW.out _).mono ?_
      rintro e vz ⟨rfl, kz⟩
      have LZ := hide (bel_to L2.out (Nat.le_refl _) kz)
      clear kz
      go_wp2
      go_ret
      exact ⟨rfl, LZ.out⟩
    | true =>
      go_wp2_with fail
      with_reducible refine (C1.out _ L2.out).mono ?_
      rintro e v3 ⟨rfl, kk3⟩
      have L3 := hide (bel_to L2.out (Nat.le_refl _) kk3)
      have BM3 := hide (BM2.out.block (kk3.block _ BM2.out.lt))
      have BN3 := hide (BN2.out.block (kk3.block _ BN2.out.lt))
      clear kk3 b0 b1 b2 b3 b4 c0 c1 c2 c3 c4 BM2 BN2 L2
      obtain ⟨b0, b1, b2, b3, b4, _⟩ := BM3.out.all
      obtain ⟨c0, c1, c2, c3, c4, _⟩ := BN3.out.all
      dsimp only at b0 b1 b2 b3 b4 c0 c1 c2 c3 c4
      cases hc1 : chkM m with
      | false =>
        go_wp2_with fail
        with_reducible refine (AW.out _).mono ?_
        rintro e vz ⟨rfl, kz⟩
        have LZ := hide (bel_to L3.out (Nat.le_refl _) kz)
        clear kz
        go_wp2
        go_ret
        exact ⟨rfl, LZ.out⟩
      | true =>
        go_wp2_with fail
        with_reducible refine (C2.out _ L3.out).mono ?_
        rintro e v4 ⟨rfl, kk4⟩
        have L4 := hide (bel_to L3.out (Nat.le_refl _) kk4)
        have BM4 := hide (BM3.out.block (kk4.block _ BM3.out.lt))
        have BN4 := hide (BN3.out.block (kk4.block _ BN3.out.lt))
        clear kk4 b0 b1 b2 b3 b4 c0 c1 c2 c3 c4 BM3 BN3 L3
        obtain ⟨b0, b1, b2, b3, b4, _⟩ := BM4.out.all
        obtain ⟨c0, c1, c2, c3, c4, _⟩ := BN4.out.all
        dsimp only at b0 b1 b2 b3 b4 c0 c1 c2 c3 c4
        cases hc2 : chkM n with
        | false =>
          go_wp2_with fail
          with_reducible refine (AW.out _).mono ?_
          rintro e vz ⟨rfl, kz⟩
          have LZ := hide (bel_to L4.out (Nat.le_refl _) kz)
          clear kz
          go_wp2
          go_ret
          exact ⟨rfl, LZ.out⟩
        | true =>
          by_cases hbig : 100 < nl
          · have t1 : (100 : Int) < (nl : Int) := by omega
            go_wp2_with fail
            with_reducible refine (AW.out _).mono ?_
            rintro e vz ⟨rfl, kz⟩
            have LZ := hide (bel_to L4.out (Nat.le_refl _) kz)
            clear kz
            go_wp2
            go_ret
            exact ⟨rfl, LZ.out⟩
          · have t1 : ¬ (100 : Int) < (nl : Int) := by omega
            have E1 := hide (fun u (hu : Below w.heap.size w u) => evalT_any l (fun _ => True) m ⟨op1, nm1, vl1, va1, vn1, vc1, ka1, kn1, kc1⟩ a nl cap u (Q1.out.below hu) hc1 (HR.out.below hu (Nat.le_refl _)))
            have E2 := hide (fun u (hu : Below w.heap.size w u) => evalT_any l (fun _ => True) n ⟨op2, nm2, vl2, va2, vn2, vc2, ka2, kn2, kc2⟩ a nl cap u (Q2.out.below hu) hc2 (HR.out.below hu (Nat.le_refl _)))
            dsimp only at E1 E2
            go_wp2_with fail
            with_reducible refine (E1.out _ L4.out).mono ?_
            rintro e v5 ⟨rfl, kk5⟩
            have L5 := hide (bel_to L4.out (Nat.le_refl _) kk5)
            have BM5 := hide (BM4.out.block (kk5.block _ BM4.out.lt))
            have BN5 := hide (BN4.out.block (kk5.block _ BN4.out.lt))
            clear kk5 b0 b1 b2 b3 b4 c0 c1 c2 c3 c4 BM4 BN4 L4
            obtain ⟨b0, b1, b2, b3, b4, _⟩ := BM5.out.all
            obtain ⟨c0, c1, c2, c3, c4, _⟩ := BN5.out.all
            dsimp only at b0 b1 b2 b3 b4 c0 c1 c2 c3 c4
            go_wp2_with fail
            with_reducible refine (E2.out _ L5.out).mono ?_
            rintro e v6 ⟨rfl, kk6⟩
            have L6 := hide (bel_to L5.out (Nat.le_refl _) kk6)
            have BM6 := hide (BM5.out.block (kk6.block _ BM5.out.lt))
            have BN6 := hide (BN5.out.block (kk6.block _ BN5.out.lt))
            clear kk6 b0 b1 b2 b3 b4 c0 c1 c2 c3 c4 BM5 BN5 L5
            obtain ⟨b0, b1, b2, b3, b4, _⟩ := BM6.out.all
            obtain ⟨c0, c1, c2, c3, c4, _⟩ := BN6.out.all
            dsimp only at b0 b1 b2 b3 b4 c0 c1 c2 c3 c4
            obtain ⟨x1, hx1⟩ : ∃ x1, Hid (((v6.alloc (.cells #[.int .i64 op1, .string nm1, .string vl1, .slice va1 vn1 vc1, .slice ka1 kn1 kc1] 25)).alloc (.cells #[.int .i64 7, .string ⟨#[]⟩, .string ⟨#[]⟩, .slice none 0 0, .slice (some ⟨v6.heap.size, 0, none⟩) 1 1] 25)) = x1) := ⟨_, rfl⟩
            have Ax1 : Hid (Below v6.heap.size v6 x1) := by
              rw [← hx1.out]
              exact bel_al (bel_al (Below.refl _ _) (Nat.le_refl _) _) (Nat.le_refl _) _
            have Lx1 : Hid (Below w.heap.size w x1) := bel_to L6.out (Nat.le_refl _) Ax1.out
            have Fx1 : Hid (five x1 v6.heap.size 0 ⟨op1, nm1, vl1, va1, vn1, vc1, ka1, kn1, kc1⟩) := by
              rw [← hx1.out]
              exact (five_new v6 ⟨op1, nm1, vl1, va1, vn1, vc1, ka1, kn1, kc1⟩ _).below (bel_al (Below.refl _ _) (Nat.le_refl _) _)
            have SN1 := hide (one_see (op := 7) (by decide) (Q1.out.below Lx1.out) Fx1.out)
            have X1a : Hid (BoxM x1 (v6.heap.size + 1) ⟨7, ⟨#[]⟩, ⟨#[]⟩, none, 0, 0, some ⟨v6.heap.size, 0, none⟩, 1, 1⟩) := by
              rw [← hx1.out]
              have h := boxM_new (v6.alloc (.cells #[.int .i64 op1, .string nm1, .string vl1, .slice va1 vn1 vc1, .slice ka1 kn1 kc1] 25)) ⟨7, ⟨#[]⟩, ⟨#[]⟩, none, 0, 0, some ⟨v6.heap.size, 0, none⟩, 1, 1⟩
              rwa [show (v6.alloc (.cells #[.int .i64 op1, .string nm1, .string vl1, .slice va1 vn1 vc1, .slice ka1 kn1 kc1] 25)).heap.size = v6.heap.size + 1 by simp] at h
            have BMx1 := hide (BM6.out.block (Ax1.out.block _ BM6.out.lt))
            have BNx1 := hide (BN6.out.block (Ax1.out.block _ BN6.out.lt))
            go_upto_region 6 with fail
            rw [hx1.out]
            clear hx1 b0 b1 b2 b3 b4 c0 c1 c2 c3 c4 BM6 BN6 Fx1
            obtain ⟨b0, b1, b2, b3, b4, _⟩ := BMx1.out.all
            obtain ⟨c0, c1, c2, c3, c4, _⟩ := BNx1.out.all
            dsimp only at b0 b1 b2 b3 b4 c0 c1 c2 c3 c4
            obtain ⟨x2, hx2⟩ : ∃ x2, Hid (((x1.alloc (.cells #[.int .i64 op1, .string nm1, .string vl1, .slice va1 vn1 vc1, .slice ka1 kn1 kc1, .int .i64 op2, .string nm2, .string vl2, .slice va2 vn2 vc2, .slice ka2 kn2 kc2] 25)).alloc (.cells #[.int .i64 5, .string ⟨#[]⟩, .string ⟨#[]⟩, .slice none 0 0, .slice (some ⟨x1.heap.size, 0, none⟩) 2 2] 25)) = x2) := ⟨_, rfl⟩
            have Ax2 : Hid (Below x1.heap.size x1 x2) := by
              rw [← hx2.out]
              exact bel_al (bel_al (Below.refl _ _) (Nat.le_refl _) _) (Nat.le_refl _) _
            have Lx2 : Hid (Below w.heap.size w x2) := bel_to Lx1.out (Nat.le_refl _) Ax2.out
            have Fx2 : Hid (five x2 x1.heap.size 0 ⟨op1, nm1, vl1, va1, vn1, vc1, ka1, kn1, kc1⟩ ∧ five x2 x1.heap.size 5 ⟨op2, nm2, vl2, va2, vn2, vc2, ka2, kn2, kc2⟩) := by
              rw [← hx2.out]
              have h := two_new x1 ⟨op1, nm1, vl1, va1, vn1, vc1, ka1, kn1, kc1⟩ ⟨op2, nm2, vl2, va2, vn2, vc2, ka2, kn2, kc2⟩ 25
              exact ⟨h.1.below (bel_al (Below.refl _ _) (Nat.le_refl _) _), h.2.below (bel_al (Below.refl _ _) (Nat.le_refl _) _)⟩
            have SA1 := hide (two_see (op := 5) (by decide) (Q1.out.below Lx2.out) (Q2.out.below Lx2.out) Fx2.out.1 Fx2.out.2)
            have X2a : Hid (BoxM x2 (x1.heap.size + 1) ⟨5, ⟨#[]⟩, ⟨#[]⟩, none, 0, 0, some ⟨x1.heap.size, 0, none⟩, 2, 2⟩) := by
              rw [← hx2.out]
              have h := boxM_new (x1.alloc (.cells #[.int .i64 op1, .string nm1, .string vl1, .slice va1 vn1 vc1, .slice ka1 kn1 kc1, .int .i64 op2, .string nm2, .string vl2, .slice va2 vn2 vc2, .slice ka2 kn2 kc2] 25)) ⟨5, ⟨#[]⟩, ⟨#[]⟩, none, 0, 0, some ⟨x1.heap.size, 0, none⟩, 2, 2⟩
              rwa [show (x1.alloc (.cells #[.int .i64 op1, .string nm1, .string vl1, .slice va1 vn1 vc1, .slice ka1 kn1 kc1, .int .i64 op2, .string nm2, .string vl2, .slice va2 vn2 vc2, .slice ka2 kn2 kc2] 25)).heap.size = x1.heap.size + 1 by simp] at h
            have BMx2 := hide (BMx1.out.block (Ax2.out.block _ BMx1.out.lt))
            have BNx2 := hide (BNx1.out.block (Ax2.out.block _ BNx1.out.lt))
            go_upto_region 7 with fail
            rw [hx2.out]
            clear hx2 b0 b1 b2 b3 b4 c0 c1 c2 c3 c4 BMx1 BNx1 Fx2
            obtain ⟨b0, b1, b2, b3, b4, _⟩ := BMx2.out.all
            obtain ⟨c0, c1, c2, c3, c4, _⟩ := BNx2.out.all
            dsimp only at b0 b1 b2 b3 b4 c0 c1 c2 c3 c4
            obtain ⟨W8, hW8⟩ : ∃ W8, Hid (((x2.alloc (.cells #[.int .i64 op1, .string nm1, .string vl1, .slice va1 vn1 vc1, .slice ka1 kn1 kc1, .int .i64 op2, .string nm2, .string vl2, .slice va2 vn2 vc2, .slice ka2 kn2 kc2] 25)).alloc (.cells #[.int .i64 6, .string ⟨#[]⟩, .string ⟨#[]⟩, .slice none 0 0, .slice (some ⟨x2.heap.size, 0, none⟩) 2 2] 25)) = W8) := ⟨_, rfl⟩
            have AW8 : Hid (Below x2.heap.size x2 W8) := by
              rw [← hW8.out]
              exact bel_al (bel_al (Below.refl _ _) (Nat.le_refl _) _) (Nat.le_refl _) _
            have LW8 : Hid (Below w.heap.size w W8) := bel_to Lx2.out (Nat.le_refl _) AW8.out
            have FW8 : Hid (five W8 x2.heap.size 0 ⟨op1, nm1, vl1, va1, vn1, vc1, ka1, kn1, kc1⟩ ∧ five W8 x2.heap.size 5 ⟨op2, nm2, vl2, va2, vn2, vc2, ka2, kn2, kc2⟩) := by
              rw [← hW8.out]
              have h := two_new x2 ⟨op1, nm1, vl1, va1, vn1, vc1, ka1, kn1, kc1⟩ ⟨op2, nm2, vl2, va2, vn2, vc2, ka2, kn2, kc2⟩ 25
              exact ⟨h.1.below (bel_al (Below.refl _ _) (Nat.le_refl _) _), h.2.below (bel_al (Below.refl _ _) (Nat.le_refl _) _)⟩
            have SO := hide (two_see (op := 6) (by decide) (Q1.out.below LW8.out) (Q2.out.below LW8.out) FW8.out.1 FW8.out.2)
            have X3 : Hid (BoxM W8 (x2.heap.size + 1) ⟨6, ⟨#[]⟩, ⟨#[]⟩, none, 0, 0, some ⟨x2.heap.size, 0, none⟩, 2, 2⟩) := by
              rw [← hW8.out]
              have h := boxM_new (x2.alloc (.cells #[.int .i64 op1, .string nm1, .string vl1, .slice va1 vn1 vc1, .slice ka1 kn1 kc1, .int .i64 op2, .string nm2, .string vl2, .slice va2 vn2 vc2, .slice ka2 kn2 kc2] 25)) ⟨6, ⟨#[]⟩, ⟨#[]⟩, none, 0, 0, some ⟨x2.heap.size, 0, none⟩, 2, 2⟩
              rwa [show (x2.alloc (.cells #[.int .i64 op1, .string nm1, .string vl1, .slice va1 vn1 vc1, .slice ka1 kn1 kc1, .int .i64 op2, .string nm2, .string vl2, .slice va2 vn2 vc2, .slice ka2 kn2 kc2] 25)).heap.size = x2.heap.size + 1 by simp] at h
            have BMW8 := hide (BMx2.out.block (AW8.out.block _ BMx2.out.lt))
            have BNW8 := hide (BNx2.out.block (AW8.out.block _ BNx2.out.lt))
            go_upto_region 8 with fail
            rw [hW8.out]
            clear hW8 b0 b1 b2 b3 b4 c0 c1 c2 c3 c4 BMx2 BNx2 FW8
            obtain ⟨b0, b1, b2, b3, b4, _⟩ := BMW8.out.all
            obtain ⟨c0, c1, c2, c3, c4, _⟩ := BNW8.out.all
            dsimp only at b0 b1 b2 b3 b4 c0 c1 c2 c3 c4
            have SN := hide ((SN1.out.below Ax2.out).below AW8.out)
            have SA := hide (SA1.out.below AW8.out)
            have X1b := hide (X1a.out.block (Ax2.out.block _ X1a.out.lt))
            have X1 := hide (X1b.out.block (AW8.out.block _ X1b.out.lt))
            have X2 := hide (X2a.out.block (AW8.out.block _ X2a.out.lt))
            have L8 := LW8
            have R8 := hide (HR.out.below L8.out (Nat.le_refl _))
            clear b0 b1 b2 b3 b4 c0 c1 c2 c3 c4 SN1 SA1 X1a X1b X2a Ax1 Ax2 AW8 L6 Lx1 Lx2
            have K1 := hide (fun u (hu : Below W8.heap.size W8 u) => refchkM_any (fun _ => True) (notM m) _ u (SN.out.below hu))
            have K2 := hide (fun u (hu : Below W8.heap.size W8 u) => refchkM_any (fun _ => True) (andM m n) _ u (SA.out.below hu))
            have K3 := hide (fun u (hu : Below W8.heap.size W8 u) => refchkM_any (fun _ => True) (orM m n) _ u (SO.out.below hu))
            dsimp only at K1 K2 K3
            obtain ⟨b0, b1, b2, b3, b4, _⟩ := X1.out.all
            obtain ⟨c0, c1, c2, c3, c4, _⟩ := X2.out.all
            obtain ⟨d0, d1, d2, d3, d4, _⟩ := X3.out.all
            dsimp only at b0 b1 b2 b3 b4 c0 c1 c2 c3 c4 d0 d1 d2 d3 d4
            go_wp2_with fail
            with_reducible refine (K1.out _ (Below.refl _ _)).mono ?_
            rintro e u1 ⟨rfl, jj1⟩
            have J1 : Hid (Below W8.heap.size W8 u1) := jj1
            have Y1a := hide (X1.out.block (jj1.block _ X1.out.lt))
            have Y1b := hide (X2.out.block (jj1.block _ X2.out.lt))
            have Y1c := hide (X3.out.block (jj1.block _ X3.out.lt))
            clear jj1 b0 b1 b2 b3 b4 c0 c1 c2 c3 c4 d0 d1 d2 d3 d4 X1 X2 X3
            obtain ⟨b0, b1, b2, b3, b4, _⟩ := Y1a.out.all
            obtain ⟨c0, c1, c2, c3, c4, _⟩ := Y1b.out.all
            obtain ⟨d0, d1, d2, d3, d4, _⟩ := Y1c.out.all
            dsimp only at b0 b1 b2 b3 b4 c0 c1 c2 c3 c4 d0 d1 d2 d3 d4
            cases hn1 : chkM (notM m) with
            | false =>
              have LQ : Hid _ := bel_to L8.out (Nat.le_refl _) J1.out
              go_wp2_with fail
              with_reducible refine (AW.out _).mono ?_
              rintro e vz ⟨rfl, kz⟩
              have LZ := hide (bel_to LQ.out (Nat.le_refl _) kz)
              clear kz
              go_wp2
              go_ret
              exact ⟨rfl, LZ.out⟩
            | true =>
              go_wp2_with fail
              with_reducible refine (K2.out _ J1.out).mono ?_
              rintro e u2 ⟨rfl, jj2⟩
              have J2 : Hid (Below W8.heap.size W8 u2) := bel_to J1.out (Nat.le_refl _) jj2
              have Y2a := hide (Y1a.out.block (jj2.block _ Y1a.out.lt))
              have Y2b := hide (Y1b.out.block (jj2.block _ Y1b.out.lt))
              have Y2c := hide (Y1c.out.block (jj2.block _ Y1c.out.lt))
              clear jj2 b0 b1 b2 b3 b4 c0 c1 c2 c3 c4 d0 d1 d2 d3 d4 Y1a Y1b Y1c J1
              obtain ⟨b0, b1, b2, b3, b4, _⟩ := Y2a.out.all
              obtain ⟨c0, c1, c2, c3, c4, _⟩ := Y2b.out.all
              obtain ⟨d0, d1, d2, d3, d4, _⟩ := Y2c.out.all
              dsimp only at b0 b1 b2 b3 b4 c0 c1 c2 c3 c4 d0 d1 d2 d3 d4
              cases hn2 : chkM (andM m n) with
              | false =>
                have LQ : Hid _ := bel_to L8.out (Nat.le_refl _) J2.out
                go_wp2_with fail
                with_reducible refine (AW.out _).mono ?_
                rintro e vz ⟨rfl, kz⟩
                have LZ := hide (bel_to LQ.out (Nat.le_refl _) kz)
                clear kz
                go_wp2
                go_ret
                exact ⟨rfl, LZ.out⟩
              | true =>
                go_wp2_with fail
                with_reducible refine (K3.out _ J2.out).mono ?_
                rintro e u3 ⟨rfl, jj3⟩
                have J3 : Hid (Below W8.heap.size W8 u3) := bel_to J2.out (Nat.le_refl _) jj3
                have Y3a := hide (Y2a.out.block (jj3.block _ Y2a.out.lt))
                have Y3b := hide (Y2b.out.block (jj3.block _ Y2b.out.lt))
                have Y3c := hide (Y2c.out.block (jj3.block _ Y2c.out.lt))
                clear jj3 b0 b1 b2 b3 b4 c0 c1 c2 c3 c4 d0 d1 d2 d3 d4 Y2a Y2b Y2c J2
                obtain ⟨b0, b1, b2, b3, b4, _⟩ := Y3a.out.all
                obtain ⟨c0, c1, c2, c3, c4, _⟩ := Y3b.out.all
                obtain ⟨d0, d1, d2, d3, d4, _⟩ := Y3c.out.all
                dsimp only at b0 b1 b2 b3 b4 c0 c1 c2 c3 c4 d0 d1 d2 d3 d4
                cases hn3 : chkM (orM m n) with
                | false =>
                  have LQ : Hid _ := bel_to L8.out (Nat.le_refl _) J3.out
                  go_wp2_with fail
                  with_reducible refine (AW.out _).mono ?_
                  rintro e vz ⟨rfl, kz⟩
                  have LZ := hide (bel_to LQ.out (Nat.le_refl _) kz)
                  clear kz
                  go_wp2
                  go_ret
                  exact ⟨rfl, LZ.out⟩
                | true =>
                  have N1 := hide (fun u (hu : Below W8.heap.size W8 u) => evalT_any l (fun _ => True) (notM m) _ a nl cap u (SN.out.below hu) hn1 (R8.out.below hu (Nat.le_refl _)))
                  have N2 := hide (fun u (hu : Below W8.heap.size W8 u) => evalT_any l (fun _ => True) (andM m n) _ a nl cap u (SA.out.below hu) hn2 (R8.out.below hu (Nat.le_refl _)))
                  have N3 := hide (fun u (hu : Below W8.heap.size W8 u) => evalT_any l (fun _ => True) (orM m n) _ a nl cap u (SO.out.below hu) hn3 (R8.out.below hu (Nat.le_refl _)))
                  have N4 := hide (fun u (hu : Below W8.heap.size W8 u) => evalT_any l (fun _ => True) and0 ⟨5, ⟨#[]⟩, ⟨#[]⟩, none, 0, 0, none, 0, 0⟩ a nl cap u (bare_see u (by decide)) and0_chk (R8.out.below hu (Nat.le_refl _)))
                  have N5 := hide (fun u (hu : Below W8.heap.size W8 u) => evalT_any l (fun _ => True) or0 ⟨6, ⟨#[]⟩, ⟨#[]⟩, none, 0, 0, none, 0, 0⟩ a nl cap u (bare_see u (by decide)) or0_chk (R8.out.below hu (Nat.le_refl _)))
                  rw [notM_eval] at N1
                  rw [andM_eval] at N2
                  rw [orM_eval] at N3
                  rw [and0_eval] at N4
                  rw [or0_eval] at N5
                  dsimp only at N1 N2 N3 N4 N5
                  clear SN SA SO K1 K2 K3 hn1 hn2 hn3 hc1 hc2 ht1 ht2 E1 E2 C1 C2 T1 T2
                  go_upto_region 10 with fail
                  generalize evalM l m = x at *
                  generalize evalM l n = y at *
                  have z1 : ((!x) == x) = false := by cases x <;> rfl
                  have z2 : ((x && y) != (x && y)) = false := by cases x <;> cases y <;> rfl
                  have z3 : ((x || y) != (x || y)) = false := by cases x <;> cases y <;> rfl
                  cases x with
                  | false =>
                    cases y with
                    | false =>
                      rw [show (!false) = true from rfl] at N1
                      rw [show (false && false) = false from rfl] at N2
                      rw [show (false || false) = false from rfl] at N3
                      go_wp2_with fail
                      with_reducible refine (N1.out _ J3.out).mono ?_
                      rintro e u4 ⟨rfl, jj4⟩
                      have J4 : Hid (Below W8.heap.size W8 u4) := bel_to J3.out (Nat.le_refl _) jj4
                      have Y4a := hide (Y3a.out.block (jj4.block _ Y3a.out.lt))
                      have Y4b := hide (Y3b.out.block (jj4.block _ Y3b.out.lt))
                      have Y4c := hide (Y3c.out.block (jj4.block _ Y3c.out.lt))
                      clear jj4 b0 b1 b2 b3 b4 c0 c1 c2 c3 c4 d0 d1 d2 d3 d4 Y3a Y3b Y3c J3
                      obtain ⟨b0, b1, b2, b3, b4, _⟩ := Y4a.out.all
                      obtain ⟨c0, c1, c2, c3, c4, _⟩ := Y4b.out.all
                      obtain ⟨d0, d1, d2, d3, d4, _⟩ := Y4c.out.all
                      dsimp only at b0 b1 b2 b3 b4 c0 c1 c2 c3 c4 d0 d1 d2 d3 d4
                      go_wp2_with fail
                      with_reducible refine (N2.out _ J4.out).mono ?_
                      rintro e u5 ⟨rfl, jj5⟩
                      have J5 : Hid (Below W8.heap.size W8 u5) := bel_to J4.out (Nat.le_refl _) jj5
                      have Y5a := hide (Y4a.out.block (jj5.block _ Y4a.out.lt))
                      have Y5b := hide (Y4b.out.block (jj5.block _ Y4b.out.lt))
                      have Y5c := hide (Y4c.out.block (jj5.block _ Y4c.out.lt))
                      clear jj5 b0 b1 b2 b3 b4 c0 c1 c2 c3 c4 d0 d1 d2 d3 d4 Y4a Y4b Y4c J4
                      obtain ⟨b0, b1, b2, b3, b4, _⟩ := Y5a.out.all
                      obtain ⟨c0, c1, c2, c3, c4, _⟩ := Y5b.out.all
                      obtain ⟨d0, d1, d2, d3, d4, _⟩ := Y5c.out.all
                      dsimp only at b0 b1 b2 b3 b4 c0 c1 c2 c3 c4 d0 d1 d2 d3 d4
                      go_wp2_with fail
                      with_reducible refine (N3.out _ J5.out).mono ?_
                      rintro e u6 ⟨rfl, jj6⟩
                      have J6 : Hid (Below W8.heap.size W8 u6) := bel_to J5.out (Nat.le_refl _) jj6
                      have Y6a := hide (Y5a.out.block (jj6.block _ Y5a.out.lt))
                      have Y6b := hide (Y5b.out.block (jj6.block _ Y5b.out.lt))
                      have Y6c := hide (Y5c.out.block (jj6.block _ Y5c.out.lt))
                      clear jj6 b0 b1 b2 b3 b4 c0 c1 c2 c3 c4 d0 d1 d2 d3 d4 Y5a Y5b Y5c J5
                      obtain ⟨b0, b1, b2, b3, b4, _⟩ := Y6a.out.all
                      obtain ⟨c0, c1, c2, c3, c4, _⟩ := Y6b.out.all
                      obtain ⟨d0, d1, d2, d3, d4, _⟩ := Y6c.out.all
                      dsimp only at b0 b1 b2 b3 b4 c0 c1 c2 c3 c4 d0 d1 d2 d3 d4
                      go_wp2_with fail
                      with_reducible refine (N4.out _ J6.out).mono ?_
                      rintro e u7 ⟨rfl, jj7⟩
                      have J7 : Hid (Below W8.heap.size W8 u7) := bel_to J6.out (Nat.le_refl _) jj7
                      have Y7a := hide (Y6a.out.block (jj7.block _ Y6a.out.lt))
                      have Y7b := hide (Y6b.out.block (jj7.block _ Y6b.out.lt))
                      have Y7c := hide (Y6c.out.block (jj7.block _ Y6c.out.lt))
                      clear jj7 b0 b1 b2 b3 b4 c0 c1 c2 c3 c4 d0 d1 d2 d3 d4 Y6a Y6b Y6c J6
                      obtain ⟨b0, b1, b2, b3, b4, _⟩ := Y7a.out.all
                      obtain ⟨c0, c1, c2, c3, c4, _⟩ := Y7b.out.all
                      obtain ⟨d0, d1, d2, d3, d4, _⟩ := Y7c.out.all
                      dsimp only at b0 b1 b2 b3 b4 c0 c1 c2 c3 c4 d0 d1 d2 d3 d4
                      go_wp2_with fail
                      with_reducible refine (N5.out _ J7.out).mono ?_
                      rintro e u8 ⟨rfl, jj8⟩
                      have J8 : Hid (Below W8.heap.size W8 u8) := bel_to J7.out (Nat.le_refl _) jj8
                      have Y8a := hide (Y7a.out.block (jj8.block _ Y7a.out.lt))
                      have Y8b := hide (Y7b.out.block (jj8.block _ Y7b.out.lt))
                      have Y8c := hide (Y7c.out.block (jj8.block _ Y7c.out.lt))
                      clear jj8 b0 b1 b2 b3 b4 c0 c1 c2 c3 c4 d0 d1 d2 d3 d4 Y7a Y7b Y7c J7
                      obtain ⟨b0, b1, b2, b3, b4, _⟩ := Y8a.out.all
                      obtain ⟨c0, c1, c2, c3, c4, _⟩ := Y8b.out.all
                      obtain ⟨d0, d1, d2, d3, d4, _⟩ := Y8c.out.all
                      dsimp only at b0 b1 b2 b3 b4 c0 c1 c2 c3 c4 d0 d1 d2 d3 d4
                      have LQ : Hid _ := bel_to L8.out (Nat.le_refl _) J8.out
                      go_wp2_with fail
                      with_reducible refine (AW.out _).mono ?_
                      rintro e vz ⟨rfl, kz⟩
                      have LZ := hide (bel_to LQ.out (Nat.le_refl _) kz)
                      clear kz
                      go_wp2
                      go_ret
                      exact ⟨rfl, LZ.out⟩
                    | true =>
                      rw [show (!false) = true from rfl] at N1
                      rw [show (false && true) = false from rfl] at N2
                      rw [show (false || true) = true from rfl] at N3
                      go_wp2_with fail
                      with_reducible refine (N1.out _ J3.out).mono ?_
                      rintro e u4 ⟨rfl, jj4⟩
                      have J4 : Hid (Below W8.heap.size W8 u4) := bel_to J3.out (Nat.le_refl _) jj4
                      have Y4a := hide (Y3a.out.block (jj4.block _ Y3a.out.lt))
                      have Y4b := hide (Y3b.out.block (jj4.block _ Y3b.out.lt))
                      have Y4c := hide (Y3c.out.block (jj4.block _ Y3c.out.lt))
                      clear jj4 b0 b1 b2 b3 b4 c0 c1 c2 c3 c4 d0 d1 d2 d3 d4 Y3a Y3b Y3c J3
                      obtain ⟨b0, b1, b2, b3, b4, _⟩ := Y4a.out.all
                      obtain ⟨c0, c1, c2, c3, c4, _⟩ := Y4b.out.all
                      obtain ⟨d0, d1, d2, d3, d4, _⟩ := Y4c.out.all
                      dsimp only at b0 b1 b2 b3 b4 c0 c1 c2 c3 c4 d0 d1 d2 d3 d4
                      go_wp2_with fail
                      with_reducible refine (N2.out _ J4.out).mono ?_
                      rintro e u5 ⟨rfl, jj5⟩
                      have J5 : Hid (Below W8.heap.size W8 u5) := bel_to J4.out (Nat.le_refl _) jj5
                      have Y5a := hide (Y4a.out.block (jj5.block _ Y4a.out.lt))
                      have Y5b := hide (Y4b.out.block (jj5.block _ Y4b.out.lt))
                      have Y5c := hide (Y4c.out.block (jj5.block _ Y4c.out.lt))
                      clear jj5 b0 b1 b2 b3 b4 c0 c1 c2 c3 c4 d0 d1 d2 d3 d4 Y4a Y4b Y4c J4
                      obtain ⟨b0, b1, b2, b3, b4, _⟩ := Y5a.out.all
                      obtain ⟨c0, c1, c2, c3, c4, _⟩ := Y5b.out.all
                      obtain ⟨d0, d1, d2, d3, d4, _⟩ := Y5c.out.all
                      dsimp only at b0 b1 b2 b3 b4 c0 c1 c2 c3 c4 d0 d1 d2 d3 d4
                      go_wp2_with fail
                      with_reducible refine (N3.out _ J5.out).mono ?_
                      rintro e u6 ⟨rfl, jj6⟩
                      have J6 : Hid (Below W8.heap.size W8 u6) := bel_to J5.out (Nat.le_refl _) jj6
                      have Y6a := hide (Y5a.out.block (jj6.block _ Y5a.out.lt))
                      have Y6b := hide (Y5b.out.block (jj6.block _ Y5b.out.lt))
                      have Y6c := hide (Y5c.out.block (jj6.block _ Y5c.out.lt))
                      clear jj6 b0 b1 b2 b3 b4 c0 c1 c2 c3 c4 d0 d1 d2 d3 d4 Y5a Y5b Y5c J5
                      obtain ⟨b0, b1, b2, b3, b4, _⟩ := Y6a.out.all
                      obtain ⟨c0, c1, c2, c3, c4, _⟩ := Y6b.out.all
                      obtain ⟨d0, d1, d2, d3, d4, _⟩ := Y6c.out.all
                      dsimp only at b0 b1 b2 b3 b4 c0 c1 c2 c3 c4 d0 d1 d2 d3 d4
                      go_wp2_with fail
                      with_reducible refine (N4.out _ J6.out).mono ?_
                      rintro e u7 ⟨rfl, jj7⟩
                      have J7 : Hid (Below W8.heap.size W8 u7) := bel_to J6.out (Nat.le_refl _) jj7
                      have Y7a := hide (Y6a.out.block (jj7.block _ Y6a.out.lt))
                      have Y7b := hide (Y6b.out.block (jj7.block _ Y6b.out.lt))
                      have Y7c := hide (Y6c.out.block (jj7.block _ Y6c.out.lt))
                      clear jj7 b0 b1 b2 b3 b4 c0 c1 c2 c3 c4 d0 d1 d2 d3 d4 Y6a Y6b Y6c J6
                      obtain ⟨b0, b1, b2, b3, b4, _⟩ := Y7a.out.all
                      obtain ⟨c0, c1, c2, c3, c4, _⟩ := Y7b.out.all
                      obtain ⟨d0, d1, d2, d3, d4, _⟩ := Y7c.out.all
                      dsimp only at b0 b1 b2 b3 b4 c0 c1 c2 c3 c4 d0 d1 d2 d3 d4
                      go_wp2_with fail
                      with_reducible refine (N5.out _ J7.out).mono ?_
                      rintro e u8 ⟨rfl, jj8⟩
                      have J8 : Hid (Below W8.heap.size W8 u8) := bel_to J7.out (Nat.le_refl _) jj8
                      have Y8a := hide (Y7a.out.block (jj8.block _ Y7a.out.lt))
                      have Y8b := hide (Y7b.out.block (jj8.block _ Y7b.out.lt))
                      have Y8c := hide (Y7c.out.block (jj8.block _ Y7c.out.lt))
                      clear jj8 b0 b1 b2 b3 b4 c0 c1 c2 c3 c4 d0 d1 d2 d3 d4 Y7a Y7b Y7c J7
                      obtain ⟨b0, b1, b2, b3, b4, _⟩ := Y8a.out.all
                      obtain ⟨c0, c1, c2, c3, c4, _⟩ := Y8b.out.all
                      obtain ⟨d0, d1, d2, d3, d4, _⟩ := Y8c.out.all
                      dsimp only at b0 b1 b2 b3 b4 c0 c1 c2 c3 c4 d0 d1 d2 d3 d4
                      have LQ : Hid _ := bel_to L8.out (Nat.le_refl _) J8.out
                      go_wp2_with fail
                      with_reducible refine (AW.out _).mono ?_
                      rintro e vz ⟨rfl, kz⟩
                      have LZ := hide (bel_to LQ.out (Nat.le_refl _) kz)
                      clear kz
                      go_wp2
                      go_ret
                      exact ⟨rfl, LZ.out⟩
                  | true =>
                    cases y with
                    | false =>
                      rw [show (!true) = false from rfl] at N1
                      rw [show (true && false) = false from rfl] at N2
                      rw [show (true || false) = true from rfl] at N3
                      go_wp2_with fail
                      with_reducible refine (N1.out _ J3.out).mono ?_
                      rintro e u4 ⟨rfl, jj4⟩
                      have J4 : Hid (Below W8.heap.size W8 u4) := bel_to J3.out (Nat.le_refl _) jj4
                      have Y4a := hide (Y3a.out.block (jj4.block _ Y3a.out.lt))
                      have Y4b := hide (Y3b.out.block (jj4.block _ Y3b.out.lt))
                      have Y4c := hide (Y3c.out.block (jj4.block _ Y3c.out.lt))
                      clear jj4 b0 b1 b2 b3 b4 c0 c1 c2 c3 c4 d0 d1 d2 d3 d4 Y3a Y3b Y3c J3
                      obtain ⟨b0, b1, b2, b3, b4, _⟩ := Y4a.out.all
                      obtain ⟨c0, c1, c2, c3, c4, _⟩ := Y4b.out.all
                      obtain ⟨d0, d1, d2, d3, d4, _⟩ := Y4c.out.all
                      dsimp only at b0 b1 b2 b3 b4 c0 c1 c2 c3 c4 d0 d1 d2 d3 d4
                      go_wp2_with fail
                      with_reducible refine (N2.out _ J4.out).mono ?_
                      rintro e u5 ⟨rfl, jj5⟩
                      have J5 : Hid (Below W8.heap.size W8 u5) := bel_to J4.out (Nat.le_refl _) jj5
                      have Y5a := hide (Y4a.out.block (jj5.block _ Y4a.out.lt))
                      have Y5b := hide (Y4b.out.block (jj5.block _ Y4b.out.lt))
                      have Y5c := hide (Y4c.out.block (jj5.block _ Y4c.out.lt))
                      clear jj5 b0 b1 b2 b3 b4 c0 c1 c2 c3 c4 d0 d1 d2 d3 d4 Y4a Y4b Y4c J4
                      obtain ⟨b0, b1, b2, b3, b4, _⟩ := Y5a.out.all
                      obtain ⟨c0, c1, c2, c3, c4, _⟩ := Y5b.out.all
                      obtain ⟨d0, d1, d2, d3, d4, _⟩ := Y5c.out.all
                      dsimp only at b0 b1 b2 b3 b4 c0 c1 c2 c3 c4 d0 d1 d2 d3 d4
                      go_wp2_with fail
                      with_reducible refine (N3.out _ J5.out).mono ?_
                      rintro e u6 ⟨rfl, jj6⟩
                      have J6 : Hid (Below W8.heap.size W8 u6) := bel_to J5.out (Nat.le_refl _) jj6
                      have Y6a := hide (Y5a.out.block (jj6.block _ Y5a.out.lt))
                      have Y6b := hide (Y5b.out.block (jj6.block _ Y5b.out.lt))
                      have Y6c := hide (Y5c.out.block (jj6.block _ Y5c.out.lt))
                      clear jj6 b0 b1 b2 b3 b4 c0 c1 c2 c3 c4 d0 d1 d2 d3 d4 Y5a Y5b Y5c J5
                      obtain ⟨b0, b1, b2, b3, b4, _⟩ := Y6a.out.all
                      obtain ⟨c0, c1, c2, c3, c4, _⟩ := Y6b.out.all
                      obtain ⟨d0, d1, d2, d3, d4, _⟩ := Y6c.out.all
                      dsimp only at b0 b1 b2 b3 b4 c0 c1 c2 c3 c4 d0 d1 d2 d3 d4
                      go_wp2_with fail
                      with_reducible refine (N4.out _ J6.out).mono ?_
                      rintro e u7 ⟨rfl, jj7⟩
                      have J7 : Hid (Below W8.heap.size W8 u7) := bel_to J6.out (Nat.le_refl _) jj7
                      have Y7a := hide (Y6a.out.block (jj7.block _ Y6a.out.lt))
                      have Y7b := hide (Y6b.out.block (jj7.block _ Y6b.out.lt))
                      have Y7c := hide (Y6c.out.block (jj7.block _ Y6c.out.lt))
                      clear jj7 b0 b1 b2 b3 b4 c0 c1 c2 c3 c4 d0 d1 d2 d3 d4 Y6a Y6b Y6c J6
                      obtain ⟨b0, b1, b2, b3, b4, _⟩ := Y7a.out.all
                      obtain ⟨c0, c1, c2, c3, c4, _⟩ := Y7b.out.all
                      obtain ⟨d0, d1, d2, d3, d4, _⟩ := Y7c.out.all
                      dsimp only at b0 b1 b2 b3 b4 c0 c1 c2 c3 c4 d0 d1 d2 d3 d4
                      go_wp2_with fail
                      with_reducible refine (N5.out _ J7.out).mono ?_
                      rintro e u8 ⟨rfl, jj8⟩
                      have J8 : Hid (Below W8.heap.size W8 u8) := bel_to J7.out (Nat.le_refl _) jj8
                      have Y8a := hide (Y7a.out.block (jj8.block _ Y7a.out.lt))
                      have Y8b := hide (Y7b.out.block (jj8.block _ Y7b.out.lt))
                      have Y8c := hide (Y7c.out.block (jj8.block _ Y7c.out.lt))
                      clear jj8 b0 b1 b2 b3 b4 c0 c1 c2 c3 c4 d0 d1 d2 d3 d4 Y7a Y7b Y7c J7
                      obtain ⟨b0, b1, b2, b3, b4, _⟩ := Y8a.out.all
                      obtain ⟨c0, c1, c2, c3, c4, _⟩ := Y8b.out.all
                      obtain ⟨d0, d1, d2, d3, d4, _⟩ := Y8c.out.all
                      dsimp only at b0 b1 b2 b3 b4 c0 c1 c2 c3 c4 d0 d1 d2 d3 d4
                      have LQ : Hid _ := bel_to L8.out (Nat.le_refl _) J8.out
                      go_wp2_with fail
                      with_reducible refine (AW.out _).mono ?_
                      rintro e vz ⟨rfl, kz⟩
                      have LZ := hide (bel_to LQ.out (Nat.le_refl _) kz)
                      clear kz
                      go_wp2
                      go_ret
                      exact ⟨rfl, LZ.out⟩
                    | true =>
                      rw [show (!true) = false from rfl] at N1
                      rw [show (true && true) = true from rfl] at N2
                      rw [show (true || true) = true from rfl] at N3
                      go_wp2_with fail
                      with_reducible refine (N1.out _ J3.out).mono ?_
                      rintro e u4 ⟨rfl, jj4⟩
                      have J4 : Hid (Below W8.heap.size W8 u4) := bel_to J3.out (Nat.le_refl _) jj4
                      have Y4a := hide (Y3a.out.block (jj4.block _ Y3a.out.lt))
                      have Y4b := hide (Y3b.out.block (jj4.block _ Y3b.out.lt))
                      have Y4c := hide (Y3c.out.block (jj4.block _ Y3c.out.lt))
                      clear jj4 b0 b1 b2 b3 b4 c0 c1 c2 c3 c4 d0 d1 d2 d3 d4 Y3a Y3b Y3c J3
                      obtain ⟨b0, b1, b2, b3, b4, _⟩ := Y4a.out.all
                      obtain ⟨c0, c1, c2, c3, c4, _⟩ := Y4b.out.all
                      obtain ⟨d0, d1, d2, d3, d4, _⟩ := Y4c.out.all
                      dsimp only at b0 b1 b2 b3 b4 c0 c1 c2 c3 c4 d0 d1 d2 d3 d4
                      go_wp2_with fail
                      with_reducible refine (N2.out _ J4.out).mono ?_
                      rintro e u5 ⟨rfl, jj5⟩
                      have J5 : Hid (Below W8.heap.size W8 u5) := bel_to J4.out (Nat.le_refl _) jj5
                      have Y5a := hide (Y4a.out.block (jj5.block _ Y4a.out.lt))
                      have Y5b := hide (Y4b.out.block (jj5.block _ Y4b.out.lt))
                      have Y5c := hide (Y4c.out.block (jj5.block _ Y4c.out.lt))
                      clear jj5 b0 b1 b2 b3 b4 c0 c1 c2 c3 c4 d0 d1 d2 d3 d4 Y4a Y4b Y4c J4
                      obtain ⟨b0, b1, b2, b3, b4, _⟩ := Y5a.out.all
                      obtain ⟨c0, c1, c2, c3, c4, _⟩ := Y5b.out.all
                      obtain ⟨d0, d1, d2, d3, d4, _⟩ := Y5c.out.all
                      dsimp only at b0 b1 b2 b3 b4 c0 c1 c2 c3 c4 d0 d1 d2 d3 d4
                      go_wp2_with fail
                      with_reducible refine (N3.out _ J5.out).mono ?_
                      rintro e u6 ⟨rfl, jj6⟩
                      have J6 : Hid (Below W8.heap.size W8 u6) := bel_to J5.out (Nat.le_refl _) jj6
                      have Y6a := hide (Y5a.out.block (jj6.block _ Y5a.out.lt))
                      have Y6b := hide (Y5b.out.block (jj6.block _ Y5b.out.lt))
                      have Y6c := hide (Y5c.out.block (jj6.block _ Y5c.out.lt))
                      clear jj6 b0 b1 b2 b3 b4 c0 c1 c2 c3 c4 d0 d1 d2 d3 d4 Y5a Y5b Y5c J5
                      obtain ⟨b0, b1, b2, b3, b4, _⟩ := Y6a.out.all
                      obtain ⟨c0, c1, c2, c3, c4, _⟩ := Y6b.out.all
                      obtain ⟨d0, d1, d2, d3, d4, _⟩ := Y6c.out.all
                      dsimp only at b0 b1 b2 b3 b4 c0 c1 c2 c3 c4 d0 d1 d2 d3 d4
                      go_wp2_with fail
                      with_reducible refine (N4.out _ J6.out).mono ?_
                      rintro e u7 ⟨rfl, jj7⟩
                      have J7 : Hid (Below W8.heap.size W8 u7) := bel_to J6.out (Nat.le_refl _) jj7
                      have Y7a := hide (Y6a.out.block (jj7.block _ Y6a.out.lt))
                      have Y7b := hide (Y6b.out.block (jj7.block _ Y6b.out.lt))
                      have Y7c := hide (Y6c.out.block (jj7.block _ Y6c.out.lt))
                      clear jj7 b0 b1 b2 b3 b4 c0 c1 c2 c3 c4 d0 d1 d2 d3 d4 Y6a Y6b Y6c J6
                      obtain ⟨b0, b1, b2, b3, b4, _⟩ := Y7a.out.all
                      obtain ⟨c0, c1, c2, c3, c4, _⟩ := Y7b.out.all
                      obtain ⟨d0, d1, d2, d3, d4, _⟩ := Y7c.out.all
                      dsimp only at b0 b1 b2 b3 b4 c0 c1 c2 c3 c4 d0 d1 d2 d3 d4
                      go_wp2_with fail
                      with_reducible refine (N5.out _ J7.out).mono ?_
                      rintro e u8 ⟨rfl, jj8⟩
                      have J8 : Hid (Below W8.heap.size W8 u8) := bel_to J7.out (Nat.le_refl _) jj8
                      have Y8a := hide (Y7a.out.block (jj8.block _ Y7a.out.lt))
                      have Y8b := hide (Y7b.out.block (jj8.block _ Y7b.out.lt))
                      have Y8c := hide (Y7c.out.block (jj8.block _ Y7c.out.lt))
                      clear jj8 b0 b1 b2 b3 b4 c0 c1 c2 c3 c4 d0 d1 d2 d3 d4 Y7a Y7b Y7c J7
                      obtain ⟨b0, b1, b2, b3, b4, _⟩ := Y8a.out.all
                      obtain ⟨c0, c1, c2, c3, c4, _⟩ := Y8b.out.all
                      obtain ⟨d0, d1, d2, d3, d4, _⟩ := Y8c.out.all
                      dsimp only at b0 b1 b2 b3 b4 c0 c1 c2 c3 c4 d0 d1 d2 d3 d4
                      have LQ : Hid _ := bel_to L8.out (Nat.le_refl _) J8.out
                      go_wp2_with fail
                      with_reducible refine (AW.out _).mono ?_
                      rintro e vz ⟨rfl, kz⟩
                      have LZ := hide (bel_to LQ.out (Nat.le_refl _) kz)
                      clear kz
                      go_wp2
                      go_ret
                      exact ⟨rfl, LZ.out⟩
end Go.Proofs.Ythebcmkainplnaa
