/-
  The law of layer 8 that to merge may be turned round and grouped, of any layer that keeps its contracts.
  Conditions: the contracts.
-/
import Derived.Test.YtlhiikibbppodaaKmvT
namespace Go.Proofs.Ytlhiikibbppodaa
open Go.RowKit

/-- What is asked of Merge. -/
structure KmvIM (At : World → Nat → (Nat → Prop) → List Int → Prop) : Prop where
  mergeOk : ∀ (g : Nat) (S : Nat → Prop) (l : List Int) (a : Option Addr) (n cap : Nat) (m : List Int) (w : World), At w g S l → Row .u64 w a n m → (0 < n → ∀ x, a = some x → ¬ S x.block) → chkK m = true →
    Calls Try.prog 18 #[.pointer (some ⟨g, 0, none⟩), .slice a n cap] w fun e w' => e = .returned (.int .i64 0) ∧ StepK At w w' g S (hashAll 1024 l m)
  mergeNo : ∀ (g : Nat) (S : Nat → Prop) (l : List Int) (a : Option Addr) (n cap : Nat) (m : List Int) (w : World), At w g S l → Row .u64 w a n m → chkK m = false →
    Calls Try.prog 18 #[.pointer (some ⟨g, 0, none⟩), .slice a n cap] w fun e w' => e = .returned (.int .i64 5) ∧ Below w.heap.size w w'

section
variable {At : World → Nat → (Nat → Prop) → List Int → Prop}
/-- Numbers of a call's own are merged. -/
theorem PoolB.merge (I : KmvI At) (IM : KmvIM At) {w W : World} {N : Nat} (q1 q2 : List (Nat × List Int)) {g : Nat} {l : List Int} (h : PoolB At w W N (q1 ++ (g, l) :: q2)) {a : Option Addr} {n cap : Nat} {m : List Int} (o : OwnU W N a n cap m) (hn : n ≤ 281474976710656) (hw : ∀ x ∈ m, W64 x) (hck : chkK m = true) :
    Calls Try.prog 18 #[.pointer (some ⟨g, 0, none⟩), .slice a n cap] W fun e W' => e = .returned (.int .i64 0) ∧ PoolK At w W' (q1 ++ (g, hashAll 1024 l m) :: q2) := by
  obtain ⟨S, h1, h2, h3⟩ := h.step I (l' := hashAll 1024 l m)
  refine (IM.mergeOk g S l a n cap m W h1 (OwnU.rowU o hn hw) (fun _ x hx hs => ?_) hck).mono ?_
  · subst hx
    have hb := own_block o x.block rfl
    have := (h2 _ hs).2
    omega
  · rintro e W' ⟨rfl, st⟩
    exact ⟨rfl, h3 W' st⟩
/-- .. with numbers that came in. -/
theorem PoolK.merge (I : KmvI At) (IM : KmvIM At) {w W : World} (q1 q2 : List (Nat × List Int)) {g : Nat} {l : List Int} (h : PoolK At w W (q1 ++ (g, l) :: q2)) {a : Option Addr} {n : Nat} (cap : Nat) {m : List Int} (hr : Row .u64 w a n m) (hck : chkK m = true) :
    Calls Try.prog 18 #[.pointer (some ⟨g, 0, none⟩), .slice a n cap] W fun e W' => e = .returned (.int .i64 0) ∧ PoolK At w W' (q1 ++ (g, hashAll 1024 l m) :: q2) := by
  obtain ⟨S, h1, h2, h3⟩ := (h.bound I).step I (l' := hashAll 1024 l m)
  refine (IM.mergeOk g S l a n cap m W h1 (hr.below h.low (Nat.le_refl _)) ?_ hck).mono (by
    rintro e W' ⟨rfl, st⟩
    exact ⟨rfl, h3 W' st⟩)
  intro hn x hx hs
  subst hx
  obtain ⟨b, off, hb, hc⟩ := row_at hr hn
  have hlt : b < w.heap.size := World.block_lt_of_cell? w _ (hc 0 hn w (Below.refl _ _))
  simp only [Option.some.injEq] at hb
  subst hb
  have := (h2 _ hs).1
  simp only at this
  omega
end
theorem merge_again {n : Nat} {a b c : List Int} (ha : Up a) (hb : Up b) (hc : Up c) (la : a.length ≤ n) (lb : b.length ≤ n) (lc : c.length ≤ n) : hashAll n (hashAll n a (hashAll n b c)) b = hashAll n (hashAll n a b) c := by
  rw [← (merge_turn ha hb hc la lb lc).2]
  rw [hashAll_uni (hashAll_len (hashAll_len la)), hashAll_uni (hashAll_len la), uni_take_left, hashAll_uni la]
  rw [uni_take_left (a := uni a b) (b := c), ← uni_take_left (a := uni ((uni a b).take n) c), uni_take_left (a := uni a b) (b := c), uni_take_left (a := uni (uni a b) c)]
  congr 1
  exact uni_same (up_uni (up_uni ha)) (fun x hx => mem_uni.2 (Or.inl (mem_uni.2 (Or.inr hx))))

set_option maxRecDepth 20000 in
set_option maxHeartbeats 4000000 in
theorem turns_of {At : World → Nat → (Nat → Prop) → List Int → Prop} (I : KmvI At) (IM : KmvIM At) (a : Option Addr) (na ca : Nat) (za : List Int) (b : Option Addr) (nb cb : Nat) (zb : List Int) (c : Option Addr) (nc cc : Nat) (zc : List Int) (w : World)
    (w0 : IsRow .u64 w a na ca za) (w1 : IsRow .u64 w b nb cb zb) (w2 : IsRow .u64 w c nc cc zc) :
    Calls Try.prog 7 #[.slice a na ca, .slice b nb cb, .slice c nc cc] w fun e w' => e = .returned (.bool true) ∧ Below w.heap.size w w' := by
  obtain ⟨a1, a2, a3, RA⟩ := row_of w0
  obtain ⟨b1, b2, b3, RB⟩ := row_of w1
  obtain ⟨c1, c2, c3, RC⟩ := row_of w2
  have kb8 : kb .u64 = 8 := rfl
  rw [kb8] at a2 b2 c2
  clear w0 w1 w2 kb8
  generalize za.take na = la at RA
  generalize zb.take nb = lb at RB
  generalize zc.take nc = lc at RC
  have HA := hide RA
  have HB := hide RB
  have HC := hide RC
  have HI := hide I
  have HIM := hide IM
  have AW := hide (fun W (bl : Below w.heap.size w W) => (awakeK_any I W).mono (fun e W' (h : e = .returned (.bool true) ∧ Below W.heap.size W W') => (⟨h.1, bl.trans (h.2.mono bl.size)⟩ : e = .returned (.bool true) ∧ Below w.heap.size w W')))
  have CA := hide (refchk_any a na ca la w RA)
  have CB := hide (fun q => refchk_any b nb cb lb (w.drewN q) (RB.below (bel_drewN (Below.refl w.heap.size w) q) (Nat.le_refl _)))
  have CC := hide (fun q => refchk_any c nc cc lc (w.drewN q) (RC.below (bel_drewN (Below.refl w.heap.size w) q) (Nat.le_refl _)))
  have DQ : Hid (∀ q, Below w.heap.size w (w.drewN q)) := fun q => bel_drewN (Below.refl _ _) q
  clear RA RB RC I IM
  by_cases ka : chkK la = true
  case neg =>
    rw [show chkK la = false by simpa using ka] at CA
    go_enter Try.func7, Try.ntmps7
    go_wp2_with fail
    refine CA.out.mono ?_
    rintro e w1 ⟨rfl, q, rfl⟩
    go_wp2_with fail
    refine (AW.out _ (DQ.out q)).mono ?_
    rintro e w2 ⟨rfl, bl⟩
    have BL := hide bl
    clear bl
    go_wp2
    go_ret
    exact ⟨rfl, BL.out⟩
  rw [ka] at CA
  by_cases kb : chkK lb = true
  case neg =>
    rw [show chkK lb = false by simpa using kb] at CB
    go_enter Try.func7, Try.ntmps7
    go_wp2_with fail
    refine CA.out.mono ?_
    rintro e w1 ⟨rfl, q, rfl⟩
    go_wp2_with fail
    refine (CB.out q).mono ?_
    rintro e w1 ⟨rfl, q2, rfl⟩
    rw [World.drewN_drewN]
    go_wp2_with fail
    refine (AW.out _ (DQ.out (q + q2))).mono ?_
    rintro e w2 ⟨rfl, bl⟩
    have BL := hide bl
    clear bl
    go_wp2
    go_ret
    exact ⟨rfl, BL.out⟩
  rw [kb] at CB
  by_cases kc : chkK lc = true
  case neg =>
    rw [show chkK lc = false by simpa using kc] at CC
    go_enter Try.func7, Try.ntmps7
    go_wp2_with fail
    refine CA.out.mono ?_
    rintro e w1 ⟨rfl, q, rfl⟩
    go_wp2_with fail
    refine (CB.out q).mono ?_
    rintro e w1 ⟨rfl, q2, rfl⟩
    rw [World.drewN_drewN]
    go_wp2_with fail
    refine (CC.out (q + q2)).mono ?_
    rintro e w1 ⟨rfl, q3, rfl⟩
    rw [World.drewN_drewN]
    go_wp2_with fail
    refine (AW.out _ (DQ.out (q + q2 + q3))).mono ?_
    rintro e w2 ⟨rfl, bl⟩
    have BL := hide bl
    clear bl
    go_wp2
    go_ret
    exact ⟨rfl, BL.out⟩
  rw [kc] at CC
  have HT : Hid (hashAll 1024 (hashAll 1024 lc lb) la = hashAll 1024 (hashAll 1024 la lb) lc ∧ hashAll 1024 (hashAll 1024 la (hashAll 1024 lb lc)) lb = hashAll 1024 (hashAll 1024 la lb) lc) := by
    obtain ⟨u1, l1⟩ := chk_up ka
    obtain ⟨u2, l2⟩ := chk_up kb
    obtain ⟨u3, l3⟩ := chk_up kc
    exact ⟨(merge_turn u1 u2 u3 l1 l2 l3).1.symm, merge_again u1 u2 u3 l1 l2 l3⟩
  have KZ : Hid (chkK (hashAll 1024 lb lc) = true) := by
    obtain ⟨u2, l2⟩ := chk_up kb
    refine up_chk (hashAll_up u2) (hashAll_len l2) ?_
    intro x hx
    rw [hashAll_uni l2] at hx
    rcases mem_uni.1 (List.mem_of_mem_take hx) with h | h
    · exact HB.out.words x h
    · exact HC.out.words x h
  have KA := hide ka
  have KB := hide kb
  have KC := hide kc
  clear ka kb kc
  have NA := hide (fun W (bl : Below w.heap.size w W) => numsK_any a na ca la W (HA.out.below bl (Nat.le_refl _)) a3 (by omega))
  have NB := hide (fun W (bl : Below w.heap.size w W) => numsK_any b nb cb lb W (HB.out.below bl (Nat.le_refl _)) b3 (by omega))
  have NC := hide (fun W (bl : Below w.heap.size w W) => numsK_any c nc cc lc W (HC.out.below bl (Nat.le_refl _)) c3 (by omega))
  clear a1 a2 a3 b1 b2 b3 c1 c2 c3
  go_enter Try.func7, Try.ntmps7
  go_wp2_with fail
  refine CA.out.mono ?_
  rintro e w1 ⟨rfl, q, rfl⟩
  go_wp2_with fail
  refine (CB.out q).mono ?_
  rintro e w1 ⟨rfl, q2, rfl⟩
  rw [World.drewN_drewN]
  go_wp2_with fail
  refine (CC.out (q + q2)).mono ?_
  rintro e w1 ⟨rfl, q3, rfl⟩
  rw [World.drewN_drewN]
  have P0 : Hid (PoolK At w (w.drewN (q + q2 + q3)) []) := PoolK.nil (DQ.out _)
  generalize w.drewN (q + q2 + q3) = W0 at *
  clear CA CB CC DQ
  have N1 := hide (NA.out _ P0.out.low)
  go_wp2_with fail
  refine N1.out.mono ?_
  rintro e V1 ⟨a1, k1, rfl, o1, bl1⟩
  have F1 := hide ((P0.out.below HI.out bl1).from HI.out k1 (OwnU.rowU o1 HA.out.2.1 HA.out.words) KA.out)
  clear o1 bl1 N1 P0
  go_wp2_with fail
  refine F1.out.mono ?_
  rintro e W1 ⟨gx, rfl, p1⟩
  have P1 := hide p1
  clear p1 F1
  have N2 := hide (NC.out _ P1.out.low)
  go_wp2_with fail
  refine N2.out.mono ?_
  rintro e V2 ⟨a2, k2, rfl, o2, bl2⟩
  have F2 := hide ((P1.out.below HI.out bl2).from HI.out k2 (OwnU.rowU o2 HC.out.2.1 HC.out.words) KC.out)
  clear o2 bl2 N2 P1
  go_wp2_with fail
  refine F2.out.mono ?_
  rintro e W2 ⟨gy, rfl, p2⟩
  have P2 := hide p2
  clear p2 F2
  have N3 := hide (NB.out _ P2.out.low)
  go_wp2_with fail
  refine N3.out.mono ?_
  rintro e V3 ⟨a3, k3, rfl, o3, bl3⟩
  have F3 := hide ((P2.out.below HI.out bl3).from HI.out k3 (OwnU.rowU o3 HB.out.2.1 HB.out.words) KB.out)
  clear o3 bl3 N3 P2
  go_wp2_with fail
  refine F3.out.mono ?_
  rintro e W3 ⟨gz, rfl, p3⟩
  have P3 := hide p3
  clear p3 F3
  have M4 := hide (PoolK.merge HI.out HIM.out [(gz, lb), (gy, lc)] [] P3.out cb HB.out KB.out)
  clear P3
  go_wp2_with fail
  refine M4.out.mono ?_
  rintro e W4 ⟨rfl, p4⟩
  have P4 := hide p4
  clear p4 M4
  have M5 := hide (PoolK.merge HI.out HIM.out [(gz, lb), (gy, lc)] [] P4.out cc HC.out KC.out)
  clear P4
  go_wp2_with fail
  refine M5.out.mono ?_
  rintro e W5 ⟨rfl, p5⟩
  have P5 := hide p5
  clear p5 M5
  have M6 := hide (PoolK.merge HI.out HIM.out [] [(gy, lc), (gx, hashAll 1024 (hashAll 1024 la lb) lc)] P5.out cc HC.out KC.out)
  clear P5
  go_wp2_with fail
  refine M6.out.mono ?_
  rintro e W6 ⟨rfl, p6⟩
  have P6 := hide p6
  clear p6 M6
  have M7 := hide (PoolK.merge HI.out HIM.out [(gz, hashAll 1024 lb lc)] [(gx, hashAll 1024 (hashAll 1024 la lb) lc)] P6.out cb HB.out KB.out)
  clear P6
  go_wp2_with fail
  refine M7.out.mono ?_
  rintro e W7 ⟨rfl, p7⟩
  have P7 := hide p7
  clear p7 M7
  have M8 := hide (PoolK.merge HI.out HIM.out [(gz, hashAll 1024 lb lc)] [(gx, hashAll 1024 (hashAll 1024 la lb) lc)] P7.out ca HA.out KA.out)
  clear P7
  go_wp2_with fail
  refine M8.out.mono ?_
  rintro e W8 ⟨rfl, p8⟩
  have P8 := hide p8
  clear p8 M8
  have N9 := hide (NA.out _ P8.out.low)
  go_wp2_with fail
  refine N9.out.mono ?_
  rintro e V9 ⟨a9, k9, rfl, o9, bl9⟩
  have F9 := hide ((P8.out.below HI.out bl9).from HI.out k9 (OwnU.rowU o9 HA.out.2.1 HA.out.words) KA.out)
  clear o9 bl9 N9 P8
  go_wp2_with fail
  refine F9.out.mono ?_
  rintro e W9 ⟨gw, rfl, p9⟩
  have P9 := hide p9
  clear p9 F9
  have H10 := hide (PoolK.hashes HI.out [(gw, la)] [(gy, hashAll 1024 (hashAll 1024 lc lb) la), (gx, hashAll 1024 (hashAll 1024 la lb) lc)] P9.out)
  go_wp2_with fail
  refine H10.out.mono ?_
  rintro e W10 ⟨a10, k10, rfl, o10, r10, bl10, p10⟩
  have M11 := hide (PoolB.merge HI.out HIM.out [] [(gz, hashAll 1024 lb lc), (gy, hashAll 1024 (hashAll 1024 lc lb) la), (gx, hashAll 1024 (hashAll 1024 la lb) lc)] p10 o10 (by have := (chk_up KZ.out).2; omega) r10.words KZ.out)
  clear o10 r10 bl10 p10 P9 H10
  go_wp2_with fail
  refine M11.out.mono ?_
  rintro e W11 ⟨rfl, p11⟩
  have P11 := hide p11
  clear p11 M11
  have M12 := hide (PoolK.merge HI.out HIM.out [] [(gz, hashAll 1024 lb lc), (gy, hashAll 1024 (hashAll 1024 lc lb) la), (gx, hashAll 1024 (hashAll 1024 la lb) lc)] P11.out cb HB.out KB.out)
  clear P11
  go_wp2_with fail
  refine M12.out.mono ?_
  rintro e W12 ⟨rfl, p12⟩
  have P12 := hide p12
  clear p12 M12
  have H13 := hide (PoolK.hashes HI.out [(gw, hashAll 1024 (hashAll 1024 la (hashAll 1024 lb lc)) lb), (gz, hashAll 1024 lb lc), (gy, hashAll 1024 (hashAll 1024 lc lb) la)] [] P12.out)
  go_wp2_with fail
  refine H13.out.mono ?_
  rintro e W13 ⟨a13, k13, rfl, -, r13, bl13, p13⟩
  have P13 := hide p13.pool
  have R13 := hide r13
  have B13 := hide bl13
  clear r13 bl13 p13 P12 H13
  have H14 := hide (PoolK.hashes HI.out [(gw, hashAll 1024 (hashAll 1024 la (hashAll 1024 lb lc)) lb), (gz, hashAll 1024 lb lc)] [(gx, hashAll 1024 (hashAll 1024 la lb) lc)] P13.out)
  go_wp2_with fail
  refine H14.out.mono ?_
  rintro e W14 ⟨a14, k14, rfl, -, r14, bl14, p14⟩
  have P14 := hide p14.pool
  have R14 := hide r14
  have B14 := hide bl14
  clear r14 bl14 p14 P13 H14
  have S15 := hide (same_any a13 _ k13 _ a14 _ k14 _ W14 (R13.out.below B14.out (Nat.le_refl _)) R14.out)
  rw [decide_eq_true (HT.out.1.symm)] at S15
  go_wp2_with fail
  refine S15.out.mono ?_
  rintro e W15 ⟨rfl, bl15⟩
  have P15 := hide (P14.out.below HI.out bl15)
  clear bl15 S15 P14 R13 R14 B13 B14
  have H16 := hide (PoolK.hashes HI.out [(gw, hashAll 1024 (hashAll 1024 la (hashAll 1024 lb lc)) lb), (gz, hashAll 1024 lb lc), (gy, hashAll 1024 (hashAll 1024 lc lb) la)] [] P15.out)
  go_wp2_with fail
  refine H16.out.mono ?_
  rintro e W16 ⟨a16, k16, rfl, -, r16, bl16, p16⟩
  have P16 := hide p16.pool
  have R16 := hide r16
  have B16 := hide bl16
  clear r16 bl16 p16 P15 H16
  have H17 := hide (PoolK.hashes HI.out [] [(gz, hashAll 1024 lb lc), (gy, hashAll 1024 (hashAll 1024 lc lb) la), (gx, hashAll 1024 (hashAll 1024 la lb) lc)] P16.out)
  go_wp2_with fail
  refine H17.out.mono ?_
  rintro e W17 ⟨a17, k17, rfl, -, r17, bl17, p17⟩
  have P17 := hide p17.pool
  have R17 := hide r17
  have B17 := hide bl17
  clear r17 bl17 p17 P16 H17
  have S18 := hide (same_any a16 _ k16 _ a17 _ k17 _ W17 (R16.out.below B17.out (Nat.le_refl _)) R17.out)
  rw [decide_eq_true (HT.out.2.symm)] at S18
  go_wp2_with fail
  refine S18.out.mono ?_
  rintro e W18 ⟨rfl, bl18⟩
  have P18 := hide (P17.out.below HI.out bl18)
  clear bl18 S18 P17 R16 R17 B16 B17
  go_wp2_with fail
  refine (AW.out _ P18.out.low).mono ?_
  rintro e W19 ⟨rfl, bl⟩
  have BL := hide bl
  clear bl P18
  go_wp2
  go_ret
  exact ⟨rfl, BL.out⟩
end Go.Proofs.Ytlhiikibbppodaa
