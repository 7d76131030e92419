/-
  Of hashes in any order behind any list that may be, those that are kept rise, are at most 1024, and none that was dropped is below one that is kept; the document's example holds. The call returns true, and its arguments read as they did.
  Conditions: none: every value of the parameters' types.
-/
import Derived.Test.YtlhiikibbppodabKmvE
import Derived.Test.YtlhiikibbppodabKmvMa
import Derived.Deep.DeepCutAuto
import Derived.Deep.RegionWith
import Derived.Deep.DrawnRows
import Derived.ProofKit
import Derived.OpenShut
import Derived.ShutString
import Derived.ChangeOld
import Derived.SizedLaws
namespace Go.Proofs.Ytlhiikibbppodab
open Go.RowKit

/-- What is not among the first n of a rising list is above them all. -/
theorem take_out {U : List Int} (hu : Up U) {n : Nat} (hn : 0 < n) {x : Int} (hx : x ∈ U) (ho : x ∉ U.take n) : (U.take n).length = n ∧ (U.take n).getLastD 0 < x := by
  have hd : x ∈ U.drop n := by
    rw [← List.take_append_drop n U] at hx
    rcases List.mem_append.1 hx with h | h
    · exact absurd h ho
    · exact h
  have hlen : n < U.length := by
    rcases Nat.lt_or_ge n U.length with h | h
    · exact h
    · rw [List.drop_of_length_le h] at hd
      cases hd
  have hl : (U.take n).length = n := by rw [List.length_take]; omega
  refine ⟨hl, ?_⟩
  have hne : U.take n ≠ [] := fun e => by rw [e] at hl; simp at hl; omega
  unfold Up at hu
  rw [← List.take_append_drop n U] at hu
  exact (List.pairwise_append.1 hu).2.2 _ (last_mem hne) x hd
theorem least_out {l f : List Int} (hu : Up f) (hl : f.length ≤ 1024) {x : Int} (hx : x ∈ f ∨ x ∈ l) (ho : x ∉ hashAll 1024 f l) : (hashAll 1024 f l).length = 1024 ∧ (hashAll 1024 f l).getLastD 0 < x := by
  rw [hashAll_uni hl] at ho ⊢
  exact take_out (up_uni hu) (by decide) (mem_uni.2 hx) ho
theorem up_step {M : List Int} (h : Up M) {j : Nat} (hj : j + 1 < M.length) : M.getD j 0 < M.getD (j + 1) 0 := by
  unfold Up at h
  rw [List.getD_eq_getElem?_getD, List.getD_eq_getElem?_getD, List.getElem?_eq_getElem (by omega), List.getElem?_eq_getElem hj]
  exact List.pairwise_iff_getElem.1 h j (j + 1) (by omega) hj (by omega)
theorem hashAll_words {n : Nat} {l m : List Int} (hl : ∀ x ∈ l, W64 x) (hm : ∀ x ∈ m, W64 x) : ∀ x ∈ hashAll n l m, W64 x := by
  unfold hashAll
  induction m generalizing l with
  | nil => exact hl
  | cons h t ih => exact ih (words_hashK (hm h (List.mem_cons_self ..)) hl) (fun y hy => hm y (List.mem_cons_of_mem _ hy))
theorem hashAll_step {n : Nat} {l m : List Int} {k : Nat} (hk : k < m.length) : hashK n (hashAll n l (m.take k)) (m.getD k 0) = hashAll n l (m.take (k + 1)) := by
  rw [take_num hk, hashAll_append]
  rfl
theorem mem_take_num {M : List Int} {k : Nat} (hk : k < M.length) (x : Int) : decide (x ∈ M.take (k + 1)) = (decide (x ∈ M.take k) || (M.getD k 0 == x)) := by
  rw [take_num hk]
  by_cases h : x ∈ M.take k
  · simp [h]
  · by_cases e : M.getD k 0 = x
    · rw [e]; simp
    · have e2 : ¬ x = M.getD k 0 := fun h => e h.symm
      have e3 : (M.getD k 0 == x) = false := by rw [beq_eq_false_iff_ne]; exact e
      rw [e3, decide_eq_false h]
      simp only [List.mem_append, List.mem_singleton, h, e2, or_self, decide_false, Bool.or_self]

/-- Worlds that a draw alone has passed. -/
def Dr (w5 w : World) : Prop := ∃ q, w = w5.drewN q
theorem Dr.more {w5 w : World} (h : Dr w5 w) (j : Nat) : Dr w5 (w.drewN j) := by
  obtain ⟨q, rfl⟩ := h
  exact ⟨q + j, by simp [World.drewN, Nat.add_assoc]⟩
theorem Dr.bel {w5 w : World} (h : Dr w5 w) {B : Nat} {w0 : World} (b : Below B w0 w5) : Below B w0 w := by
  obtain ⟨q, rfl⟩ := h
  exact bel_drewN b q

set_option maxRecDepth 40000 in
set_option maxHeartbeats 8000000 in
theorem walk_least (al : Option Addr) (nl cl : Nat) (zl : List Int) (af : Option Addr) (nf cf : Nat) (zf : List Int) (w : World) (w0 : IsRow .u64 w al nl cl zl) (w1 : IsRow .u64 w af nf cf zf) :
    Calls Try.prog 3 #[.slice al nl cl, .slice af nf cf] w fun e w' => e = .returned (.bool true) ∧ Below w.heap.size w w' := by
  obtain ⟨l1, l2, l3, RL⟩ := row_of w0
  obtain ⟨f1, f2, f3, RF⟩ := row_of w1
  rw [show kb .u64 = 8 from rfl] at l2 f2
  clear w0 w1
  generalize zl.take nl = ll at RL
  generalize zf.take nf = lf at RF
  have AW := hide (fun W (bl : Below w.heap.size w W) => (awakeK_any kmvI W).mono (fun e W' (h : e = .returned (.bool true) ∧ Below W.heap.size W W') => (⟨h.1, bl.trans (h.2.mono bl.size)⟩ : e = .returned (.bool true) ∧ Below w.heap.size w W')))
  have DQ : Hid (∀ q, Below w.heap.size w (w.drewN q)) := fun q => bel_drewN (Below.refl _ _) q
  have CF := hide (refchk_any af nf cf lf w RF)
  have HL := hide RL
  have HF := hide RF
  have LL := hide RL.1
  have LF := hide RF.1
  by_cases hn : nl ≤ 100
  case neg =>
    have i1 : (100 : Int) < (nl : Int) := by omega
    clear RL RF
    go_enter Try.func3, Try.ntmps3
    go_wp2_with fail
    refine (AW.out _ (Below.refl _ _)).mono ?_
    rintro e w2 ⟨rfl, bl⟩
    have BL := hide bl
    clear bl
    go_wp2
    go_ret
    exact ⟨rfl, BL.out⟩
  have i1 : ¬ (100 : Int) < (nl : Int) := by omega
  by_cases hck : chkK lf = true
  case neg =>
    rw [show chkK lf = false by simpa using hck] at CF
    clear RL RF
    go_enter Try.func3, Try.ntmps3
    go_wp2_with fail
    refine CF.out.mono ?_
    rintro e w1 ⟨rfl, q, rfl⟩
    go_wp2_with fail
    refine (AW.out _ (DQ.out q)).mono ?_
    rintro e w2 ⟨rfl, bl⟩
    have BL := hide bl
    clear bl
    go_wp2
    go_ret
    exact ⟨rfl, BL.out⟩
  rw [hck] at CF
  have HC := hide hck
  have HWf := hide RF.words
  have HWl := hide RL.words
  have CN := hide (fun q => numsK_any af nf cf lf (w.drewN q) (RF.below (DQ.out q) (Nat.le_refl _)) f3 (by omega))
  have hcu := chk_up hck
  have HUf := hide hcu.1
  have HLf := hide hcu.2
  clear RL RF hck hcu
  go_enter Try.func3, Try.ntmps3
  go_wp2_with fail
  refine CF.out.mono ?_
  rintro e w1 ⟨rfl, q, rfl⟩
  go_wp2_with fail
  refine (CN.out q).mono ?_
  rintro e w2 ⟨a2, c2, rfl, o2, b2⟩
  have R2 := OwnU.rowU o2 (by omega) HWf.out
  have P2 := hide ((PoolK.nil (At := AtK) ((DQ.out q).trans b2)).from kmvI c2 R2 HC.out)
  clear o2 b2 R2 CN CF
  go_wp2_with fail
  refine P2.out.mono ?_
  rintro e w3 ⟨g, rfl, p3⟩
  have P3 := hide p3
  clear P2 p3
  go_wp2
  go_loopw [7] (fun x7 wr => ∃ k : Nat, k ≤ nl ∧ x7 = .int .i64 k ∧ Hid (PoolK AtK w wr [(g, hashAll 1024 lf (ll.take k))])) (fun x7 _ => nl - (intOf x7).toNat)
  case atStart => exact ⟨0, Nat.zero_le _, rfl, P3.out⟩
  case round =>
    obtain ⟨k, hk, rfl, HP⟩ := hrel
    by_cases hlt : k < nl
    · obtain ⟨ba, oa, rfl, hcc⟩ := row_at HL.out hlt
      have c1 := hcc k hlt wr HP.out.low
      have HX := hide (HP.out.hash kmvI [] [] (x := ll.getD k 0) (HL.out.word k))
      rw [hashAll_step (by rw [LL.out]; exact hlt)] at HX
      have i2 : (k : Int) < (nl : Int) := by omega
      have i3 : (0 : Int) ≤ (k : Int) := by omega
      generalize ll.getD k 0 = x at *
      clear hcc HP
      go_wp2_with fail
      refine HX.out.mono ?_
      rintro e w4 ⟨rfl, p4⟩
      have P4 := hide p4
      clear p4 HX
      go_wp2
      go_roundw
      case rel => exact ⟨k + 1, by omega, by go_num, P4.out⟩
      case measure => simp [intOf]; omega
    have i2 : ¬ (k : Int) < (nl : Int) := by omega
    have HH := hide (HP.out.hashes kmvI [] [])
    rw [show ll.take k = ll from List.take_of_length_le (by rw [LL.out]; omega)] at HH
    have HUM : Hid (Up (hashAll 1024 lf ll)) := hashAll_up HUf.out
    have HLM : Hid ((hashAll 1024 lf ll).length ≤ 1024) := hashAll_len HLf.out
    have HOut := hide (fun x (h : x ∈ lf ∨ x ∈ ll) ho => least_out HUf.out HLf.out (l := ll) (f := lf) (x := x) h ho)
    generalize hashAll 1024 lf ll = M at *
    obtain ⟨m, HM⟩ : ∃ m, Hid (M.length = m) := ⟨_, rfl⟩
    have hm := HLM.out
    rw [HM.out] at HH hm
    clear HP P3
    go_wp2_with fail
    refine HH.out.mono ?_
    rintro e w5 ⟨a5, c5, rfl, -, R5, -, p5⟩
    have HR5 := hide R5
    have HB5 := hide p5.pool.low
    clear R5 p5 HH
    go_wp2
    go_loopw [9] (fun x9 wr => ∃ k : Nat, 1 ≤ k ∧ (k ≤ m ∨ k = 1) ∧ x9 = .int .i64 k ∧ Hid (Dr w5 wr)) (fun x9 _ => m - (intOf x9).toNat)
    case atStart => exact ⟨1, by omega, Or.inr rfl, rfl, ⟨0, rfl⟩⟩
    case round =>
      obtain ⟨k, hk1, hk, rfl, HW⟩ := hrel
      by_cases hlt : k < m
      · obtain ⟨j, HJ⟩ : ∃ j, Hid (k = j + 1) := ⟨k - 1, by show _ = _; omega⟩
        have hj := HJ.out
        obtain ⟨ba, oa, rfl, hcc⟩ := row_at HR5.out hlt
        have c1 := hcc k hlt wr (HW.out.bel (Below.refl _ _))
        have c2 := hcc j (by omega) wr (HW.out.bel (Below.refl _ _))
        have hst : M.getD j 0 < M.getD k 0 := by rw [hj]; exact up_step HUM.out (by rw [HM.out]; omega)
        have e1 : (k : Int) - 1 = (j : Int) := by omega
        have i2 : (k : Int) < (m : Int) := by omega
        have i3 : (j : Int) < (m : Int) := by omega
        have i4 : (0 : Int) ≤ (j : Int) := by omega
        have i5 : (0 : Int) ≤ (k : Int) := by omega
        generalize M.getD k 0 = x at *
        generalize M.getD j 0 = y at *
        have d1 : decide (x ≤ y) = false := decide_eq_false (by omega)
        clear hcc hj hst
        go_wp2
        go_big_quiet (fail)
        go_wp2
        go_roundw
        case rel => exact ⟨k + 1, by omega, by omega, by go_num, HW.out.more _⟩
        case measure => simp [intOf]; omega
      have i2 : ¬ (k : Int) < (m : Int) := by omega
      go_wp2
      go_loopw [10] (fun x10 wr => ∃ j : Nat, j ≤ 2 ∧ x10 = .int .i64 j ∧ Hid (Dr w5 wr)) (fun x10 _ => 2 - (intOf x10).toNat)
      case atStart => exact ⟨0, by omega, rfl, HW.out⟩
      case round =>
        obtain ⟨j, hj2, rfl, HW3⟩ := hrel
        by_cases hj : j < 2
        · have i3 : (j : Int) < 2 := by omega
          go_upto_if 72 with fail
          go_cut [11] (fun x11 wx => ∃ (ax : Option Addr) (nx cx : Nat) (lx : List Int), x11 = .slice ax nx cx ∧ Hid (Dr w5 wx) ∧ nx ≤ 281474976710656 ∧ Hid (Row .u64 w ax nx lx) ∧ Hid (∀ y ∈ lx, y ∈ lf ∨ y ∈ ll))
          case first =>
            by_cases hj0 : j = 0
            · subst hj0
              go_wp2
              go_meet
              case rel => exact ⟨al, nl, cl, ll, rfl, HW3.out, by omega, HL.out, fun y hy => Or.inr hy⟩
            · obtain rfl : j = 1 := by omega
              go_wp2
              go_meet
              case rel => exact ⟨af, nf, cf, lf, rfl, HW3.out, by omega, HF.out, fun y hy => Or.inl hy⟩
          case rest =>
            obtain ⟨ax, nx, cx, lx, rfl, HWc, hnx, HRx, HIn⟩ := hcut
            go_wp2
            go_loopw [12] (fun x12 wr => ∃ i : Nat, i ≤ nx ∧ x12 = .int .i64 i ∧ Hid (Dr w5 wr)) (fun x12 _ => nx - (intOf x12).toNat)
            case atStart => exact ⟨0, Nat.zero_le _, rfl, HWc.out⟩
            case round =>
              obtain ⟨i, hi, rfl, HW4⟩ := hrel
              by_cases hix : i < nx
              · have i4 : (i : Int) < (nx : Int) := by omega
                have i5 : (0 : Int) ≤ (i : Int) := by omega
                obtain ⟨bx, ox, rfl, hcx⟩ := row_at HRx.out hix
                have HCx := hide (fun W (h : Dr w5 W) => hcx i hix W (h.bel HB5.out))
                have HXin : Hid (lx.getD i 0 ∈ lf ∨ lx.getD i 0 ∈ ll) := HIn.out _ (by
                  have hlx : i < lx.length := by rw [HRx.out.1]; exact hix
                  rw [List.getD_eq_getElem?_getD, List.getElem?_eq_getElem hlx]
                  exact List.getElem_mem hlx)
                obtain ⟨x, HX⟩ : ∃ x, Hid (lx.getD i 0 = x) := ⟨_, rfl⟩
                simp only [HX.out] at HCx
                rw [HX.out] at HXin
                clear hcx
                go_wp2
                go_loopw [13, 14] (fun x13 x14 wr => ∃ n : Nat, n ≤ m ∧ x13 = .bool (decide (x ∈ M.take n)) ∧ x14 = .int .i64 n ∧ Hid (Dr w5 wr)) (fun _ x14 _ => m - (intOf x14).toNat)
                case atStart => exact ⟨0, Nat.zero_le _, by simp, rfl, HW4.out⟩
                case round =>
                  obtain ⟨n, hnm, rfl, rfl, HW5⟩ := hrel
                  by_cases hlt5 : n < m
                  · have i6 : (n : Int) < (m : Int) := by omega
                    have i7 : (0 : Int) ≤ (n : Int) := by omega
                    have HT := hide (mem_take_num (M := M) (k := n) (by rw [HM.out]; exact hlt5) x)
                    obtain ⟨bm, om, rfl, hcm⟩ := row_at HR5.out hlt5
                    have c1 := hcm n hlt5 wr (HW5.out.bel (Below.refl _ _))
                    have c2 := HCx.out wr HW5.out
                    obtain ⟨B, HB⟩ : ∃ B, Hid (decide (x ∈ M.take n) = B) := ⟨_, rfl⟩
                    rw [HB.out] at HT
                    rw [HB.out]
                    generalize M.getD n 0 = y at *
                    clear hcm HB
                    cases B with
                    | true =>
                      go_wp2
                      go_big_quiet (fail)
                      go_wp2
                      go_roundw
                      case rel => exact ⟨n + 1, by omega, by rw [HT.out, Bool.true_or], by go_num, HW5.out.more _⟩
                      case measure => simp [intOf]; omega
                    | false =>
                      go_wp2
                      go_big_quiet (fail)
                      go_wp2
                      go_roundw
                      case rel => exact ⟨n + 1, by omega, by rw [HT.out, Bool.false_or], by go_num, HW5.out.more _⟩
                      case measure => simp [intOf]; omega
                  have i6 : ¬ (n : Int) < (m : Int) := by omega
                  have HTa : Hid (M.take n = M) := List.take_of_length_le (by rw [HM.out]; omega)
                  rw [HTa.out]
                  obtain ⟨B, HB⟩ : ∃ B, Hid (decide (x ∈ M) = B) := ⟨_, rfl⟩
                  rw [HB.out]
                  go_upto_region 30 with fail
                  go_cut [117] (fun b wx => b = .bool false ∧ Hid (Dr w5 wx))
                  case first =>
                    cases B with
                    | true =>
                      go_big_quiet (fail)
                      go_wp2
                      go_meet
                      case rel => exact ⟨rfl, HW5.out.more _⟩
                    | false =>
                      have hin : x ∉ M := by have := HB.out; simpa using this
                      have ho := HOut.out x HXin.out hin
                      rw [HM.out] at ho
                      obtain ⟨ho1, ho2⟩ := ho
                      obtain ⟨j9, HJ9⟩ : ∃ j9, Hid (m - 1 = j9) := ⟨_, rfl⟩
                      have hj9 := HJ9.out
                      have hgl : M.getLastD 0 = M.getD j9 0 := by rw [last_get (by rw [HM.out]; omega), HM.out, hj9]
                      rw [hgl] at ho2
                      obtain ⟨bm, om, rfl, hcm⟩ := row_at HR5.out (j := j9) (by omega)
                      have c1 := hcm j9 (by omega) wr (HW5.out.bel (Below.refl _ _))
                      have e4 : (m : Int) - 1 = (j9 : Int) := by omega
                      have e5 : (j9 : Int) < (m : Int) := by omega
                      have e6 : (0 : Int) ≤ (j9 : Int) := by omega
                      have c2 := HCx.out wr HW5.out
                      generalize M.getD j9 0 = y at *
                      have d1 : decide (x < y) = false := decide_eq_false (by omega)
                      have e1 : (m : Int) = 1024 := by omega
                      have e2 : ¬ (m : Int) < 1024 := by omega
                      have e3 : decide ((m : Int) < 1024) = false := decide_eq_false e2
                      clear hin hgl hcm ho2 ho1 e1 hj9
                      go_big_quiet (fail)
                      go_wp2
                      go_meet
                      case rel => exact ⟨rfl, HW5.out.more _⟩
                  case rest =>
                    obtain ⟨rfl, HW6⟩ := hcut
                    go_wp2
                    go_roundw
                    case rel => exact ⟨i + 1, by omega, by go_num, HW6.out⟩
                    case measure => simp [intOf]; omega
              have i4 : ¬ (i : Int) < (nx : Int) := by omega
              go_wp2
              go_roundw
              case rel => exact ⟨j + 1, by omega, by go_num, HW4.out⟩
              case measure => simp [intOf]; omega
        obtain rfl : j = 2 := by omega
        have i3 : (m : Int) ≤ 1024 := by omega
        have HBe := hide (HW3.out.bel HB5.out)
        go_wp2_with fail
        refine (AW.out _ HBe.out).mono ?_
        rintro e w9 ⟨rfl, bl⟩
        have BL := hide bl
        clear bl
        go_wp2
        go_ret
        exact ⟨rfl, BL.out⟩
end Go.Proofs.Ytlhiikibbppodab

namespace Go.Proofs.Ytlhiikibbppodab.kmvLeast
open Go.ChangeShapes Go.WideShapes Go.ChangeAt Go.RowKit
open Go.ChangeMaps (open_string shut_string)
set_option linter.unusedVariables false

theorem own : ownKnob Try.prog.godebug = none := by kernel_rfl
theorem laidOut : laidOutB Try.prog = true := by kernel_rfl

set_option maxRecDepth 100000 in
theorem lifted (os : Os) (started : os.Started) (H : Type) (enc : TypeId × Value → H) :
    ReturnsInHanded {} Try.checked os 3 .any (Rows.kmvLeastSpec.pre6 enc Try.prog Try.f3 Rows.kmvLeastRow.domain false) (Rows.kmvLeastSpec.post enc Try.prog Try.f3 false true false false) := by
  refine returnsInHanded_of_change_sized (C := Try.checked) own started (by kernel_rfl) Try.func3
    (ChangeSpec.witness6 (enc := enc) (C := Try.checked) false ⟨#[], #[.slice none 0 0, .slice none 0 0], []⟩ 8 (by kernel_rfl) (by kernel_rfl) (by kernel_rfl) (by kernel_rfl)) ?_
  intro W base args ds gs before hval0 hW hcnd hsz0 _
  have hsz : (DataW.weightsEach Try.prog (Try.f3.params.toList ++ Rows.kmvLeastSpec.plain.varTypes Try.prog) (ds ++ gs)).all (· ≤ reachBytes) = true := hsz0
  have hval : ∀ (j : Nat) t v, Try.f3.params[j]? = some t → args[j]? = some v → Value.okWide Try.prog W .any base t v := hval0
  have hW' := hW
  obtain ⟨p, q, hA0, hV, rfl, hfz, hnd⟩ := hW
  have hA : DataW.TrodAll enc Try.prog W 0 (fun _ => true) true Try.f3.params.toList args.toList ds p := hA0
  rw [Try.params3] at hA hval hsz
  obtain ⟨v0, vs0, d0, ds0, p0, q0, hargs, rfl, rfl, h0, r0⟩ := trodAll_cons hA
  obtain ⟨v1, vs1, d1, ds1, p1, q1, rfl, rfl, rfl, h1, r1⟩ := trodAll_cons r0
  obtain ⟨rfl, rfl, rfl⟩ := trodAll_nil r1
  obtain rfl : args = #[v0, v1] := by cases args; simp_all
  obtain ⟨rfl, rfl⟩ := trodVars_none hV
  obtain ⟨a0, len0, cap0, rfl⟩ := okWide_slice Try.underlying22 (hval 0 22 v0 rfl rfl)
  have k0 := h0
  have lt0 : ∀ x ∈ p0, x.block < W.heap.size := by obtain ⟨m, hm⟩ := k0; exact DataW.trod_lt m _ _ _ hm
  obtain ⟨z0, w0⟩ : ∃ zs, IsRow .u64 W a0 len0 cap0 zs := by
    obtain ⟨fuel, hf⟩ := h0
    rcases open_ints Try.underlying22 Try.underlying31 (by kernel_rfl) hf with ⟨hcs, _⟩ | ⟨x, l, c, zs, hcs, _, hl, hm, hz, hx, hcell, hwz⟩
    · simp [Value.cells] at hcs
      obtain ⟨rfl, rfl, rfl⟩ := hcs
      exact ⟨[], by decide, .inl ⟨rfl, rfl, rfl, rfl⟩⟩
    · simp [Value.cells] at hcs
      obtain ⟨rfl, rfl, rfl⟩ := hcs
      have hd := congrArg Prod.fst hx
      simp only at hd
      have hs := sized_slice hsz (j := 0) (t := 22) (e := 31) rfl (by rw [hd]; rfl) Try.underlying22
      rw [show Try.prog.bytesOf 31 = 8 from by kernel_rfl] at hs
      simp only [lits, List.length_map, List.length_take, List.length_drop, reachBytes] at hs
      have hzc : zs.length = cap0 := by simpa using hz
      exact ⟨zs, by show cap0 * 8 ≤ _; omega, .inr ⟨_, rfl, hl, hm, hzc, hcell, hwz⟩⟩
  obtain ⟨a1, len1, cap1, rfl⟩ := okWide_slice Try.underlying22 (hval 1 22 v1 rfl rfl)
  have k1 := h1
  have lt1 : ∀ x ∈ p1, x.block < W.heap.size := by obtain ⟨m, hm⟩ := k1; exact DataW.trod_lt m _ _ _ hm
  obtain ⟨z1, w1⟩ : ∃ zs, IsRow .u64 W a1 len1 cap1 zs := by
    obtain ⟨fuel, hf⟩ := h1
    rcases open_ints Try.underlying22 Try.underlying31 (by kernel_rfl) hf with ⟨hcs, _⟩ | ⟨x, l, c, zs, hcs, _, hl, hm, hz, hx, hcell, hwz⟩
    · simp [Value.cells] at hcs
      obtain ⟨rfl, rfl, rfl⟩ := hcs
      exact ⟨[], by decide, .inl ⟨rfl, rfl, rfl, rfl⟩⟩
    · simp [Value.cells] at hcs
      obtain ⟨rfl, rfl, rfl⟩ := hcs
      have hd := congrArg Prod.fst hx
      simp only at hd
      have hs := sized_slice hsz (j := 1) (t := 22) (e := 31) rfl (by rw [hd]; rfl) Try.underlying22
      rw [show Try.prog.bytesOf 31 = 8 from by kernel_rfl] at hs
      simp only [lits, List.length_map, List.length_take, List.length_drop, reachBytes] at hs
      have hzc : zs.length = cap1 := by simpa using hz
      exact ⟨zs, by show cap1 * 8 ≤ _; omega, .inr ⟨_, rfl, hl, hm, hzc, hcell, hwz⟩⟩
  clear hA0 hval0 hsz0 hsz
  refine (walk_least a0 len0 cap0 z0 a1 len1 cap1 z1 W w0 w1).mono fun e W' ⟨he, bel⟩ => ?_
  subst he
  exact ⟨_, rfl, _, _, _, [], _, [], hW', trodAll_mk1 (shut_bool Try.underlying4 _), (trodAll_cons_mk (Below.trod laidOut (by kernel_rfl) (of_decide_eq_true (by kernel_rfl)) k0 bel lt0) (trodAll_cons_mk (Below.trod laidOut (by kernel_rfl) (of_decide_eq_true (by kernel_rfl)) k1 bel lt1) trodAll_mk0)), rfl, bel.frame _, fun h => by cases h⟩

theorem proved : Rows.KmvLeastSaid :=
  OpenClaim.holds_of_wide 3 Try.f3 rfl rfl rfl rfl rfl rfl rfl ⟨rfl, rfl, rfl, rfl, rfl⟩ rfl rfl rfl rfl rfl (by kernel_rfl) Try.func3 (by kernel_rfl)
    (of_decide_eq_true (by kernel_rfl)) (by unfold Func.isWrapper; first | (rw [if_pos (by decide +kernel)]; kernel_rfl) | (rw [if_neg (by decide +kernel)]; exact ⟨rfl, rfl⟩))
    (fun os started H enc _ => lifted os started H enc)
end Go.Proofs.Ytlhiikibbppodab.kmvLeast
