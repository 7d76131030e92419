/-
  Of fewer than 1023 hashes one thing more makes as many unlike things, or one more; the same thing again makes no more; the document's example holds. The call returns true, and its arguments read as they did.
  Conditions: none: every value of the parameters' types.
-/
import Derived.Test.YtlhiikibbppodabKmvE
import Derived.Test.YtlhiikibbppodabKmvMa
import Derived.Deep.RegionWith
import Derived.Deep.DrawnRows
import Derived.ProofKit
import Derived.OpenShut
import Derived.ShutString
import Derived.ChangeOld
import Derived.SizedLaws
namespace Go.Proofs.Ytlhiikibbppodab
open Go.RowKit

theorem PoolK.add {At : World → Nat → (Nat → Prop) → List Int → Prop} (I : KmvI At) {w W : World} (q1 q2 : List (Nat × List Int)) {g : Nat} {l : List Int} (h : PoolK At w W (q1 ++ (g, l) :: q2)) (s : ByteArray) (hs : s.size ≤ 9223372036854775807) :
    Calls Try.prog 12 #[.pointer (some ⟨g, 0, none⟩), .string s] W fun e W' => e = .returned (.tuple #[]) ∧ PoolK At w W' (q1 ++ (g, hashK 1024 l (fnvOf (numsOf s))) :: q2) := by
  obtain ⟨S, h1, h2, h3⟩ := (h.bound I).step I (l' := hashK 1024 l (fnvOf (numsOf s)))
  refine (I.add g S l s W h1 hs).mono ?_
  rintro e W' ⟨rfl, st⟩
  exact ⟨rfl, h3 W' st⟩
theorem grow_dist {l : List Int} (hu : Up l) (hw : ∀ x ∈ l, W64 x) (hl : l.length < 1024) : distK l = l.length := by
  unfold distK
  rw [if_pos (up_chk hu (by omega) hw), if_pos hl]
theorem grow_ins {l : List Int} {h : Int} (hc : chkK l = true) {n : Nat} (hn : n < 1023) (hlen : l.length = n) : hashK 1024 l h = insK h l := hashK_few (by have := insK_small (h := h) (chk_up hc).1; omega)
theorem grow_same {l : List Int} {h : Int} (hc : chkK l = true) (hw : ∀ x ∈ l, W64 x) {n : Nat} (hn : n < 1023) (hlen : l.length = n) (hm : h ∈ l) : distK (hashK 1024 l h) = (n : Int) := by
  rw [grow_ins hc hn hlen, insK_there (chk_up hc).1 hm, grow_dist (chk_up hc).1 hw (by omega), hlen]
theorem grow_more {l : List Int} {h : Int} (hc : chkK l = true) (hw : ∀ x ∈ l, W64 x) (hh : W64 h) {n : Nat} (hn : n < 1023) (hlen : l.length = n) (hm : h ∉ l) : distK (hashK 1024 l h) = ((n + 1 : Nat) : Int) := by
  have e : (insK h l).length = n + 1 := by rw [insK_len (chk_up hc).1, if_neg hm, hlen]
  rw [grow_ins hc hn hlen, grow_dist (up_insK (chk_up hc).1) (words_insK hh hw) (by omega), e]
theorem grow_again {l : List Int} {h : Int} (hc : chkK l = true) {n : Nat} (hn : n < 1023) (hlen : l.length = n) : hashK 1024 (hashK 1024 l h) h = hashK 1024 l h := by
  rw [grow_ins hc hn hlen]
  unfold hashK
  rw [insK_there (up_insK (chk_up hc).1) (mem_insK.2 (Or.inl rfl))]
  exact List.take_of_length_le (by have := insK_small (h := h) (chk_up hc).1; omega)

set_option maxRecDepth 20000 in
set_option maxHeartbeats 4000000 in
theorem walk_grows (a : Option Addr) (n cap : Nat) (zs : List Int) (s : ByteArray) (w : World) (w0 : IsRow .u64 w a n cap zs) (hs : s.size ≤ 140737488351232) :
    Calls Try.prog 4 #[.slice a n cap, .string s] w fun e w' => e = .returned (.bool true) ∧ Below w.heap.size w w' := by
  obtain ⟨a1, a2, a3, RA⟩ := row_of w0
  rw [show kb .u64 = 8 from rfl] at a2
  clear w0
  generalize zs.take n = la at RA
  have HSz : Hid (s.size ≤ 9223372036854775807) := by show _ ≤ _; omega
  have AW := hide (fun W (bl : Below w.heap.size w W) => (awakeK_any kmvI W).mono (fun e W' (h : e = .returned (.bool true) ∧ Below W.heap.size W W') => (⟨h.1, bl.trans (h.2.mono bl.size)⟩ : e = .returned (.bool true) ∧ Below w.heap.size w W')))
  have CA := hide (refchk_any a n cap la w RA)
  have DQ : Hid (∀ q, Below w.heap.size w (w.drewN q)) := fun q => bel_drewN (Below.refl _ _) q
  by_cases ka : chkK la = true
  case neg =>
    rw [show chkK la = false by simpa using ka] at CA
    clear RA
    go_enter Try.func4, Try.ntmps4
    go_wp2_with fail
    refine CA.out.mono ?_
    rintro e w1 ⟨rfl, q, rfl⟩
    go_wp2_with fail
    refine (AW.out _ (DQ.out q)).mono ?_
    rintro e w2 ⟨rfl, bl⟩
    have BL := hide bl
    clear bl
    go_wp2
    go_ret
    exact ⟨rfl, BL.out⟩
  rw [ka] at CA
  by_cases hn : n < 1023
  case neg =>
    have i1 : (1023 : Int) ≤ (n : Int) := by omega
    clear RA ka
    go_enter Try.func4, Try.ntmps4
    go_wp2_with fail
    refine CA.out.mono ?_
    rintro e w1 ⟨rfl, q, rfl⟩
    go_wp2_with fail
    refine (AW.out _ (DQ.out q)).mono ?_
    rintro e w2 ⟨rfl, bl⟩
    have BL := hide bl
    clear bl
    go_wp2
    go_ret
    exact ⟨rfl, BL.out⟩
  have i1 : ¬ (1023 : Int) ≤ (n : Int) := by omega
  have hlen := RA.1
  have hw1 := RA.words
  have HW := hide RA.words
  have HC := hide ka
  have CN := hide (fun q => numsK_any a n cap la (w.drewN q) (RA.below (DQ.out q) (Nat.le_refl _)) a3 (by omega))
  have HD1 : Hid (distK la = (n : Int)) := by
    show _ = _
    rw [grow_dist (chk_up ka).1 hw1 (by omega), hlen]
  obtain ⟨h, HH⟩ : ∃ h, Hid (fnvOf (numsOf s) = h) := ⟨_, rfl⟩
  have hh : W64 h := by rw [← HH.out]; exact fnvOf_word _
  have HAg : Hid (hashK 1024 (hashK 1024 la h) h = hashK 1024 la h) := grow_again ka hn hlen
  have t0 : IntKind.u64.wrap (n : Int) = (n : Int) := by rw [IntKind.wrap_u64]; omega
  by_cases hm : h ∈ la
  · have HD2 : Hid (distK (hashK 1024 la h) = (n : Int)) := grow_same ka hw1 hn hlen hm
    clear RA ka hw1 hlen hm hh
    have t1 : ((n : Int) == (n : Int)) = true := by simp
    go_enter Try.func4, Try.ntmps4
    go_wp2_with fail
    refine CA.out.mono ?_
    rintro e w1 ⟨rfl, q, rfl⟩
    go_wp2_with fail
    refine (CN.out q).mono ?_
    rintro e w2 ⟨a2, c2, rfl, o2, b2⟩
    have R2 := OwnU.rowU o2 (by omega) HW.out
    have P2 := hide ((PoolK.nil (At := AtK) ((DQ.out q).trans b2)).from kmvI c2 R2 HC.out)
    clear o2 b2 R2
    go_wp2_with fail
    refine P2.out.mono ?_
    rintro e w3 ⟨g, rfl, p3⟩
    have D3 := hide (p3.distinct kmvI [] [])
    rw [HD1.out] at D3
    clear P2 p3
    go_wp2_with fail
    refine D3.out.mono ?_
    rintro e w4 ⟨rfl, -, p4⟩
    have A4 := hide (PoolK.add kmvI [] [] p4 s HSz.out)
    rw [HH.out] at A4
    clear D3 p4
    go_wp2_with fail
    refine A4.out.mono ?_
    rintro e w5 ⟨rfl, p5⟩
    have D5 := hide (p5.distinct kmvI [] [])
    rw [HD2.out] at D5
    clear A4 p5
    go_wp2_with fail
    refine D5.out.mono ?_
    rintro e w6 ⟨rfl, -, p6⟩
    have A6 := hide (PoolK.add kmvI [] [] p6 s HSz.out)
    rw [HH.out, HAg.out] at A6
    clear D5 p6
    go_wp2_with fail
    refine A6.out.mono ?_
    rintro e w7 ⟨rfl, p7⟩
    have D7 := hide (p7.distinct kmvI [] [])
    rw [HD2.out] at D7
    clear A6 p7
    go_wp2_with fail
    refine D7.out.mono ?_
    rintro e w8 ⟨rfl, -, p8⟩
    have L8 := hide p8.low
    clear D7 p8
    go_wp2_with fail
    refine (AW.out _ L8.out).mono ?_
    rintro e w9 ⟨rfl, bl⟩
    have BL := hide bl
    clear bl
    go_wp2
    go_ret
    exact ⟨rfl, BL.out⟩
  · have HD2 : Hid (distK (hashK 1024 la h) = ((n + 1 : Nat) : Int)) := grow_more ka hw1 hh hn hlen hm
    clear RA ka hw1 hlen hm hh
    obtain ⟨n1, HN1⟩ : ∃ n1 : Nat, Hid (n + 1 = n1) := ⟨_, rfl⟩
    rw [HN1.out] at HD2
    have hn1 := HN1.out
    have t1 : ((n : Int) == (n : Int)) = true := by simp
    have t2 : ((n1 : Int) == (n : Int)) = false := by rw [beq_eq_false_iff_ne]; omega
    have t3 : (n : Int) + 1 = (n1 : Int) := by omega
    have t4 : IntKind.u64.wrap (n1 : Int) = (n1 : Int) := by rw [IntKind.wrap_u64]; omega
    have t5 : ((n1 : Int) == (n1 : Int)) = true := by simp
    clear hn1
    go_enter Try.func4, Try.ntmps4
    go_wp2_with fail
    refine CA.out.mono ?_
    rintro e w1 ⟨rfl, q, rfl⟩
    go_wp2_with fail
    refine (CN.out q).mono ?_
    rintro e w2 ⟨a2, c2, rfl, o2, b2⟩
    have R2 := OwnU.rowU o2 (by omega) HW.out
    have P2 := hide ((PoolK.nil (At := AtK) ((DQ.out q).trans b2)).from kmvI c2 R2 HC.out)
    clear o2 b2 R2
    go_wp2_with fail
    refine P2.out.mono ?_
    rintro e w3 ⟨g, rfl, p3⟩
    have D3 := hide (p3.distinct kmvI [] [])
    rw [HD1.out] at D3
    clear P2 p3
    go_wp2_with fail
    refine D3.out.mono ?_
    rintro e w4 ⟨rfl, -, p4⟩
    have A4 := hide (PoolK.add kmvI [] [] p4 s HSz.out)
    rw [HH.out] at A4
    clear D3 p4
    go_wp2_with fail
    refine A4.out.mono ?_
    rintro e w5 ⟨rfl, p5⟩
    have D5 := hide (p5.distinct kmvI [] [])
    rw [HD2.out] at D5
    clear A4 p5
    go_wp2_with fail
    refine D5.out.mono ?_
    rintro e w6 ⟨rfl, -, p6⟩
    have A6 := hide (PoolK.add kmvI [] [] p6 s HSz.out)
    rw [HH.out, HAg.out] at A6
    clear D5 p6
    go_wp2_with fail
    refine A6.out.mono ?_
    rintro e w7 ⟨rfl, p7⟩
    have D7 := hide (p7.distinct kmvI [] [])
    rw [HD2.out] at D7
    clear A6 p7
    go_wp2_with fail
    refine D7.out.mono ?_
    rintro e w8 ⟨rfl, -, p8⟩
    have L8 := hide p8.low
    clear D7 p8
    go_wp2_with fail
    refine (AW.out _ L8.out).mono ?_
    rintro e w9 ⟨rfl, bl⟩
    have BL := hide bl
    clear bl
    go_wp2
    go_ret
    exact ⟨rfl, BL.out⟩
end Go.Proofs.Ytlhiikibbppodab

namespace Go.Proofs.Ytlhiikibbppodab.kmvGrows
open Go.ChangeShapes Go.WideShapes Go.ChangeAt Go.RowKit
open Go.ChangeMaps (open_string shut_string)
set_option linter.unusedVariables false

theorem own : ownKnob Try.prog.godebug = none := by kernel_rfl
theorem laidOut : laidOutB Try.prog = true := by kernel_rfl

set_option maxRecDepth 100000 in
theorem lifted (os : Os) (started : os.Started) (H : Type) (enc : TypeId × Value → H) :
    ReturnsInHanded {} Try.checked os 4 .any (Rows.kmvGrowsSpec.pre6 enc Try.prog Try.f4 Rows.kmvGrowsRow.domain false) (Rows.kmvGrowsSpec.post enc Try.prog Try.f4 false true false false) := by
  refine returnsInHanded_of_change_sized (C := Try.checked) own started (by kernel_rfl) Try.func4
    (ChangeSpec.witness6 (enc := enc) (C := Try.checked) false ⟨#[], #[.slice none 0 0, .string .empty], []⟩ 8 (by kernel_rfl) (by kernel_rfl) (by kernel_rfl) (by kernel_rfl)) ?_
  intro W base args ds gs before hval0 hW hcnd hsz0 _
  have hsz : (DataW.weightsEach Try.prog (Try.f4.params.toList ++ Rows.kmvGrowsSpec.plain.varTypes Try.prog) (ds ++ gs)).all (· ≤ reachBytes) = true := hsz0
  have hval : ∀ (j : Nat) t v, Try.f4.params[j]? = some t → args[j]? = some v → Value.okWide Try.prog W .any base t v := hval0
  have hW' := hW
  obtain ⟨p, q, hA0, hV, rfl, hfz, hnd⟩ := hW
  have hA : DataW.TrodAll enc Try.prog W 0 (fun _ => true) true Try.f4.params.toList args.toList ds p := hA0
  rw [Try.params4] at hA hval hsz
  obtain ⟨v0, vs0, d0, ds0, p0, q0, hargs, rfl, rfl, h0, r0⟩ := trodAll_cons hA
  obtain ⟨v1, vs1, d1, ds1, p1, q1, rfl, rfl, rfl, h1, r1⟩ := trodAll_cons r0
  obtain ⟨rfl, rfl, rfl⟩ := trodAll_nil r1
  obtain rfl : args = #[v0, v1] := by cases args; simp_all
  obtain ⟨rfl, rfl⟩ := trodVars_none hV
  obtain ⟨a0, len0, cap0, rfl⟩ := okWide_slice Try.underlying22 (hval 0 22 v0 rfl rfl)
  have k0 := h0
  have lt0 : ∀ x ∈ p0, x.block < W.heap.size := by obtain ⟨m, hm⟩ := k0; exact DataW.trod_lt m _ _ _ hm
  obtain ⟨z0, w0⟩ : ∃ zs, IsRow .u64 W a0 len0 cap0 zs := by
    obtain ⟨fuel, hf⟩ := h0
    rcases open_ints Try.underlying22 Try.underlying31 (by kernel_rfl) hf with ⟨hcs, _⟩ | ⟨x, l, c, zs, hcs, _, hl, hm, hz, hx, hcell, hwz⟩
    · simp [Value.cells] at hcs
      obtain ⟨rfl, rfl, rfl⟩ := hcs
      exact ⟨[], by decide, .inl ⟨rfl, rfl, rfl, rfl⟩⟩
    · simp [Value.cells] at hcs
      obtain ⟨rfl, rfl, rfl⟩ := hcs
      have hd := congrArg Prod.fst hx
      simp only at hd
      have hs := sized_slice hsz (j := 0) (t := 22) (e := 31) rfl (by rw [hd]; rfl) Try.underlying22
      rw [show Try.prog.bytesOf 31 = 8 from by kernel_rfl] at hs
      simp only [lits, List.length_map, List.length_take, List.length_drop, reachBytes] at hs
      have hzc : zs.length = cap0 := by simpa using hz
      exact ⟨zs, by show cap0 * 8 ≤ _; omega, .inr ⟨_, rfl, hl, hm, hzc, hcell, hwz⟩⟩
  obtain ⟨a1, rfl, rfl, rfl, w1⟩ := open_string Try.underlying9 (hval 1 9 v1 rfl rfl) h1
  have e1 : a1.data.toList.length = a1.size := by rw [Array.length_toList]; rfl
  have s1 : a1.size ≤ 140737488351232 := by
    have hs := sized_string hsz (j := 1) (t := 9) rfl rfl
    rw [e1] at hs
    simpa only [reachBytes] using hs
  clear hA0 hval0 hsz0 hsz
  refine (walk_grows a0 len0 cap0 z0 a1 W w0 s1).mono fun e W' ⟨he, bel⟩ => ?_
  subst he
  exact ⟨_, rfl, _, _, _, [], _, [], hW', trodAll_mk1 (shut_bool Try.underlying4 _), (trodAll_cons_mk (Below.trod laidOut (by kernel_rfl) (of_decide_eq_true (by kernel_rfl)) k0 bel lt0) (trodAll_cons_mk (shut_string Try.underlying9 w1) trodAll_mk0)), rfl, bel.frame _, fun h => by cases h⟩

theorem proved : Rows.KmvGrowsSaid :=
  OpenClaim.holds_of_wide 4 Try.f4 rfl rfl rfl rfl rfl rfl rfl ⟨rfl, rfl, rfl, rfl, rfl⟩ rfl rfl rfl rfl rfl (by kernel_rfl) Try.func4 (by kernel_rfl)
    (of_decide_eq_true (by kernel_rfl)) (by unfold Func.isWrapper; first | (rw [if_pos (by decide +kernel)]; kernel_rfl) | (rw [if_neg (by decide +kernel)]; exact ⟨rfl, rfl⟩))
    (fun os started H enc _ => lifted os started H enc)
end Go.Proofs.Ytlhiikibbppodab.kmvGrows
