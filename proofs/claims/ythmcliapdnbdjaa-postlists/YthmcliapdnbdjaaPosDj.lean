/-
  What post.pass and post.heap come to: contracts, for every world.
  Conditions: at most ten lists of at most 2000 numbers each.
-/
import Derived.Test.YthmcliapdnbdjaaPosDi
namespace Go.Proofs.Ythmcliapdnbdjaa
open Go.RowKit
set_option maxRecDepth 20000

theorem slice_toII (a : Option Addr) (n cap k : Nat) (hk : k ≤ cap) (w : World) :
    (Instr.slice 31 (.slice a n cap) none (some (.int .i64 (k : Int))) none).run Try.prog w = .ok (.slice a k cap) w := by
  rw [run_slice_h (P := Try.prog) w 31 a n cap Try.underlying31 .i64 (k : Int) (by omega) (by omega)]
  have hs : (sizeOf (Try.prog.elem 31)).run Try.prog w = .ok 1 w := by kernel_rfl
  rw [hs]
  simp only [Result.andThen, sliced, Int.toNat_natCast, Nat.zero_mul, Nat.sub_zero]
  cases a with
  | none => simp
  | some x => simp [Addr.add]
/-- The last one laid at the first place, and left out behind. -/
theorem last_first {s1 x : Sg} {rest : List Sg} (hx : x = sgA (s1 :: rest) rest.length) : (((s1 :: rest).set 0 x).take rest.length).Perm rest := by
  rw [List.set_cons_zero]
  rcases List.eq_nil_or_concat rest with rfl | ⟨t, y, rfl⟩
  · simp
  · rw [List.concat_eq_append] at hx ⊢
    have e : x = y := by
      rw [hx]
      unfold sgA
      rw [List.getD_eq_getElem?_getD, List.length_append, List.length_cons, List.length_nil, Nat.zero_add, List.getElem?_cons_succ, List.getElem?_append_right (Nat.le_refl _)]
      simp
    rw [e, List.length_append, List.length_cons, List.length_nil, Nat.zero_add, List.take_succ_cons, List.take_append_of_le_length (Nat.le_refl _), List.take_length]
    exact (List.perm_append_singleton y t).symm

set_option maxHeartbeats 4000000 in
theorem pass_any (w0 : World) (g c z : Nat) (d : List Sg) (w : World) (hn : d.length = z + 1) (hn10 : z + 1 ≤ 10) (hR : SRw w g c d) (hok : ∀ x ∈ d, SgOk w0 x) (hb : Below w0.heap.size w0 w) (hg : w0.heap.size ≤ g) (hH : HeapF 0 d) :
    Calls Try.prog 32 #[.slice (some ⟨g, 0, none⟩) (z + 1) c] w fun e w' => ∃ (m : Nat) (d' : List Sg), e = .returned (.slice (some ⟨g, 0, none⟩) m c) ∧ d'.length = m ∧ m ≤ z + 1 ∧ Passed w0 d d' ∧ HeapF 0 d' ∧ SRw w' g c d' ∧ Ch (fun k => k = g) w w' := by
  cases d with
  | nil => simp at hn
  | cons s0 rest =>
    have hrl : rest.length = z := by simpa using hn
    obtain ⟨h0, hne⟩ := hok s0 (by simp)
    obtain ⟨v, t, e0⟩ := head_of hne
    have hl0 := h0.len
    rw [e0, List.length_cons] at hl0
    rw [e0, ← hl0] at h0
    obtain ⟨a1, c1, run1, q1⟩ := h0.tail
    have g0 := hR.cell (i := 0) (by simp)
    have g0' : w.cell? ⟨g, 0, none⟩ = some (.slice s0.a (t.length + 1) s0.c) := by rw [g0, hl0]; rfl
    have f0 := hR.frozen 0
    have S1 : Hid (SRw (w.setCell ⟨g, 0, none⟩ (.slice a1 t.length c1)) g c (⟨a1, t.length, c1, t⟩ :: rest)) := hR.set (i := 0) (by simp) ⟨a1, t.length, c1, t⟩
    have C1 : Hid (Ch (fun k => k = g) w (w.setCell ⟨g, 0, none⟩ (.slice a1 t.length c1))) := ch_set w g 0 _
    have HE0 := hide e0
    have HRL := hide hrl
    have HOK := hide hok
    have HH := hide hH
    have HB := hide hb
    have HG := hide hg
    have Q1 := hide q1
    have i1 : (0 : Int) < ((z + 1 : Nat) : Int) := by omega
    have i2 : (0 : Int) < (z : Int) + 1 := by omega
    generalize s0.a = a0 at *
    generalize s0.c = c0 at *
    obtain ⟨k, hk⟩ : ∃ k, Hid (t.length = k) := ⟨_, rfl⟩
    rw [hk.out] at run1 g0' S1 C1
    clear hn h0 hne hl0 g0 hrl hok hH hb hg q1 hR e0
    go_enter Try.func32, Try.ntmps32
    go_upto_region 2 with fail
    refine wp_world (fun W => SRw W g c (⟨a1, k, c1, t⟩ :: rest) ∧ Ch (fun k => k = g) w W) ⟨S1.out, C1.out⟩ ?_
    rintro u ⟨r1, k1⟩
    have gu : u.cell? ⟨g, 0, none⟩ = some (.slice a1 k c1) := r1.cell (i := 0) (by simp)
    have fu := r1.frozen 0
    have R1 := hide r1
    have K1 := hide k1
    have HBU : Hid (Below w0.heap.size w0 u) := HB.out.trans (k1.below HB.out.size (fun j hj h => by have := HG.out; omega))
    clear r1 k1 S1 C1 g0' f0 run1
    rcases Nat.eq_zero_or_pos k with h0 | hpos
    · subst h0
      have ht : t = [] := List.length_eq_zero_iff.1 hk.out
      obtain ⟨x, HX⟩ : ∃ x, Hid (sgA (⟨a1, 0, c1, t⟩ :: rest) z = x) := ⟨_, rfl⟩
      have gz : u.cell? ⟨g, z, none⟩ = some (.slice x.a x.n x.c) := by
        have := R1.out.cell (i := z) (by simp [HRL.out])
        rwa [HX.out] at this
      have PM : Hid (((((⟨a1, 0, c1, t⟩ : Sg) :: rest).set 0 x).take z).Perm rest) := by
        have := last_first (s1 := ⟨a1, 0, c1, t⟩) (rest := rest) (x := x) (by rw [HRL.out]; exact HX.out.symm)
        rwa [HRL.out] at this
      have LN : Hid (((((⟨a1, 0, c1, t⟩ : Sg) :: rest).set 0 x).take z).length = z) := by
        show _ = _
        rw [List.length_take, List.length_set, List.length_cons, HRL.out]
        omega
      have st := slice_toII (some ⟨g, 0, none⟩) (z + 1) c z (by have := R1.out.fits; rw [List.length_cons, HRL.out] at this; omega)
      have R2 : Hid (SRw (u.setCell ⟨g, 0, none⟩ (.slice x.a x.n x.c)) g c ((((⟨a1, 0, c1, t⟩ : Sg) :: rest).set 0 x).take z)) := (R1.out.set (i := 0) (by simp) x).take z
      have HBT : Hid (HeapB 0 0 ((((⟨a1, 0, c1, t⟩ : Sg) :: rest).set 0 x).take z)) := heap_first HH.out (by rw [LN.out, List.length_cons, HRL.out]; omega) (fun i h1 h2 => by
        rw [LN.out] at h2
        obtain ⟨j, rfl⟩ : ∃ j, i = j + 1 := ⟨i - 1, by omega⟩
        unfold sgA
        rw [List.getD_eq_getElem?_getD, List.getD_eq_getElem?_getD, List.getElem?_take, if_pos h2, List.set_cons_zero, List.getElem?_cons_succ, List.getElem?_cons_succ])
      have OK3 : Hid (∀ y ∈ (((⟨a1, 0, c1, t⟩ : Sg) :: rest).set 0 x).take z, SgOk w0 y) := fun y hy => HOK.out y (List.mem_cons_of_mem _ (PM.out.mem_iff.1 hy))
      have PS : Hid (∀ d', d'.Perm ((((⟨a1, 0, c1, t⟩ : Sg) :: rest).set 0 x).take z) → Passed w0 (s0 :: rest) d') := fun d' hd => ⟨s0, ⟨a1, 0, c1, t⟩, rest, v, t, rfl, HE0.out, rfl, fun h => absurd ht h, by rw [if_pos ht]; exact hd.trans PM.out⟩
      generalize (((⟨a1, 0, c1, t⟩ : Sg) :: rest).set 0 x).take z = d3 at *
      have K2 : Hid (Ch (fun k => k = g) w (u.setCell ⟨g, 0, none⟩ (.slice x.a x.n x.c))) := K1.out.trans (ch_set u g 0 _)
      obtain ⟨xa, hxa⟩ : ∃ q, x.a = q := ⟨_, rfl⟩
      obtain ⟨xn, hxn⟩ : ∃ q, x.n = q := ⟨_, rfl⟩
      obtain ⟨xc, hxc⟩ : ∃ q, x.c = q := ⟨_, rfl⟩
      rw [hxa, hxn, hxc] at gz R2 K2
      clear hxa hxn hxc HX R1 K1 HBU ht PM
      go_upto_region 6 with fail
      refine wp_world (fun W => SRw W g c d3 ∧ Ch (fun k => k = g) w W) ⟨R2.out, K2.out⟩ ?_
      rintro u2 ⟨r2, k2⟩
      have SK : Hid (Calls Try.prog 36 #[.slice (some ⟨g, 0, none⟩) z c, .int .i64 0] u2 fun e w' => e = .returned (.tuple #[]) ∧ ∃ d', d'.Perm d3 ∧ HeapF 0 d' ∧ SRw w' g c d' ∧ Ch (fun k => k = g) u2 w') :=
        sink_any w0 g c d3 z 0 0 u2 LN.out (by omega) r2 OK3.out (HB.out.trans (k2.below HB.out.size (fun j hj h => by have := HG.out; omega))) HG.out (Nat.le_refl _) (by omega) HBT.out
      have K2' := hide k2
      clear r2 k2 R2 K2 gz gu fu
      go_wp2_with fail
      with_reducible refine SK.out.mono ?_
      rintro e w' ⟨rfl, d', p5, h5, r5, k5⟩
      have FIN : Hid (∃ (m : Nat) (d'' : List Sg), Ending.returned (.slice (some ⟨g, 0, none⟩) z c) = .returned (.slice (some ⟨g, 0, none⟩) m c) ∧ d''.length = m ∧ m ≤ z + 1 ∧ Passed w0 (s0 :: rest) d'' ∧ HeapF 0 d'' ∧ SRw w' g c d'' ∧ Ch (fun k => k = g) w w') :=
        ⟨z, d', rfl, p5.length_eq.trans LN.out, by omega, PS.out d' p5, h5, r5, K2'.out.trans k5⟩
      clear p5 h5 r5 k5 SK
      go_wp2
      go_ret
      exact FIN.out
    · obtain ⟨k, rfl⟩ : ∃ j, k = j + 1 := ⟨k - 1, by omega⟩
      have ht : t ≠ [] := fun e => by rw [e] at hk; have := hk.out; simp at this
      have f1 : (((k + 1 : Nat) : Int) == 0) = false := by simp; omega
      have f2 : (((k : Int) + 1) == 0) = false := by simp; omega
      have OK3 : Hid (∀ y ∈ (⟨a1, k + 1, c1, t⟩ : Sg) :: rest, SgOk w0 y) := fun y hy => by
        rcases List.mem_cons.1 hy with e | e
        · rw [e]
          refine ⟨?_, ht⟩
          have := Q1.out
          rwa [hk.out] at this
        · exact HOK.out y (List.mem_cons_of_mem _ e)
      have LN : Hid (((⟨a1, k + 1, c1, t⟩ : Sg) :: rest).length = z + 1) := by show _ = _; rw [List.length_cons, HRL.out]
      have HBT : Hid (HeapB 0 0 ((⟨a1, k + 1, c1, t⟩ : Sg) :: rest)) := heap_first HH.out (by simp) (fun i h1 h2 => by
        obtain ⟨j, rfl⟩ : ∃ j, i = j + 1 := ⟨i - 1, by omega⟩
        rfl)
      have PS : Hid (∀ d', d'.Perm ((⟨a1, k + 1, c1, t⟩ : Sg) :: rest) → Passed w0 (s0 :: rest) d') := fun d' hd => ⟨s0, ⟨a1, k + 1, c1, t⟩, rest, v, t, rfl, HE0.out, rfl, fun h => OK3.out _ (by simp), by rw [if_neg ht]; exact hd⟩
      have SK : Hid (Calls Try.prog 36 #[.slice (some ⟨g, 0, none⟩) (z + 1) c, .int .i64 0] u fun e w' => e = .returned (.tuple #[]) ∧ ∃ d', d'.Perm ((⟨a1, k + 1, c1, t⟩ : Sg) :: rest) ∧ HeapF 0 d' ∧ SRw w' g c d' ∧ Ch (fun k => k = g) u w') :=
        sink_any w0 g c _ (z + 1) 0 0 u LN.out hn10 R1.out OK3.out HBU.out HG.out (Nat.le_refl _) (by omega) HBT.out
      generalize ((⟨a1, k + 1, c1, t⟩ : Sg) :: rest) = d3 at *
      clear R1 HBU ht OK3 HBT hk
      go_wp2_with fail
      with_reducible refine SK.out.mono ?_
      rintro e w' ⟨rfl, d', p5, h5, r5, k5⟩
      have FIN : Hid (∃ (m : Nat) (d'' : List Sg), Ending.returned (.slice (some ⟨g, 0, none⟩) (z + 1) c) = .returned (.slice (some ⟨g, 0, none⟩) m c) ∧ d''.length = m ∧ m ≤ z + 1 ∧ Passed w0 (s0 :: rest) d'' ∧ HeapF 0 d'' ∧ SRw w' g c d'' ∧ Ch (fun k => k = g) w w') :=
        ⟨z + 1, d', rfl, p5.length_eq.trans LN.out, by omega, PS.out d' p5, h5, r5, K1.out.trans k5⟩
      clear p5 h5 r5 k5 SK
      go_wp2
      go_ret
      exact FIN.out
end Go.Proofs.Ythmcliapdnbdjaa
