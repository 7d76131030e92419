/-
  What ID of the index comes to: a set's number, and the sets behind it: a contract, for every world.
  Conditions: the index lies in memory, the set outside its blocks.
-/
import Derived.Test.YtpffhpnmbpjifaaGreatIdxDe
namespace Go.Proofs.YtpffhpnmbpjifaaGreat
open Go.RowKit Go.Maps
set_option maxRecDepth 20000

theorem stepI_below {w w' : World} {g : Nat} {S : Nat → Prop} {L : Lx} (h : IAt w g S L) (b : Below w.heap.size w w') : StepX IAt w w' g S L :=
  ⟨S, h.below b, fun _ hk => Or.inl hk, (Ch.of_below b).more (fun _ _ h => h.elim)⟩
theorem stepI_from {w u w' : World} {g : Nat} {S : Nat → Prop} {L : Lx} (b : Below w.heap.size w u) (h : StepX IAt u w' g S L) : StepX IAt w w' g S L := by
  obtain ⟨S', h1, h2, h3⟩ := h
  have := b.size
  refine ⟨S', h1, fun k hk => ?_, ((Ch.of_below b).more (fun _ _ h => h.elim)).trans h3⟩
  rcases h2 k hk with e | e
  · exact Or.inl e
  · exact Or.inr (by omega)
/-- What ID tells. -/
def IdI (L : Lx) (l : List Lb) (g : Nat) (S : Nat → Prop) (w : World) (e : Ending) (w' : World) : Prop := e = .returned (.tuple #[.int .i64 (idN L l), .int .i64 (idE L l)]) ∧ StepX IAt w w' g S (idL L l)

set_option maxHeartbeats 4000000 in
theorem id_any (g : Nat) (S : Nat → Prop) (L : Lx) (a : Option Addr) (n c : Nat) (l : List Lb) (w : World) (h : IAt w g S L) (hr : RowL w a n l) (hnc : a = none → c = 0) (hap : ∀ b off, a = some ⟨b, off, none⟩ → n ≠ 0 → ¬ S b) :
    Calls Tryz.prog 17 #[.pointer (some ⟨g, 0, none⟩), .slice a n c] w fun e w' => IdI L l g S w e w' := by
  have HX := hide h
  have HR := hide hr
  have CK := hide (laC.chk a n c l w hr)
  have FI := hide (fun u (hu : Below w.heap.size w u) => find_any g S L a n c l u (h.below hu) (hr.below hu (Nat.le_refl _)))
  have HAP := hide hap
  have HNC := hide hnc
  clear h hr hap hnc
  cases hc : chkL l with
  | false =>
    rw [hc] at CK
    have F : Hid (∀ u, Below w.heap.size w u → IdI L l g S w (.returned (.tuple #[.int .i64 (-1), .int .i64 5])) u) := fun u hu => by
      obtain ⟨e1, e2, e3⟩ := id_no (L := L) hc
      refine ⟨by rw [e1, e2], ?_⟩
      rw [e3]
      exact stepI_below HX.out hu
    clear hc FI
    go_enter Tryz.func17, Tryz.ntmps17
    go_wp2_with fail
    with_reducible refine CK.out.mono ?_
    rintro e u1 ⟨rfl, b1⟩
    have B1 := hide b1
    clear b1 CK
    go_wp2
    refine bodyPost_ret (v := .tuple #[.int .i64 (-1), .int .i64 5]) (by simp [results, Tryz.results17, go_sem]) rfl ?_
    exact F.out _ B1.out
  | true =>
    rw [hc] at CK
    cases hf : findX L l with
    | some k =>
      have F : Hid (∀ u, Below w.heap.size w u → IdI L l g S w (.returned (.tuple #[.int .i64 (k : Int), .int .i64 0])) u) := fun u hu => by
        obtain ⟨e1, e2, e3⟩ := id_has hc hf
        refine ⟨by rw [e1, e2], ?_⟩
        rw [e3]
        exact stepI_below HX.out hu
      have FI2 : Hid (∀ u, Below w.heap.size w u → Calls Tryz.prog 31 #[.pointer (some ⟨g, 0, none⟩), .slice a n c] u fun e w' => e = .returned (.tuple #[.int .i64 (k : Int), .bool true]) ∧ Below u.heap.size u w') := fun u hu => (FI.out u hu).mono fun e w' q => by
        obtain ⟨q1, q2⟩ := q
        simp [hc, hf, findN] at q1
        exact ⟨q1, q2⟩
      clear hc hf FI
      go_enter Tryz.func17, Tryz.ntmps17
      go_wp2_with fail
      with_reducible refine CK.out.mono ?_
      rintro e u1 ⟨rfl, b1⟩
      have B1 := hide b1
      clear b1 CK
      go_wp2_with fail
      with_reducible refine (FI2.out _ B1.out).mono ?_
      rintro e u2 ⟨rfl, b2⟩
      have B2 := hide (bel_to B1.out (Nat.le_refl _) b2)
      clear b2 FI2 B1
      go_wp2
      refine bodyPost_ret (v := .tuple #[.int .i64 (k : Int), .int .i64 0]) (by simp [results, Tryz.results17, go_sem]) rfl ?_
      exact F.out _ B2.out
    | none =>
      have FI2 : Hid (∀ u, Below w.heap.size w u → Calls Tryz.prog 31 #[.pointer (some ⟨g, 0, none⟩), .slice a n c] u fun e w' => e = .returned (.tuple #[.int .i64 (-1), .bool false]) ∧ Below u.heap.size u w') := fun u hu => (FI.out u hu).mono fun e w' q => by
        obtain ⟨q1, q2⟩ := q
        simp [hc, hf, findN] at q1
        exact ⟨q1, q2⟩
      have LE : Hid (∀ u, Below w.heap.size w u → Calls Tryz.prog 20 #[.pointer (some ⟨g, 0, none⟩)] u fun e w' => e = .returned (.int .i64 (L.length : Int)) ∧ w' = u) := fun u hu => by
        obtain ⟨_, _, ax, cx, hs, bn, bp, nb, p, q, _, hB⟩ := HX.out.below hu
        exact len_any g S L L L ax cx hs bn bp nb p q u hB
      by_cases hfull : 4096 ≤ L.length
      · have F : Hid (∀ u, Below w.heap.size w u → IdI L l g S w (.returned (.tuple #[.int .i64 (-1), .int .i64 2])) u) := fun u hu => by
          obtain ⟨e1, e2, e3⟩ := id_full hc hf hfull
          refine ⟨by rw [e1, e2], ?_⟩
          rw [e3]
          exact stepI_below HX.out hu
        have hm4 : (4096 : Int) ≤ (L.length : Int) := by omega
        generalize L.length = m at *
        clear hc hf FI hfull
        go_enter Tryz.func17, Tryz.ntmps17
        go_wp2_with fail
        with_reducible refine CK.out.mono ?_
        rintro e u1 ⟨rfl, b1⟩
        have B1 := hide b1
        clear b1 CK
        go_wp2_with fail
        with_reducible refine (FI2.out _ B1.out).mono ?_
        rintro e u2 ⟨rfl, b2⟩
        have B2 := hide (bel_to B1.out (Nat.le_refl _) b2)
        clear b2 FI2 B1
        go_wp2_with fail
        with_reducible refine (LE.out _ B2.out).mono ?_
        rintro e u3 ⟨rfl, hw⟩
        rw [hw]
        clear hw LE
        go_wp2
        refine bodyPost_ret (v := .tuple #[.int .i64 (-1), .int .i64 2]) (by simp [results, Tryz.results17, go_sem]) rfl ?_
        exact F.out _ B2.out
      · have TK : Hid (∀ u, Below w.heap.size w u → Calls Tryz.prog 32 #[.pointer (some ⟨g, 0, none⟩), .slice a n c] u fun e w' => e = .returned (.int .i64 (L.length : Int)) ∧ IdI L l g S w (.returned (.tuple #[.int .i64 (L.length : Int), .int .i64 0])) w') := fun u hu => by
          obtain ⟨hG, _, ax, cx, hs, bn, bp, nb, p, q, hnb, hB⟩ := HX.out.below hu
          refine (take_any g S L a n c l ax cx hs bn bp nb p q u hG (by omega) hB hnb (HR.out.below hu (Nat.le_refl _)) HNC.out hc hf HAP.out).mono ?_
          rintro e w' ⟨h1, h2⟩
          refine ⟨h1, ?_⟩
          obtain ⟨e1, e2, e3⟩ := id_new hc hf (by omega)
          refine ⟨by rw [e1, e2], ?_⟩
          rw [e3]
          exact stepI_from hu h2
        have hm4 : ¬ (4096 : Int) ≤ (L.length : Int) := by omega
        generalize L.length = m at *
        clear hc hf FI hfull
        go_enter Tryz.func17, Tryz.ntmps17
        go_wp2_with fail
        with_reducible refine CK.out.mono ?_
        rintro e u1 ⟨rfl, b1⟩
        have B1 := hide b1
        clear b1 CK
        go_wp2_with fail
        with_reducible refine (FI2.out _ B1.out).mono ?_
        rintro e u2 ⟨rfl, b2⟩
        have B2 := hide (bel_to B1.out (Nat.le_refl _) b2)
        clear b2 FI2 B1
        go_wp2_with fail
        with_reducible refine (LE.out _ B2.out).mono ?_
        rintro e u3 ⟨rfl, hw⟩
        rw [hw]
        clear hw LE
        go_wp2_with fail
        with_reducible refine (TK.out _ B2.out).mono ?_
        rintro e u4 ⟨rfl, h4⟩
        have F4 := hide h4
        clear h4 TK
        go_wp2
        refine bodyPost_ret (v := .tuple #[.int .i64 (m : Int), .int .i64 0]) (by simp [results, Tryz.results17, go_sem]) rfl ?_
        exact F4.out
end Go.Proofs.YtpffhpnmbpjifaaGreat
