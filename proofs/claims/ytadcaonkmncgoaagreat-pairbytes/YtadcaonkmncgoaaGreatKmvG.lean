/-
  A sketch's bytes, there and back: Put, Get: contracts, for every world; what a list that may be is got as.
  Conditions: the slices show their numbers.
-/
import Derived.Test.YtadcaonkmncgoaaGreatKmvAz
import Derived.Test.YtadcaonkmncgoaaGreatBytB
import Derived.Test.YtadcaonkmncgoaaGreatVintR
namespace Go.Proofs.YtadcaonkmncgoaaGreat
open Go.RowKit
set_option maxRecDepth 20000

section
variable {P : Program} {ops : Array Oper} {Q : Exit → Act → World → Prop} {md : Region.Mode} {S : World → Prop}
/-- A call in a region that draws its order: what holds from then on is told behind the call. -/
theorem held_call2 {i : Nat} {o : Oper} {fuel : Nat} {listed : Array Bool} {a : Act} {w : World} (hr : Region.ready md ops listed = [i]) (ho : ops[i]? = some o) (hw : Region.wanted o (yielded ops a.tmps) = true)
    (h : ∀ K' : Act → World → Prop, Shut (∀ (S2 : World → Prop) a w, (∀ w, S2 w → S w) → S2 w → wpAnyH P md ops Q S2 fuel (listed.setIfInBounds i true) a w → K' a w) → Oper.wp P o a w K' Q) : wpAnyH P md ops Q S (fuel + 1) listed a w := by
  refine wpAnyH_all hr (by simp) ?_
  intro j hj
  have : j = i := by simpa using hj
  subst this
  unfold wpOp
  simp only [ho]
  rw [if_pos hw]
  refine Or.inl (h _ ?_)
  intro S2 a' w' hi hS h'
  exact ⟨hi _ hS, held_mono hi _ _ _ _ h'⟩
end

theorem up_rises {p : Int} {l : List Int} (h : Up l) (hp : ∀ x ∈ l, p < x) : Rises p l := by
  induction l generalizing p with
  | nil => trivial
  | cons x t ih =>
    have h1 := List.pairwise_cons.1 h
    exact ⟨hp x (List.mem_cons_self ..), ih h1.2 h1.1⟩
theorem riseS_most {l : List Int} {most : Int} (hl : l.length ≤ 9223372036854775807) (hm : (l.length : Int) ≤ most) (hr : Rises (-1) l) (hw : ∀ x ∈ l, W64 x) (xs ys : List Int) :
    riseS (xs ++ (putR l ++ ys)) xs.length most = some (l, ((xs.length + (putR l).length : Nat) : Int)) := by
  have hg := getS_at (w64_len hl) xs (riseB 18446744073709551615 l ++ ys)
  have hb := (riseB_len 18446744073709551615 l).1
  unfold riseS sizeS putR
  rw [List.append_assoc, hg]
  simp only [List.length_append]
  rw [if_neg (by omega)]
  simp only [Int.toNat_natCast]
  have hi := riseG_at l (-1) (by omega) hr hw (xs ++ putS (l.length : Int)) ys
  rw [riseB_top, List.append_assoc, List.length_append] at hi
  rw [hi]
  simp only [Option.some.injEq, Prod.mk.injEq, true_and]
  omega
/-- A list that may be, behind any bytes, is got back. -/
theorem rise_back {l xs : List Int} (hck : chkK l = true) (hw : ∀ x ∈ l, W64 x) : riseS (xs ++ putR l) xs.length 1024 = some (l, ((xs.length + (putR l).length : Nat) : Int)) := by
  have h := chk_up hck
  have := riseS_most (most := 1024) (by omega) (by omega) (up_rises h.1 (fun x hx => by have := (hw x hx).1; omega)) hw xs []
  rwa [List.append_nil] at this

theorem kput_any (a : Option Addr) (n cap : Nat) (zs : List Int) (b : Option Addr) (m capb : Nat) (ls : List Int) (w : World) (hn : n + 10 * m ≤ 211106232532960) (hc : n ≤ cap) (hr : Row .u8 w a n zs) (hl : Row .u64 w b m ls) :
    Calls Tryz.prog 17 #[.slice a n cap, .slice b m capb] w fun e w' => ∃ a' cap', e = .returned (.slice a' (n + (putR ls).length) cap') ∧ Mine w' w.heap.size a' (n + (putR ls).length) cap' (zs ++ putR ls) ∧ Below w.heap.size w w' := by
  have C := hide (putrise_any a n cap zs b m capb ls w hn hc hr hl)
  generalize (putR ls).length = L at *
  clear hr hl
  go_enter Tryz.func17, Tryz.ntmps17
  go_wp2_with fail
  refine C.out.mono ?_
  rintro e w1 ⟨a1, c1, rfl, o1, b1⟩
  have O1 := hide o1
  have B1 := hide b1
  clear o1 b1 C
  go_wp2
  go_ret
  exact ⟨a1, c1, rfl, O1.out, B1.out⟩
theorem kget_any (at' : Int) (a : Option Addr) (n cap : Nat) (zs : List Int) (w : World) (ha : (Lit.int .i64 at').wf = true) (hc : n ≤ cap) (hr : Row .u8 w a n zs) :
    Calls Tryz.prog 23 #[.slice a n cap, .int .i64 at'] w fun e w' => RiseP (riseS zs at' 1024) w.heap.size w' e ∧ Below w.heap.size w w' := by
  have C := hide (getrise_any at' 1024 a n cap zs w ha (by decide) hc hr (Or.inl (by decide)))
  clear hr ha
  cases hg : riseS zs at' 1024 with
  | none =>
    rw [hg] at C
    simp only [RiseP] at C ⊢
    clear hg
    go_enter Tryz.func23, Tryz.ntmps23
    go_wp2_with fail
    refine C.out.mono ?_
    rintro e w1 ⟨rfl, b1⟩
    have B1 := hide b1
    clear b1 C
    go_wp2
    refine bodyPost_ret (results_tmp3 rfl _ _ _) rfl ?_
    exact ⟨rfl, B1.out⟩
  | some q =>
    obtain ⟨l, nx⟩ := q
    rw [hg] at C
    simp only [RiseP] at C ⊢
    clear hg
    generalize l.length = ll at *
    go_enter Tryz.func23, Tryz.ntmps23
    go_wp2_with fail
    refine C.out.mono ?_
    rintro e w1 ⟨⟨a1, c1, rfl, o1⟩, b1⟩
    have B1 := hide b1
    have O1 := hide o1
    clear b1 o1 C
    go_wp2
    refine bodyPost_ret (results_tmp3 rfl _ _ _) rfl ?_
    exact ⟨⟨a1, c1, rfl, O1.out⟩, B1.out⟩
end Go.Proofs.YtadcaonkmncgoaaGreat
