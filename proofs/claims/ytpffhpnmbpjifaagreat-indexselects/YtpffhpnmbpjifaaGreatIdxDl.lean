/-
  What Values' iterator does for every loop body, and what beginning of the index comes to: contracts, for every world.
  Conditions: the index lies in memory.
-/
import Derived.Test.YtpffhpnmbpjifaaGreatIdxDj
import Derived.Test.YtpffhpnmbpjifaaGreatIdxDk
import Derived.RangeFuncFrom
import Derived.LoopNIn
namespace Go.Proofs.YtpffhpnmbpjifaaGreat
open Go.RowKit Go.Maps Go.Shelf
attribute [local go_sem] Oper.semAt_some
set_option maxRecDepth 20000

theorem rowsIn_of {l n : Nat} {P : Program} {row : String} {args : Array Value} {w : World} {R : Value → World → Prop} (h : Rows P row args w R) : RowsIn (Fence.wide.inRound l) n P row args w R := fun c cs _ => by
  obtain ⟨v, w', r, s⟩ := h c cs
  exact ⟨v, w', r, stepsIn_wide.2 s⟩
/-- An operation within a loop's body goes as elsewhere. -/
theorem opIn_of {l n : Nat} {P : Program} {o : Oper} {a : Act} {w : World} {K : Act → World → Prop} {Q : Exit → Act → World → Prop} (hd : ∀ c, o.op ≠ .defer c) (h : o.wp P a w K Q) : o.wpIn (Fence.wide.inRound l) n P a w K Q := by
  refine ⟨fun _ _ => trivial, ?_⟩
  unfold Oper.wp at h
  rw [Fence.inRound_round, Oper.semAt_some l _ o hd]
  generalize (execOp a.eval o).run P w = r at *
  cases r with
  | ok x w' =>
    cases x <;> simp only [Oper.upon] at h <;> simp only [Oper.uponIn]
    case value => exact h
    case skip => exact h
    case defer => exact h
    case enter => exact ⟨fun e => (by cases e), CallsIn.inRound l (callsIn_wide.2 h)⟩
    case row => exact ⟨fun e => (by cases e), rowsIn_of h⟩
  | halt x w' => cases x <;> simp only [Oper.upon] at h <;> simp only [Oper.uponIn] <;> exact h
theorem anyIn_of {l n : Nat} {P : Program} {md : Region.Mode} {ops : Array Oper} {Q : Exit → Act → World → Prop} {S : World → Prop} (hd : ∀ (i : Nat) (o : Oper), ops[i]? = some o → ∀ c, o.op ≠ .defer c) (hQ : ¬ LetsOut Q) :
    ∀ (fuel : Nat) (listed : Array Bool) (a : Act) (w : World), wpAnyH P md ops Q S fuel listed a w → wpAnyIn (Fence.wide.inRound l) n P md ops Q fuel listed a w
  | 0, _, _, _, h => h
  | fuel + 1, listed, a, w, h => ⟨h.1, fun i hi => by
    have := h.2 i hi
    unfold wpOp at this
    unfold wpOpIn
    cases ho : ops[i]? with
    | none =>
      simp only [ho] at this ⊢
      exact anyIn_of hd hQ fuel _ _ _ this.2
    | some o =>
      simp only [ho] at this ⊢
      split
      · rename_i hw
        simp only [hw, if_true] at this
        rcases this with this | this
        · exact opIn_of (hd i o ho) (Oper.wp_mono (fun a w q => anyIn_of hd hQ fuel _ a w q.2) this)
        · exact absurd this.2 hQ
      · rename_i hw
        simp only [hw] at this
        exact ⟨fun _ _ => trivial, anyIn_of hd hQ fuel _ _ _ this.2⟩⟩
/-- None of them defers. -/
def noDefer (ops : Array Oper) : Bool := ops.all fun o => match o.op with | .defer _ => false | _ => true
theorem noDefer_at {ops : Array Oper} (h : noDefer ops = true) (i : Nat) (o : Oper) (ho : ops[i]? = some o) : ∀ c, o.op ≠ .defer c := fun c e => by
  unfold noDefer at h
  rw [Array.all_eq_true] at h
  obtain ⟨hi, q⟩ := Array.getElem?_eq_some_iff.1 ho
  have := h i hi
  rw [q, e] at this
  cases this
theorem regionIn_of {l n id : Nat} {P : Program} {ops : Array Oper} {Q : Exit → Act → World → Prop} {S : World → Prop} {a : Act} {w : World} (hm : P.follows .mixedOrders = true) (hd : noDefer ops = true) (hQ : ¬ LetsOut Q) (hS : S w.drew)
    (h : S w.drew → wpAnyH P .any ops Q S ops.size (Array.replicate ops.size false) a w.drew) : (Code.region id ops true).wpIn (Fence.wide.inRound l) n P Q a w :=
  wpIn_region_any hm (anyIn_of (noDefer_at hd) hQ _ _ _ _ (h hS))

theorem attach_at {vs : List Vn} {k : Nat} {y : Vn} (h : vs[k]? = some y) : vs.attach[k]? = some ⟨y, List.mem_of_getElem? h⟩ := by
  obtain ⟨hk, e⟩ := List.getElem?_eq_some_iff.1 h
  rw [List.getElem?_eq_getElem (by rw [List.length_attach]; exact hk)]
  congr 1
  apply Subtype.ext
  rw [List.getElem_attach]
  exact e

set_option maxHeartbeats 2000000 in
theorem vals_stops (m : Nat) (hm : 1 ≤ m) (w1 w0 : World) (Bv Bc M : Nat) (vs : List Vn) (a : Option Addr) (c : Nat) (a' : Option Addr) (c' : Nat) (lo : Nat) (h : VlB w1 Bv Bc M vs a c a' c') (ho : VlO lo Bv Bc M a c a' c') (hw : Below w1.heap.size w1 w0) :
    SeqStopsK Fence.wide m Tryz.prog 84 #[.pointer (some ⟨Bv, 0, none⟩), .pointer (some ⟨Bc, 0, none⟩)] (fun x : { y : Vn // y ∈ vs } => #[.string x.1.1, .int .i64 (x.1.2 : Int)]) (Ch (fun k => ¬ (lo ≤ k ∧ k < w1.heap.size))) (fun xs => xs = vs.attach) (fun _ => True) M w0 := fun l J Jx W hW hJ hJx hY h0 => by
  have HBW : Hid (Ch (fun k => ¬ (lo ≤ k ∧ k < w1.heap.size)) w1 W) := (Ch.of_below (bel_to hw (Nat.le_refl _) hW)).more (fun _ _ e => e.elim)
  have hcell := (h.keep ho HBW.out).bv.cell
  have hM := h.few
  have HL : Hid (vs.attach.length = M) := by show _ = _; rw [List.length_attach]; exact h.len
  have HV := hide h
  have HY := hide hY
  have HO := hide ho
  clear h ho hW hw hJ hJx hY
  refine callsIn_of_wp Tryz.func84 rfl trivial ?_ rfl
  simp only [Tryz.ntmps84, List.size_toArray, List.length_cons, List.length_nil, Nat.reduceAdd, Nat.reduceSub, Array.replicate_succ, Array.replicate_zero, List.push_toArray, List.append_toArray, List.nil_append, List.cons_append]
  gi_wp2
  clear hcell
  gi_loopw [8] (fun p wr => ∃ (k : Nat), p = .int .i64 k ∧ k ≤ M ∧ Hid (J (vs.attach.take k) wr) ∧ Hid (Ch (fun k => ¬ (lo ≤ k ∧ k < w1.heap.size)) w1 wr)) (fun p _ => M - (intOf p).toNat)
  case atStart => exact ⟨0, rfl, by omega, h0, HBW⟩
  case round =>
    obtain ⟨k, rfl, hk, HJs, HB⟩ := hrel
    by_cases hlt : k < M
    · have hVr := HV.out.keep HO.out HB.out
      obtain ⟨b, b', ⟨ys, yn⟩, rfl, rfl, hy, g1, g2⟩ := hVr.at' hlt
      dsimp only at g1 g2
      have y2 := hVr.bc.cell
      have HS : Hid (vs.attach.take (k + 1) = vs.attach.take k ++ [⟨(ys, yn), List.mem_of_getElem? hy⟩]) := take_of (attach_at hy)
      have i1 : (0 : Int) ≤ (k : Int) := by omega
      have i2 : (k : Int) < (M : Int) := by omega
      obtain ⟨fn, tmps, assign, body, hy', hR⟩ := HY.out (vs.attach.take k) ⟨(ys, yn), List.mem_of_getElem? hy⟩ wr HJs.out (by rw [List.length_take, HL.out]; omega)
      rw [← HS.out] at hR
      dsimp only at hy'
      clear hVr HS hy
      gi_wp2
      refine hR.mono ?_
      rintro e w3 (⟨rfl, j3, hk3⟩ | ⟨rfl, jx3⟩)
      · have HJ3 := hide j3
        have HB3 : Hid (Ch (fun k => ¬ (lo ≤ k ∧ k < w1.heap.size)) w1 w3) := HB.out.trans hk3
        clear j3 hk3 hR hy'
        gi_wp2
        go_roundw
        case rel => exact ⟨k + 1, by go_num, by omega, HJ3, HB3⟩
        case measure => simp [intOf]; omega
      · have HJ3 := hide jx3
        clear jx3 hR hy'
        gi_wp2
        refine bodyPost_ret (results_none rfl _ _ _) rfl ?_
        exact ⟨⟨_, rfl⟩, .inr ⟨_, trivial, HJ3⟩⟩
    · have HE : Hid (vs.attach.take k = vs.attach) := List.take_of_length_le (by rw [HL.out]; omega)
      have i2 : ¬ (k : Int) < (M : Int) := by omega
      rw [HE.out] at HJs
      gi_wp2
      go_end0
      exact ⟨⟨_, rfl⟩, .inl HJs.out⟩
end Go.Proofs.YtpffhpnmbpjifaaGreat
