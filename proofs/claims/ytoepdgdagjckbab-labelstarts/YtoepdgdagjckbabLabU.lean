/-
  The law LabelTurns, over what the laws ask of the program's own functions on labels (written by gen/labu.gen.py); an append of labels in a region that draws its order.
  Conditions: as LaN, LaC, LaV, LaM, LaT say.
-/
import Derived.Test.YtoepdgdagjckbabLabC
import Derived.Test.YtoepdgdagjckbabLabN
import Derived.Test.YtoepdgdagjckbabPlace
import Derived.Deep.RegionHeld3
import Derived.Deep.DeepCutAuto
import Derived.Laws.AppendOwnNone
namespace Go.Proofs.Ytoepdgdagjckbab
open Go.RowKit Go.Deep
set_option maxRecDepth 20000

/-- Labels behind a row of the call's own, for an operation of a region that draws its order. -/
theorem wp_append_labs {P : Program} {w : World} {o : Oper} {a : Act} {K : Act → World → Prop} {Q : Exit → Act → World → Prop} (s x : Operand) (t : TypeId)
    (ho : o.op = .call { callee := .builtin .append, args := #[s, x], argTypes := #[t, t] })
    (base : Nat) (i : TypeInfo) (ht : P.underlying t = some (.slice 40)) (hi : P.info? 40 = some i) (hz : i.zero = some (.agg #[.string .empty, .string .empty])) (hsize : i.size = 2) (hby : i.bytes = 32)
    (ao : Option Addr) (n cap : Nat) (l : List Lb) (hs : a.eval s = .slice ao n cap) (hown : OwnL w base ao n cap l)
    (bo : Option Addr) (m c : Nat) (news : List Lb) (hx : a.eval x = .slice bo m c) (hm : news.length = m) (hrow : ∀ ad, bo = some ad → ∀ j u, (flatL news)[j]? = some u → w.cell? (ad.add j) = some u) (hbo : bo = none → m = 0 ∧ c = 0)
    (hbytes : (n + m) * 32 ≤ 140737488355328) (hbase : base ≤ w.heap.size)
    (h : ∀ a' cap' w', OwnL w' base a' (n + m) cap' (l ++ news) → Below base w w' → K (a.put o.dst (.slice a' (n + m) cap')) w') : o.wp P a w K Q := by
  cases bo with
  | none =>
    obtain ⟨rfl, rfl⟩ := hbo rfl
    have hz : news = [] := List.length_eq_zero_iff.1 hm
    subst hz
    have hrun := run_append_owned_none (P := P) (w := w) base t o.type 40 i 2 ht hi _ n (flatL l) hown
    unfold Oper.wp
    simp [execOp, ho, resolve, invoke, builtin, hs, hx, hrun, Result.andThen]
    have := h ao cap w (by rw [List.append_nil]; exact hown) (Below.refl _ _)
    exact this
  | some ad =>
    refine wp_append_own w s x t ho base 40 i (.agg #[.string .empty, .string .empty]) 2 32 ht hi hz hsize hby rfl (by decide) _ n (flatL l) hs hown ad m c (flatL news) hx (by rw [flatL_len, hm]) (hrow ad rfl) (flatL_one news) (by unfold maxLen; omega) hbytes hbase ?_
    intro v' w' h1 h2 _
    rw [← flatL_append] at h1
    obtain ⟨a', cap', rfl, h3⟩ := ownL_form h1
    exact h a' cap' w' h3 ((Below.refl _ _).grown h2 hbase hown.block)
theorem rowL_none (w : World) (a : Option Addr) : RowL w a 0 [] := ⟨rfl, by decide, by simp, Or.inl rfl⟩
theorem placeL {v : Int} {n : Nat} : ∃ k : Nat, k ≤ n ∧ v % ((n : Int) + 1) = (k : Int) := by
  have h0 := Int.emod_nonneg v (show ((n : Int) + 1) ≠ 0 by omega)
  have h1 := Int.emod_lt_of_pos v (show (0 : Int) < (n : Int) + 1 by omega)
  exact ⟨(v % ((n : Int) + 1)).toNat, by omega, by omega⟩
theorem from_nilL {a : Option Addr} {n cap m : Nat} (h3 : a = none → n = 0 ∧ cap = 0) (hm : m ≤ n) : (if cap = m then a else a.map (·.add (m * 2))) = none → cap - m = 0 := by
  intro e
  by_cases hc : cap = m
  · omega
  · rw [if_neg hc, Option.map_eq_none_iff] at e
    have := h3 e
    omega
theorem makeL_chk {l r : List Lb} (h : makeL l = some r) : chkL r = true := by
  unfold makeL at h
  split at h
  · simp only [Option.some.injEq] at h
    subst h
    assumption
  · cases h

set_option maxHeartbeats 8000000 in
theorem turnsL_of (N : LaN) (C : LaC) (V : LaV) (M : LaM) (T : LaT) (a : Option Addr) (n cap : Nat) (l : List Lb) (turn : Int) (name : ByteArray) (w : World) (q : RowL w a n l) (hcap : n ≤ cap) (h3 : a = none → n = 0 ∧ cap = 0) (hs : name.size ≤ 9223372036854775807) :
    Calls Try.prog 4 #[.slice a n cap, .int .i64 turn, .string name] w fun e w' => e = .returned (.bool true) ∧ Below w.heap.size w w' := by
  have AW := hide (awakeL_any N C V M T)
  have hn := q.2.1
  by_cases hbig : 30 < n
  · have e1 : (30 : Int) < (n : Int) := by omega
    have L0 : Hid (Below w.heap.size w w) := Below.refl _ _
    clear N C V M T q
    go_enter Try.func4, Try.ntmps4
    go_wp2_with fail
    with_reducible refine (AW.out _).mono ?_
    rintro e v1 ⟨rfl, b2⟩
    have L1 := hide (bel_too L0.out b2)
    clear b2 L0 
    go_wp2
    go_ret
    exact ⟨rfl, L1.out⟩
  · have e1 : ¬ (30 : Int) < (n : Int) := by omega
    obtain ⟨i0, hi, hz0, hz1, hz2⟩ := info_parts Try.infoL
    obtain ⟨k, hk, ek⟩ := placeL (v := turn) (n := n)
    have PK := hide (fun W => place_any turn ((n : Int) + 1) (by omega) (by omega) W)
    rw [ek] at PK
    have HR := hide q
    have HN := hide hn
    have OW := hide q.2.2.1
    have OM : Hid (∀ x ∈ l.drop k ++ l.take k ++ [(name, .empty)], LbW x) := fun x hx => by
      rcases List.mem_append.1 hx with h | h
      · rcases List.mem_append.1 h with h | h
        · exact OW.out x (List.mem_of_mem_drop h)
        · exact OW.out x (List.mem_of_mem_take h)
      · rw [List.mem_singleton.1 h]
        exact ⟨hs, Nat.zero_le _⟩
    have f1 := fun W => slice_toL a n cap k (by omega) W
    have f2 := fun W => slice_fromL a n cap k hk W
    have N2 := hide (from_nilL (m := k) h3 hk)
    have HTN : Hid (a = none → k = 0 ∧ cap = 0) := fun e => by have := h3 e; omega
    have LT : Hid ((l.take k).length = k) := by show _ = _; rw [List.length_take, q.1]; omega
    have R1 := hide (fun W (b : Below w.heap.size w W) => ((HR.out.below b (Nat.le_refl _)).to k hk).hrow)
    have R2 := hide (fun W (b : Below w.heap.size w W) => (HR.out.from k hk hcap).below b (Nat.le_refl _))
    obtain ⟨nk, hnk⟩ : ∃ m, Hid (n - k = m) := ⟨_, rfl⟩
    have NK : Hid (nk ≤ 30 ∧ k ≤ 30) := ⟨by rw [← hnk.out]; omega, by omega⟩
    have ER : Hid (nk + k + 1 = n + 1) := by show _ = _; rw [← hnk.out]; omega
    rw [hnk.out] at f2 R2
    generalize (if cap = k then a else a.map (·.add (k * 2))) = a2 at f2 R2 N2
    generalize cap - k = cz at f2 N2
    have LB2 := hide (fun W q => labels_any a2 nk cz (l.drop k) W q N2.out)
    have LBA := hide (fun W q => labels_any a n cap l W q (fun e => (h3 e).2))
    have PM := hide (fun W b c (q : RowL W b n l) => M.make b n c l W q (by omega))
    have PM2 := hide (fun W b c (q : RowL W b (n + 1) (l.drop k ++ l.take k ++ [(name, .empty)])) => M.make b (n + 1) c _ W q (by omega))
    rw [makeL_round] at PM2
    have SM := hide (fun W b c b' c' (q : RowL W b 0 []) (q' : RowL W b' 0 []) => quietB (samelabs_any b 0 c [] b' 0 c' [] W q q'))
    rw [show decide (([] : List Lb) = []) = true from decide_eq_true rfl] at SM
    have PC := hide (fun W b c r (q : RowL W b r.length r) => C.chk b r.length c r W q)
    clear N C V M T q ek hnk hk hbig h3 N2
    unfold MadeL at PM PM2
    cases hm : makeL l with
    | none =>
      rw [hm] at PM PM2
      simp only at PM PM2
      clear hm PC
      go_enter Try.func4, Try.ntmps4
      go_wp2_with fail
      with_reducible refine (PK.out _).mono ?_
      rintro e w' ⟨rfl, hw⟩
      rw [hw]
      clear hw w' PK
      go_upto_region 4 with fail
      have SZ : Hid (w.drew.heap.size ≤ w.drew.heap.size) := Nat.le_refl _
      have Z0 := hide (Below.refl w.drew.heap.size w.drew)
      have D0 : Hid (Below w.heap.size w w.drew) := (Below.refl _ _).drew
      go_region_held3 (fun w' => Hid (Below w.drew.heap.size w.drew w')) (assumption) (first
        | (go_at_call 11; with_reducible refine (LB2.out _ (R2.out _ D0.out)).mono ?_; rintro e u1 ⟨d1, c1, rfl, o1, b1⟩; have O1 := hide o1; have Z1 := hide b1; have DZ1 := hide (bel_too D0.out b1))
        | (refine wp_append_labs _ _ 22 rfl w.drew.heap.size i0 Try.underlying22 hi hz0 hz1 hz2 d1 nk c1 _ rfl O1.out a k cap _ rfl LT.out (R1.out _ DZ1.out) HTN.out (by have := NK.out; omega) Z1.out.size ?_; intro d2 c2 u2 o2 b2; have O2 := hide o2; have Z2 := hide (Z1.out.trans b2)))
      have W2 : Hid (Below w.heap.size w u2) := bel_too D0.out Z2.out
      have X2 := hide (O2.out.mono (base' := w.heap.size) D0.out.size)
      have SU : Hid (w.heap.size ≤ u2.heap.size) := W2.out.size
      clear o1 b1 O1 Z0 Z1 DZ1 o2 b2 O2 Z2 SZ D0 f1 f2 R1 R2 LB2 LT HTN
      go_wp2_with (at_builtin; refine wpList_append_labs _ rfl _ _ 22 rfl w.heap.size i0 Try.underlying22 hi hz0 hz1 hz2 d2 (nk + k) c2 (l.drop k ++ l.take k) rfl (X2.out.alloc _) (some ⟨u2.heap.size, 0, none⟩) 1 1 [(name, .empty)] rfl rfl (one_hrow u2 (name, .empty) _) (fun e => by cases e) (by have := NK.out; omega) (by have := SU.out; simp; omega) ?_)
      intro d3 c3 v0 o3 b3
      rw [ER.out] at o3 ⊢
      rw [← List.append_assoc] at o3
      have Y0 := hide (o3.row (by omega) OM.out)
      have L0 : Hid (Below w.heap.size w v0) := (bel_al W2.out (Nat.le_refl _) _).trans b3
      have Q0 := hide (HR.out.below L0.out (Nat.le_refl _))
      clear o3 b3 X2 W2 SU
      go_wp2_with fail
      with_reducible refine (LBA.out _ Q0.out).mono ?_
      rintro e v1 ⟨d4, c4, rfl, o, b2⟩
      have L1 := hide (bel_too L0.out b2)
      have Y1 := hide (Y0.out.below b2 (Nat.le_refl _))
      have R1 := hide (o.row HN.out OW.out)
      clear o Q0
      clear b2 L0 Y0
      go_wp2_with fail
      with_reducible refine (PM.out _ _ _ R1.out).mono ?_
      rintro e v2 ⟨b2, d5, c5, rfl⟩
      have L2 := hide (bel_too L1.out b2)
      have Y2 := hide (Y1.out.below b2 (Nat.le_refl _))
      clear R1
      clear b2 L1 Y1
      go_wp2_with fail
      with_reducible refine (PM2.out _ _ _ Y2.out).mono ?_
      rintro e v3 ⟨b2, d6, c6, rfl⟩
      have L3 := hide (bel_too L2.out b2)
      clear Y2
      clear b2 L2 
      go_wp2_with fail
      with_reducible refine (SM.out _ _ _ _ _ (rowL_none _ _) (rowL_none _ _)).mono ?_
      rintro e v4 ⟨rfl, b2⟩
      have L4 := hide (bel_too L3.out b2)
      clear b2 L3 
      go_wp2_with fail
      with_reducible refine (AW.out _).mono ?_
      rintro e v5 ⟨rfl, b2⟩
      have L5 := hide (bel_too L4.out b2)
      clear b2 L4 
      go_wp2
      go_ret
      exact ⟨rfl, L5.out⟩
    | some r =>
      have PC2 := hide (fun W b c (q : RowL W b r.length r) => PC.out W b c r q)
      rw [makeL_chk hm] at PC2
      have SX := hide (fun W b c b' c' (q : RowL W b r.length r) (q' : RowL W b' r.length r) => quietB (samelabs_any b r.length c r b' r.length c' r W q q'))
      rw [show decide (r = r) = true from decide_eq_true rfl] at SX
      rw [hm] at PM PM2
      simp only at PM PM2
      clear hm PC SM
      generalize r.length = nr at *
      go_enter Try.func4, Try.ntmps4
      go_wp2_with fail
      with_reducible refine (PK.out _).mono ?_
      rintro e w' ⟨rfl, hw⟩
      rw [hw]
      clear hw w' PK
      go_upto_region 4 with fail
      have SZ : Hid (w.drew.heap.size ≤ w.drew.heap.size) := Nat.le_refl _
      have Z0 := hide (Below.refl w.drew.heap.size w.drew)
      have D0 : Hid (Below w.heap.size w w.drew) := (Below.refl _ _).drew
      go_region_held3 (fun w' => Hid (Below w.drew.heap.size w.drew w')) (assumption) (first
        | (go_at_call 11; with_reducible refine (LB2.out _ (R2.out _ D0.out)).mono ?_; rintro e u1 ⟨d1, c1, rfl, o1, b1⟩; have O1 := hide o1; have Z1 := hide b1; have DZ1 := hide (bel_too D0.out b1))
        | (refine wp_append_labs _ _ 22 rfl w.drew.heap.size i0 Try.underlying22 hi hz0 hz1 hz2 d1 nk c1 _ rfl O1.out a k cap _ rfl LT.out (R1.out _ DZ1.out) HTN.out (by have := NK.out; omega) Z1.out.size ?_; intro d2 c2 u2 o2 b2; have O2 := hide o2; have Z2 := hide (Z1.out.trans b2)))
      have W2 : Hid (Below w.heap.size w u2) := bel_too D0.out Z2.out
      have X2 := hide (O2.out.mono (base' := w.heap.size) D0.out.size)
      have SU : Hid (w.heap.size ≤ u2.heap.size) := W2.out.size
      clear o1 b1 O1 Z0 Z1 DZ1 o2 b2 O2 Z2 SZ D0 f1 f2 R1 R2 LB2 LT HTN
      go_wp2_with (at_builtin; refine wpList_append_labs _ rfl _ _ 22 rfl w.heap.size i0 Try.underlying22 hi hz0 hz1 hz2 d2 (nk + k) c2 (l.drop k ++ l.take k) rfl (X2.out.alloc _) (some ⟨u2.heap.size, 0, none⟩) 1 1 [(name, .empty)] rfl rfl (one_hrow u2 (name, .empty) _) (fun e => by cases e) (by have := NK.out; omega) (by have := SU.out; simp; omega) ?_)
      intro d3 c3 v0 o3 b3
      rw [ER.out] at o3 ⊢
      rw [← List.append_assoc] at o3
      have Y0 := hide (o3.row (by omega) OM.out)
      have L0 : Hid (Below w.heap.size w v0) := (bel_al W2.out (Nat.le_refl _) _).trans b3
      have Q0 := hide (HR.out.below L0.out (Nat.le_refl _))
      clear o3 b3 X2 W2 SU
      go_wp2_with fail
      with_reducible refine (LBA.out _ Q0.out).mono ?_
      rintro e v1 ⟨d4, c4, rfl, o, b2⟩
      have L1 := hide (bel_too L0.out b2)
      have Y1 := hide (Y0.out.below b2 (Nat.le_refl _))
      have R1 := hide (o.row HN.out OW.out)
      clear o Q0
      clear b2 L0 Y0
      go_wp2_with fail
      with_reducible refine (PM.out _ _ _ R1.out).mono ?_
      rintro e v2 ⟨b2, d5, c5, rfl, o, -⟩
      have L2 := hide (bel_too L1.out b2)
      have Y2 := hide (Y1.out.below b2 (Nat.le_refl _))
      have S2 := hide o
      clear R1 o
      clear b2 L1 Y1
      go_wp2_with fail
      with_reducible refine (PM2.out _ _ _ Y2.out).mono ?_
      rintro e v3 ⟨b2, d6, c6, rfl, o, -⟩
      have L3 := hide (bel_too L2.out b2)
      have S3 := hide (S2.out.below b2 (Nat.le_refl _))
      have T3 := hide o
      clear Y2 o
      clear b2 L2 S2
      go_wp2_with fail
      with_reducible refine (SX.out _ _ _ _ _ S3.out T3.out).mono ?_
      rintro e v4 ⟨rfl, b2⟩
      have L4 := hide (bel_too L3.out b2)
      have S4 := hide (S3.out.below b2 (Nat.le_refl _))
      clear b2 L3 S3
      go_wp2_with fail
      with_reducible refine (PC2.out _ _ _ S4.out).mono ?_
      rintro e v5 ⟨rfl, b2⟩
      have L5 := hide (bel_too L4.out b2)
      clear b2 L4 
      go_wp2_with fail
      with_reducible refine (AW.out _).mono ?_
      rintro e v6 ⟨rfl, b2⟩
      have L6 := hide (bel_too L5.out b2)
      clear b2 L5 
      go_wp2
      go_ret
      exact ⟨rfl, L6.out⟩
end Go.Proofs.Ytoepdgdagjckbab
