/-
  The document's file system: List: a contract, for every world.
  Conditions: the file system lies in memory.
-/
import Derived.Test.YthlkmjaflomflaaGreatVfsO
namespace Go.Proofs.YthlkmjaflomflaaGreat
open Go.RowKit
set_option maxRecDepth 20000
set_option linter.unusedVariables false

set_option maxHeartbeats 8000000 in
theorem rlist_any (g : Nat) (S : Nat → Prop) (F : Fs) (m : Nat) (w : World) (hF : RAt w g S F) (hL : Lim m F) (hm : m ≤ 1073741824) :
    Calls Tryz.prog 38 #[.pointer (some ⟨g, 0, none⟩)] w fun e w' => ∃ a n c, e = .returned (.slice a n c) ∧ n = (listF F).length ∧ OwnS w' w.heap.size a n c (listF F) ∧ Below w.heap.size w w' := by
  obtain ⟨i1, hi1, hz10, hz11, hz12⟩ := info_parts Tryz.infoS16
  have DI := hide (rdir_any g S F m w hF hL hm)
  have hdl : (dirF F).length ≤ 2147483648 := by
    have h1 := turnsD_len F.turns F.sure
    have h2 := hL.sure
    have h3 := hL.turns
    unfold dirF
    omega
  have HLF : Hid (listF F = listD (dirF F)) := rfl
  rw [HLF.out]
  obtain ⟨D, hD⟩ : ∃ D, dirF F = D := ⟨_, rfl⟩
  rw [hD] at DI hdl ⊢
  clear hF hL HLF hD
  go_enter Tryz.func38, Tryz.ntmps38
  go_wp2_with fail
  with_reducible refine DI.out.mono ?_
  rintro e u1 ⟨ad, nd, cd, rfl, hnd, oD, b1⟩
  have B1 := hide b1
  have OD := hide oD
  have HN := hide hnd
  have hnb : nd ≤ 2147483648 := by omega
  have SZ1 := hide b1.size
  clear b1 oD hnd DI hdl
  go_wp2
  go_loopw [5, 4] (fun i x wr => ∃ (k : Nat) (a' : Option Addr) (c' : Nat), k ≤ nd ∧ i = .int .i64 k ∧ x = .slice a' k c' ∧ Hid (OwnS wr u1.heap.size a' k c' (listD (D.take k))) ∧ Hid (Below u1.heap.size u1 wr)) (fun i _ _ => nd - (intOf i).toNat)
  case atStart => exact ⟨0, none, 0, by omega, rfl, rfl, ownG_nil _ _, Below.refl _ _⟩
  case round =>
    obtain ⟨k, a', c', hk, rfl, rfl, HO, HB⟩ := hrel
    obtain ⟨v, rfl⟩ : ∃ v, v = wr := ⟨wr, rfl⟩
    by_cases hlt : k < nd
    · obtain ⟨d, hd⟩ : ∃ d, D[k]? = some d := ⟨_, List.getElem?_eq_getElem (by rw [← HN.out]; exact hlt)⟩
      obtain ⟨gd, rfl, -, hcd, c0, -⟩ := OwnD.at' (OwnG.below OD.out HB.out (Nat.le_refl _)) hd
      have HT := hide (listD_take hd)
      obtain ⟨s, hs⟩ : ∃ s, d.nm = s := ⟨_, rfl⟩
      rw [hs] at c0 HT
      obtain ⟨cur, hcur⟩ : ∃ cur, Hid (listD (D.take k) = cur) := ⟨_, rfl⟩
      rw [hcur.out] at HO HT
      have HM := hide (OwnG.len stV_len (by decide) HO.out)
      have HCP := hide (OwnG.capped HO.out)
      have hkc : k ≤ c' := HCP.out.1
      have j1 : (0 : Int) ≤ (k : Int) := by omega
      have j2 : (k : Int) < (nd : Int) := by omega
      have hdd := hide hd
      have hss := hide hs
      clear hd hs
      go_wp2
      have KD : Hid (∀ u, Below u1.heap.size u1 u → u.cell? ⟨gd, k * 2, none⟩ = some (.string s)) := fun u hu => by
        obtain ⟨gd2, q1, -, -, q2, -⟩ := OwnD.at' OD.out hdd.out
        obtain rfl : gd = gd2 := by simpa using q1
        have := (hu.cell (p := ⟨gd, k * 2, none⟩) (World.block_lt_of_cell? u1 _ q2)).trans q2
        rw [hss.out] at this
        exact this
      clear hdd hss c0
      go_loopw [6] (fun i w2 => ∃ q : Nat, q ≤ k ∧ i = .int .i64 q ∧ Hid (backN cur s k = backN cur s q) ∧ Hid (Below v.heap.size v w2)) (fun i _ => (intOf i).toNat)
      case atStart => exact ⟨k, by omega, rfl, rfl, Below.refl _ _⟩
      case round =>
        obtain ⟨q, hq, rfl, HQ, HV⟩ := hrel
        obtain ⟨y, rfl⟩ : ∃ y, y = wr := ⟨wr, rfl⟩
        have c0 := KD.out y (bel_to HB.out (Nat.le_refl _) HV.out)
        have hqc : q ≤ c' := by omega
        by_cases hq0 : 0 < q
        · obtain ⟨p, rfl⟩ : ∃ p, q = p + 1 := ⟨q - 1, by omega⟩
          obtain ⟨gl, rfl, -, e1⟩ := OwnS.at' (OwnG.below HO.out HV.out (Nat.le_refl _)) (i := p) (by omega)
          obtain ⟨x, hx⟩ : ∃ x, cur.getD p ByteArray.empty = x := ⟨_, rfl⟩
          have HBN : Hid (backN cur s (p + 1) = if Op.bytesLess s.toList x.toList = true then backN cur s p else p + 1) := by rw [← hx]; rfl
          rw [hx] at e1
          clear hx
          have p1 : (0 : Int) < ((p + 1 : Nat) : Int) := by omega
          have p2 : IntKind.i64.wrap (((p + 1 : Nat) : Int) - 1) = (p : Int) := by rw [IntKind.wrap_i64]; omega
          have p3 : (p : Int) + 1 - 1 = (p : Int) := by omega
          have p4 : IntKind.i64.wrap ((p : Int) + 1 - 1) = (p : Int) := by rw [IntKind.wrap_i64]; omega
          have p5 : (0 : Int) ≤ (p : Int) := by omega
          have p6 : (p : Int) < (k : Int) := by omega
          have d1 : decide ((0 : Int) < (p : Int) + 1) = true := decide_eq_true (by omega)
          have d2 : decide (0 < p + 1) = true := decide_eq_true (by omega)
          have WB : Hid (∀ n : Nat, Below v.heap.size v (y.drewN n)) := fun n => bel_drewN HV.out n
          cases hb : Op.bytesLess s.toList x.toList with
          | true =>
            rw [hb, if_pos rfl] at HBN
            have HQ2 : Hid (backN cur s k = backN cur s p) := HQ.out.trans HBN.out
            clear HQ HBN
            go_wp2
            go_quiet (fail)
            go_wp2
            go_roundw
            case rel => exact ⟨p, by omega, by go_num, HQ2, WB.out _⟩
            case measure => simp [intOf]
          | false =>
            rw [hb, if_neg (by simp)] at HBN
            have HQF : Hid (backN cur s k = p + 1) := HQ.out.trans HBN.out
            clear HBN
            have sl1 := fun u => slice_toS (some ⟨gl, 0, none⟩) k c' (p + 1) (by omega) u
            obtain ⟨bo, hbo⟩ : ∃ bo : Option Addr, Hid ((if c' = (p + 1) then (some ⟨gl, 0, none⟩) else ((some ⟨gl, 0, none⟩) : Option Addr).map (·.add (p + 1))) = bo) := ⟨_, rfl⟩
            have sl2 : ∀ u, (Instr.slice 41 (.slice (some ⟨gl, 0, none⟩) k c') (some (.int .i64 ((p : Int) + 1))) none none).run Tryz.prog u = .ok (.slice bo (k - (p + 1)) (c' - (p + 1))) u := fun u => by
              have q := slice_fromS (some ⟨gl, 0, none⟩) k c' (p + 1) (by omega) u
              rw [hbo.out, show ((p + 1 : Nat) : Int) = (p : Int) + 1 by omega] at q
              exact q
            have HINS : Hid (listD (D.take (k + 1)) = (cur.take (p + 1) ++ [s]) ++ cur.drop (p + 1)) := by
              show _ = _
              rw [HT.out]
              unfold insN
              rw [HM.out, HQF.out]
              simp
            have CB1 : Hid ((some (⟨gl, 0, none⟩ : Addr)) = none → (p + 1) = 0 ∧ c' = 0) := fun h => by have := HCP.out.2 h; omega
            clear HQ HQF HT
            go_wp2
            go_quiet (fail)
            have CA1 := hide (fun n => OwnG.cellsAll (OwnG.cut stV_len (by decide) (OwnG.below HO.out (WB.out n) (Nat.le_refl _)) (k := (p + 1)) (by omega)))
            have LT1 : Hid ((cur.take (p + 1)).length = (p + 1)) := by show _ = _; rw [List.length_take, HM.out]; omega
            have SZ3 : Hid (v.heap.size ≤ y.heap.size) := HV.out.size
            go_wp2_with (at_builtin; refine wpList_app_g stV_len (by decide) stV_one1 _ rfl _ _ 41 rfl v.heap.size i1 (.string .empty) 16 Tryz.underlying41 hi1 hz10 hz11 hz12 rfl none 0 0 [] rfl (ownG_nil _ _) (some ⟨gl, 0, none⟩) (p + 1) c' (cur.take (p + 1)) rfl LT1.out (CA1.out _) CB1.out (by omega) (by omega) SZ3.out ?_)
            intro a3 c3 w3 o3 g3
            have O3 : Hid (OwnS w3 v.heap.size a3 (p + 1) c3 (cur.take (p + 1))) := by
              first
                | exact o3
                | (have := o3; simp only [Nat.zero_add, List.nil_append] at this; exact this)
            have B3 : Hid (Below v.heap.size v w3) := (WB.out _).trans ((Ch.grown g3).below SZ3.out (fun g hg hh => by simp [Value.ownBlock] at hh))
            have x3 := KD.out w3 (bel_to HB.out (Nat.le_refl _) B3.out)
            have NC := hide (st_cells w3 s 9)
            clear o3 g3 CA1 LT1 SZ3 WB
            go_wp2_with (at_builtin; refine wpList_app_g stV_len (by decide) stV_one1 _ rfl _ _ 41 rfl v.heap.size i1 (.string .empty) 16 Tryz.underlying41 hi1 hz10 hz11 hz12 rfl a3 (p + 1) c3 (cur.take (p + 1)) rfl (OwnG.alloc O3.out _) (some ⟨w3.heap.size, 0, none⟩) 1 1 [s] rfl rfl NC.out (fun h => by cases h) (by omega) (by omega) (by have := B3.out.size; simp; omega) ?_)
            intro a4 c4 w4 o4 g4
            have O4 : Hid (OwnS w4 v.heap.size a4 ((p + 1) + 1) c4 (cur.take (p + 1) ++ [s])) := o4
            have B4 : Hid (Below v.heap.size v w4) := by
              have q1 : Ch (fun g => (Value.slice a3 (p + 1) c3).ownBlock = some g) w3 w4 := ((Ch.refl (fun g => (Value.slice a3 (p + 1) c3).ownBlock = some g) w3).alloc _).trans (Ch.grown g4)
              exact B3.out.trans (q1.below B3.out.size (fun g hg h => by have := (OwnG.cellsT O3.out g h).2; omega))
            obtain ⟨f1, f2, f3⟩ := OwnS.fromCells (OwnG.below HO.out B4.out (Nat.le_refl _)) (k := (p + 1)) (by omega)
            rw [hbo.out] at f1 f2
            have F1 := hide f1
            have F2 := hide f2
            have F3 := hide f3
            clear o4 g4 NC x3 O3 f1 f2 f3
            go_wp2_with (at_builtin; refine wpList_app_g stV_len (by decide) stV_one1 _ rfl _ _ 41 rfl v.heap.size i1 (.string .empty) 16 Tryz.underlying41 hi1 hz10 hz11 hz12 rfl a4 ((p + 1) + 1) c4 (cur.take (p + 1) ++ [s]) rfl O4.out bo (k - (p + 1)) (c' - (p + 1)) (cur.drop (p + 1)) rfl F3.out F1.out F2.out (by omega) (by omega) B4.out.size ?_)
            intro a5 c5 w5 o5 g5
            have O5 : Hid (OwnS w5 u1.heap.size a5 (k + 1) c5 (listD (D.take (k + 1)))) := by
              rw [HINS.out]
              have := o5
              rw [show (p + 1) + 1 + (k - (p + 1)) = k + 1 by omega] at this
              rw [List.append_assoc]
              exact OwnG.mono this HB.out.size
            have B5 : Hid (Below u1.heap.size u1 w5) := by
              have q1 := (Ch.grown g5).below B4.out.size (fun g hg h => by have := (OwnG.cellsT O4.out g h).2; omega)
              exact bel_to HB.out (Nat.le_refl _) (B4.out.trans q1)
            have e9 : (p + 1) + 1 + (k - (p + 1)) = k + 1 := by omega
            rw [e9]
            clear o5 g5 O4 B4 B3 F1 F2 F3 HINS
            go_wp2
            go_roundw
            case rel => exact ⟨k + 1, a5, c5, by omega, by go_num, by rfl, O5, B5⟩
            case measure => simp [intOf]; omega
        · have HQF : Hid (backN cur s k = q) := by
            have hq1 : q = 0 := by omega
            subst hq1
            exact HQ.out
          have d1 : decide ((0 : Int) < (q : Int)) = false := decide_eq_false (by omega)
          have d2 : decide (0 < q) = false := decide_eq_false hq0
          clear hq0
          have WB : Hid (∀ n : Nat, Below v.heap.size v (y.drewN n)) := fun n => bel_drewN HV.out n
          have sl1 := fun u => slice_toS a' k c' q (by omega) u
          obtain ⟨bo, hbo⟩ : ∃ bo : Option Addr, Hid ((if c' = q then a' else (a' : Option Addr).map (·.add q)) = bo) := ⟨_, rfl⟩
          have sl2 : ∀ u, (Instr.slice 41 (.slice a' k c') (some (.int .i64 (q : Int))) none none).run Tryz.prog u = .ok (.slice bo (k - q) (c' - q)) u := fun u => by
            have q := slice_fromS a' k c' q (by omega) u
            rw [hbo.out] at q
            exact q
          have HINS : Hid (listD (D.take (k + 1)) = (cur.take q ++ [s]) ++ cur.drop q) := by
            show _ = _
            rw [HT.out]
            unfold insN
            rw [HM.out, HQF.out]
            simp
          have CB1 : Hid (a' = none → q = 0 ∧ c' = 0) := fun h => by have := HCP.out.2 h; omega
          clear HQ HQF HT
          go_wp2
          go_quiet (fail)
          have CA1 := hide (fun n => OwnG.cellsAll (OwnG.cut stV_len (by decide) (OwnG.below HO.out (WB.out n) (Nat.le_refl _)) (k := q) (by omega)))
          have LT1 : Hid ((cur.take q).length = q) := by show _ = _; rw [List.length_take, HM.out]; omega
          have SZ3 : Hid (v.heap.size ≤ y.heap.size) := HV.out.size
          go_wp2_with (at_builtin; refine wpList_app_g stV_len (by decide) stV_one1 _ rfl _ _ 41 rfl v.heap.size i1 (.string .empty) 16 Tryz.underlying41 hi1 hz10 hz11 hz12 rfl none 0 0 [] rfl (ownG_nil _ _) a' q c' (cur.take q) rfl LT1.out (CA1.out _) CB1.out (by omega) (by omega) SZ3.out ?_)
          intro a3 c3 w3 o3 g3
          have O3 : Hid (OwnS w3 v.heap.size a3 q c3 (cur.take q)) := by
            first
              | exact o3
              | (have := o3; simp only [Nat.zero_add, List.nil_append] at this; exact this)
          have B3 : Hid (Below v.heap.size v w3) := (WB.out _).trans ((Ch.grown g3).below SZ3.out (fun g hg hh => by simp [Value.ownBlock] at hh))
          have x3 := KD.out w3 (bel_to HB.out (Nat.le_refl _) B3.out)
          have NC := hide (st_cells w3 s 9)
          clear o3 g3 CA1 LT1 SZ3 WB
          go_wp2_with (at_builtin; refine wpList_app_g stV_len (by decide) stV_one1 _ rfl _ _ 41 rfl v.heap.size i1 (.string .empty) 16 Tryz.underlying41 hi1 hz10 hz11 hz12 rfl a3 q c3 (cur.take q) rfl (OwnG.alloc O3.out _) (some ⟨w3.heap.size, 0, none⟩) 1 1 [s] rfl rfl NC.out (fun h => by cases h) (by omega) (by omega) (by have := B3.out.size; simp; omega) ?_)
          intro a4 c4 w4 o4 g4
          have O4 : Hid (OwnS w4 v.heap.size a4 (q + 1) c4 (cur.take q ++ [s])) := o4
          have B4 : Hid (Below v.heap.size v w4) := by
            have q1 : Ch (fun g => (Value.slice a3 q c3).ownBlock = some g) w3 w4 := ((Ch.refl (fun g => (Value.slice a3 q c3).ownBlock = some g) w3).alloc _).trans (Ch.grown g4)
            exact B3.out.trans (q1.below B3.out.size (fun g hg h => by have := (OwnG.cellsT O3.out g h).2; omega))
          obtain ⟨f1, f2, f3⟩ := OwnS.fromCells (OwnG.below HO.out B4.out (Nat.le_refl _)) (k := q) (by omega)
          rw [hbo.out] at f1 f2
          have F1 := hide f1
          have F2 := hide f2
          have F3 := hide f3
          clear o4 g4 NC x3 O3 f1 f2 f3
          go_wp2_with (at_builtin; refine wpList_app_g stV_len (by decide) stV_one1 _ rfl _ _ 41 rfl v.heap.size i1 (.string .empty) 16 Tryz.underlying41 hi1 hz10 hz11 hz12 rfl a4 (q + 1) c4 (cur.take q ++ [s]) rfl O4.out bo (k - q) (c' - q) (cur.drop q) rfl F3.out F1.out F2.out (by omega) (by omega) B4.out.size ?_)
          intro a5 c5 w5 o5 g5
          have O5 : Hid (OwnS w5 u1.heap.size a5 (k + 1) c5 (listD (D.take (k + 1)))) := by
            rw [HINS.out]
            have := o5
            rw [show q + 1 + (k - q) = k + 1 by omega] at this
            rw [List.append_assoc]
            exact OwnG.mono this HB.out.size
          have B5 : Hid (Below u1.heap.size u1 w5) := by
            have q1 := (Ch.grown g5).below B4.out.size (fun g hg h => by have := (OwnG.cellsT O4.out g h).2; omega)
            exact bel_to HB.out (Nat.le_refl _) (B4.out.trans q1)
          have e9 : q + 1 + (k - q) = k + 1 := by omega
          rw [e9]
          clear o5 g5 O4 B4 B3 F1 F2 F3 HINS
          go_wp2
          go_roundw
          case rel => exact ⟨k + 1, a5, c5, by omega, by go_num, by rfl, O5, B5⟩
          case measure => simp [intOf]; omega
    · have e4 : k = nd := by omega
      subst e4
      have HE : Hid (listD (D.take k) = listD D) := by
        show _ = _
        rw [List.take_of_length_le (by rw [← HN.out]; exact Nat.le_refl _)]
      rw [HE.out] at HO
      have HM := hide (OwnG.len stV_len (by decide) HO.out)
      have F := hide (bel_to B1.out (Nat.le_refl _) HB.out)
      have HO2 : Hid (OwnS v w.heap.size a' k c' (listD D)) := OwnG.mono HO.out SZ1.out
      go_wp2
      go_ret
      exact ⟨a', k, c', rfl, HM.out.symm, HO2.out, F.out⟩
end Go.Proofs.YthlkmjaflomflaaGreat
