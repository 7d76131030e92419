/-
  The landed file system: SyncDir: contracts, for every world (written by gen/vfsdq.gen.py). What the laws' own Place comes to: the number's place among n, 0 to n - 1; it changes nothing. What fnv.More, fnv.Of and the document's examples come to, at any text behind any number: contracts, for every world. What the document's own answer (the product as a sum of shifts) comes to, at any text behind any number: contracts, for every world. The document's own answer of layer 8 (the laws' reference): a thing comes, how many unlike things: contracts, for every world. What the document's own answer (varveref03.More, Of) comes to: the same sum, bit by bit; it changes nothing. A bool as an argument: opened and shut. No function is named.
  Conditions: as each theorem says.
-/
import Derived.Test.YtknghoecjobkiaaGreatDoorZue
import Derived.Test.YtknghoecjobkiaaGreatDoorZua
import Derived.Test.YtknghoecjobkiaaGreatDoorRows
import Derived.WalkKit
import Derived.WalkSpells
import Derived.Test.YtknghoecjobkiaaGreatDoorZub
import Derived.Test.YtknghoecjobkiaaGreatDoorZuc
import Derived.ChangeShapes
import Derived.WideShapes
import Derived.ChangeArms
namespace Go.Proofs.YtknghoecjobkiaaGreatDoor
open Go.RowKit Go.Maps
set_option maxRecDepth 20000
set_option linter.unusedVariables false
/-- The directory is certain. -/
theorem LB.certained {u v : World} {g : Nat} {S : Nat → Prop} {F : Fs} {fb : List Nat} {fh : List Fh} {bn bc : Nat} {at' : Option Addr} {ct n : Nat} (B : LB u g S F fb fh bn bc at' ct) (hN : GoodN F) (c : Ch (fun j => j = bc) u v) (m : MapS v bc n (nmV fb (dirF F))) :
    LB (v.setCell ⟨g, 2, none⟩ (.slice none 0 0)) g S { F with sure := dirF F, turns := [] } fb fh bn bc none 0 ∧ Ch S u (v.setCell ⟨g, 2, none⟩ (.slice none 0 0)) := by
  have hbn := B.names.isMap
  have hbc := B.certain.isMap
  have ks : Ch (fun j => j = g) v (v.setCell ⟨g, 2, none⟩ (.slice none 0 0)) := ch_set v g 2 _
  have k : Ch (fun j => j = bc ∨ j = g) u (v.setCell ⟨g, 2, none⟩ (.slice none 0 0)) := (c.more (fun _ _ e => Or.inl e)).trans (ks.more (fun _ _ e => Or.inr e))
  have hgv : v.heap[g]? = some (.cells (lfC F bn bc at' ct) 139 (0, 0)) := (c.block g (B.lt g B.own) (fun e => hbc.ne B.cellsT e.symm)).trans B.str
  refine ⟨⟨B.own, fun j hj => Nat.lt_of_lt_of_le (B.lt j hj) k.size, ?_, ?_, ?_, B.ne, B.bnS, B.bcS, ownG_nil _ _, fun b hb => by simp [Value.ownBlock] at hb, B.fbs, B.len, fun i h x hi hx => ?_, B.filesS, B.apart⟩, k.more (fun j _ e => ?_)⟩
  · rw [heap_setCell_same v g 2 _ _ _ hgv]
    rfl
  · have ed : dirF { F with sure := dirF F, turns := [] } = dirF F := rfl
    rw [ed]
    exact B.names.ch k (fun e => by
      rcases e with e | e
      · exact B.ne e
      · exact hbn.ne B.cellsT e)
  · have mm := m.ch ks (fun e => hbc.ne B.cellsT e)
    exact mm.tightD hN.dir
  · have q := B.files i h x hi hx
    exact q.ch k (fun j hj e => by
      rcases e with e | e
      · exact hbc.ne3 (q.kind hj) e.symm
      · exact ne_ty3 B.cellsT (q.kind hj) (by decide) (by decide) (by decide) e.symm)
  · rcases e with e | e
    · exact e ▸ B.bcS
    · exact e ▸ B.own

/-- A turn's cells. -/
theorem tu_at2 {fb : List Nat} {w : World} {a : Option Addr} {n c : Nat} {l : List Tn} (h : OwnTu fb w 0 a n c l) {i : Nat} {t : Tn} (hi : l[i]? = some t) : ∃ g k s u p, a = some ⟨g, 0, none⟩ ∧ i < n ∧ n ≤ c ∧ tuV fb t = [.int .i64 k, .string s, .string u, .pointer p] ∧ w.cell? ⟨g, i * 4, none⟩ = some (.int .i64 k) ∧ w.cell? ⟨g, i * 4 + 1, none⟩ = some (.string s) ∧ w.cell? ⟨g, i * 4 + 2, none⟩ = some (.string u) ∧ w.cell? ⟨g, i * 4 + 3, none⟩ = some (.pointer p) := by
  obtain ⟨g, e1, e2, e3, e4⟩ := OwnG.at (tuV_len fb) (by decide) h hi
  obtain ⟨k, s, u, p, e0⟩ := tuV_four fb t
  rw [e0] at e4
  exact ⟨g, k, s, u, p, e1, e2, e3, e0, e4 0 _ rfl, e4 1 _ rfl, e4 2 _ rfl, e4 3 _ rfl⟩

set_option maxHeartbeats 8000000 in
theorem lsyncdir_any (g : Nat) (S : Nat → Prop) (F : Fs) (m : Nat) (w : World) (hF : LAt w g S F) (hL : Lim m F) (hm : m < 1073741824) :
    Calls Tryz.prog 75 #[.pointer (some ⟨g, 0, none⟩)] w fun e w' => e = .returned (.int .i64 (syncdirF F).2) ∧ StepV LAt w w' g S (syncdirF F).1 := by
  obtain ⟨hV, hN, fb, fh, bn, bc, at', ct, B⟩ := hF
  have CA := hide (vbegin_any w g S F fb fh bn bc at' ct m B hV hL (by omega))
  have LC := hide hL.call'
  have GV := hide hV.call
  have GN := hide hN.call
  have HG := hide B.own
  rcases hq : callF F with ⟨G, o⟩
  rw [hq] at CA LC GV GN
  dsimp only at CA LC GV GN
  have LA : Hid (∀ u, LB u g S G fb fh bn bc at' ct → LAt u g S G) := fun u hu => ⟨GV.out, GN.out, fb, fh, bn, bc, at', ct, hu⟩
  have HP : Hid (∀ (x : Fs × Int) (u : World), syncdirF F = x → StepV LAt w u g S x.1 → (Ending.returned (.int .i64 x.2) = .returned (.int .i64 (syncdirF F).2) ∧ StepV LAt w u g S (syncdirF F).1)) := fun x u e hu => by
    rw [e]
    exact ⟨rfl, hu⟩
  clear B hV hN hL
  cases o with
  | some e1 =>
    have ne := callF_err hq
    have HE : Hid (syncdirF F = (G, e1)) := by show _ = _; unfold syncdirF; rw [hq]
    clear hq
    rw [Option.getD_some] at CA
    go_enter Tryz.func75, Tryz.ntmps75
    go_wp2_with fail
    with_reducible refine CA.out.mono ?_
    rintro e u1 ⟨rfl, h1, k1⟩
    have H1 := hide (HP.out _ _ HE.out (stepL_same (LA.out _ h1) k1 HG.out))
    clear h1 k1 CA HP
    go_wp2
    go_ret
    exact H1.out
  | none =>
    rw [Option.getD_none] at CA
    have HE : Hid (syncdirF F = ({ G with sure := dirF G, turns := [] }, 0)) := by show _ = _; unfold syncdirF; rw [hq]
    clear hq
    obtain ⟨NT, hNT⟩ : ∃ NT, G.turns.length = NT := ⟨_, rfl⟩
    have hsl := LC.out.sure
    have htl := LC.out.turns
    rw [hNT] at htl
    have HNT := hide hNT
    go_enter Tryz.func75, Tryz.ntmps75
    go_wp2_with fail
    with_reducible refine CA.out.mono ?_
    rintro e u1 ⟨rfl, h1, k1⟩
    have c1 := h1.c1
    have c2 := h1.c2
    rw [hNT] at c2
    have OTS := hide h1.turns
    rw [hNT] at OTS
    have K1 := hide k1
    have HB := hide h1
    have M1 : Hid (MapS u1 bc G.sure.length (nmV fb G.sure)) := h1.certain
    have C0 : Hid (Ch (fun j => j = bc) u1 u1) := Ch.refl _ _
    have BNE : Hid (bc ≠ g) := h1.certain.isMap.ne h1.cellsT
    clear h1 k1 CA hNT
    go_wp2
    go_loopw [16] (fun i wr => ∃ j : Nat, j ≤ NT ∧ i = .int .i64 (j : Int) ∧ Hid (MapS wr bc (G.sure.length + j) (nmV fb (turnsD G.sure (G.turns.take j)))) ∧ Hid (Ch (fun j => j = bc) u1 wr)) (fun i _ => NT - (intOf i).toNat)
    case atStart => exact ⟨0, by omega, rfl, by rw [List.take_zero]; exact M1.out, C0.out⟩
    case round =>
      clear M1 C0
      obtain ⟨j, hj, rfl, HM, HC⟩ := hrel
      obtain ⟨v, rfl⟩ : ∃ v, v = wr := ⟨wr, rfl⟩
      have hg : v.heap[g]? = u1.heap[g]? := HC.out.block g (HB.out.lt g HB.out.own) (fun e => BNE.out e.symm)
      have HGS : Hid (v.heap[g]? = some (.cells (lfC G bn bc at' ct) 139 (0, 0))) := hg.trans HB.out.str
      have x1 : v.cell? ⟨g, 1, none⟩ = some (.map (some bc)) := by rw [cell_of_row v g 1 _ _ (0, 0) HGS.out]; rfl
      clear hg c1 c2
      by_cases hlt : j < NT
      · obtain ⟨t, ht⟩ : ∃ t, G.turns[j]? = some t := ⟨_, List.getElem?_eq_getElem (by have := HNT.out; omega)⟩
        have OV : Hid (OwnTu fb v 0 at' NT ct G.turns) := OwnG.ch OTS.out HC.out (fun b hb e => by
          have q := (OwnG.cellsT OTS.out b hb).1
          exact HB.out.certain.isMap.ne q e.symm)
        obtain ⟨gt, tk, ts, tu, tp, rfl, hjn, -, etu, t0, t1, t2, t3⟩ := tu_at2 OV.out ht
        have okt := okT_at GN.out.turns ht
        have kt := (GV.out.turns t (List.mem_of_getElem? ht)).1
        have DO := hide (fun u (hu : Below v.heap.size v u) => ldo_any u bc (G.sure.length + j) fb _ t (HM.out.below hu) okt kt (by omega))
        rw [etu, ← turnsD_take ht] at DO
        have i1 : (0 : Int) ≤ (j : Int) := by omega
        have i2 : (j : Int) < (NT : Int) := by omega
        obtain ⟨vA, hvA⟩ : ∃ vA, Hid (v.alloc (.cells #[.int .i64 tk, .string ts, .string tu, .pointer tp] 177) = vA) := ⟨_, rfl⟩
        have BA : Hid (Below v.heap.size v vA) := by rw [← hvA.out]; exact (Below.refl _ _).alloc (Nat.le_refl _) _
        have a0 : vA.cell? ⟨v.heap.size, 0, none⟩ = some (.int .i64 tk) := by rw [← hvA.out, World.cell?_alloc_mark]; rfl
        have a1 : vA.cell? ⟨v.heap.size, 1, none⟩ = some (.string ts) := by rw [← hvA.out, World.cell?_alloc_mark]; rfl
        have a2 : vA.cell? ⟨v.heap.size, 2, none⟩ = some (.string tu) := by rw [← hvA.out, World.cell?_alloc_mark]; rfl
        have a3 : vA.cell? ⟨v.heap.size, 3, none⟩ = some (.pointer tp) := by rw [← hvA.out, World.cell?_alloc_mark]; rfl
        have xc : vA.cell? ⟨g, 1, none⟩ = some (.map (some bc)) := (BA.out.cell (p := ⟨g, 1, none⟩) (World.block_lt_of_cell? v _ x1)).trans x1
        have FSH : Hid (∀ u, Ch (fun j => j = bc) vA u → u.cell? ⟨g, 1, none⟩ = some (.map (some bc)) ∧ u.cell? ⟨v.heap.size, 0, none⟩ = some (.int .i64 tk) ∧ u.cell? ⟨v.heap.size, 1, none⟩ = some (.string ts) ∧ u.cell? ⟨v.heap.size, 2, none⟩ = some (.string tu) ∧ u.cell? ⟨v.heap.size, 3, none⟩ = some (.pointer tp)) := fun u hu => by
          have hbl := HM.out.lt
          have n1 : ¬ v.heap.size = bc := fun e => by omega
          have n2 : ¬ g = bc := fun e => BNE.out e.symm
          have kc : ∀ (p : Addr) (x : Value), vA.cell? p = some x → ¬ p.block = bc → u.cell? p = some x := fun p x h q => by
            have hb := hu.block p.block (World.block_lt_of_cell? vA _ h) q
            simp only [World.cell?] at h ⊢
            rw [hb]
            exact h
          exact ⟨kc _ _ xc n2, kc _ _ a0 n1, kc _ _ a1 n1, kc _ _ a2 n1, kc _ _ a3 n1⟩
        clear ht okt kt etu HM OV
        go_upto_region 7 with fail
        rw [hvA.out]
        clear hvA t0 t1 t2 t3
        refine wp_region_held_drew (S := fun u => u.cell? ⟨g, 1, none⟩ = some (.map (some bc)) ∧ u.cell? ⟨v.heap.size, 0, none⟩ = some (.int .i64 tk) ∧ u.cell? ⟨v.heap.size, 1, none⟩ = some (.string ts) ∧ u.cell? ⟨v.heap.size, 2, none⟩ = some (.string tu) ∧ u.cell? ⟨v.heap.size, 3, none⟩ = some (.pointer tp)) (by kernel_rfl) ⟨xc, a0, a1, a2, a3⟩ (fun hHeld => ?_)
        refine held_tk 0 (some 20) rfl rfl ?_
        refine held_tk 1 (some 21) rfl rfl ?_
        refine held_tk 2 (some 22) rfl rfl ?_
        refine held_tk 3 (some 23) rfl rfl ?_
        refine held_tk 4 (some 24) rfl rfl ?_
        refine held_next (i := 5) (by kernel_rfl) rfl (by rfl) (fun K2 hK2 => ?_)
        go_simp
        with_reducible refine (DO.out _ BA.out.drew).mono ?_
        rintro e u ⟨rfl, mu, ku⟩
        have MU := hide mu
        have NU : Hid (Ch (fun j => j = bc) u1 u) := (HC.out.trans ((Ch.of_below BA.out.drew).more (fun _ _ h => h.elim))).trans ku
        have SU := FSH.out u (((Ch.of_below (Below.refl _ vA).drew).more (fun _ _ h => h.elim)).trans ku)
        clear mu ku DO a0 a1 a2 a3 xc BA HC HGS x1 FSH
        go_wp2_with fail
        refine hK2.out _ _ SU ?_
        clear hK2 hHeld SU
        refine wpAnyH_done (by kernel_rfl) ?_ _
        go_wp2
        go_roundw
        case rel => exact ⟨j + 1, by omega, by go_num, MU, NU⟩
        case measure => simp [intOf]; omega
      · obtain rfl : j = NT := by omega
        have i2 : ¬ (j : Int) < (j : Int) := by omega
        have fz : v.frozen? ⟨g, 2, none⟩ = false := frozen_of_row v g 2 _ _ HGS.out
        have ETK : Hid (turnsD G.sure (G.turns.take j) = dirF G) := by show _ = _; rw [← HNT.out, List.take_length]; rfl
        rw [ETK.out] at HM
        have x2 : v.cell? ⟨g, 2, none⟩ = some (.slice at' j ct) := by rw [cell_of_row v g 2 _ _ (0, 0) HGS.out, ← HNT.out]; rfl
        have FIN := hide (HB.out.certained GN.out HC.out HM.out)
        have H1 := hide (HP.out _ (v.setCell ⟨g, 2, none⟩ (.slice none 0 0)) HE.out (stepL_after (K1.out.more (fun j _ (e : j = g) => (e ▸ HG.out : S j))) ⟨S, ⟨GV.out.sync, GN.out.sync, _, _, _, _, _, _, FIN.out.1⟩, fun _ hk => Or.inl hk, FIN.out.2⟩))
        clear HP HE FIN HM HC HGS OTS HB K1
        go_wp2
        go_ret
        exact H1.out
end Go.Proofs.YtknghoecjobkiaaGreatDoor

namespace Go.Proofs.YtknghoecjobkiaaGreatDoor
open Go.RowKit
set_option maxRecDepth 20000
theorem tmod_place {v n : Int} (h : 0 < n) : -n < v.tmod n ∧ v.tmod n < n ∧ (v.tmod n < 0 → v % n = v.tmod n + n) ∧ (0 ≤ v.tmod n → v % n = v.tmod n) := by
  have e := Int.tmod_eq_emod (a := v) (b := n)
  have h0 := Int.emod_nonneg v (show n ≠ 0 by omega)
  have h1 := Int.emod_lt_of_pos v h
  split at e
  · exact ⟨by omega, by omega, by omega, by omega⟩
  · rename_i hn
    have hp : v % n ≠ 0 := fun hz => hn (Or.inr (Int.dvd_of_emod_eq_zero hz))
    exact ⟨by omega, by omega, by omega, by omega⟩

set_option maxHeartbeats 400000 in
theorem place_any (v n : Int) (h0 : 0 < n) (h1 : n ≤ 9223372036854775807) (w : World) :
    Calls Tryz.prog 29 #[.int .i64 v, .int .i64 n] w fun e w' => e = .returned (.int .i64 (v % n)) ∧ w' = w := by
  have e1 : (n == 0) = false := beq_eq_false_iff_ne.2 (by omega)
  obtain ⟨t0, t1, t2, t3⟩ := tmod_place (v := v) h0
  have T2 : Hid (v.tmod n < 0 → v % n = v.tmod n + n) := t2
  have T3 : Hid (0 ≤ v.tmod n → v % n = v.tmod n) := t3
  clear t2 t3
  by_cases hs : v.tmod n < 0
  · go_enter Tryz.func29, Tryz.ntmps29
    go_wp2
    go_ret
    exact ⟨congrArg (fun x => Ending.returned (.int .i64 x)) (T2.out hs).symm, rfl⟩
  · go_enter Tryz.func29, Tryz.ntmps29
    go_wp2
    go_ret
    exact ⟨congrArg (fun x => Ending.returned (.int .i64 x)) (T3.out (by omega)).symm, rfl⟩
/-- A text's byte. -/
def btN (s : ByteArray) (n : Nat) : Int := (numsOf s).getD n 0
theorem get_nums (s : ByteArray) : ∀ (n : Nat) (h : n < s.size), ((s[n]'h).toNat : Int) = btN s n := by
  intro n h
  unfold btN
  have h1 : n < s.data.toList.length := by rw [Array.length_toList]; exact h
  unfold numsOf
  rw [List.getD_eq_getElem?_getD, List.getElem?_map, List.getElem?_eq_getElem h1]
  rfl
theorem nums_byte (s : ByteArray) (n : Nat) : 0 ≤ btN s n ∧ btN s n ≤ 255 := getD_all (fun z hz => u8_of_wf (numsOf_wf s z hz)) (by decide) n
theorem byte_word {z : Int} (h : 0 ≤ z ∧ z ≤ 255) : W64 z := ⟨h.1, by omega⟩
theorem xor_u64 {a b : Int} (ha : W64 a) (hb : W64 b) : bits .xor .u64 a b = fxor a b := by
  have hw := fxor_word ha hb
  unfold W64 at ha hb hw
  obtain ⟨a, rfl⟩ := Int.eq_ofNat_of_zero_le ha.1
  obtain ⟨b, rfl⟩ := Int.eq_ofNat_of_zero_le hb.1
  unfold fxor at *
  simp only [Int.toNat_natCast] at *
  show IntKind.u64.wrap ((BitVec.ofInt 64 (a : Int) ^^^ BitVec.ofInt 64 (b : Int)).toNat : Int) = _
  rw [BitVec.toNat_xor, nat_u64 (by omega), nat_u64 (by omega), IntKind.wrap_u64]
  omega
theorem take_getD {zs : List Int} {k : Nat} (h : k < zs.length) : zs.take (k + 1) = zs.take k ++ [zs.getD k 0] := by
  rw [List.take_succ_eq_append_getElem h, List.getD_eq_getElem?_getD, List.getElem?_eq_getElem h]
  rfl
theorem fnv_step (h : Int) (s : ByteArray) (k : Nat) (hk : k < s.size) : fnvS h ((numsOf s).take (k + 1)) = fnv1 (fnvS h ((numsOf s).take k)) (btN s k) := by
  rw [take_getD (by rw [numsOf_len]; exact hk), fnvS_one]
  rfl
theorem fnv_whole (h : Int) (s : ByteArray) : fnvS h ((numsOf s).take s.size) = fnvS h (numsOf s) := by
  rw [List.take_of_length_le (by rw [numsOf_len]; omega)]

set_option maxHeartbeats 1000000 in
theorem refMore_any (h : Int) (s : ByteArray) (w : World) (hh : W64 h) (hs : s.size ≤ 9223372036854775807) :
    Calls Tryz.prog 272 #[.int .u64 h, .string s] w fun e w' => e = .returned (.int .u64 (fnvS h (numsOf s))) ∧ w' = w := by
  have HH := hide hh
  have HB := hide (get_nums s)
  clear hh
  go_enter Tryz.func272, Tryz.ntmps272
  go_wp2
  go_loop [0, 5] (fun r i => ∃ (k : Nat) (R : Int), k ≤ s.size ∧ i = .int .i64 k ∧ r = .int .u64 R ∧ 0 ≤ R ∧ R < 18446744073709551616 ∧ Hid (R = fnvS h ((numsOf s).take k))) (fun _ i => s.size - (intOf i).toNat)
  case atStart => exact ⟨0, h, by omega, rfl, rfl, HH.out.1, HH.out.2, rfl⟩
  case round =>
    obtain ⟨k, R, hk, rfl, rfl, r0, r1, HN⟩ := hrel
    by_cases hlt : k < s.size
    · have HS := hide (fnv_step h s k hlt)
      have hz := nums_byte s k
      have hbk := HB.out k hlt
      generalize btN s k = z at *
      have hx := xor_u64 ⟨r0, r1⟩ (byte_word hz)
      have HX := hide (fxor_word ⟨r0, r1⟩ (byte_word hz))
      have HY : Hid (fxor R z * 1099511628211 % 18446744073709551616 = fnv1 R z) := rfl
      generalize fxor R z = X at *
      obtain ⟨x0, x1⟩ := HX.out
      obtain ⟨z0, z1⟩ := hz
      go_wp2
      refine ⟨⟨k + 1, X * 1099511628211 % 18446744073709551616, by omega, by go_num, ?_, by omega, by omega, by show _ = _; rw [HS.out, ← HN.out]; exact HY.out⟩, by simp [intOf]; omega⟩
      exact congrArg (Value.int .u64) (by simp only [IntKind.wrap_u64]; exact fnv1_shifts X)
    · have : k = s.size := by omega
      subst this
      have HE : Hid (R = fnvS h (numsOf s)) := by show _ = _; rw [HN.out, fnv_whole]
      go_wp2
      go_ret
      rw [← HE.out]
      exact ⟨rfl, rfl⟩

theorem refOf_any (s : ByteArray) (w : World) (hs : s.size ≤ 9223372036854775807) :
    Calls Tryz.prog 229 #[.string s] w fun e w' => e = .returned (.int .u64 (fnvOf (numsOf s))) ∧ w' = w := by
  have M := hide (refMore_any 14695981039346656037 s w ⟨by decide, by decide⟩ hs)
  go_enter Tryz.func229, Tryz.ntmps229
  go_wp2_with fail
  refine M.out.mono ?_
  rintro e w' ⟨rfl, rfl⟩
  go_wp2
  go_ret
  exact ⟨rfl, rfl⟩
theorem refkadd_any (a : Option Addr) (n cap : Nat) (l : List Int) (s : ByteArray) (w : World) (hr : Row .u64 w a n l) (hup : Up l) (hn : n ≤ 1024) (hc : n ≤ cap) (hnil : a = none → cap = 0) (hs : s.size ≤ 9223372036854775807) :
    Calls Tryz.prog 171 #[.slice a n cap, .string s] w fun e w' => BackU w w' e a (hashK 1024 l (fnvOf (numsOf s))) := by
  have C1 := hide (refOf_any s w hs)
  have C2 := hide (refhash_any a n cap l (fnvOf (numsOf s)) w hr hup hn hc hnil (fnvOf_word _))
  clear hr hup hn hc hnil
  go_enter Tryz.func171, Tryz.ntmps171
  go_wp2_with fail
  refine C1.out.mono ?_
  rintro e w1 ⟨rfl, rfl⟩
  go_wp2_with fail
  refine C2.out.mono ?_
  rintro e w2 ⟨a2, c2, rfl, h⟩
  have H := hide h
  clear h
  go_wp2
  go_ret
  exact ⟨a2, c2, rfl, H.out⟩

theorem ref_test {Y z : Int} {j : Nat} (y0 : 0 ≤ Y) (z0 : 0 ≤ z) : (Y % 2 != (z / 2 ^ j).tmod 2 % 4294967296) = !decide (Y.toNat % 2 = z.toNat / 2 ^ j % 2) := by
  obtain ⟨y, rfl⟩ := Int.eq_ofNat_of_zero_le y0
  obtain ⟨m, rfl⟩ := Int.eq_ofNat_of_zero_le z0
  have e : ((m : Int) / 2 ^ j) = ((m / 2 ^ j : Nat) : Int) := by rw [Int.natCast_ediv, Int.natCast_pow]; rfl
  rw [e, Int.toNat_natCast, Int.toNat_natCast, Int.tmod_eq_emod_of_nonneg (Int.natCast_nonneg _)]
  generalize m / 2 ^ j = q
  by_cases h : y % 2 = q % 2
  · rw [decide_eq_true h]
    simp only [Bool.not_true, bne_eq_false_iff_eq]
    omega
  · rw [decide_eq_false h]
    simp only [Bool.not_false, bne_iff_ne, ne_eq]
    omega

theorem ref_no {R Y z : Int} {j : Nat} (y0 : 0 ≤ Y) (z0 : 0 ≤ z) (HY : Y.toNat = Cr.it j (R.toNat ^^^ (z.toNat % 2 ^ j))) (h : (Y % 2 != (z / 2 ^ j).tmod 2 % 4294967296) = false) :
    (Y / 2).toNat = Cr.it (j + 1) (R.toNat ^^^ (z.toNat % 2 ^ (j + 1))) := by
  rw [ref_test y0 z0] at h
  have h' : Y.toNat % 2 = z.toNat / 2 ^ j % 2 := by simpa using h
  rw [Cr.bit_next, ← HY, Cr.step_bit _ _ (by omega), if_pos h', Nat.xor_zero]
  omega

theorem ref_yes {R Y z : Int} {j : Nat} (y0 : 0 ≤ Y) (y1 : Y < 4294967296) (z0 : 0 ≤ z) (HY : Y.toNat = Cr.it j (R.toNat ^^^ (z.toNat % 2 ^ j))) (h : (Y % 2 != (z / 2 ^ j).tmod 2 % 4294967296) = true) :
    (bits .xor .u32 (Y / 2) 2197175160).toNat = Cr.it (j + 1) (R.toNat ^^^ (z.toNat % 2 ^ (j + 1))) ∧ 0 ≤ bits .xor .u32 (Y / 2) 2197175160 ∧ bits .xor .u32 (Y / 2) 2197175160 < 4294967296 := by
  rw [ref_test y0 z0] at h
  have h' : ¬ Y.toNat % 2 = z.toNat / 2 ^ j % 2 := by simpa using h
  obtain ⟨e1, e2, e3⟩ := xor_u32 (a := Y / 2) (b := 2197175160) (by omega) (by omega) (by omega) (by omega)
  rw [e1]
  refine ⟨?_, e2, e3⟩
  rw [Cr.bit_next, ← HY, Cr.step_bit _ _ (by omega), if_neg h', xor_nat]
  congr 1
  omega

set_option maxHeartbeats 1000000 in
theorem refmore_any (s : Int) (a : Option Addr) (n cap : Nat) (zs : List Int) (w : World) (hs : 0 ≤ s ∧ s < 4294967296) (hr : Row .u8 w a n zs) :
    Calls Tryz.prog 181 #[.int .u32 s, .slice a n cap] w fun e w' => e = .returned (.int .u32 (moreS s zs)) ∧ w' = w := by
  obtain ⟨s0, s1⟩ := hs
  have hn : n ≤ 281474976710656 := hr.2.1
  obtain ⟨x1, x2, x3⟩ := xor_u32 (a := s) (b := 4294967295) s0 s1 (by omega) (by omega)
  have N0 : Hid ((xorI s 4294967295).toNat = 4294967295 ^^^ s.toNat) := by show _ = _; rw [xor_nat, Nat.xor_comm]; rfl
  have HR := hide hr
  clear hr
  generalize xorI s 4294967295 = R0 at *
  go_enter Tryz.func181, Tryz.ntmps181
  go_wp2
  clear x1
  go_loop [5, 6] (fun r i => ∃ (k : Nat) (R : Int), k ≤ n ∧ i = .int .i64 k ∧ r = .int .u32 R ∧ 0 ≤ R ∧ R < 4294967296 ∧ Hid (R.toNat = Cr.reg (4294967295 ^^^ s.toNat) ((zs.take k).map Int.toNat))) (fun _ i => n - (intOf i).toNat)
  case atStart => exact ⟨0, R0, by omega, rfl, rfl, x2, x3, N0⟩
  case round =>
    obtain ⟨k, R, hk, rfl, rfl, r0, r1, HN⟩ := hrel
    by_cases hlt : k < n
    · have hrow := HR.out
      have hb := hrow.byte k
      obtain ⟨hl, _, _, h0 | ⟨b, off, rfl, hc⟩⟩ := hrow
      · omega
      have hck := hc k hlt
      have HS : Hid ((zs.take (k + 1)).map Int.toNat = (zs.take k).map Int.toNat ++ [(zs.getD k 0).toNat]) := map_take_succ zs k (by omega)
      clear hc hl
      generalize zs.getD k 0 = z at *
      obtain ⟨z0, z1⟩ := hb
      go_wp2
      go_loop [5, 7] (fun r i => ∃ (j : Nat) (Y : Int), j ≤ 8 ∧ i = .int .i64 j ∧ r = .int .u32 Y ∧ 0 ≤ Y ∧ Y < 4294967296 ∧ Hid (Y.toNat = Cr.it j (R.toNat ^^^ (z.toNat % 2 ^ j)))) (fun _ i => 8 - (intOf i).toNat)
      case atStart => exact ⟨0, R, by omega, rfl, rfl, r0, r1, by show _ = _; rw [Nat.pow_zero, Nat.mod_one, Nat.xor_zero]; rfl⟩
      case round =>
        obtain ⟨j, Y, hj, rfl, rfl, q0, q1, HY⟩ := hrel
        by_cases hj8 : j < 8
        · go_wp2
          all_goals clear hck
          · obtain ⟨hf, f0, f1⟩ := ref_yes (R := R) q0 q1 z0 HY.out ‹_›
            exact ⟨⟨j + 1, _, by omega, by go_num, rfl, f0, f1, hf⟩, by simp [intOf]; omega⟩
          · have hf := ref_no (R := R) q0 z0 HY.out ‹_›
            exact ⟨⟨j + 1, Y / 2, by omega, by go_num, rfl, by omega, by omega, hf⟩, by simp [intOf]; omega⟩
        · have : j = 8 := by omega
          subst this
          go_wp2
          have HE : Hid (Y.toNat = Cr.reg (4294967295 ^^^ s.toNat) ((zs.take (k + 1)).map Int.toNat)) := by
            show _ = _
            rw [HS.out, Cr.reg_append, ← HN.out, HY.out, Nat.mod_eq_of_lt (by omega)]
            rfl
          exact ⟨⟨k + 1, Y, by omega, by go_num, rfl, q0, q1, HE⟩, by simp [intOf]; omega⟩
    · have : k = n := by omega
      subst this
      obtain ⟨e1, e2, e3⟩ := xor_u32 (a := R) (b := 4294967295) r0 r1 (by omega) (by omega)
      have hl := HR.out.1
      have HE : Hid (xorI R 4294967295 = moreS s zs) := by
        show _ = _
        unfold xorI moreS
        rw [HN.out, List.take_of_length_le (by omega), Nat.xor_comm]
        rfl
      clear hl
      go_wp2
      go_ret
      exact ⟨ret_u32 HE.out, rfl⟩

theorem srefof_any (a : Option Addr) (n cap : Nat) (zs : List Int) (w : World) (hr : Row .u8 w a n zs) :
    Calls Tryz.prog 110 #[.slice a n cap] w fun e w' => e = .returned (.int .u32 (moreS 0 zs)) ∧ w' = w := by
  have M := hide (fun w hr => refmore_any 0 a n cap zs w (by decide) hr)
  go_enter Tryz.func110, Tryz.ntmps110
  go_wp2_with fail
  refine (M.out _ hr).mono ?_
  rintro e w' ⟨rfl, rfl⟩
  go_wp2
  go_ret
  exact ⟨rfl, rfl⟩
end Go.Proofs.YtknghoecjobkiaaGreatDoor

namespace Go.Proofs.YtknghoecjobkiaaGreatDoor
open Go.ChangeShapes Go.WideShapes
set_option linter.unusedVariables false
section
variable {H : Type} {enc : TypeId × Value → H} {P : Program} {w : World} {base : Nat} {spare : Nat → Bool} {held : Bool}
theorem open_boolK {r : Reach} {b0 : Nat} {t : TypeId} {v : Value} {d : DataW H} {ps : List MemPlace} (ht : P.underlying t = some .bool) (hval : Value.okWide P w r b0 t v) (hd : DataW.Trod enc P w base spare held t v d ps) :
    ∃ b, v = .bool b ∧ d = .lit (.bool b) ∧ ps = [] := by
  obtain ⟨n, rfl⟩ := okWide_bool ht hval
  obtain ⟨fuel, hf⟩ := hd
  obtain ⟨n', h, hx⟩ := DataW.trod_bool ht hf
  simp [Value.cells] at h
  subst h
  simp only [Prod.mk.injEq] at hx
  exact ⟨n, rfl, hx.1, hx.2⟩
theorem shut_boolK {t : TypeId} (b : Bool) (ht : P.underlying t = some .bool) : DataW.Trod enc P w base spare held t (.bool b) (.lit (.bool b)) [] :=
  ⟨1, by simp [DataW.trod, Value.cells, ht]⟩
end
end Go.Proofs.YtknghoecjobkiaaGreatDoor
