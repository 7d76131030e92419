/-
  The landed file system: a file that is certain, as is its name (lay): a contract, for every world.
  Conditions: the file system lies in memory, no turn is pending; the name is new; the bytes are no one else's.
-/
import Derived.Test.YthlkmjaflomflaaGreatVfsDj
namespace Go.Proofs.YthlkmjaflomflaaGreat
open Go.RowKit Go.Maps
set_option maxRecDepth 20000
set_option linter.unusedVariables false

/-- A file that is laid. -/
def layF (F : Fs) (s : ByteArray) (bs : List Int) : Fs := { F with files := F.files ++ [⟨bs, []⟩], sure := F.sure ++ [⟨s, F.files.length⟩] }
theorem nmV_lay {fb : List Nat} {l : List Dn} {s : ByteArray} (h : fileD l s = none) (k : Nat) (t : ByteArray) : updF (nmV fb l) s (ptrV fb k) t = nmV fb (l ++ [⟨s, k⟩]) t := by
  unfold updF nmV
  rw [fileD_snoc]
  by_cases e : t = s
  · rw [if_pos e, if_pos e, e, h]; rfl
  · rw [if_neg e, if_neg e]; cases fileD l t <;> rfl
theorem dirF_nil {F : Fs} (h : F.turns = []) : dirF F = F.sure := by unfold dirF turnsD; rw [h]; rfl
theorem GoodV.lay {F : Fs} (h : GoodV F) (s : ByteArray) {bs : List Int} (hb : ∀ z ∈ bs, 0 ≤ z ∧ z ≤ 255) : GoodV (layF F s bs) := by
  have q := h.more1 (x := ⟨bs, []⟩) trivial ⟨hb, fun u hu => by simp at hu⟩
  refine ⟨fun d hd => ?_, q.turns, q.cuts, q.byte, q.aft, q.knd⟩
  rcases List.mem_append.1 hd with e | e
  · exact q.sure d e
  · obtain rfl := List.mem_singleton.1 e
    show F.files.length < (F.files ++ [_]).length
    rw [List.length_append, List.length_singleton]; omega
theorem GoodN.lay {F : Fs} (hV : GoodV F) (h : GoodN F) (hT : F.turns = []) {s : ByteArray} (hs : mayN s = true) (hn : fileD F.sure s = none) (bs : List Int) : GoodN (layF F s bs) := by
  refine ⟨h.sure.snoc hs (fileD_none hn) (fun d hd e => ?_), ?_⟩
  · have := hV.sure d hd
    omega
  · show OkT _ F.turns
    rw [hT]; trivial
/-- Its name in both maps. -/
theorem LB.laid {w w2 w3 : World} {g : Nat} {S : Nat → Prop} {F : Fs} {fb : List Nat} {fh : List Fh} {bn bc : Nat} {at' : Option Addr} {ct : Nat} {s : ByteArray} {bs : List Int} (B : LB w g S { F with files := F.files ++ [⟨bs, []⟩] } fb fh bn bc at' ct) (hN : GoodN (layF F s bs)) (hT : F.turns = []) (hn : fileD F.sure s = none)
    (k2 : Ch (fun j => j = bn) w w2) {n2 : Nat} (m2 : MapS w2 bn n2 (updF (nmV fb F.sure) s (ptrV fb F.files.length))) (k3 : Ch (fun j => j = bc) w2 w3) {n3 : Nat} (m3 : MapS w3 bc n3 (updF (nmV fb F.sure) s (ptrV fb F.files.length))) :
    LB w3 g S (layF F s bs) fb fh bn bc at' ct := by
  have k : Ch (fun j => j = bn ∨ j = bc) w w3 := (k2.more (fun _ _ e => Or.inl e)).trans (k3.more (fun _ _ e => Or.inr e))
  have hbn := B.names.isMap
  have hbc := B.certain.isMap
  have hg : ∀ j t, CellsT w j t → ¬ (j = bn ∨ j = bc) := fun j t hj e => by
    rcases e with e | e
    · exact hbn.ne hj e.symm
    · exact hbc.ne hj e.symm
  have hd : dirF (layF F s bs) = F.sure ++ [⟨s, F.files.length⟩] := dirF_nil (F := layF F s bs) hT
  have hd2 : (layF F s bs).sure = F.sure ++ [⟨s, F.files.length⟩] := rfl
  refine ⟨B.own, fun j hj => Nat.lt_of_lt_of_le (B.lt j hj) k.size, ?_, ?_, ?_, B.ne, B.bnS, B.bcS, OwnG.ch B.turns k (fun b hb => hg b _ (OwnG.cellsT B.turns b hb).1), B.turnsS, B.fbs, B.len, fun i h x hi hx => ?_, B.filesS, B.apart⟩
  · rw [k.block g (B.lt g B.own) (hg g _ B.cellsT), B.str]
    rfl
  · rw [hd]
    exact (((m2.ch k3 (fun e => B.ne e)).congr (nmV_lay hn _)).tightD hN.sure)
  · rw [hd2]
    exact ((m3.congr (nmV_lay hn _)).tightD hN.sure)
  · have m := B.files i h x hi hx
    exact m.ch k (fun j hj e => by
      rcases e with e | e
      · exact hbn.ne3 (m.kind hj) e.symm
      · exact hbc.ne3 (m.kind hj) e.symm)

set_option maxHeartbeats 4000000 in
theorem lay_any (w : World) (g : Nat) (S : Nat → Prop) (F : Fs) (fb : List Nat) (fh : List Fh) (bn bc : Nat) (at' : Option Addr) (ct m : Nat) (s : ByteArray) (d : H3) (bs : List Int) (B : LB w g S F fb fh bn bc at' ct) (hV : GoodV F) (hN : GoodN F) (hT : F.turns = []) (hL : Lim m F) (hm : m ≤ 1073741825) (hs : mayN s = true) (hn : fileD F.sure s = none) (hb : ∀ z ∈ bs, 0 ≤ z ∧ z ≤ 255) (hd : OwnB w 0 d.1 d.2.1 d.2.2 bs) (hdS : ∀ j, (h3V d).ownBlock = some j → ¬ S j) :
    Calls Tryz.prog 43 #[.pointer (some ⟨g, 0, none⟩), .string s, .slice d.1 d.2.1 d.2.2] w fun e w' => e = .returned (.tuple #[]) ∧ ∃ S' fb' fh', LB w' g S' (layF F s bs) fb' fh' bn bc at' ct ∧ (∀ j, S' j → S j ∨ w.heap.size ≤ j ∨ (h3V d).ownBlock = some j) ∧ Ch S w w' := by
  have HG := hide B.own
  have HBN := hide B.bnS
  have HBC := hide B.bcS
  have GN := hide (GoodN.lay hV hN hT hs hn bs)
  have hsl := hL.sure
  have hml := mayN_max hs
  have hml := mayN_max hs
  have HF : Hid (fb.length = F.files.length) := by show _ = _; rw [← B.fbs, List.length_map, B.len]
  have BE := hide (lbear_any w g S F fb fh bn bc at' ct m d bs B hV hL hm hd hdS)
  have HT := hide hT
  have HN := hide hn
  clear B hV hN hL hd hdS hs hT hn hb
  obtain ⟨da, dn, dc⟩ := d
  dsimp only at BE ⊢
  go_enter Tryz.func43, Tryz.ntmps43
  go_wp2_with fail
  with_reducible refine BE.out.mono ?_
  rintro e u ⟨h, rfl, hge, B1, hsf, k1⟩
  have hpk : (fb ++ [h.b]).getD F.files.length 0 = h.b := by
    rw [List.getD_eq_getElem?_getD, List.getElem?_append_right (by have := HF.out; omega), HF.out, Nat.sub_self]; rfl
  have hpv : ptrV (fb ++ [h.b]) F.files.length = .pointer (some ⟨h.b, 0, none⟩) := by unfold ptrV; rw [hpk]
  have mn := B1.names
  rw [dirF_nil (F := { F with files := F.files ++ [⟨bs, []⟩] }) HT.out] at mn
  have mc := B1.certain
  dsimp only at mn mc
  obtain ⟨w2, r2, q2, g2⟩ := mn.store Tryz.underlying62 (by unfold maxLen; omega) hml (ptrV (fb ++ [h.b]) F.files.length)
  have K2 : Hid (Ch (fun j => j = bn) u w2) := (Ch.grown g2).more (fun j _ e => (Option.some.inj e).symm)
  have mc2 := mc.ch K2.out (fun e => B1.ne e.symm)
  obtain ⟨w3, r3, q3, g3⟩ := mc2.store Tryz.underlying62 (by unfold maxLen; omega) hml (ptrV (fb ++ [h.b]) F.files.length)
  have K3 : Hid (Ch (fun j => j = bc) w2 w3) := (Ch.grown g3).more (fun j _ e => (Option.some.inj e).symm)
  have LX := hide (B1.laid GN.out HT.out HN.out K2.out q2 K3.out q3)
  rw [hpv] at r2 r3
  have x0 := B1.c0
  have x1 : w2.cell? ⟨g, 1, none⟩ = some (.map (some bc)) := by
    have hb := K2.out.block g (B1.lt g B1.own) (fun e => B1.names.isMap.ne B1.cellsT e.symm)
    rw [cell_of_row w2 g 1 _ _ (0, 0) (hb.trans B1.str)]; rfl
  have FIN : Hid (∃ S' fb' fh', LB w3 g S' (layF F s bs) fb' fh' bn bc at' ct ∧ (∀ j, S' j → S j ∨ w.heap.size ≤ j ∨ (h3V (da, dn, dc)).ownBlock = some j) ∧ Ch S w w3) := by
    refine ⟨_, _, _, LX.out, fun j hj => ?_, (k1.more (fun j _ e => e ▸ HG.out)).trans ?_⟩
    · rcases hj with e | e
      · exact Or.inl e
      · exact Or.inr (hsf j e)
    · refine (K2.out.more (fun j _ e => e ▸ HBN.out)).trans (K3.out.more (fun j _ e => e ▸ HBC.out))
  obtain ⟨hb, hhb⟩ : ∃ hb, h.b = hb := ⟨_, rfl⟩
  rw [hhb] at r2 r3 ⊢
  clear hge B1 hsf k1 mn mc mc2 q2 q3 g2 g3 K2 K3 LX GN HT HN BE HG HBN HBC hpk hpv hhb
  go_wp2
  go_end0
  exact ⟨rfl, FIN.out⟩
end Go.Proofs.YthlkmjaflomflaaGreat
