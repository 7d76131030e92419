/-
  A matcher's bytes, plainly: what is put, what is read (by the program: D false; by the document: D true, which looks at the depth and at how many bytes are left), and that what was put is read. No function is named. A matcher's bytes, plainly: what was put, and may be, is read back. No function is named. A matcher's bytes, plainly: how many they are, and that they are bytes. No function is named. The program's reader of matchers' bytes (more, number, text, value): contracts, for every world: the reader's block alone turns; what may not be leaves by a panic of the reader's own kind. The program's reader of matchers' bytes (lists of values and of matchers): what has been read so far, and what is told. A matcher's bytes put by the program (put, Put): contracts, for every world: the bytes lie in new memory (written by gen/matzf.gen.py). The program's reader of matchers' bytes (matcher): a contract, for every world: the reader's block alone turns, and what is read lies in new blocks; what may not be leaves by a panic of the reader's own kind (written by gen/matzg.gen.py). How a matcher's bytes are got (attempt, of a byte reader; Get): contracts, for every world (written by gen/matzh.gen.py). A matcher's bytes put by the document: a contract, for every world: the bytes lie in new memory (written by gen/matzi.gen.py).
  Conditions: as each theorem says; the reader lies in a block of its own; its bytes lie in memory older than itself; a matcher that may be; at most 2^47 bytes ahead; a matcher that may be.
-/
import Derived.Test.YthebcmkainplnaaMatP
import Derived.Test.YthebcmkainplnaaLabG
import Derived.Test.YthebcmkainplnaaMatE
import Derived.Test.YthebcmkainplnaaMatTz
import Derived.Test.YthebcmkainplnaaTxtB
import Derived.Deep.RegionHeld3
import Derived.Test.YthebcmkainplnaaLabGp
import Derived.Test.YthebcmkainplnaaMatDb
import Derived.Deep.DeepCutAuto
import Derived.Deep.CutBlock
import Derived.Test.YthebcmkainplnaaVintR
namespace Go.Proofs.Ythebcmkainplnaa
open Go.RowKit
set_option maxRecDepth 20000

mutual
/-- Its bytes. -/
def putB : Mt → List Int
  | .mk op nm vl vs ks => putS op ++ ((if op = 1 ∨ op = 2 ∨ op = 3 then putT (numsOf nm) ++ putT (numsOf vl)
    else if op = 4 then putT (numsOf nm) ++ (putS vs.length ++ vs.flatMap fun v => putT (numsOf v))
    else if op = 5 ∨ op = 6 then putS ks.length else []) ++ putBs ks)
def putBs : List Mt → List Int
  | [] => []
  | k :: ks => putB k ++ putBs ks
end
theorem putBs_map (ks : List Mt) : putBs ks = ks.flatMap putB := by
  induction ks with
  | nil => rfl
  | cons x t ih => rw [putBs, ih, List.flatMap_cons]
theorem putB_eq (m : Mt) : putB m = putS m.op ++ ((if m.op = 1 ∨ m.op = 2 ∨ m.op = 3 then putT (numsOf m.nm) ++ putT (numsOf m.vl)
    else if m.op = 4 then putT (numsOf m.nm) ++ (putS m.vs.length ++ m.vs.flatMap fun v => putT (numsOf v))
    else if m.op = 5 ∨ m.op = 6 then putS m.ks.length else []) ++ m.ks.flatMap putB) := by
  cases m
  rw [putB, putBs_map]
  rfl
/-- How many there are, at most so many. -/
def cntZ (zs : List Int) (D : Bool) (p most : Int) : Option (Int × Int) := if D then sizeS zs p most else match getS zs p with
  | none => none
  | some r => if most < r.1 then none else some r
def gtV (zs : List Int) : Nat → Int → Option (List ByteArray × Int)
  | 0, p => some ([], p)
  | c + 1, p => match textS zs p 64 with
    | none => none
    | some r => (gtV zs c r.2).map fun x => (strOfNums r.1 :: x.1, x.2)
mutual
/-- A matcher is read; so many more may be; it lies so deep. -/
def gtM (zs : List Int) (D : Bool) : Nat → Nat → Nat → Int → Option (Mt × Int × Nat)
  | 0, _, _, _ => none
  | _ + 1, 0, _, _ => none
  | f + 1, left + 1, d, p => if D = true ∧ 8 < d then none else match getS zs p with
    | none => none
    | some r => if 7 < r.1 then none
      else if r.1 = 1 ∨ r.1 = 2 ∨ r.1 = 3 then match textS zs r.2 32 with
        | none => none
        | some n => match textS zs n.2 64 with
          | none => none
          | some v => some (.mk r.1 (strOfNums n.1) (strOfNums v.1) [] [], v.2, left)
      else if r.1 = 4 then match textS zs r.2 32 with
        | none => none
        | some n => match cntZ zs D n.2 16 with
          | none => none
          | some c => (gtV zs c.1.toNat c.2).map fun x => (.mk 4 (strOfNums n.1) .empty x.1 [], x.2, left)
      else if r.1 = 5 ∨ r.1 = 6 then match cntZ zs D r.2 64 with
        | none => none
        | some c => (gtK zs D f left (d + 1) c.1.toNat c.2).map fun x => (.mk r.1 .empty .empty [] x.1, x.2)
      else if r.1 = 7 then (gtK zs D f left (d + 1) 1 r.2).map fun x => (.mk 7 .empty .empty [] x.1, x.2)
      else some (.mk r.1 .empty .empty [] [], r.2, left)
def gtK (zs : List Int) (D : Bool) : Nat → Nat → Nat → Nat → Int → Option (List Mt × Int × Nat)
  | 0, _, _, _, _ => none
  | _ + 1, left, _, 0, p => some ([], p, left)
  | f + 1, left, d, c + 1, p => match gtM zs D f left d p with
    | none => none
    | some q => (gtK zs D f q.2.2 d c q.2.1).map fun x => (q.1 :: x.1, x.2)
end
def getZ (zs : List Int) (D : Bool) (p : Int) : Option (Mt × Int) := match gtM zs D 300 64 1 p with
  | none => none
  | some q => if chkM q.1 = true then some (q.1, q.2.1) else none

theorem cntZ_up {zs : List Int} {p most : Int} {r : Int × Int} (h : cntZ zs true p most = some r) : cntZ zs false p most = some r := by
  unfold cntZ at *
  rw [if_pos rfl] at h
  rw [if_neg (by decide)]
  unfold sizeS at h
  cases hg : getS zs p with
  | none => rw [hg] at h; cases h
  | some q =>
    rw [hg] at h
    simp only at h ⊢
    split at h
    · cases h
    · rename_i hc
      rw [if_neg (by omega)]
      exact h
theorem gt_up (zs : List Int) : ∀ (f : Nat), (∀ left d p r, gtM zs true f left d p = some r → gtM zs false f left d p = some r) ∧ (∀ left d c p r, gtK zs true f left d c p = some r → gtK zs false f left d c p = some r)
  | 0 => ⟨fun left d p r h => (by rw [gtM.eq_def] at h; cases h), fun left d c p r h => (by rw [gtK.eq_def] at h; cases h)⟩
  | f + 1 => by
    obtain ⟨i1, i2⟩ := gt_up zs f
    refine ⟨fun left d p r h => ?_, fun left d c p r h => ?_⟩
    · cases left with
      | zero => rw [gtM] at h; cases h
      | succ left =>
        rw [gtM] at h ⊢
        rw [if_neg (by simp)]
        split at h
        · cases h
        · cases hg : getS zs p with
          | none => rw [hg] at h; cases h
          | some q =>
            rw [hg] at h
            simp only at h ⊢
            split
            · rename_i h7; rw [if_pos h7] at h; cases h
            · rename_i h7
              rw [if_neg h7] at h
              split
              · rename_i h1; rw [if_pos h1] at h; exact h
              · rename_i h1
                rw [if_neg h1] at h
                split
                · rename_i h4
                  rw [if_pos h4] at h
                  cases ht : textS zs q.2 32 with
                  | none => rw [ht] at h; cases h
                  | some n =>
                    rw [ht] at h
                    simp only at h ⊢
                    cases hc : cntZ zs true n.2 16 with
                    | none => rw [hc] at h; cases h
                    | some c =>
                      rw [hc] at h
                      rw [cntZ_up hc]
                      exact h
                · rename_i h4
                  rw [if_neg h4] at h
                  split
                  · rename_i h5
                    rw [if_pos h5] at h
                    cases hc : cntZ zs true q.2 64 with
                    | none => rw [hc] at h; cases h
                    | some c =>
                      rw [hc] at h
                      rw [cntZ_up hc]
                      simp only at h ⊢
                      cases hk : gtK zs true f left (d + 1) c.1.toNat c.2 with
                      | none => rw [hk] at h; cases h
                      | some x =>
                        rw [hk] at h
                        rw [i2 _ _ _ _ _ hk]
                        exact h
                  · rename_i h5
                    rw [if_neg h5] at h
                    split
                    · rename_i h6
                      rw [if_pos h6] at h
                      cases hk : gtK zs true f left (d + 1) 1 q.2 with
                      | none => rw [hk] at h; cases h
                      | some x =>
                        rw [hk] at h
                        rw [i2 _ _ _ _ _ hk]
                        exact h
                    · rename_i h6
                      rw [if_neg h6] at h
                      exact h
    · cases c with
      | zero => rw [gtK] at h ⊢; exact h
      | succ c =>
        rw [gtK] at h ⊢
        cases hm : gtM zs true f left d p with
        | none => rw [hm] at h; cases h
        | some q =>
          rw [hm] at h
          rw [i1 _ _ _ _ hm]
          simp only at h ⊢
          cases hk : gtK zs true f q.2.2 d c q.2.1 with
          | none => rw [hk] at h; cases h
          | some x =>
            rw [hk] at h
            rw [i2 _ _ _ _ _ hk]
            exact h
theorem textS_lt {zs : List Int} {p most e : Int} {s : List Int} (hz : Bytes8 zs) (h : textS zs p most = some (s, e)) : 0 ≤ p ∧ p + 1 ≤ e ∧ e ≤ zs.length := by
  obtain ⟨k, rfl, h1, h2, -⟩ := textS_back hz h
  exact ⟨by omega, by omega, h2⟩
theorem getS_lt {zs : List Int} {p v e : Int} (hz : Bytes8 zs) (h : getS zs p = some (v, e)) : 0 ≤ v ∧ 0 ≤ p ∧ p + 1 ≤ e ∧ e ≤ zs.length := by
  obtain ⟨hw, k, rfl, h1, rfl, h2, -⟩ := getS_some hz h
  have := (putS_len v).1
  exact ⟨hw.1, by omega, by omega, by omega⟩
theorem gtV_size {zs : List Int} (hz : Bytes8 zs) : ∀ (c : Nat) (p e : Int) (l : List ByteArray), gtV zs c p = some (l, e) → l.length = c ∧ (c = 0 ∧ e = p ∨ 0 ≤ p ∧ p + c ≤ e ∧ e ≤ zs.length)
  | 0, p, e, l, h => by
    rw [gtV] at h
    cases h
    exact ⟨rfl, Or.inl ⟨rfl, rfl⟩⟩
  | c + 1, p, e, l, h => by
    rw [gtV] at h
    cases h1 : textS zs p 64 with
    | none => rw [h1] at h; cases h
    | some r =>
      obtain ⟨s, q⟩ := r
      rw [h1] at h
      simp only at h
      cases h2 : gtV zs c q with
      | none => rw [h2] at h; cases h
      | some x =>
        obtain ⟨t, q'⟩ := x
        rw [h2] at h
        simp only [Option.map_some, Option.some.injEq, Prod.mk.injEq] at h
        obtain ⟨rfl, rfl⟩ := h
        obtain ⟨i1, i2⟩ := gtV_size hz c q q' t h2
        have := textS_lt hz h1
        refine ⟨by simp [i1], Or.inr ⟨by omega, by omega, by omega⟩⟩
theorem cntZ_some {zs : List Int} {D : Bool} {p most : Int} {c : Int × Int} (hz : Bytes8 zs) (h : cntZ zs D p most = some c) : getS zs p = some c ∧ 0 ≤ c.1 ∧ c.1 ≤ most ∧ 0 ≤ p ∧ p + 1 ≤ c.2 ∧ c.2 ≤ zs.length := by
  have key : cntZ zs false p most = some c := by
    cases D with
    | true => exact cntZ_up h
    | false => exact h
  unfold cntZ at key
  rw [if_neg (by decide)] at key
  cases hg : getS zs p with
  | none => rw [hg] at key; cases key
  | some q =>
    rw [hg] at key
    simp only at key
    split at key
    · cases key
    · simp only [Option.some.injEq] at key
      subst key
      have := getS_lt (v := q.1) (e := q.2) hz hg
      exact ⟨rfl, by omega, by omega, by omega, by omega, by omega⟩
theorem cntZ_down {zs : List Int} {p most : Int} {c : Int × Int} (hz : Bytes8 zs) (h : cntZ zs false p most = some c) (hm : 0 ≤ most) (hc : c.2 + c.1 ≤ zs.length) : cntZ zs true p most = some c := by
  obtain ⟨hg, h0, h1, -⟩ := cntZ_some hz h
  unfold cntZ sizeS
  rw [if_pos rfl, hg]
  simp only
  rw [if_neg (by omega)]
theorem gt_size {zs : List Int} (hz : Bytes8 zs) (D : Bool) : ∀ (f : Nat), (∀ left d p m e l, gtM zs D f left d p = some (m, e, l) → 0 ≤ p ∧ p + 1 ≤ e ∧ e ≤ zs.length) ∧ (∀ left d c p ks e l, gtK zs D f left d c p = some (ks, e, l) → ks.length = c ∧ (c = 0 ∧ e = p ∨ 0 ≤ p ∧ p + c ≤ e ∧ e ≤ zs.length))
  | 0 => ⟨fun left d p m e l h => (by rw [gtM.eq_def] at h; cases h), fun left d c p ks e l h => (by rw [gtK.eq_def] at h; cases h)⟩
  | f + 1 => by
    obtain ⟨i1, i2⟩ := gt_size hz D f
    refine ⟨fun left d p m e l h => ?_, fun left d c p ks e l h => ?_⟩
    · cases left with
      | zero => rw [gtM] at h; cases h
      | succ left =>
        rw [gtM] at h
        split at h
        · cases h
        · cases hg : getS zs p with
          | none => rw [hg] at h; cases h
          | some q =>
            obtain ⟨v, q⟩ := q
            have hq := getS_lt hz hg
            rw [hg] at h
            simp only at h
            split at h
            · cases h
            · split at h
              · cases h1 : textS zs q 32 with
                | none => rw [h1] at h; cases h
                | some r =>
                  obtain ⟨s1, e1⟩ := r
                  rw [h1] at h
                  simp only at h
                  cases h2 : textS zs e1 64 with
                  | none => rw [h2] at h; cases h
                  | some r =>
                    obtain ⟨s2, e2⟩ := r
                    rw [h2] at h
                    simp only [Option.some.injEq, Prod.mk.injEq] at h
                    obtain ⟨-, rfl, -⟩ := h
                    have := textS_lt hz h1
                    have := textS_lt hz h2
                    omega
              · split at h
                · cases h1 : textS zs q 32 with
                  | none => rw [h1] at h; cases h
                  | some r =>
                    obtain ⟨s1, e1⟩ := r
                    rw [h1] at h
                    simp only at h
                    cases h2 : cntZ zs D e1 16 with
                    | none => rw [h2] at h; cases h
                    | some c =>
                      rw [h2] at h
                      simp only at h
                      cases h3 : gtV zs c.1.toNat c.2 with
                      | none => rw [h3] at h; cases h
                      | some x =>
                        obtain ⟨t, e3⟩ := x
                        rw [h3] at h
                        simp only [Option.map_some, Option.some.injEq, Prod.mk.injEq] at h
                        obtain ⟨-, rfl, -⟩ := h
                        have := textS_lt hz h1
                        have := cntZ_some hz h2
                        have := (gtV_size hz _ _ _ _ h3).2
                        omega
                · split at h
                  · cases h2 : cntZ zs D q 64 with
                    | none => rw [h2] at h; cases h
                    | some c =>
                      rw [h2] at h
                      simp only at h
                      cases h3 : gtK zs D f left (d + 1) c.1.toNat c.2 with
                      | none => rw [h3] at h; cases h
                      | some x =>
                        obtain ⟨t, e3, l3⟩ := x
                        rw [h3] at h
                        simp only [Option.map_some, Option.some.injEq, Prod.mk.injEq] at h
                        obtain ⟨-, rfl, -⟩ := h
                        have := cntZ_some hz h2
                        have := (i2 _ _ _ _ _ _ _ h3).2
                        omega
                  · split at h
                    · cases h3 : gtK zs D f left (d + 1) 1 q with
                      | none => rw [h3] at h; cases h
                      | some x =>
                        obtain ⟨t, e3, l3⟩ := x
                        rw [h3] at h
                        simp only [Option.map_some, Option.some.injEq, Prod.mk.injEq] at h
                        obtain ⟨-, rfl, -⟩ := h
                        have := (i2 _ _ _ _ _ _ _ h3).2
                        omega
                    · simp only [Option.some.injEq, Prod.mk.injEq] at h
                      obtain ⟨-, rfl, -⟩ := h
                      omega
    · cases c with
      | zero =>
        rw [gtK] at h
        simp only [Option.some.injEq, Prod.mk.injEq] at h
        obtain ⟨rfl, rfl, -⟩ := h
        exact ⟨rfl, Or.inl ⟨rfl, rfl⟩⟩
      | succ c =>
        rw [gtK] at h
        cases hm : gtM zs D f left d p with
        | none => rw [hm] at h; cases h
        | some q =>
          obtain ⟨m, q, l2⟩ := q
          rw [hm] at h
          simp only at h
          cases hk : gtK zs D f l2 d c q with
          | none => rw [hk] at h; cases h
          | some x =>
            obtain ⟨t, e3, l3⟩ := x
            rw [hk] at h
            simp only [Option.map_some, Option.some.injEq, Prod.mk.injEq] at h
            obtain ⟨rfl, rfl, rfl⟩ := h
            have a1 := i1 _ _ _ _ _ _ hm
            obtain ⟨a2, a3⟩ := i2 _ _ _ _ _ _ _ hk
            exact ⟨by simp [a2], Or.inr ⟨by omega, by omega, by omega⟩⟩
/-- What the program reads, and may be, the document reads. -/
theorem gt_down {zs : List Int} (hz : Bytes8 zs) : ∀ (f : Nat), (∀ left d p m e l n b res, gtM zs false f left d p = some (m, e, l) → lookF m d n b = some res → gtM zs true f left d p = some (m, e, l)) ∧ (∀ left d c p ks e l n b res, gtK zs false f left d c p = some (ks, e, l) → lookKs ks d n b = some res → gtK zs true f left d c p = some (ks, e, l))
  | 0 => ⟨fun left d p m e l n b res h _ => (by rw [gtM.eq_def] at h; cases h), fun left d c p ks e l n b res h _ => (by rw [gtK.eq_def] at h; cases h)⟩
  | f + 1 => by
    obtain ⟨i1, i2⟩ := gt_down hz f
    refine ⟨fun left d p m e l n b res h hl => ?_, fun left d c p ks e l n b res h hl => ?_⟩
    · obtain ⟨-, hd, -, -, hks⟩ := lookF_some hl
      cases left with
      | zero => rw [gtM] at h; cases h
      | succ left =>
        rw [gtM] at h ⊢
        rw [if_neg (by simp)] at h
        rw [if_neg (by omega)]
        cases hg : getS zs p with
        | none => rw [hg] at h; cases h
        | some q =>
          obtain ⟨v, q⟩ := q
          rw [hg] at h
          simp only at h ⊢
          split
          · rename_i h7; rw [if_pos h7] at h; cases h
          · rename_i h7
            rw [if_neg h7] at h
            split
            · rename_i h1; rw [if_pos h1] at h; exact h
            · rename_i h1
              rw [if_neg h1] at h
              split
              · rename_i h4
                rw [if_pos h4] at h
                cases ht : textS zs q 32 with
                | none => rw [ht] at h; cases h
                | some r =>
                  rw [ht] at h
                  simp only at h ⊢
                  cases hc : cntZ zs false r.2 16 with
                  | none => rw [hc] at h; cases h
                  | some c =>
                    rw [hc] at h
                    simp only at h
                    cases h3 : gtV zs c.1.toNat c.2 with
                    | none => rw [h3] at h; cases h
                    | some x =>
                      obtain ⟨t, e3⟩ := x
                      have b1 := cntZ_some hz hc
                      have b2 := (gtV_size hz _ _ _ _ h3).2
                      rw [cntZ_down hz hc (by decide) (by omega)]
                      exact h
              · rename_i h4
                rw [if_neg h4] at h
                split
                · rename_i h5
                  rw [if_pos h5] at h
                  cases hc : cntZ zs false q 64 with
                  | none => rw [hc] at h; cases h
                  | some c =>
                    rw [hc] at h
                    simp only at h
                    cases h3 : gtK zs false f left (d + 1) c.1.toNat c.2 with
                    | none => rw [h3] at h; cases h
                    | some x =>
                      obtain ⟨t, e3, l3⟩ := x
                      have b1 := cntZ_some hz hc
                      have b2 := ((gt_size hz false f).2 _ _ _ _ _ _ _ h3).2
                      rw [cntZ_down hz hc (by decide) (by omega)]
                      rw [h3] at h
                      simp only [Option.map_some, Option.some.injEq, Prod.mk.injEq] at h ⊢
                      obtain ⟨rfl, rfl, rfl⟩ := h
                      rw [i2 _ _ _ _ _ _ _ _ _ _ h3 hks]
                      rfl
                · rename_i h5
                  rw [if_neg h5] at h
                  split
                  · rename_i h6
                    rw [if_pos h6] at h
                    cases h3 : gtK zs false f left (d + 1) 1 q with
                    | none => rw [h3] at h; cases h
                    | some x =>
                      obtain ⟨t, e3, l3⟩ := x
                      rw [h3] at h
                      simp only [Option.map_some, Option.some.injEq, Prod.mk.injEq] at h ⊢
                      obtain ⟨rfl, rfl, rfl⟩ := h
                      rw [i2 _ _ _ _ _ _ _ _ _ _ h3 hks]
                      rfl
                  · rename_i h6
                    rw [if_neg h6] at h
                    exact h
    · cases c with
      | zero => rw [gtK] at h ⊢; exact h
      | succ c =>
        rw [gtK] at h ⊢
        cases hm : gtM zs false f left d p with
        | none => rw [hm] at h; cases h
        | some q =>
          obtain ⟨m, q, l2⟩ := q
          rw [hm] at h
          simp only at h
          cases hk : gtK zs false f l2 d c q with
          | none => rw [hk] at h; cases h
          | some x =>
            obtain ⟨t, e3, l3⟩ := x
            rw [hk] at h
            simp only [Option.map_some, Option.some.injEq, Prod.mk.injEq] at h
            obtain ⟨rfl, rfl, rfl⟩ := h
            obtain ⟨r', hx, ht⟩ := lookKs_cons hl
            rw [i1 _ _ _ _ _ _ _ _ _ hm hx]
            simp only
            rw [i2 _ _ _ _ _ _ _ _ _ _ hk ht]
            rfl
/-- Both tell the same. -/
theorem getZ_one {zs : List Int} (hz : Bytes8 zs) (p : Int) : getZ zs true p = getZ zs false p := by
  unfold getZ
  cases h : gtM zs false 300 64 1 p with
  | none =>
    cases h2 : gtM zs true 300 64 1 p with
    | none => rfl
    | some q =>
      rw [(gt_up zs 300).1 _ _ _ _ h2] at h
      cases h
  | some q =>
    obtain ⟨m, e, l⟩ := q
    simp only
    cases hc : chkM m with
    | true =>
      obtain ⟨res, hres⟩ := Option.isSome_iff_exists.1 (show (lookF m 1 0 0).isSome = true from hc)
      rw [(gt_down hz 300).1 _ _ _ _ _ _ _ _ _ h hres]
      simp only [hc]
    | false =>
      cases h2 : gtM zs true 300 64 1 p with
      | none => rfl
      | some q =>
        rw [(gt_up zs 300).1 _ _ _ _ h2] at h
        simp only [Option.some.injEq] at h
        subst h
        simp only
        rw [hc]
end Go.Proofs.Ythebcmkainplnaa

namespace Go.Proofs.Ythebcmkainplnaa
open Go.RowKit
set_option maxRecDepth 20000

theorem getS_in {zs xs ys : List Int} {v p : Int} (hv : W64 v) (hz : zs = xs ++ (putS v ++ ys)) (hp : p = (xs.length : Int)) : getS zs p = some (v, p + ((putS v).length : Int)) := by
  subst hz hp
  rw [getS_at hv xs ys]
  simp
theorem textS_in {zs xs ys : List Int} {s : ByteArray} {p most : Int} (hs : (s.size : Int) ≤ most) (hm : most ≤ 1000) (hz : zs = xs ++ (putT (numsOf s) ++ ys)) (hp : p = (xs.length : Int)) : textS zs p most = some (numsOf s, p + ((putT (numsOf s)).length : Int)) := by
  subst hz hp
  rw [textS_more (textS_at (by rw [numsOf_len]; omega) xs ys) (by rw [numsOf_len]; exact hs)]
  simp
theorem gtV_in : ∀ {vs : List ByteArray} {zs xs ys : List Int} {p : Int}, (∀ v ∈ vs, v.size ≤ 64) → zs = xs ++ ((vs.flatMap fun v => putT (numsOf v)) ++ ys) → p = (xs.length : Int) → gtV zs vs.length p = some (vs, p + ((vs.flatMap fun v => putT (numsOf v)).length : Int))
  | [], zs, xs, ys, p, _, _, _ => by simp [gtV]
  | v :: t, zs, xs, ys, p, hs, hz, hp => by
    have h1 : textS zs p 64 = some (numsOf v, p + ((putT (numsOf v)).length : Int)) := textS_in (ys := (t.flatMap fun v => putT (numsOf v)) ++ ys) (by have := hs v (by simp); omega) (by decide) (by rw [hz, List.flatMap_cons, List.append_assoc]) hp
    have h2 := gtV_in (vs := t) (zs := zs) (xs := xs ++ putT (numsOf v)) (ys := ys) (p := p + ((putT (numsOf v)).length : Int)) (fun y hy => hs y (by simp [hy])) (by rw [hz, List.flatMap_cons]; simp only [List.append_assoc]) (by rw [hp, List.length_append]; omega)
    rw [List.length_cons, gtV, h1]
    simp only
    rw [h2, Option.map_some, strOf_nums, List.flatMap_cons, List.length_append]
    congr 2
    omega
theorem ris_fit {vs : List ByteArray} (h : valsB vs = true) : vs.length ≤ 16 ∧ ∀ v ∈ vs, v.size ≤ 64 := by
  unfold valsB at h
  simp only [Bool.and_eq_true, decide_eq_true_eq] at h
  refine ⟨h.1.2, ?_⟩
  have key : ∀ l : List ByteArray, risB l = true → ∀ v ∈ l, v.size ≤ 64 := by
    intro l
    induction l with
    | nil => intro _ v hv; cases hv
    | cons x t ih =>
      intro hr v hv
      cases t with
      | nil =>
        obtain rfl := List.mem_singleton.1 hv
        simpa [risB] using hr
      | cons y u =>
        simp only [risB, Bool.and_eq_true, decide_eq_true_eq] at hr
        rcases List.mem_cons.1 hv with rfl | hv
        · exact hr.1.1
        · exact ih hr.2 v hv
  exact key vs h.2
theorem nameB_len' {s : ByteArray} (h : nameB s = true) : s.size ≤ 32 := by
  unfold nameB at h
  simp only [Bool.and_eq_true, decide_eq_true_eq] at h
  exact h.2.2
theorem w64_op {m : Mt} (h : 0 ≤ m.op ∧ m.op ≤ 7) : W64 m.op := ⟨h.1, by omega⟩
set_option maxHeartbeats 1000000 in
theorem gt_back (m : Mt) : ∀ (f d n b : Nat) (res : Nat × Nat) (zs xs ys : List Int) (p : Int), lookF m d n b = some res → 3 * (64 - n) + 1 ≤ f → zs = xs ++ (putB m ++ ys) → p = (xs.length : Int) → gtM zs false f (64 - n) d p = some (m, p + ((putB m).length : Int), 64 - res.1) ∧ n + 1 ≤ res.1 ∧ res.1 ≤ 64 := by
  refine Mt.ind (P := fun m => ∀ (f d n b : Nat) (res : Nat × Nat) (zs xs ys : List Int) (p : Int), lookF m d n b = some res → 3 * (64 - n) + 1 ≤ f → zs = xs ++ (putB m ++ ys) → p = (xs.length : Int) → gtM zs false f (64 - n) d p = some (m, p + ((putB m).length : Int), 64 - res.1) ∧ n + 1 ≤ res.1 ∧ res.1 ≤ 64) ?_ m
  intro m ih f d n b res zs xs ys p h hf hz hp
  obtain ⟨hn, hd, hfit, hb, hks⟩ := lookF_some h
  obtain ⟨f, rfl⟩ : ∃ f', f = f' + 1 := ⟨f - 1, by omega⟩
  obtain ⟨left, hleft⟩ : ∃ left, 64 - n = left + 1 := ⟨64 - n - 1, by omega⟩
  have hleft' : left = 64 - (n + 1) := by omega
  have key : ∀ (ks : List Mt) (f n b : Nat) (res : Nat × Nat) (zs xs ys : List Int) (p : Int), (∀ k ∈ ks, k ∈ m.ks) → lookKs ks (d + 1) n b = some res → n ≤ 64 → 3 * (64 - n) + 2 ≤ f → zs = xs ++ (ks.flatMap putB ++ ys) → p = (xs.length : Int) → gtK zs false f (64 - n) (d + 1) ks.length p = some (ks, p + ((ks.flatMap putB).length : Int), 64 - res.1) ∧ n + ks.length ≤ res.1 ∧ res.1 ≤ 64 := by
    intro ks
    induction ks with
    | nil =>
      intro f n b res zs xs ys p _ hl hn hf _ _
      obtain ⟨f, rfl⟩ : ∃ f', f = f' + 1 := ⟨f - 1, by omega⟩
      rw [lookKs] at hl
      simp only [Option.some.injEq] at hl
      subst hl
      exact ⟨by simp [gtK], by simp, hn⟩
    | cons x t iht =>
      intro f n b res zs xs ys p hm hl hn hf hz hp
      obtain ⟨r', hx, hl'⟩ := lookKs_cons hl
      obtain ⟨f, rfl⟩ : ∃ f', f = f' + 1 := ⟨f - 1, by omega⟩
      obtain ⟨e, e1, e2⟩ := ih x (hm x (by simp)) f (d + 1) n b r' zs xs (t.flatMap putB ++ ys) p hx (by omega) (by rw [hz, List.flatMap_cons, List.append_assoc]) hp
      obtain ⟨q, q1, q2⟩ := iht f r'.1 r'.2 res zs (xs ++ putB x) ys (p + ((putB x).length : Int)) (fun k hk => hm k (by simp [hk])) hl' e2 (by omega) (by rw [hz, List.flatMap_cons]; simp only [List.append_assoc]) (by rw [hp, List.length_append]; omega)
      rw [List.length_cons, gtK, e]
      simp only
      rw [q, Option.map_some, List.flatMap_cons, List.length_append]
      refine ⟨?_, by omega, q2⟩
      congr 2
      rw [Prod.mk.injEq]
      exact ⟨by omega, rfl⟩
  have hop : 0 ≤ m.op ∧ m.op ≤ 7 := by
    rcases fit_names hfit with ⟨ho, -⟩ | ⟨ho, -⟩ | ⟨ho, -⟩ | ⟨ho, -⟩ <;> omega
  rw [putB_eq] at hz
  have hg : getS zs p = some (m.op, p + ((putS m.op).length : Int)) := getS_in (w64_op hop) (by rw [hz, List.append_assoc]) hp
  have hq : p + ((putS m.op).length : Int) = (((xs ++ putS m.op).length : Nat) : Int) := by rw [hp, List.length_append]; omega
  rw [hleft, gtM, if_neg (by simp), hg]
  simp only
  rw [if_neg (by omega)]
  rcases fit_names hfit with ⟨ho, hzm⟩ | ⟨ho, hnm, hv, hk⟩ | ⟨ho, hnm, hvl, hv, hk⟩ | ⟨ho, h1, h2, h3, h7⟩
  · subst hzm
    rw [show zeroM.ks = [] from rfl, lookKs] at hks
    simp only [Option.some.injEq] at hks
    subst hks
    have e : putB zeroM = putS 0 := by rw [putB_eq]; simp [zeroM, Mt.op, Mt.ks]
    rw [ho, if_neg (by decide), if_neg (by decide), if_neg (by decide), if_neg (by decide), e, hleft']
    exact ⟨rfl, Nat.le_refl _, by show n + 1 ≤ 64; omega⟩
  · rw [hk, lookKs] at hks
    simp only [Option.some.injEq] at hks
    subst hks
    have hv64 : m.vl.size ≤ 64 := by
      unfold fitB at hfit
      rw [if_neg (by omega), if_pos ho] at hfit
      simp only [Bool.and_eq_true, decide_eq_true_eq] at hfit
      exact hfit.2
    have hn32 := (nameB_len' hnm)
    rw [if_pos ho, hk, List.flatMap_nil, List.append_nil] at hz
    have t1 := textS_in (zs := zs) (xs := xs ++ putS m.op) (ys := putT (numsOf m.vl) ++ ys) (s := m.nm) (most := 32) (by omega) (by decide) (by rw [hz]; simp only [List.append_assoc]) hq
    have t2 := textS_in (zs := zs) (xs := xs ++ putS m.op ++ putT (numsOf m.nm)) (ys := ys) (s := m.vl) (p := p + ((putS m.op).length : Int) + ((putT (numsOf m.nm)).length : Int)) (most := 64) (by omega) (by decide) (by rw [hz]; simp only [List.append_assoc]) (by rw [hq, @List.length_append _ (xs ++ putS m.op)]; omega)
    have e : putB m = putS m.op ++ (putT (numsOf m.nm) ++ putT (numsOf m.vl)) := by rw [putB_eq, if_pos ho, hk]; simp
    rw [if_pos ho, t1]
    simp only
    rw [t2]
    simp only
    rw [strOf_nums, strOf_nums, e, hleft']
    refine ⟨?_, Nat.le_refl _, by show n + 1 ≤ 64; omega⟩
    congr 1
    refine Prod.ext (Mt.ext rfl rfl rfl hv.symm hk.symm) (Prod.ext ?_ rfl)
    simp only [List.length_append]
    omega
  · rw [hk, lookKs] at hks
    simp only [Option.some.injEq] at hks
    subst hks
    obtain ⟨h16, hv64⟩ := ris_fit hv
    have hn32 := (nameB_len' hnm)
    rw [if_neg (by omega), if_pos ho, hk, List.flatMap_nil, List.append_nil] at hz
    have t1 := textS_in (zs := zs) (xs := xs ++ putS m.op) (ys := putS m.vs.length ++ ((m.vs.flatMap fun v => putT (numsOf v)) ++ ys)) (s := m.nm) (most := 32) (by omega) (by decide) (by rw [hz]; simp only [List.append_assoc]) hq
    have hq2 : p + ((putS m.op).length : Int) + ((putT (numsOf m.nm)).length : Int) = (((xs ++ putS m.op ++ putT (numsOf m.nm)).length : Nat) : Int) := by rw [hq, @List.length_append _ (xs ++ putS m.op)]; omega
    have t2 := getS_in (zs := zs) (xs := xs ++ putS m.op ++ putT (numsOf m.nm)) (ys := (m.vs.flatMap fun v => putT (numsOf v)) ++ ys) (w64_len (n := m.vs.length) (by omega)) (by rw [hz]; simp only [List.append_assoc]) hq2
    have t3 := gtV_in (vs := m.vs) (zs := zs) (xs := xs ++ putS m.op ++ putT (numsOf m.nm) ++ putS m.vs.length) (ys := ys) (p := p + ((putS m.op).length : Int) + ((putT (numsOf m.nm)).length : Int) + ((putS m.vs.length).length : Int)) hv64 (by rw [hz]; simp only [List.append_assoc]) (by rw [hq2, @List.length_append _ (xs ++ putS m.op ++ putT (numsOf m.nm))]; omega)
    have e : putB m = putS m.op ++ (putT (numsOf m.nm) ++ (putS m.vs.length ++ m.vs.flatMap fun v => putT (numsOf v))) := by rw [putB_eq, if_neg (by omega), if_pos ho, hk]; simp
    rw [if_neg (by omega), if_pos ho, t1]
    simp only
    unfold cntZ
    rw [if_neg (by decide), t2]
    simp only
    rw [if_neg (by omega)]
    simp only
    rw [Int.toNat_natCast, t3, Option.map_some, strOf_nums, e, hleft']
    refine ⟨?_, Nat.le_refl _, by show n + 1 ≤ 64; omega⟩
    congr 1
    refine Prod.ext (Mt.ext ho.symm rfl hvl.symm rfl hk.symm) (Prod.ext ?_ rfl)
    simp only [List.length_append]
    omega
  · by_cases h56 : m.op = 5 ∨ m.op = 6
    · rw [if_neg (by omega), if_neg (by omega), if_pos h56] at hz
      obtain ⟨kk, k1, k2⟩ := key m.ks f (n + 1) _ res zs (xs ++ putS m.op ++ putS m.ks.length) ys (p + ((putS m.op).length : Int) + ((putS m.ks.length).length : Int)) (fun k hk => hk) hks (by omega) (by omega) (by rw [hz]; simp only [List.append_assoc]) (by rw [hq, @List.length_append _ (xs ++ putS m.op)]; omega)
      have t2 := getS_in (zs := zs) (xs := xs ++ putS m.op) (ys := m.ks.flatMap putB ++ ys) (w64_len (n := m.ks.length) (by omega)) (by rw [hz]; simp only [List.append_assoc]) hq
      have e : putB m = putS m.op ++ (putS m.ks.length ++ m.ks.flatMap putB) := by rw [putB_eq, if_neg (by omega), if_neg (by omega), if_pos h56]
      rw [if_neg (by omega), if_neg (by omega), if_pos h56]
      unfold cntZ
      rw [if_neg (by decide), t2]
      simp only
      rw [if_neg (by omega)]
      simp only
      rw [Int.toNat_natCast, hleft', kk, Option.map_some, e]
      refine ⟨?_, by omega, k2⟩
      congr 1
      refine Prod.ext (Mt.ext rfl h1.symm h2.symm h3.symm rfl) (Prod.ext ?_ rfl)
      simp only [List.length_append]
      omega
    · have ho7 : m.op = 7 := by omega
      rw [if_neg (by omega), if_neg (by omega), if_neg h56, List.nil_append] at hz
      obtain ⟨kk, k1, k2⟩ := key m.ks f (n + 1) _ res zs (xs ++ putS m.op) ys (p + ((putS m.op).length : Int)) (fun k hk => hk) hks (by omega) (by omega) (by rw [hz]; simp only [List.append_assoc]) hq
      have e : putB m = putS m.op ++ m.ks.flatMap putB := by rw [putB_eq, if_neg (by omega), if_neg (by omega), if_neg h56, List.nil_append]
      rw [h7 ho7] at kk
      rw [if_neg (by omega), if_neg (by omega), if_neg h56, if_pos ho7, hleft', kk, Option.map_some, e]
      refine ⟨?_, by omega, k2⟩
      congr 1
      refine Prod.ext (Mt.ext ho7.symm h1.symm h2.symm h3.symm rfl) (Prod.ext ?_ rfl)
      simp only [List.length_append]
      omega
/-- What was put, and may be, is got. -/
theorem getZ_back {m : Mt} (h : chkM m = true) (xs ys : List Int) : getZ (xs ++ (putB m ++ ys)) false xs.length = some (m, ((xs.length + (putB m).length : Nat) : Int)) := by
  obtain ⟨res, hres⟩ := Option.isSome_iff_exists.1 (show (lookF m 1 0 0).isSome = true from h)
  obtain ⟨e, -, -⟩ := gt_back m 300 1 0 0 res (xs ++ (putB m ++ ys)) xs ys xs.length hres (by decide) rfl rfl
  unfold getZ
  rw [Nat.sub_zero] at e
  rw [e]
  simp only
  rw [if_pos h]
  simp
end Go.Proofs.Ythebcmkainplnaa

namespace Go.Proofs.Ythebcmkainplnaa
open Go.RowKit
set_option maxRecDepth 20000

theorem putT_le (s : ByteArray) : (putT (numsOf s)).length ≤ 10 + s.size := by
  unfold putT
  have := (putS_len ((numsOf s).length : Int)).2
  rw [List.length_append, numsOf_len]
  rw [numsOf_len] at this
  omega
theorem vals_le : ∀ (vs : List ByteArray), (vs.flatMap fun v => putT (numsOf v)).length ≤ 10 * vs.length + sumB' vs
  | [] => by simp [sumB']
  | v :: t => by
    have h1 := vals_le t
    have h2 := putT_le v
    rw [List.flatMap_cons, List.length_append, List.length_cons]
    unfold sumB' at *
    rw [List.map_cons, List.sum_cons]
    omega
/-- How many bytes, by what the parts have. -/
theorem put_len (m : Mt) : ∀ (d n b : Nat) (r : Nat × Nat), lookF m d n b = some r → (putB m).length + b + 220 * n ≤ r.2 + 220 * r.1 := by
  refine Mt.ind (P := fun m => ∀ (d n b : Nat) (r : Nat × Nat), lookF m d n b = some r → (putB m).length + b + 220 * n ≤ r.2 + 220 * r.1) ?_ m
  intro m ih d n b r h
  obtain ⟨h1, h2, hf, h3, h4⟩ := lookF_some h
  have key : ∀ (ks : List Mt) (n b : Nat), (∀ k ∈ ks, k ∈ m.ks) → lookKs ks (d + 1) n b = some r → (ks.flatMap putB).length + b + 220 * n ≤ r.2 + 220 * r.1 := by
    intro ks
    induction ks with
    | nil =>
      intro n b _ h
      rw [lookKs] at h
      simp only [Option.some.injEq] at h
      subst h
      simp
    | cons x t iht =>
      intro n b hm h
      obtain ⟨r', hx, ht⟩ := lookKs_cons h
      have p1 := ih x (hm x (by simp)) _ _ _ _ hx
      have p2 := iht r'.1 r'.2 (fun k hk => hm k (by simp [hk])) ht
      rw [List.flatMap_cons, List.length_append]
      omega
  have hk := key m.ks _ _ (fun k hk => hk) h4
  have a1 := (putS_len m.op).2
  have a2 := putT_le m.nm
  have a3 := putT_le m.vl
  have a4 := vals_le m.vs
  have a5 := (putS_len (m.vs.length : Int)).2
  have a6 := (putS_len (m.ks.length : Int)).2
  have a7 : m.op = 4 → m.vs.length ≤ 16 := by
    intro ho
    rcases fit_names hf with ⟨ho', -⟩ | ⟨ho', -⟩ | ⟨-, -, -, hv, -⟩ | ⟨ho', -⟩
    · omega
    · omega
    · exact (ris_fit hv).1
    · omega
  unfold ownT at hk
  rw [putB_eq, List.length_append, List.length_append]
  split
  · rw [List.length_append]; omega
  · split
    · rename_i ho
      have := a7 ho
      rw [List.length_append, List.length_append]
      omega
    · split
      · omega
      · rw [List.length_nil]; omega
theorem okM.putlen {m : Mt} (h : okM m) : (putB m).length ≤ 20000 := by
  obtain ⟨d, n, b, r, h⟩ := h
  have h1 := put_len m d n b r h
  obtain ⟨_, h2, _, h3⟩ := look_up m d n b r h
  omega
theorem look_many : ∀ {ks : List Mt} {d n b : Nat} {r : Nat × Nat}, lookKs ks d n b = some r → n + ks.length ≤ r.1
  | [], d, n, b, r, h => by
    rw [lookKs] at h
    simp only [Option.some.injEq] at h
    subst h
    simp
  | k :: t, d, n, b, r, h => by
    obtain ⟨r', hx, ht⟩ := lookKs_cons h
    have h1 := look_many ht
    have h2 := (look_up k d n b r' hx).1
    rw [List.length_cons]
    omega
theorem putT_b8 {s : ByteArray} (h : s.size ≤ 9223372036854775807) : Bytes8 (putT (numsOf s)) := Bytes8.append (putS_byte (w64_len (by rw [numsOf_len]; exact h))) (fun z hz => u8_of_wf (numsOf_wf s z hz))
theorem flat_b8 {α : Type} {f : α → List Int} : ∀ {l : List α}, (∀ x ∈ l, Bytes8 (f x)) → Bytes8 (l.flatMap f)
  | [], _ => fun z hz => by cases hz
  | x :: t, h => by
    rw [List.flatMap_cons]
    exact Bytes8.append (h x (by simp)) (flat_b8 (fun y hy => h y (by simp [hy])))
theorem put_b8 (m : Mt) : okM m → Bytes8 (putB m) := by
  refine Mt.ind (P := fun m => okM m → Bytes8 (putB m)) ?_ m
  intro m ih ok
  have hkl : Bytes8 (m.ks.flatMap putB) := flat_b8 (fun k hk => ih k hk (ok.kid hk))
  have hop := ok.op
  have hb := ok.putlen
  have hkn : m.ks.length ≤ 20000 := by
    obtain ⟨d, n, b, r, h⟩ := ok
    obtain ⟨g1, -, -, -, g4⟩ := lookF_some h
    have := look_many g4
    obtain ⟨_, h2, _, h3⟩ := look_up m d n b r h
    omega
  rw [putB_eq]
  refine Bytes8.append (putS_byte ⟨by omega, by omega⟩) (Bytes8.append ?_ hkl)
  rcases fit_names ok.fit with ⟨ho, -⟩ | ⟨ho, hnm, hv, hk⟩ | ⟨ho, hnm, hvl, hv, hk⟩ | ⟨ho, -⟩
  · rw [if_neg (by omega), if_neg (by omega), if_neg (by omega)]
    exact fun z hz => by cases hz
  · rw [if_pos ho]
    have hvs : m.vl.size ≤ 64 := by
      have hfit := ok.fit
      unfold fitB at hfit
      rw [if_neg (by omega), if_pos ho] at hfit
      simp only [Bool.and_eq_true, decide_eq_true_eq] at hfit
      exact hfit.2
    exact Bytes8.append (putT_b8 (by have := nameB_len' hnm; omega)) (putT_b8 (by omega))
  · obtain ⟨h16, hv64⟩ := ris_fit hv
    rw [if_neg (by omega), if_pos ho]
    exact Bytes8.append (putT_b8 (by have := nameB_len' hnm; omega)) (Bytes8.append (putS_byte (w64_len (by omega))) (flat_b8 (fun v hv' => putT_b8 (by have := hv64 v hv'; omega))))
  · by_cases h56 : m.op = 5 ∨ m.op = 6
    · rw [if_neg (by omega), if_neg (by omega), if_pos h56]
      exact putS_byte (w64_len (by omega))
    · rw [if_neg (by omega), if_neg (by omega), if_neg h56]
      exact fun z hz => by cases hz
end Go.Proofs.Ythebcmkainplnaa

namespace Go.Proofs.Ythebcmkainplnaa
open Go.RowKit
set_option maxRecDepth 20000

/-- The reader of bytes, as a block of memory. -/
def BR (w : World) (g n : Nat) (a : Option Addr) (N c : Nat) (p : Int) : Prop :=
  w.heap[g]? = some (.cells #[.int .i64 (n : Int), .slice a N c, .int .i64 p] 79 (0, 0))
section
variable {w w' : World} {g n N c : Nat} {a : Option Addr} {p : Int}
theorem BR.cell (h : BR w g n a N c p) : w.cell? ⟨g, 0, none⟩ = some (.int .i64 (n : Int)) ∧ w.cell? ⟨g, 1, none⟩ = some (.slice a N c) ∧ w.cell? ⟨g, 2, none⟩ = some (.int .i64 p) ∧ ∀ o, w.frozen? ⟨g, o, none⟩ = false := by
  unfold BR at h
  refine ⟨?_, ?_, ?_, fun o => ?_⟩
  · simp [World.cell?, h]
  · simp [World.cell?, h]
  · simp [World.cell?, h]
  · simp [World.frozen?, h]
theorem BR.lt (h : BR w g n a N c p) : g < w.heap.size := (Array.getElem?_eq_some_iff.1 h).1
theorem BR.block (h : BR w g n a N c p) (e : w'.heap[g]? = w.heap[g]?) : BR w' g n a N c p := e.trans h
theorem BR.drewN (h : BR w g n a N c p) (q : Nat) : BR (w.drewN q) g n a N c p := h
theorem BR.drew (h : BR w g n a N c p) : BR w.drew g n a N c p := h
theorem BR.place (h : BR w g n a N c p) (q : Int) : BR (w.setCell ⟨g, 2, none⟩ (.int .i64 q)) g n a N c q := by
  unfold BR at *
  simp [World.setCell, Array.getElem?_modify, h]
theorem BR.count (h : BR w g n a N c p) (j : Nat) : BR (w.setCell ⟨g, 0, none⟩ (.int .i64 (j : Int))) g j a N c p := by
  unfold BR at *
  simp [World.setCell, Array.getElem?_modify, h]
theorem BR.below (h : BR w g n a N c p) (b : Below w.heap.size w w') : BR w' g n a N c p := h.block (b.block g h.lt)
end
/-- The reader, and its bytes. -/
structure BD (w : World) (g n : Nat) (a : Option Addr) (N c : Nat) (zs : List Int) (p : Int) : Prop where
  br : BR w g n a N c p
  row : ∃ w0 : World, Row .u8 w0 a N zs ∧ w0.heap.size ≤ g ∧ Below w0.heap.size w0 w
  cap : N ≤ c
  wf : (Lit.int .i64 p).wf = true
section
variable {w w' : World} {g n N c : Nat} {a : Option Addr} {zs : List Int} {p : Int}
theorem BD.rows (h : BD w g n a N c zs p) : Row .u8 w a N zs := by
  obtain ⟨w0, h1, -, h3⟩ := h.row
  exact h1.below h3 (Nat.le_refl _)
theorem BD.b8 (h : BD w g n a N c zs p) : Bytes8 zs := h.rows.bytes
theorem BD.to {n' : Nat} {q : Int} (h : BD w g n a N c zs p) (cc : Ch (fun b => b = g) w w') (t : BR w' g n' a N c q) (hq : (Lit.int .i64 q).wf = true) : BD w' g n' a N c zs q := by
  obtain ⟨w0, h1, h2, h3⟩ := h.row
  exact ⟨t, ⟨w0, h1, h2, h3.trans (cc.below h3.size (fun k hk e => by omega))⟩, h.cap, hq⟩
theorem BD.ch {C : Nat → Prop} (h : BD w g n a N c zs p) (cc : Ch C w w') (hC : ∀ k, C k → g < k) : BD w' g n a N c zs p := by
  obtain ⟨w0, h1, h2, h3⟩ := h.row
  exact ⟨h.br.block (cc.block g h.br.lt (fun e => Nat.lt_irrefl _ (hC g e))), ⟨w0, h1, h2, h3.trans (cc.below h3.size (fun k hk e => by have := hC k e; omega))⟩, h.cap, h.wf⟩
theorem BD.bel (h : BD w g n a N c zs p) (b : Below w.heap.size w w') : BD w' g n a N c zs p := h.to ((Ch.of_below b).more (fun _ _ => False.elim)) (h.br.below b) h.wf
end
theorem getS_wf {zs : List Int} {p v q : Int} {w : World} {a : Option Addr} {N : Nat} (hr : Row .u8 w a N zs) (h : getS zs p = some (v, q)) : 0 ≤ q ∧ q ≤ N ∧ (Lit.int .i64 q).wf = true := by
  have h1 := getS_lt hr.bytes h
  have h2 := hr.2.1
  rw [hr.1] at h1
  exact ⟨by omega, by omega, i64_wf (by omega) (by omega)⟩
theorem textS_wf {zs : List Int} {p most q : Int} {v : List Int} {w : World} {a : Option Addr} {N : Nat} (hr : Row .u8 w a N zs) (h : textS zs p most = some (v, q)) : 0 ≤ q ∧ q ≤ N ∧ (Lit.int .i64 q).wf = true := by
  have h1 := textS_lt hr.bytes h
  have h2 := hr.2.1
  rw [hr.1] at h1
  exact ⟨by omega, by omega, i64_wf (by omega) (by omega)⟩

set_option maxHeartbeats 1000000 in
theorem moreB_yes (g n : Nat) (a : Option Addr) (N c : Nat) (zs : List Int) (p : Int) (w : World) (h : BD w g n a N c zs p) (hn : n < 64) :
    Calls Try.prog 71 #[.pointer (some ⟨g, 0, none⟩)] w fun e w' => e = .returned (.tuple #[]) ∧ BD w' g (n + 1) a N c zs p ∧ Ch (fun b => b = g) w w' := by
  obtain ⟨f0, f1, f2, f3⟩ := h.br.cell
  have H := hide (h.br.count (n + 1))
  rw [show ((n + 1 : Nat) : Int) = (n : Int) + 1 from rfl] at H
  obtain ⟨c0, _, _, _⟩ := H.out.cell
  rw [show ((n + 1 : Nat) : Int) = (n : Int) + 1 from rfl] at c0
  have CH := hide (ch_set w g 0 (.int .i64 ((n : Int) + 1)))
  have BDH := hide (h.to CH.out H.out h.wf)
  have NY := hide need_yes
  have z : (n : Int) + 1 ≤ 64 := by omega
  have ff := f3 0
  clear h f3 H
  go_enter Try.func71, Try.ntmps71
  go_upto_region 1 with fail
  generalize w.setCell ⟨g, 0, none⟩ (.int .i64 ((n : Int) + 1)) = W at *
  clear f0 f1 f2 ff
  go_wp2_with fail
  with_reducible refine (NY.out _).mono ?_
  rintro e w' ⟨rfl, hw⟩
  rw [hw]
  go_wp2
  go_end0
  exact ⟨rfl, BDH.out, CH.out⟩
set_option maxHeartbeats 1000000 in
theorem moreB_no (g n : Nat) (a : Option Addr) (N c : Nat) (zs : List Int) (p : Int) (w : World) (h : BD w g n a N c zs p) (hn : 64 ≤ n) (hn2 : n ≤ 64) :
    Calls Try.prog 71 #[.pointer (some ⟨g, 0, none⟩)] w fun e w' => e = refE ∧ Ch (fun b => b = g) w w' := by
  obtain ⟨f0, f1, f2, f3⟩ := h.br.cell
  have H := hide (h.br.count (n + 1))
  rw [show ((n + 1 : Nat) : Int) = (n : Int) + 1 from rfl] at H
  obtain ⟨c0, _, _, _⟩ := H.out.cell
  rw [show ((n + 1 : Nat) : Int) = (n : Int) + 1 from rfl] at c0
  have CH := hide (ch_set w g 0 (.int .i64 ((n : Int) + 1)))
  have NN := hide need_no
  have z : ¬ (n : Int) + 1 ≤ 64 := by omega
  have ff := f3 0
  clear h f3 H
  go_enter Try.func71, Try.ntmps71
  go_upto_region 1 with fail
  generalize w.setCell ⟨g, 0, none⟩ (.int .i64 ((n : Int) + 1)) = W at *
  clear f0 f1 f2 ff
  go_wp2_with fail
  with_reducible refine (NN.out _).mono ?_
  rintro e w' ⟨rfl, hw⟩
  rw [hw]
  go_wp2
  exact ⟨rfl, rfl, CH.out⟩
/-- What is held through the reader's own reads. -/
def HB (w : World) (g n : Nat) (a : Option Addr) (N c : Nat) (zs : List Int) (p : Int) (v : World) : Prop :=
  v.cell? ⟨g, 1, none⟩ = some (.slice a N c) ∧ v.cell? ⟨g, 2, none⟩ = some (.int .i64 p) ∧ Hid (BD v g n a N c zs p ∧ Ch (fun b => b = g) w v)
theorem HB.keep {w v v' : World} {g n N c : Nat} {a : Option Addr} {zs : List Int} {p : Int} (hb : Below v.heap.size v v') (h : HB w g n a N c zs p v) : HB w g n a N c zs p v' := by
  obtain ⟨c1, c2, t, cc⟩ := h
  have t' := t.bel hb
  exact ⟨t'.br.cell.2.1, t'.br.cell.2.2.1, t', ch_too cc hb⟩
/-- What number tells. -/
def NuP (res : Option (Int × Int)) (g n : Nat) (a : Option Addr) (N c : Nat) (zs : List Int) (w : World) (e : Ending) (w' : World) : Prop :=
  Ch (fun b => b = g) w w' ∧ match res with
  | none => e = refE
  | some (v, q) => e = .returned (.int .i64 v) ∧ BD w' g n a N c zs q
/-- What text tells. -/
def TeP (res : Option (List Int × Int)) (g n : Nat) (a : Option Addr) (N c : Nat) (zs : List Int) (w : World) (e : Ending) (w' : World) : Prop :=
  Ch (fun b => b = g) w w' ∧ match res with
  | none => e = refE
  | some (v, q) => e = .returned (.string (strOfNums v)) ∧ BD w' g n a N c zs q

/- . -/
theorem textS_size {zs : List Int} {p most q : Int} {v : List Int} (hz : Bytes8 zs) (h : textS zs p most = some (v, q)) : ((strOfNums v).size : Int) ≤ most := by
  unfold textS at h
  split at h
  · cases h
  · rename_i m fr hs
    simp only [Option.some.injEq, Prod.mk.injEq] at h
    obtain ⟨h1, h2⟩ := h
    obtain ⟨_, v0, vm, _, hle⟩ := sizeS_some hz hs
    rw [strOfNums_size, ← h1, List.length_take]
    omega
theorem keepB {w v v' : World} {g n N c : Nat} {a : Option Addr} {zs : List Int} {p : Int} (hb : Below v.heap.size v v')
    (h : v.cell? ⟨g, 1, none⟩ = some (.slice a N c) ∧ v.cell? ⟨g, 2, none⟩ = some (.int .i64 p) ∧ Hid (BD v g n a N c zs p ∧ Ch (fun b => b = g) w v)) : v'.cell? ⟨g, 1, none⟩ = some (.slice a N c) ∧ v'.cell? ⟨g, 2, none⟩ = some (.int .i64 p) ∧ Hid (BD v' g n a N c zs p ∧ Ch (fun b => b = g) w v') := by
  obtain ⟨c1, c2, t, cc⟩ := h
  have t' := t.bel hb
  exact ⟨t'.br.cell.2.1, t'.br.cell.2.2.1, t', ch_too cc hb⟩

set_option maxHeartbeats 4000000 in
theorem numberB_any (g n : Nat) (a : Option Addr) (N c : Nat) (zs : List Int) (p : Int) (most : Nat) (hm : most ≤ 64) (w : World) (h : BD w g n a N c zs p) :
    Calls Try.prog 72 #[.pointer (some ⟨g, 0, none⟩), .int .u64 (most : Int)] w fun e w' => NuP (cntZ zs false p (most : Int)) g n a N c zs w e w' := by
  obtain ⟨f0, f1, f2, f3⟩ := h.br.cell
  have T : Hid (∀ u, (u.cell? ⟨g, 1, none⟩ = some (.slice a N c) ∧ u.cell? ⟨g, 2, none⟩ = some (.int .i64 p) ∧ Hid (BD u g n a N c zs p ∧ Ch (fun b => b = g) w u)) → Calls Try.prog 94 #[.slice a N c, .int .i64 p] u fun e w' => e = gotE (getS zs p) ∧ Below u.heap.size u w') := fun u hu => (get_any p a N c zs u hu.2.2.out.1.wf hu.2.2.out.1.cap hu.2.2.out.1.rows).mono fun e w' ⟨he, hw⟩ => ⟨he, by rw [hw]; exact Below.refl _ _⟩
  have S0 : Hid (w.drew.cell? ⟨g, 1, none⟩ = some (.slice a N c) ∧ w.drew.cell? ⟨g, 2, none⟩ = some (.int .i64 p) ∧ Hid (BD w.drew g n a N c zs p ∧ Ch (fun b => b = g) w w.drew)) := ⟨f1, f2, h.bel ((Below.refl _ _).drew), ch_drewS (Ch.refl _ _) 1⟩
  have NY := hide need_yes
  have NN := hide need_no
  have HR := hide h.rows
  clear f0 f3
  unfold cntZ
  rw [if_neg (by decide)]
  cases hu : getS zs p with
  | none =>
    rw [hu] at T
    simp only [gotE] at T
    clear h hu
    go_enter Try.func72, Try.ntmps72
    go_upto_region 1 with fail
    clear f1 f2
    go_region_held3 (fun w' => w'.cell? ⟨g, 1, none⟩ = some (.slice a N c) ∧ w'.cell? ⟨g, 2, none⟩ = some (.int .i64 p) ∧ Hid (BD w' g n a N c zs p ∧ Ch (fun b => b = g) w w')) (first | with_reducible exact S0.out | with_reducible exact keepB (by assumption) (by assumption)) (first
      | (go_at_call 94; (with_reducible refine (T.out _ (by assumption)).mono ?_); rintro e v2 ⟨rfl, bv2⟩))
    rename_i hh
    have F := hide hh.2.2.out
    clear hh S0 T
    go_wp2_with fail
    with_reducible refine (NN.out _).mono ?_
    rintro e w' ⟨rfl, hw⟩
    rw [hw]
    go_wp2
    exact ⟨rfl, F.out.2, rfl⟩
  | some q =>
    obtain ⟨v, q⟩ := q
    obtain ⟨hq0, hq1, hqw⟩ := getS_wf h.rows hu
    have HW := hide hqw
    obtain ⟨hv0, -⟩ := getS_lt h.b8 hu
    obtain ⟨v, rfl⟩ := Int.eq_ofNat_of_zero_le hv0
    rw [hu] at T
    simp only [gotE] at T
    simp only
    clear h hu
    by_cases hv : (most : Int) < (v : Int)
    · rw [if_pos hv]
      have hv2 : ¬ v ≤ most := by omega
      go_enter Try.func72, Try.ntmps72
      go_upto_region 1 with fail
      clear f1 f2
      go_region_held3 (fun w' => w'.cell? ⟨g, 1, none⟩ = some (.slice a N c) ∧ w'.cell? ⟨g, 2, none⟩ = some (.int .i64 p) ∧ Hid (BD w' g n a N c zs p ∧ Ch (fun b => b = g) w w')) (first | with_reducible exact S0.out | with_reducible exact keepB (by assumption) (by assumption)) (first
        | (go_at_call 94; (with_reducible refine (T.out _ (by assumption)).mono ?_); rintro e v2 ⟨rfl, bv2⟩))
      rename_i hh
      have F := hide hh.2.2.out
      clear hh S0 T
      go_wp2_with fail
      with_reducible refine (NN.out _).mono ?_
      rintro e w' ⟨rfl, hw⟩
      rw [hw]
      go_wp2
      exact ⟨rfl, F.out.2, rfl⟩
    · rw [if_neg hv]
      have hv2 : v ≤ most := by omega
      have hv3 : v ≤ 64 := by omega
      go_enter Try.func72, Try.ntmps72
      go_upto_region 1 with fail
      clear f1 f2
      go_region_held3 (fun w' => w'.cell? ⟨g, 1, none⟩ = some (.slice a N c) ∧ w'.cell? ⟨g, 2, none⟩ = some (.int .i64 p) ∧ Hid (BD w' g n a N c zs p ∧ Ch (fun b => b = g) w w')) (first | with_reducible exact S0.out | with_reducible exact keepB (by assumption) (by assumption)) (first
        | (go_at_call 94; (with_reducible refine (T.out _ (by assumption)).mono ?_); rintro e v2 ⟨rfl, bv2⟩))
      rename_i hh
      have F := hide hh.2.2.out
      clear hh S0 T
      obtain ⟨c0, c1, c2, c3⟩ := F.out.1.br.cell
      have c32 := c3 2
      have C := hide (F.out.2.trans (ch_set _ g 2 (.int .i64 q)))
      have G := hide (F.out.1.to (ch_set _ g 2 (.int .i64 q)) (F.out.1.br.place q) HW.out)
      clear c3
      go_wp2_with fail
      with_reducible refine (NY.out _).mono ?_
      rintro e w' ⟨rfl, hw⟩
      rw [hw]
      go_wp2
      go_ret
      exact ⟨C.out, rfl, G.out⟩

set_option maxHeartbeats 4000000 in
theorem textB_any (g n : Nat) (a : Option Addr) (N c : Nat) (zs : List Int) (p : Int) (most : Int) (hm : (Lit.int .i64 most).wf = true) (w : World) (h : BD w g n a N c zs p) :
    Calls Try.prog 73 #[.pointer (some ⟨g, 0, none⟩), .int .i64 most] w fun e w' => TeP (textS zs p most) g n a N c zs w e w' := by
  obtain ⟨f0, f1, f2, f3⟩ := h.br.cell
  have T : Hid (∀ u, (u.cell? ⟨g, 1, none⟩ = some (.slice a N c) ∧ u.cell? ⟨g, 2, none⟩ = some (.int .i64 p) ∧ Hid (BD u g n a N c zs p ∧ Ch (fun b => b = g) w u)) → Calls Try.prog 95 #[.slice a N c, .int .i64 p, .int .i64 most] u fun e w' => e = textE (textS zs p most) ∧ Below u.heap.size u w') := fun u hu => (gettext_any p most a N c zs u hu.2.2.out.1.wf hm hu.2.2.out.1.cap hu.2.2.out.1.rows).mono fun e w' ⟨he, hw⟩ => ⟨he, by rw [hw]; exact Below.refl _ _⟩
  have S0 : Hid (w.drew.cell? ⟨g, 1, none⟩ = some (.slice a N c) ∧ w.drew.cell? ⟨g, 2, none⟩ = some (.int .i64 p) ∧ Hid (BD w.drew g n a N c zs p ∧ Ch (fun b => b = g) w w.drew)) := ⟨f1, f2, h.bel ((Below.refl _ _).drew), ch_drewS (Ch.refl _ _) 1⟩
  have NY := hide need_yes
  have NN := hide need_no
  have HR := hide h.rows
  clear f0 f3
  cases hu : textS zs p most with
  | none =>
    rw [hu] at T
    simp only [textE] at T
    clear h hu
    go_enter Try.func73, Try.ntmps73
    go_upto_region 1 with fail
    clear f1 f2
    go_region_held3 (fun w' => w'.cell? ⟨g, 1, none⟩ = some (.slice a N c) ∧ w'.cell? ⟨g, 2, none⟩ = some (.int .i64 p) ∧ Hid (BD w' g n a N c zs p ∧ Ch (fun b => b = g) w w')) (first | with_reducible exact S0.out | with_reducible exact keepB (by assumption) (by assumption)) (first
      | (go_at_call 95; (with_reducible refine (T.out _ (by assumption)).mono ?_); rintro e v2 ⟨rfl, bv2⟩))
    rename_i hh
    have F := hide hh.2.2.out
    clear hh S0 T
    go_wp2_with fail
    with_reducible refine (NN.out _).mono ?_
    rintro e w' ⟨rfl, hw⟩
    rw [hw]
    go_wp2
    exact ⟨rfl, F.out.2, rfl⟩
  | some q =>
    obtain ⟨v, q⟩ := q
    obtain ⟨hq0, hq1, hqw⟩ := textS_wf h.rows hu
    have HW := hide hqw
    rw [hu] at T
    simp only [textE] at T
    clear h hu
    go_enter Try.func73, Try.ntmps73
    go_upto_region 1 with fail
    clear f1 f2
    go_region_held3 (fun w' => w'.cell? ⟨g, 1, none⟩ = some (.slice a N c) ∧ w'.cell? ⟨g, 2, none⟩ = some (.int .i64 p) ∧ Hid (BD w' g n a N c zs p ∧ Ch (fun b => b = g) w w')) (first | with_reducible exact S0.out | with_reducible exact keepB (by assumption) (by assumption)) (first
      | (go_at_call 95; (with_reducible refine (T.out _ (by assumption)).mono ?_); rintro e v2 ⟨rfl, bv2⟩))
    rename_i hh
    have F := hide hh.2.2.out
    clear hh S0 T
    obtain ⟨c0, c1, c2, c3⟩ := F.out.1.br.cell
    have c32 := c3 2
    have C := hide (F.out.2.trans (ch_set _ g 2 (.int .i64 q)))
    have G := hide (F.out.1.to (ch_set _ g 2 (.int .i64 q)) (F.out.1.br.place q) HW.out)
    clear c3
    go_wp2_with fail
    with_reducible refine (NY.out _).mono ?_
    rintro e w' ⟨rfl, hw⟩
    rw [hw]
    go_wp2
    go_ret
    exact ⟨C.out, rfl, G.out⟩

set_option maxHeartbeats 1000000 in
theorem valueB_any (g n : Nat) (a : Option Addr) (N c : Nat) (zs : List Int) (p : Int) (w : World) (h : BD w g n a N c zs p) :
    Calls Try.prog 75 #[.pointer (some ⟨g, 0, none⟩)] w fun e w' => TeP (textS zs p 64) g n a N c zs w e w' := by
  have T := hide (textB_any g n a N c zs p 64 (by decide) w h)
  clear h
  cases hu : textS zs p 64 with
  | none =>
    rw [hu] at T
    clear hu
    go_enter Try.func75, Try.ntmps75
    go_wp2_with fail
    with_reducible refine T.out.mono ?_
    rintro e u ⟨cc, pp⟩
    obtain rfl : e = refE := pp
    have C := hide cc
    clear cc T
    go_wp2
    exact ⟨rfl, C.out, rfl⟩
  | some q =>
    obtain ⟨v, q⟩ := q
    rw [hu] at T
    clear hu
    go_enter Try.func75, Try.ntmps75
    go_wp2_with fail
    with_reducible refine T.out.mono ?_
    rintro e u ⟨cc, pp⟩
    obtain ⟨rfl, b⟩ : e = .returned (.string (strOfNums v)) ∧ BD u g n a N c zs q := pp
    have B := hide b
    have C := hide cc
    clear b cc T
    go_wp2
    go_ret
    exact ⟨C.out, rfl, B.out⟩
end Go.Proofs.Ythebcmkainplnaa

namespace Go.Proofs.Ythebcmkainplnaa
open Go.RowKit
set_option maxRecDepth 20000

theorem ch_pushed {w v v' v4 : World} {g : Nat} {o : Option Nat} (c1 : Ch (fun b => b = g) w v) (b : Below v.heap.size v v') (c4 : Ch (fun b => o = some b) v' v4) (hne : ∀ b, o = some b → w.heap.size ≤ b) : Ch (fun b => b = g) w v4 := by
  have cv := ch_too c1 b
  refine ⟨c4.os.trans cv.os, c4.tape.trans cv.tape, c4.output.trans cv.output, Nat.le_trans cv.size c4.size, fun k hk hn => ?_⟩
  rw [c4.block k (Nat.lt_of_lt_of_le hk cv.size) (fun e => by have := hne k e; omega)]
  exact cv.block k hk hn
/-- Values read so far, and the reader. -/
structure LsB (w wr : World) (g n : Nat) (a : Option Addr) (N c : Nat) (zs : List Int) (p : Int) (sa : Option Addr) (j sc : Nat) (ss : List ByteArray) : Prop where
  bd : BD wr g n a N c zs p
  ch : Ch (fun b => b = g) w wr
  own : wr.ownsRow w.heap.size 9 1 (.slice sa j sc) j (ss.map Value.string)
  fit : ∀ x ∈ ss, x.size ≤ 64
  lt : g < w.heap.size
section
variable {w wr v v4 : World} {g n N c j sc g' c' : Nat} {a sa : Option Addr} {zs : List Int} {p q : Int} {ss : List ByteArray} {x : ByteArray}
theorem LsB.start (h : BD w g n a N c zs p) : LsB w w g n a N c zs p none 0 0 [] := ⟨h, Ch.refl _ _, World.ownsRow_nil _ _ _ _, fun x hx => (by cases hx), h.br.lt⟩
theorem LsB.to (h : LsB w wr g n a N c zs p sa j sc ss) (t : BD v g n a N c zs q) (hc : Ch (fun b => b = g) wr v) : LsB w v g n a N c zs q sa j sc ss := by
  refine ⟨t, h.ch.trans hc, row_ch h.own hc (fun b hb e => ?_), h.fit, h.lt⟩
  have := (row_cells h.own hb).2
  have := h.lt
  omega
theorem LsB.len (h : LsB w wr g n a N c zs p sa j sc ss) : ss.length = j := by have := h.own.1; simpa using this
theorem LsB.txt (h : LsB w wr g n a N c zs p sa j sc ss) (hj : j ≤ 16) : TxR (fun b => w.heap.size ≤ b) wr sa j ss ∧ j ≤ sc ∧ (sa = none → sc = 0) := by
  have hl := h.len
  have h3 : ∀ x ∈ ss, x.size ≤ 9223372036854775807 := fun x hx => by have := h.fit x hx; omega
  rcases id h.own.2 with ⟨h1, h2⟩ | ⟨b, c', cur, h1, h2, _, h4, _⟩
  · simp only [Value.slice.injEq] at h1
    exact ⟨⟨hl, by omega, h3, Or.inl h2⟩, by omega, fun _ => h1.2.2⟩
  · simp only [Value.slice.injEq, true_and] at h1
    obtain ⟨rfl, rfl⟩ := h1
    refine ⟨⟨hl, by omega, h3, Or.inr ⟨b, 0, rfl, h2, fun i hi => ?_⟩⟩, h4, fun e => by cases e⟩
    rw [Nat.zero_add, h.own.cellAt i (by omega), List.getElem?_map, List.getD_eq_getElem?_getD, List.getElem?_eq_getElem (by omega)]
    rfl
/-- One more. -/
theorem LsB.push (h : LsB w v g n a N c zs q sa j sc ss) (hx : x.size ≤ 64)
    (o : v4.ownsRow w.heap.size 9 1 (.slice (some ⟨g', 0, none⟩) (j + 1) c') (j + 1) (ss.map Value.string ++ [Value.string x])) (gr : (v.alloc (.cells #[.string x] 9)).grownBy v4 (Value.slice sa j sc).ownBlock) : LsB w v4 g n a N c zs q (some ⟨g', 0, none⟩) (j + 1) c' (ss ++ [x]) := by
  have hne : ∀ b, (Value.slice sa j sc).ownBlock = some b → w.heap.size ≤ b := fun b hb => (row_cells h.own hb).2
  have c4 : Ch (fun b => (Value.slice sa j sc).ownBlock = some b) (v.alloc (.cells #[.string x] 9)) v4 := Ch.grown gr
  have hlt := h.lt
  have bl : Below v.heap.size v (v.alloc (.cells #[.string x] 9)) := (Below.refl _ _).alloc (Nat.le_refl _) _
  refine ⟨(h.bd.bel bl).ch c4 (fun k e => by have := hne k e; omega), ch_pushed h.ch bl c4 hne, ?_, ?_, hlt⟩
  · rw [List.map_append]
    exact o
  · intro y hy
    rcases List.mem_append.1 hy with hy | hy
    · exact h.fit y hy
    · obtain rfl := List.mem_singleton.1 hy
      exact hx
end
/-- What the values' reading tells. -/
def LvP (res : Option (List ByteArray × Int)) (g n : Nat) (a : Option Addr) (N c : Nat) (zs : List Int) (w : World) (e : Ending) (w' : World) : Prop :=
  Ch (fun b => b = g) w w' ∧ match res with
  | none => e = refE
  | some (vs, q) => ∃ (sa : Option Addr) (j sc : Nat), e = .returned (.slice sa j sc) ∧ TxR (fun b => w.heap.size ≤ b) w' sa j vs ∧ j ≤ sc ∧ (sa = none → sc = 0) ∧ BD w' g n a N c zs q
/-- What matcher tells. -/
def RmB (res : Option (Mt × Int × Nat)) (g n : Nat) (a : Option Addr) (N c : Nat) (zs : List Int) (w : World) (e : Ending) (w' : World) : Prop :=
  Ch (fun b => b = g) w w' ∧ match res with
  | none => e = refE
  | some (m, q, left) => ∃ (h : Hm) (n' : Nat), e = .returned (.agg #[.int .i64 h.op, .string h.nm, .string h.vl, .slice h.va h.vn h.vc, .slice h.ka h.kn h.kc]) ∧ SeeM (fun b => w.heap.size ≤ b) w' m h ∧ n' ≤ 64 ∧ 64 - n' = left ∧ n < n' ∧ BD w' g n' a N c zs q
def MbC (f : Nat) : Prop := ∀ (g n : Nat) (a : Option Addr) (N c : Nat) (zs : List Int) (p : Int) (d : Nat) (w : World), BD w g n a N c zs p → n ≤ 64 → 3 * (64 - n) + 1 ≤ f →
    Calls Try.prog 43 #[.pointer (some ⟨g, 0, none⟩)] w fun e w' => RmB (gtM zs false f (64 - n) d p) g n a N c zs w e w'
/-- Matchers read so far, and the reader. -/
structure KdT (w wr : World) (g n : Nat) (a : Option Addr) (N c : Nat) (zs : List Int) (p : Int) (ka : Option Addr) (j kc : Nat) (ks : List Mt) (hs : List Hm) : Prop where
  bd : BD wr g n a N c zs p
  ch : Ch (fun b => b = g) w wr
  own : OwnM wr w.heap.size ka j kc hs
  see : ∀ (i : Nat) (kd : Mt) (hd : Hm), ks[i]? = some kd → hs[i]? = some hd → SeeM (fun b => w.heap.size ≤ b ∧ (Value.slice ka j kc).ownBlock ≠ some b) wr kd hd
  len : ks.length = j
  lt : g < w.heap.size
section
variable {w wr v v4 : World} {g n n' N c j kc g' c' : Nat} {a ka : Option Addr} {zs : List Int} {p q : Int} {ks : List Mt} {hs : List Hm} {kd : Mt} {h' : Hm}
theorem KdT.start (h : BD w g n a N c zs p) : KdT w w g n a N c zs p none 0 0 [] [] := ⟨h, Ch.refl _ _, ownM_nil _ _, fun i kd hd h1 _ => by simp at h1, rfl, h.br.lt⟩
theorem KdT.ne (h : KdT w wr g n a N c zs p ka j kc ks hs) : ∀ b, (Value.slice ka j kc).ownBlock = some b → w.heap.size ≤ b := fun b hb => (h.own.block b hb).1
theorem KdT.to (h : KdT w wr g n a N c zs p ka j kc ks hs) (t : BD v g n' a N c zs q) (hc : Ch (fun b => b = g) wr v) : KdT w v g n' a N c zs q ka j kc ks hs := by
  have hlt := h.lt
  exact ⟨t, h.ch.trans hc, h.own.ch hc (fun b hb e => by have := h.ne b hb; omega), fun i kd hd h1 h2 => (h.see i kd hd h1 h2).ch hc (fun b hb e => by omega), h.len, hlt⟩
/-- One more. -/
theorem KdT.push (h : KdT w wr g n a N c zs p ka j kc ks hs) (t : BD v g n' a N c zs q) (hc : Ch (fun b => b = g) wr v) (s : SeeM (fun b => wr.heap.size ≤ b) v kd h')
    (o : OwnM v4 w.heap.size (some ⟨g', 0, none⟩) (j + 1) c' (hs ++ [h'])) (c4 : Ch (fun b => (Value.slice ka j kc).ownBlock = some b) (v.alloc (.cells #[.int .i64 h'.op, .string h'.nm, .string h'.vl, .slice h'.va h'.vn h'.vc, .slice h'.ka h'.kn h'.kc] 25)) v4)
    (hg : (Value.slice ka j kc).ownBlock = some g' ∨ (v.alloc (.cells #[.int .i64 h'.op, .string h'.nm, .string h'.vl, .slice h'.va h'.vn h'.vc, .slice h'.ka h'.kn h'.kc] 25)).heap.size ≤ g') : KdT w v4 g n' a N c zs q (some ⟨g', 0, none⟩) (j + 1) c' (ks ++ [kd]) (hs ++ [h']) := by
  have h0 := h.to t hc
  have hne := h0.ne
  have hlt := h.lt
  have hl := h.own.len
  have hkl := h.len
  have hwr := h.ch.size
  have bl : Below v.heap.size v (v.alloc (.cells #[.int .i64 h'.op, .string h'.nm, .string h'.vl, .slice h'.va h'.vn h'.vc, .slice h'.ka h'.kn h'.kc] 25)) := (Below.refl _ _).alloc (Nat.le_refl _) _
  refine ⟨(t.bel bl).ch c4 (fun k e => by have := hne k e; omega), ch_pushed h0.ch bl c4 hne, o, fun i kd' hd h1 h2 => ?_, by simp [hkl], hlt⟩
  by_cases hi : i < j
  · rw [List.getElem?_append_left (by omega)] at h1 h2
    exact see_pushed ((h0.see i kd' hd h1 h2).alloc _) (fun b _ hb => hb) c4 hg
  · have hi2 : i < (hs ++ [h']).length := (List.getElem?_eq_some_iff.1 h2).1
    simp only [List.length_append, List.length_cons, List.length_nil] at hi2
    have : i = j := by omega
    subst this
    rw [List.getElem?_append_right (by omega), hl] at h2
    rw [List.getElem?_append_right (by omega), hkl] at h1
    simp at h1 h2
    subst h1 h2
    refine see_pushed (s.alloc _) (fun b _ hb => ⟨by omega, fun e => ?_⟩) c4 hg
    have := (h.own.block b e).2
    omega
/-- They are a matcher's kids. -/
theorem KdT.fin (h : KdT w wr g n a N c zs p ka j kc ks hs) (hj : j ≤ 64) {op : Int} (ho : (Lit.int .i64 op).wf = true) : SeeM (fun b => w.heap.size ≤ b) wr (.mk op .empty .empty [] ks) ⟨op, ⟨#[]⟩, ⟨#[]⟩, none, 0, 0, ka, j, kc⟩ := by
  have hcap := h.own.capped
  rw [seeM_iff]
  refine ⟨rfl, rfl, rfl, ⟨ho, by show (0 : Nat) ≤ _; decide, by show (0 : Nat) ≤ _; decide, Nat.le_refl _, fun _ => rfl, by show j * 88 ≤ _; omega, hcap.1, fun e => (hcap.2 e).2⟩, ⟨rfl, by show (0 : Nat) * 16 ≤ _; omega, fun x hx => (by cases hx), Or.inl rfl⟩, h.len, ?_⟩
  by_cases h0 : j = 0
  · exact Or.inl h0
  · right
    have hl := h.own.len
    have hkl := h.len
    have hx : hs[0]? = some hs[0] := List.getElem?_eq_getElem (by omega)
    obtain ⟨b, hb, hob, -⟩ := h.own.kid hx
    refine ⟨b, 0, hb, h.ne b hob, fun i kd hi => ?_⟩
    have hlt : i < ks.length := (List.getElem?_eq_some_iff.1 hi).1
    have hy : hs[i]? = some hs[i] := List.getElem?_eq_getElem (by omega)
    obtain ⟨b2, hb2, -, f2⟩ := h.own.kid hy
    rw [hb] at hb2
    simp only [Option.some.injEq, Addr.mk.injEq, and_true] at hb2
    subst hb2
    exact ⟨hs[i], f2, (h.see i kd _ hi hy).mono (fun b _ hb => hb.1)⟩
end
/-- What the kids' reading tells. -/
def LkB (res : Option (List Mt × Int × Nat)) (g n : Nat) (a : Option Addr) (N c : Nat) (zs : List Int) (w : World) (e : Ending) (w' : World) : Prop :=
  Ch (fun b => b = g) w w' ∧ match res with
  | none => e = refE
  | some (ks, q, left) => ∃ (ka : Option Addr) (j kc n' : Nat), e = .returned (.slice ka j kc) ∧ (∀ op : Int, (Lit.int .i64 op).wf = true → SeeM (fun b => w.heap.size ≤ b) w' (.mk op .empty .empty [] ks) ⟨op, ⟨#[]⟩, ⟨#[]⟩, none, 0, 0, ka, j, kc⟩) ∧ n' ≤ 64 ∧ 64 - n' = left ∧ n ≤ n' ∧ BD w' g n' a N c zs q

/- . -/
set_option maxHeartbeats 4000000 in
theorem timesV_any (g n : Nat) (a : Option Addr) (N c : Nat) (zs : List Int) (p : Int) (cnt : Nat) (hcn : cnt ≤ 16) (w : World) (h : BD w g n a N c zs p) :
    Calls Try.prog 74 #[.int .i64 (cnt : Int), .func (.func 75) #[.pointer (some ⟨g, 0, none⟩)] #[]] w fun e w' => LvP (gtV zs cnt p) g n a N c zs w e w' := by
  have VL := hide (fun p u (q : BD u g n a N c zs p) => valueB_any g n a N c zs p u q)
  obtain ⟨ii, hj, hy0, hy1, hy2⟩ := info_parts Try.infoS
  obtain ⟨ans, HA⟩ : ∃ ans, Hid (gtV zs cnt p = ans) := ⟨_, rfl⟩
  rw [HA.out]
  have HB8 := hide h.b8
  have L0 := hide (LsB.start h)
  have HI0 : Hid (ans = (gtV zs (cnt - 0) p).map (fun z => (([] : List ByteArray) ++ z.1, z.2))) := by
    rw [← HA.out]
    show _ = _
    rw [Nat.sub_zero]
    cases gtV zs cnt p <;> rfl
  clear h HA
  go_enter Try.func74, Try.ntmps74
  go_wp2
  go_loopw [5, 7] (fun x i wr => ∃ (k : Nat) (sa : Option Addr) (sc : Nat) (ss : List ByteArray) (p2 : Int), k ≤ cnt ∧ i = .int .i64 k ∧ x = .slice sa k sc ∧ Hid (LsB w wr g n a N c zs p2 sa k sc ss) ∧ Hid (ans = (gtV zs (cnt - k) p2).map (fun z => (ss ++ z.1, z.2)))) (fun _ i _ => cnt - (intOf i).toNat)
  case atStart => exact ⟨0, none, 0, [], p, by omega, rfl, rfl, L0, HI0⟩
  case round =>
    clear L0 HI0
    obtain ⟨k, sa, sc, ss, p2, hk, rfl, rfl, LS, HI⟩ := hrel
    obtain ⟨u, rfl⟩ : ∃ u, u = wr := ⟨wr, rfl⟩
    by_cases hlt : k < cnt
    · obtain ⟨F, hF⟩ : ∃ F, cnt - k = F + 1 := ⟨cnt - k - 1, by omega⟩
      have hF2 : cnt - (k + 1) = F := by omega
      rw [hF, gtV] at HI
      have i1 : (k : Int) < (cnt : Int) := by omega
      have V5 := hide (VL.out p2 u LS.out.bd)
      cases hu : textS zs p2 64 with
      | none =>
        rw [hu] at V5 HI
        have FN : Hid (none = ans) := HI.out.symm
        go_wp2_with fail
        with_reducible refine V5.out.mono ?_
        rintro e u6 ⟨c6, p6⟩
        obtain rfl : e = refE := p6
        have C6 := hide (LS.out.ch.trans c6)
        clear c6 V5 hu
        go_wp2
        exact ⟨rfl, C6.out, by rw [← FN.out]⟩
      | some q =>
        obtain ⟨v, q⟩ := q
        have hvs := textS_size HB8.out hu
        rw [hu] at V5 HI
        simp only at HI
        go_wp2_with fail
        with_reducible refine V5.out.mono ?_
        rintro e u6 ⟨c6, p6⟩
        obtain ⟨rfl, b6⟩ : e = .returned (.string (strOfNums v)) ∧ BD u6 g n a N c zs q := p6
        have HI3 : Hid (ans = (gtV zs (cnt - (k + 1)) q).map (fun z => (ss ++ [strOfNums v] ++ z.1, z.2))) := by
          rw [HI.out, hF2, Option.map_map]
          show _ = _
          congr 1
          funext z
          simp
        have L6 := hide (LS.out.to b6 c6)
        clear c6 b6 V5 hu HI LS
        generalize strOfNums v = x at *
        have hxs : x.size ≤ 64 := by omega
        have O6 : Hid ((u6.alloc (.cells #[.string x] 9)).ownsRow w.heap.size 9 1 (.slice sa k sc) k (ss.map Value.string)) := row_ch L6.out.own ((Ch.refl (fun _ => False) u6).alloc _) (fun _ _ => id)
        have HBS : Hid (w.heap.size ≤ (u6.alloc (.cells #[.string x] 9)).heap.size) := by
          have := L6.out.ch.size
          show _ ≤ _
          simp
          omega
        go_wp2_with (at_builtin; refine wpList_push _ rfl _ _ 22 rfl w.heap.size 9 ii (.string .empty) 16 Try.underlying22 hj hy0 hy1 hy2 rfl sa k sc (ss.map Value.string) rfl O6.out ⟨u6.heap.size, 0, none⟩ 1 (.string x) rfl (one_strcell u6 x _) rfl (by unfold maxLen; omega) (by omega) HBS.out ?_)
        intro g' c' w4 o4 gr4 _
        have L7 := hide (L6.out.push hxs o4 gr4)
        clear o4 gr4 O6 HBS L6
        go_wp2
        go_roundw
        case rel => exact ⟨k + 1, _, c', ss ++ [x], q, by omega, by go_num, rfl, L7, HI3⟩
        case measure => simp [intOf]; omega
    · have i1 : ¬ (k : Int) < (cnt : Int) := by omega
      rw [show cnt - k = 0 by omega, gtV] at HI
      simp only [Option.map_some, List.append_nil] at HI
      go_wp2
      go_ret
      obtain ⟨x1, x2, x3⟩ := LS.out.txt (by omega)
      rw [HI.out]
      exact ⟨LS.out.ch, sa, k, sc, rfl, x1, x2, x3, LS.out.bd⟩

set_option maxHeartbeats 8000000 in
theorem timesM_of (F0 : Nat) (IH : ∀ F, F < F0 → MbC F) (g n : Nat) (a : Option Addr) (N c : Nat) (zs : List Int) (p : Int) (d cnt : Nat) (hcn : cnt ≤ 64) (w : World) (h : BD w g n a N c zs p) (hn : n ≤ 64) (hF0 : 3 * (64 - n) + 2 ≤ F0) :
    Calls Try.prog 76 #[.int .i64 (cnt : Int), .func (.func 43) #[.pointer (some ⟨g, 0, none⟩)] #[]] w fun e w' => LkB (gtK zs false F0 (64 - n) d cnt p) g n a N c zs w e w' := by
  have MT := hide (fun F (hF : F < F0) n p u (q : BD u g n a N c zs p) (hn : n ≤ 64) (h3 : 3 * (64 - n) + 1 ≤ F) => IH F hF g n a N c zs p d u q hn h3)
  obtain ⟨i0, hi, hz0, hz1, hz2⟩ := info_parts Try.infoM
  obtain ⟨ans, HA⟩ : ∃ ans, Hid (gtK zs false F0 (64 - n) d cnt p = ans) := ⟨_, rfl⟩
  rw [HA.out]
  have L0 := hide (KdT.start h)
  have HI0 : Hid (ans = (gtK zs false F0 (64 - n) d (cnt - 0) p).map (fun z => (([] : List Mt) ++ z.1, z.2))) := by
    rw [← HA.out]
    show _ = _
    rw [Nat.sub_zero]
    cases gtK zs false F0 (64 - n) d cnt p <;> rfl
  clear h HA IH
  go_enter Try.func76, Try.ntmps76
  go_wp2
  go_loopw [5, 7] (fun x i wr => ∃ (k n2 : Nat) (ka : Option Addr) (kc : Nat) (ks : List Mt) (hs' : List Hm) (p2 : Int) (F : Nat), k ≤ cnt ∧ i = .int .i64 k ∧ x = .slice ka k kc ∧ n ≤ n2 ∧ n2 ≤ 64 ∧ 3 * (64 - n2) + 2 ≤ F ∧ F ≤ F0 ∧ Hid (KdT w wr g n2 a N c zs p2 ka k kc ks hs') ∧ Hid (ans = (gtK zs false F (64 - n2) d (cnt - k) p2).map (fun z => (ks ++ z.1, z.2)))) (fun _ i _ => cnt - (intOf i).toNat)
  case atStart => exact ⟨0, n, none, 0, [], [], p, F0, by omega, rfl, rfl, Nat.le_refl _, hn, hF0, Nat.le_refl _, L0, HI0⟩
  case round =>
    clear L0 HI0
    obtain ⟨k, n2, ka, kc, ks, hs', p2, F, hk, rfl, rfl, hnn, hn2, hF, hFF, LS, HI⟩ := hrel
    obtain ⟨u, rfl⟩ : ∃ u, u = wr := ⟨wr, rfl⟩
    obtain ⟨F, rfl⟩ : ∃ F', F = F' + 1 := ⟨F - 1, by omega⟩
    by_cases hlt : k < cnt
    · obtain ⟨G, hG⟩ : ∃ G, cnt - k = G + 1 := ⟨cnt - k - 1, by omega⟩
      have hG2 : cnt - (k + 1) = G := by omega
      rw [hG, gtK] at HI
      have i1 : (k : Int) < (cnt : Int) := by omega
      have V5 := hide (MT.out F (by omega) n2 p2 u LS.out.bd hn2 (by omega))
      cases hu : gtM zs false F (64 - n2) d p2 with
      | none =>
        rw [hu] at V5 HI
        have FN : Hid (none = ans) := HI.out.symm
        go_wp2_with fail
        with_reducible refine V5.out.mono ?_
        rintro e u6 ⟨c6, p6⟩
        obtain rfl : e = refE := p6
        have C6 := hide (LS.out.ch.trans c6)
        clear c6 V5 hu
        go_wp2
        exact ⟨rfl, C6.out, by rw [← FN.out]⟩
      | some q =>
        obtain ⟨m2, q, left2⟩ := q
        rw [hu] at V5 HI
        simp only at HI
        go_wp2_with fail
        with_reducible refine V5.out.mono ?_
        rintro e u6 ⟨c6, p6⟩
        obtain ⟨⟨op2, nm2, vl2, va2, vn2, vc2, ka2, kn2, kc2⟩, n6, rfl, s6, hn6, hl6, hnn6, b6⟩ : ∃ (h : Hm) (n' : Nat), e = .returned (.agg #[.int .i64 h.op, .string h.nm, .string h.vl, .slice h.va h.vn h.vc, .slice h.ka h.kn h.kc]) ∧ SeeM (fun b => u.heap.size ≤ b) u6 m2 h ∧ n' ≤ 64 ∧ 64 - n' = left2 ∧ n2 < n' ∧ BD u6 g n' a N c zs q := p6
        dsimp only
        have HI3 : Hid (ans = (gtK zs false F (64 - n6) d (cnt - (k + 1)) q).map (fun z => (ks ++ [m2] ++ z.1, z.2))) := by
          rw [HI.out, hG2, hl6, Option.map_map]
          show _ = _
          congr 1
          funext z
          simp
        have B6 := hide b6
        have C6 := hide c6
        have S6 := hide s6
        have O6 : Hid (OwnM (u6.alloc (.cells #[.int .i64 op2, .string nm2, .string vl2, .slice va2 vn2 vc2, .slice ka2 kn2 kc2] 25)) w.heap.size ka k kc hs') := (LS.out.to b6 c6).own.alloc _
        have HBS : Hid (w.heap.size ≤ (u6.alloc (.cells #[.int .i64 op2, .string nm2, .string vl2, .slice va2 vn2 vc2, .slice ka2 kn2 kc2] 25)).heap.size) := by
          have := (LS.out.ch.trans c6).size
          show _ ≤ _
          simp
          omega
        have HCC : Hid (∀ jj v, (Hm.cells ⟨op2, nm2, vl2, va2, vn2, vc2, ka2, kn2, kc2⟩)[jj]? = some v → (u6.alloc (.cells #[.int .i64 op2, .string nm2, .string vl2, .slice va2 vn2 vc2, .slice ka2 kn2 kc2] 25)).cell? ((⟨u6.heap.size, 0, none⟩ : Addr).add jj) = some v) := by
          intro jj v hv
          rw [Addr.add_lit]
          exact five_new u6 ⟨op2, nm2, vl2, va2, vn2, vc2, ka2, kn2, kc2⟩ _ jj v hv
        clear c6 b6 s6 V5 hu HI hl6
        go_wp2_with (at_builtin; refine wpList_pushM _ rfl _ _ 23 rfl w.heap.size i0 Try.underlying23 hi hz0 hz1 hz2 ka k kc hs' rfl O6.out ⟨u6.heap.size, 0, none⟩ 1 ⟨op2, nm2, vl2, va2, vn2, vc2, ka2, kn2, kc2⟩ rfl HCC.out (by omega) HBS.out ?_)
        intro g' c' w4 o4 ch4 _ wh4
        have L7 := hide (LS.out.push B6.out C6.out S6.out o4 ch4 (wh4.imp id (fun hh => by simp; omega)))
        clear o4 ch4 wh4 O6 HBS HCC LS B6 C6 S6
        go_wp2
        go_roundw
        case rel => exact ⟨k + 1, n6, _, c', ks ++ [m2], _, q, F, by omega, by go_num, rfl, by omega, hn6, by omega, by omega, L7, HI3⟩
        case measure => simp [intOf]; omega
    · have i1 : ¬ (k : Int) < (cnt : Int) := by omega
      rw [show cnt - k = 0 by omega, gtK] at HI
      simp only [Option.map_some, List.append_nil] at HI
      go_wp2
      go_ret
      rw [HI.out]
      exact ⟨LS.out.ch, ka, k, kc, n2, rfl, fun op ho => LS.out.fin (by omega) ho, hn2, rfl, hnn, LS.out.bd⟩
end Go.Proofs.Ythebcmkainplnaa

namespace Go.Proofs.Ythebcmkainplnaa
open Go.RowKit
set_option maxRecDepth 20000

/-- A matcher's own bytes: ahead of its kids'. -/
def headB (m : Mt) : List Int := putS m.op ++ (if m.op = 1 ∨ m.op = 2 ∨ m.op = 3 then putT (numsOf m.nm) ++ putT (numsOf m.vl)
    else if m.op = 4 then putT (numsOf m.nm) ++ (putS m.vs.length ++ m.vs.flatMap fun v => putT (numsOf v))
    else if m.op = 5 ∨ m.op = 6 then putS m.ks.length else [])
theorem putB_head (m : Mt) : putB m = headB m ++ m.ks.flatMap putB := by rw [putB_eq, headB, List.append_assoc]
/-- What there is while it is put: the matcher's box, the bytes so far. -/
structure PuS (w u : World) (h : Hm) (a : Option Addr) (L c : Nat) (zs : List Int) : Prop where
  box : BoxM u w.heap.size h
  own : Mine u (w.heap.size + 1) a L c zs
  low : Below w.heap.size w u
  size : w.heap.size + 1 ≤ u.heap.size
theorem PuS.to {w u v : World} {h : Hm} {a a' : Option Addr} {L c L' c' : Nat} {zs zs' : List Int} (q : PuS w u h a L c zs) (o : Mine v u.heap.size a' L' c' zs') (b : Below u.heap.size u v) : PuS w v h a' L' c' zs' :=
  ⟨q.box.block (b.block _ q.box.lt), o.mono q.size, bel_to q.low (Nat.le_refl _) b, Nat.le_trans q.size b.size⟩
theorem PuS.bel {w u v : World} {h : Hm} {a : Option Addr} {L c : Nat} {zs : List Int} (q : PuS w u h a L c zs) (b : Below u.heap.size u v) : PuS w v h a L c zs :=
  ⟨q.box.block (b.block _ q.box.lt), q.own.below b (Nat.le_refl _), bel_to q.low (Nat.le_refl _) b, Nat.le_trans q.size b.size⟩
theorem PuS.app {w u v : World} {h : Hm} {a a' : Option Addr} {L c L' c' : Nat} {zs zs' : List Int} (q : PuS w u h a L c zs) (o : Mine v (w.heap.size + 1) a' L' c' zs') (b : Below (w.heap.size + 1) u v) : PuS w v h a' L' c' zs' :=
  ⟨q.box.block (b.block _ (by omega)), o, q.low.trans (b.mono (Nat.le_succ _)), Nat.le_trans q.size b.size⟩
theorem PuS.row {w u : World} {h : Hm} {a : Option Addr} {L c : Nat} {zs : List Int} (q : PuS w u h a L c zs) (hL : L ≤ 40000) (hz : Bytes8 zs) : Row .u8 u a L zs ∧ L ≤ c := ⟨q.own.row (by omega) (fits_wf hz), q.own.capped.1⟩
theorem flat_take {α : Type} {f : α → List Int} {l : List α} {k : Nat} {x : α} (h : l[k]? = some x) : (l.take (k + 1)).flatMap f = (l.take k).flatMap f ++ f x := by
  rw [List.take_add_one, h]
  simp
theorem flat_take_le {α : Type} (f : α → List Int) (l : List α) (k : Nat) : ((l.take k).flatMap f).length ≤ (l.flatMap f).length := by
  have e : l.flatMap f = (l.take k).flatMap f ++ (l.drop k).flatMap f := by rw [← List.flatMap_append, List.take_append_drop]
  rw [e, List.length_append]
  omega
theorem b8_pre {xs ys : List Int} (h : Bytes8 (xs ++ ys)) : Bytes8 xs := fun z hz => h z (List.mem_append_left _ hz)
theorem flat_b8_take {α : Type} {f : α → List Int} {l : List α} (k : Nat) (h : Bytes8 (l.flatMap f)) : Bytes8 ((l.take k).flatMap f) := by
  have e : l.flatMap f = (l.take k).flatMap f ++ (l.drop k).flatMap f := by rw [← List.flatMap_append, List.take_append_drop]
  rw [e] at h
  exact b8_pre h
/-- What put tells. -/
def PuC (m : Mt) : Prop := ∀ (S : Nat → Prop) (h : Hm) (w : World), SeeM S w m h → okM m →
    Calls Try.prog 42 #[.agg #[.int .i64 h.op, .string h.nm, .string h.vl, .slice h.va h.vn h.vc, .slice h.ka h.kn h.kc]] w fun e w' => ∃ a' L cap', e = .returned (.slice a' L cap') ∧ (putB m).length = L ∧ Mine w' w.heap.size a' L cap' (putB m) ∧ Below w.heap.size w w'

set_option maxHeartbeats 16000000 in
theorem put_of (m : Mt) (ih : ∀ k ∈ m.ks, PuC k) : PuC m := by
  intro S h w q ok
  obtain ⟨op, nm, vl, va, vn, vc, ka, kn, kc⟩ := h
  obtain ⟨e1, e2, e3, hw, hv, hk, -⟩ := seeM_iff.1 q
  dsimp only at e1 e2 e3 hv hk ⊢
  have w4 : kn * 88 ≤ 140737488355328 := hw.kn
  obtain ⟨o, ho⟩ : ∃ o : Nat, op = (o : Int) := ⟨op.toNat, by have := ok.op; omega⟩
  subst ho
  have ho7 : o ≤ 7 := by have := ok.op; omega
  have IH := hide ih
  have OK := hide ok
  have HQ := hide q
  have HKL := hide hk
  have HV := hide hv
  have HPL : Hid ((headB m).length + (m.ks.flatMap putB).length ≤ 20000) := by
    have := ok.putlen
    rw [putB_head, List.length_append] at this
    exact this
  have HB8 : Hid (Bytes8 (headB m ++ m.ks.flatMap putB)) := by rw [← putB_head]; exact put_b8 m ok
  have hhl : (headB m).length ≤ 20000 := by have := HPL.out; omega
  obtain ⟨i0, hi, hz0, hz1, hz2⟩ := info_parts Try.info5
  have P0 := hide (fun u => put0 (o : Int) (w64_len (by omega)) u)
  obtain ⟨W, hW⟩ : ∃ W, Hid (w.alloc (.cells #[.int .i64 (o : Int), .string nm, .string vl, .slice va vn vc, .slice ka kn kc] 25) = W) := ⟨_, rfl⟩
  have LW : Hid (Below w.heap.size w W) := by rw [← hW.out]; exact (Below.refl _ _).alloc (Nat.le_refl _) _
  have SZ : Hid (W.heap.size = w.heap.size + 1) := by rw [← hW.out]; show _ = _; simp
  have BX0 : Hid (BoxM W w.heap.size ⟨(o : Int), nm, vl, va, vn, vc, ka, kn, kc⟩) := by rw [← hW.out]; exact boxM_new w ⟨(o : Int), nm, vl, va, vn, vc, ka, kn, kc⟩
  have HE := hide (And.intro e1 (And.intro e2 e3))
  have FT := hide (fit_names ok.fit)
  have FB := hide ok.fit
  clear ih ok q hk hv hw e1 e2 e3
  go_enter Try.func42, Try.ntmps42
  go_upto_region 1 with fail
  rw [hW.out]
  clear hW
  obtain ⟨b0, b1, b2, b3, b4, bf⟩ := BX0.out.all
  dsimp only at b0 b1 b2 b3 b4
  go_wp2_with fail
  with_reducible refine (P0.out _).mono ?_
  rintro e v1 ⟨a1, L1, c1, rfl, hL1, o1, bw1⟩
  have S1 : Hid (PuS w v1 ⟨(o : Int), nm, vl, va, vn, vc, ka, kn, kc⟩ a1 L1 c1 (putS (o : Int))) := ⟨BX0.out.block (bw1.block _ BX0.out.lt), by have := o1; rw [SZ.out] at this; exact this, bel_to LW.out (Nat.le_refl _) bw1, by have := bw1.size; rw [SZ.out] at this; exact this⟩
  clear o1 bw1 P0 b0 b1 b2 b3 b4 bf LW BX0 SZ
  obtain ⟨b0, b1, b2, b3, b4, bf⟩ := S1.out.box.all
  dsimp only at b0 b1 b2 b3 b4
  go_upto_block 0 with fail
  clear b0 b1 b2 b3 b4 bf
  go_cut [3] (fun x wx => ∃ (ar : Option Addr) (L cr : Nat), x = .slice ar L cr ∧ L ≤ 20000 ∧ Hid (PuS w wx ⟨(o : Int), nm, vl, va, vn, vc, ka, kn, kc⟩ ar L cr (headB m)))
  case first =>
    obtain ⟨hop, e2, e3⟩ := HE.out
    have hcs : o = 0 ∨ (o = 1 ∨ o = 2 ∨ o = 3) ∨ o = 4 ∨ (o = 5 ∨ o = 6) ∨ o = 7 := by omega
    rcases hcs with h0 | h1 | h4 | h5 | h7
    · have HH : Hid (headB m = putS (o : Int)) := by
        show _ = _
        unfold headB
        rw [← hop, h0, if_neg (by decide), if_neg (by decide), if_neg (by decide), List.append_nil]
      clear hop e2 e3
      subst h0
      go_wp2
      go_meet
      case rel =>
        refine ⟨a1, L1, c1, rfl, by omega, ?_⟩
        rw [HH.out]
        exact S1
    · have HH : Hid (headB m = putS (o : Int) ++ putT (numsOf nm) ++ putT (numsOf vl)) := by
        show _ = _
        unfold headB
        rw [← hop, if_pos (by omega), ← e2, ← e3, List.append_assoc]
      have hsz : nm.size ≤ 32 ∧ vl.size ≤ 64 := by
        have hf := FB.out
        unfold fitB at hf
        rw [if_neg (by omega), if_pos (by omega)] at hf
        simp only [Bool.and_eq_true, decide_eq_true_eq] at hf
        rw [e2, e3]
        exact ⟨nameB_len' hf.1.2, hf.2⟩
      have B2 : Bytes8 (putS (o : Int)) := putS_byte (w64_len (by omega))
      have B3 : Bytes8 (putS (o : Int) ++ putT (numsOf nm)) := B2.append (putT_b8 (by omega))
      have key : (o = 1 ∨ o = 2 ∨ o = 3) := h1
      rcases key with rfl | rfl | rfl
      · clear h1 hop e2 e3
        obtain ⟨b0, b1, b2, b3, b4, bf⟩ := S1.out.box.all
        dsimp only at b0 b1 b2 b3 b4
        obtain ⟨r1, r2⟩ := S1.out.row (by omega) B2
        have PT := hide (puttext_any nm a1 L1 c1 _ v1 (by omega) r2 r1)
        have hlL2 := putT_le nm
        clear r1 bf
        go_wp2_with fail
        with_reducible refine PT.out.mono ?_
        rintro e u2 ⟨a2, c2, rfl, o1, bw1⟩
        have S2 := hide (S1.out.to o1 bw1)
        clear o1 bw1 PT S1 b0 b1 b2 b3 b4 r2
        obtain ⟨L2, hL2⟩ : ∃ L2, L1 + (putT (numsOf nm)).length = L2 := ⟨_, rfl⟩
        rw [hL2] at S2
        rw [hL2]
        obtain ⟨b0, b1, b2, b3, b4, bf⟩ := S2.out.box.all
        dsimp only at b0 b1 b2 b3 b4
        obtain ⟨r1, r2⟩ := S2.out.row (by omega) B3
        have PT := hide (puttext_any vl a2 L2 c2 _ u2 (by omega) r2 r1)
        have hlL3 := putT_le vl
        clear r1 bf
        go_wp2_with fail
        with_reducible refine PT.out.mono ?_
        rintro e u3 ⟨a3, c3, rfl, o1, bw1⟩
        have S3 := hide (S2.out.to o1 bw1)
        clear o1 bw1 PT S2 b0 b1 b2 b3 b4 r2
        go_wp2
        go_meet
        case rel =>
          refine ⟨a3, _, c3, rfl, by omega, ?_⟩
          rw [HH.out]
          exact S3
      · clear h1 hop e2 e3
        obtain ⟨b0, b1, b2, b3, b4, bf⟩ := S1.out.box.all
        dsimp only at b0 b1 b2 b3 b4
        obtain ⟨r1, r2⟩ := S1.out.row (by omega) B2
        have PT := hide (puttext_any nm a1 L1 c1 _ v1 (by omega) r2 r1)
        have hlL2 := putT_le nm
        clear r1 bf
        go_wp2_with fail
        with_reducible refine PT.out.mono ?_
        rintro e u2 ⟨a2, c2, rfl, o1, bw1⟩
        have S2 := hide (S1.out.to o1 bw1)
        clear o1 bw1 PT S1 b0 b1 b2 b3 b4 r2
        obtain ⟨L2, hL2⟩ : ∃ L2, L1 + (putT (numsOf nm)).length = L2 := ⟨_, rfl⟩
        rw [hL2] at S2
        rw [hL2]
        obtain ⟨b0, b1, b2, b3, b4, bf⟩ := S2.out.box.all
        dsimp only at b0 b1 b2 b3 b4
        obtain ⟨r1, r2⟩ := S2.out.row (by omega) B3
        have PT := hide (puttext_any vl a2 L2 c2 _ u2 (by omega) r2 r1)
        have hlL3 := putT_le vl
        clear r1 bf
        go_wp2_with fail
        with_reducible refine PT.out.mono ?_
        rintro e u3 ⟨a3, c3, rfl, o1, bw1⟩
        have S3 := hide (S2.out.to o1 bw1)
        clear o1 bw1 PT S2 b0 b1 b2 b3 b4 r2
        go_wp2
        go_meet
        case rel =>
          refine ⟨a3, _, c3, rfl, by omega, ?_⟩
          rw [HH.out]
          exact S3
      · clear h1 hop e2 e3
        obtain ⟨b0, b1, b2, b3, b4, bf⟩ := S1.out.box.all
        dsimp only at b0 b1 b2 b3 b4
        obtain ⟨r1, r2⟩ := S1.out.row (by omega) B2
        have PT := hide (puttext_any nm a1 L1 c1 _ v1 (by omega) r2 r1)
        have hlL2 := putT_le nm
        clear r1 bf
        go_wp2_with fail
        with_reducible refine PT.out.mono ?_
        rintro e u2 ⟨a2, c2, rfl, o1, bw1⟩
        have S2 := hide (S1.out.to o1 bw1)
        clear o1 bw1 PT S1 b0 b1 b2 b3 b4 r2
        obtain ⟨L2, hL2⟩ : ∃ L2, L1 + (putT (numsOf nm)).length = L2 := ⟨_, rfl⟩
        rw [hL2] at S2
        rw [hL2]
        obtain ⟨b0, b1, b2, b3, b4, bf⟩ := S2.out.box.all
        dsimp only at b0 b1 b2 b3 b4
        obtain ⟨r1, r2⟩ := S2.out.row (by omega) B3
        have PT := hide (puttext_any vl a2 L2 c2 _ u2 (by omega) r2 r1)
        have hlL3 := putT_le vl
        clear r1 bf
        go_wp2_with fail
        with_reducible refine PT.out.mono ?_
        rintro e u3 ⟨a3, c3, rfl, o1, bw1⟩
        have S3 := hide (S2.out.to o1 bw1)
        clear o1 bw1 PT S2 b0 b1 b2 b3 b4 r2
        go_wp2
        go_meet
        case rel =>
          refine ⟨a3, _, c3, rfl, by omega, ?_⟩
          rw [HH.out]
          exact S3
    · have HH : Hid (headB m = putS ((4 : Nat) : Int) ++ putT (numsOf nm) ++ putS (vn : Int) ++ m.vs.flatMap fun v => putT (numsOf v)) := by
        show _ = _
        unfold headB
        rw [← hop, if_neg (by omega), if_pos (by omega), h4, ← e2, HV.out.1]
        simp only [List.append_assoc]
      subst h4
      have hvz : nameB nm = true ∧ vn ≤ 16 ∧ ∀ v ∈ m.vs, v.size ≤ 64 := by
        rcases FT.out with ⟨ho', -⟩ | ⟨ho', -⟩ | ⟨-, hnm, -, hv', -⟩ | ⟨ho', -⟩
        · omega
        · omega
        · obtain ⟨x1, x2⟩ := ris_fit hv'
          exact ⟨by rw [e2]; exact hnm, by rw [← HV.out.1]; exact x1, x2⟩
        · omega
      obtain ⟨hnm, hvn, hv64⟩ := hvz
      have hnl := nameB_len' hnm
      have HV64 := hide hv64
      clear hv64 hop e2 e3
      have B2 : Bytes8 (putS ((4 : Nat) : Int)) := putS_byte (w64_len (by omega))
      have B3 : Bytes8 (putS ((4 : Nat) : Int) ++ putT (numsOf nm)) := B2.append (putT_b8 (by omega))
      have B4 : Hid (Bytes8 (putS ((4 : Nat) : Int) ++ putT (numsOf nm) ++ putS (vn : Int))) := B3.append (putS_byte (w64_len (by omega)))
      obtain ⟨b0, b1, b2, b3, b4, bf⟩ := S1.out.box.all
      dsimp only at b0 b1 b2 b3 b4
      obtain ⟨r1, r2⟩ := S1.out.row (by omega) B2
      have PT := hide (puttext_any nm a1 L1 c1 _ v1 (by omega) r2 r1)
      have hlL2 := putT_le nm
      clear r1 bf
      go_wp2_with fail
      with_reducible refine PT.out.mono ?_
      rintro e u2 ⟨a2, c2, rfl, o1, bw1⟩
      have S2 := hide (S1.out.to o1 bw1)
      clear o1 bw1 PT S1 b0 b1 b2 b3 b4 r2
      obtain ⟨L2, hL2⟩ : ∃ L2, L1 + (putT (numsOf nm)).length = L2 := ⟨_, rfl⟩
      rw [hL2] at S2
      rw [hL2]
      obtain ⟨b0, b1, b2, b3, b4, bf⟩ := S2.out.box.all
      dsimp only at b0 b1 b2 b3 b4
      obtain ⟨r1, r2⟩ := S2.out.row (by omega) B3
      have PT := hide (put_any (vn : Int) a2 L2 c2 _ u2 (w64_len (by omega)) (by omega) r2 r1)
      have hl3 := (putS_len (vn : Int)).2
      clear r1 bf
      go_wp2_with fail
      with_reducible refine PT.out.mono ?_
      rintro e u3 ⟨a3, c3, rfl, o1, bw1⟩
      have S3 := hide (S2.out.to o1 bw1)
      obtain ⟨L3, hL3⟩ : ∃ L3, L2 + (putS (vn : Int)).length = L3 := ⟨_, rfl⟩
      rw [hL3] at S3
      rw [hL3]
      clear o1 bw1 PT S2 b0 b1 b2 b3 b4 r2
      obtain ⟨b0, b1, b2, b3, b4, bf⟩ := S3.out.box.all
      dsimp only at b0 b1 b2 b3 b4
      clear bf
      have HPK : Hid (∀ k, (putS ((4 : Nat) : Int) ++ putT (numsOf nm) ++ putS (vn : Int) ++ (m.vs.take k).flatMap fun v => putT (numsOf v)).length ≤ 20000) := fun k => by
        have e := hhl
        have f := flat_take_le (fun v => putT (numsOf v)) m.vs k
        rw [HH.out, List.length_append] at e
        rw [List.length_append]
        omega
      have hL20 : L3 ≤ 20000 := by
        have e := HPK.out 0
        rw [List.take_zero, List.flatMap_nil, List.append_nil, S3.out.own.len] at e
        exact e
      go_wp2
      clear b0 b1 b2 b3 b4
      go_loopw [3, 41] (fun x i wr => ∃ (k : Nat) (ar : Option Addr) (L cr : Nat), k ≤ vn ∧ i = .int .i64 k ∧ x = .slice ar L cr ∧ L ≤ 20000 ∧ Hid (PuS w wr ⟨((4 : Nat) : Int), nm, vl, va, vn, vc, ka, kn, kc⟩ ar L cr (putS ((4 : Nat) : Int) ++ putT (numsOf nm) ++ putS (vn : Int) ++ (m.vs.take k).flatMap fun v => putT (numsOf v)))) (fun _ i _ => vn - (intOf i).toNat)
      case atStart =>
        refine ⟨0, a3, L3, c3, by omega, rfl, rfl, hL20, ?_⟩
        rw [List.take_zero, List.flatMap_nil, List.append_nil]
        exact S3
      case round =>
        obtain ⟨k, ar, L, cr, hk, rfl, rfl, hL, SS⟩ := hrel
        obtain ⟨u, rfl⟩ : ∃ u, u = wr := ⟨wr, rfl⟩
        clear S3
        by_cases hlt : k < vn
        · obtain ⟨x1, y1, s, e, hs, -, -, hcell⟩ := (HV.out.ch (Ch.of_below SS.out.low) (fun _ _ => id)).at' hlt
          subst e
          have i1 : (0 : Int) ≤ (k : Int) := by omega
          have i2 : (k : Int) < (vn : Int) := by omega
          have hs64 := HV64.out s (List.mem_of_getElem? hs)
          obtain ⟨r1, r2⟩ := SS.out.row (by omega) (B4.out.append (flat_b8 (fun v hv => putT_b8 (by have := HV64.out v (List.mem_of_mem_take hv); omega))))
          have PT := hide (puttext_any s ar L cr _ u (by omega) r2 r1)
          have HFT : Hid (((m.vs.take (k + 1)).flatMap fun v => putT (numsOf v)) = ((m.vs.take k).flatMap fun v => putT (numsOf v)) ++ putT (numsOf s)) := flat_take hs
          clear r1 hs
          go_wp2_with fail
          with_reducible refine PT.out.mono ?_
          rintro e u4 ⟨a4, c4, rfl, o1, bw1⟩
          have S4 := hide (SS.out.to o1 bw1)
          clear o1 bw1 PT SS hcell r2
          rw [List.append_assoc, ← HFT.out] at S4
          have hL4 : L + (putT (numsOf s)).length ≤ 20000 := by rw [← S4.out.own.len]; exact HPK.out (k + 1)
          generalize L + (putT (numsOf s)).length = L4 at *
          go_wp2
          go_roundw
          case rel => exact ⟨k + 1, a4, L4, c4, by omega, by go_num, rfl, hL4, S4⟩
          case measure => simp [intOf]; omega
        · have hkv : m.vs.take k = m.vs := List.take_of_length_le (by rw [HV.out.1]; omega)
          rw [hkv, ← HH.out] at SS
          go_wp2
          go_meet
          case rel => exact ⟨ar, L, cr, rfl, by omega, SS⟩
    · have HH : Hid (headB m = putS (o : Int) ++ putS (kn : Int)) := by
        show _ = _
        unfold headB
        rw [← hop, if_neg (by omega), if_neg (by omega), if_pos (by omega), HKL.out]
      have B2 : Bytes8 (putS (o : Int)) := putS_byte (w64_len (by omega))
      have hl3 := (putS_len (kn : Int)).2
      clear hop e2 e3
      rcases h5 with rfl | rfl
      · obtain ⟨b0, b1, b2, b3, b4, bf⟩ := S1.out.box.all
        dsimp only at b0 b1 b2 b3 b4
        obtain ⟨r1, r2⟩ := S1.out.row (by omega) B2
        have PT := hide (put_any (kn : Int) a1 L1 c1 _ v1 (w64_len (by omega)) (by omega) r2 r1)
        clear r1 bf
        go_wp2_with fail
        with_reducible refine PT.out.mono ?_
        rintro e u3 ⟨a3, c3, rfl, o1, bw1⟩
        have S3 := hide (S1.out.to o1 bw1)
        clear o1 bw1 PT S1 b0 b1 b2 b3 b4 r2
        go_wp2
        go_meet
        case rel =>
          refine ⟨a3, _, c3, rfl, by omega, ?_⟩
          rw [HH.out]
          exact S3
      · obtain ⟨b0, b1, b2, b3, b4, bf⟩ := S1.out.box.all
        dsimp only at b0 b1 b2 b3 b4
        obtain ⟨r1, r2⟩ := S1.out.row (by omega) B2
        have PT := hide (put_any (kn : Int) a1 L1 c1 _ v1 (w64_len (by omega)) (by omega) r2 r1)
        clear r1 bf
        go_wp2_with fail
        with_reducible refine PT.out.mono ?_
        rintro e u3 ⟨a3, c3, rfl, o1, bw1⟩
        have S3 := hide (S1.out.to o1 bw1)
        clear o1 bw1 PT S1 b0 b1 b2 b3 b4 r2
        go_wp2
        go_meet
        case rel =>
          refine ⟨a3, _, c3, rfl, by omega, ?_⟩
          rw [HH.out]
          exact S3
    · have HH : Hid (headB m = putS (o : Int)) := by
        show _ = _
        unfold headB
        rw [← hop, h7, if_neg (by decide), if_neg (by decide), if_neg (by decide), List.append_nil]
      clear hop e2 e3
      subst h7
      go_wp2
      go_meet
      case rel =>
        refine ⟨a1, L1, c1, rfl, by omega, ?_⟩
        rw [HH.out]
        exact S1
  case rest =>
    clear S1
    obtain ⟨ar, L, cr, rfl, hL, SS⟩ := hcut
    have hLh : (headB m).length = L := SS.out.own.len
    obtain ⟨b0, b1, b2, b3, b4, bf⟩ := SS.out.box.all
    dsimp only at b0 b1 b2 b3 b4
    clear bf
    go_wp2
    clear b0 b1 b2 b3 b4
    have HPK : Hid (∀ k, (headB m ++ (m.ks.take k).flatMap putB).length ≤ 20000) := fun k => by
      have e := HPL.out
      have f := flat_take_le putB m.ks k
      rw [List.length_append]
      omega
    go_loopw [3, 61] (fun x i wr => ∃ (k : Nat) (ar : Option Addr) (L cr : Nat), k ≤ kn ∧ i = .int .i64 k ∧ x = .slice ar L cr ∧ L ≤ 20000 ∧ Hid (PuS w wr ⟨(o : Int), nm, vl, va, vn, vc, ka, kn, kc⟩ ar L cr (headB m ++ (m.ks.take k).flatMap putB))) (fun _ i _ => kn - (intOf i).toNat)
    case atStart =>
      refine ⟨0, ar, L, cr, by omega, rfl, rfl, hL, ?_⟩
      rw [List.take_zero, List.flatMap_nil, List.append_nil]
      exact SS
    case round =>
      clear SS hLh hL
      obtain ⟨k, ar, L, cr, hk, rfl, rfl, hL, SS⟩ := hrel
      obtain ⟨u, rfl⟩ : ∃ u, u = wr := ⟨wr, rfl⟩
      by_cases hlt : k < kn
      · obtain ⟨x1, y1, kd, h', e, hkd, -, q5, qk⟩ := (HQ.out.below SS.out.low).kid hlt
        obtain ⟨p0, p1, p2, p3, p4, p5, p6, p7, p8⟩ := h'
        dsimp only at e
        subst e
        obtain ⟨g0, g1, g2, g3, g4⟩ := q5.all
        dsimp only at g0 g1 g2 g3 g4
        have i1 : (0 : Int) ≤ (k : Int) := by omega
        have i2 : (k : Int) < (kn : Int) := by omega
        have hkm := List.mem_of_getElem? hkd
        have HFT : Hid ((m.ks.take (k + 1)).flatMap putB = (m.ks.take k).flatMap putB ++ putB kd) := flat_take hkd
        have A1 : Hid (Below u.heap.size u (u.alloc (.cells #[.int .i64 p0, .string p1, .string p2, .slice p3 p4 p5, .slice p6 p7 p8] 25))) := (Below.refl _ _).alloc (Nat.le_refl _) _
        have TT := hide (IH.out kd hkm S _ _ (qk.alloc (.cells #[.int .i64 p0, .string p1, .string p2, .slice p3 p4 p5, .slice p6 p7 p8] 25)) (OK.out.kid hkm))
        dsimp only at TT
        have KB := hide (put_b8 kd (OK.out.kid hkm))
        have KL := (OK.out.kid hkm).putlen
        clear hkd q5 qk hkm
        go_wp2_with fail
        with_reducible refine TT.out.mono ?_
        rintro e u2 ⟨a2, L2, c2, rfl, hL2, o2, bw2⟩
        rw [hL2] at KL
        clear hL2
        have S2 := hide ((SS.out.bel A1.out).bel bw2)
        have R2 := hide (o2.row (by omega) (fits_wf KB.out))
        have N2 := hide o2.capped.2
        clear o2 bw2 TT SS A1 g0 g1 g2 g3 g4 KB
        go_wp2_with (at_builtin; refine wpList_append_rowC _ rfl _ _ 38 rfl (w.heap.size + 1) 5 i0 Try.underlying38 hi hz0 hz1 hz2 ar L cr _ rfl S2.out.own a2 L2 c2 _ rfl R2.out N2.out (by omega) S2.out.size ?_)
        intro a3 c3 u3 o3 bw3 _
        have S3 : Hid (PuS w u3 ⟨(o : Int), nm, vl, va, vn, vc, some ⟨x1, y1, none⟩, kn, kc⟩ a3 (L + L2) c3 (headB m ++ (m.ks.take (k + 1)).flatMap putB)) := by
          rw [HFT.out, ← List.append_assoc]
          have := S2.out.app o3 bw3
          simp only [List.append_assoc] at this ⊢
          exact this
        clear o3 bw3 S2 R2 N2
        have hL3 : L + L2 ≤ 20000 := by rw [← S3.out.own.len]; exact HPK.out (k + 1)
        generalize L + L2 = L3 at *
        go_wp2
        go_roundw
        case rel => exact ⟨k + 1, a3, L3, c3, by omega, by go_num, rfl, hL3, S3⟩
        case measure => simp [intOf]; omega
      · have hkv : m.ks.take k = m.ks := List.take_of_length_le (by rw [HKL.out]; omega)
        rw [hkv, ← putB_head] at SS
        go_wp2
        go_ret
        exact ⟨ar, L, cr, rfl, SS.out.own.len, SS.out.own.mono (Nat.le_succ _), SS.out.low⟩
theorem putP_any (m : Mt) : PuC m := Mt.ind (P := PuC) put_of m

set_option maxHeartbeats 2000000 in
theorem putM_any (S : Nat → Prop) (m : Mt) (h : Hm) (a : Option Addr) (n cap : Nat) (zs : List Int) (w : World) (q : SeeM S w m h) (hc : chkM m = true) (hn : n ≤ 140737488355328) (hr : Row .u8 w a n zs) :
    Calls Try.prog 22 #[.slice a n cap, .agg #[.int .i64 h.op, .string h.nm, .string h.vl, .slice h.va h.vn h.vc, .slice h.ka h.kn h.kc]] w fun e w' => ∃ a' cap', e = .returned (.slice a' (n + (putB m).length) cap') ∧ Mine w' w.heap.size a' (n + (putB m).length) cap' (zs ++ putB m) ∧ Below w.heap.size w w' := by
  obtain ⟨op, nm, vl, va, vn, vc, ka, kn, kc⟩ := h
  have ok := okM_of hc
  have hpl := ok.putlen
  have HB8 := hide (put_b8 m ok)
  have h0 : 0 < (putB m).length := by
    have := (putS_len m.op).1
    rw [putB_eq, List.length_append]
    omega
  obtain ⟨W, hW⟩ : ∃ W, Hid (w.alloc (.cells #[.int .i64 op, .string nm, .string vl, .slice va vn vc, .slice ka kn kc] 25) = W) := ⟨_, rfl⟩
  have LW : Hid (Below w.heap.size w W) := by rw [← hW.out]; exact (Below.refl _ _).alloc (Nat.le_refl _) _
  have BX0 : Hid (BoxM W w.heap.size ⟨op, nm, vl, va, vn, vc, ka, kn, kc⟩) := by rw [← hW.out]; exact boxM_new w ⟨op, nm, vl, va, vn, vc, ka, kn, kc⟩
  have CK := hide (chkM_any S m _ W (q.below LW.out))
  rw [hc] at CK
  have HR := hide hr
  have HQ := hide q
  have PP := hide (fun u (bw : Below w.heap.size w u) => putP_any m S _ u (HQ.out.below bw) ok)
  dsimp only at CK PP ⊢
  clear q hr hc
  go_enter Try.func22, Try.ntmps22
  go_upto_region 1 with fail
  rw [hW.out]
  clear hW
  obtain ⟨b0, b1, b2, b3, b4, bf⟩ := BX0.out.all
  dsimp only at b0 b1 b2 b3 b4
  clear bf
  go_wp2_with fail
  with_reducible refine CK.out.mono ?_
  rintro e u1 ⟨rfl, bw1⟩
  have BX1 := hide (BX0.out.block (bw1.block _ BX0.out.lt))
  have LW1 := hide (bel_to LW.out (Nat.le_refl _) bw1)
  clear bw1 CK BX0 LW b0 b1 b2 b3 b4
  obtain ⟨b0, b1, b2, b3, b4, bf⟩ := BX1.out.all
  dsimp only at b0 b1 b2 b3 b4
  clear bf
  have P1 := hide (PP.out u1 LW1.out)
  go_wp2_with fail
  with_reducible refine P1.out.mono ?_
  rintro e u2 ⟨a2, L2, c2, rfl, hL2, o2, bw2⟩
  have LW2 := hide (bel_to LW1.out (Nat.le_refl _) bw2)
  have CT := hide (concat_two a n cap zs a2 L2 c2 (putB m) u2 (HR.out.below LW2.out (Nat.le_refl _)) (o2.row (by omega) (fits_wf HB8.out)) (by omega) (by omega))
  clear o2 bw2 P1 BX1 LW1 b0 b1 b2 b3 b4 PP
  go_wp2_with fail
  with_reducible refine CT.out.mono ?_
  rintro e u3 ⟨a3, c3, rfl, o3, bw3⟩
  have LW3 := hide (bel_to LW2.out (Nat.le_refl _) bw3)
  have O3 := hide (o3.mono LW2.out.size)
  clear o3 bw3 CT
  go_wp2
  go_ret
  rw [hL2]
  exact ⟨a3, c3, rfl, O3.out, LW3.out⟩
end Go.Proofs.Ythebcmkainplnaa

namespace Go.Proofs.Ythebcmkainplnaa
open Go.RowKit
set_option maxRecDepth 20000

theorem BoxM.name {w : World} {g : Nat} {h : Hm} (q : BoxM w g h) (x : ByteArray) : BoxM (w.setCell ⟨g, 1, none⟩ (.string x)) g ⟨h.op, x, h.vl, h.va, h.vn, h.vc, h.ka, h.kn, h.kc⟩ := by
  unfold BoxM at *
  simp [World.setCell, Array.getElem?_modify, q]
theorem BoxM.value {w : World} {g : Nat} {h : Hm} (q : BoxM w g h) (x : ByteArray) : BoxM (w.setCell ⟨g, 2, none⟩ (.string x)) g ⟨h.op, h.nm, x, h.va, h.vn, h.vc, h.ka, h.kn, h.kc⟩ := by
  unfold BoxM at *
  simp [World.setCell, Array.getElem?_modify, q]
theorem numberB (g n : Nat) (a : Option Addr) (N c : Nat) (zs : List Int) (p : Int) (most : Int) (h0 : 0 ≤ most) (hm : most ≤ 64) (w : World) (h : BD w g n a N c zs p) :
    Calls Try.prog 72 #[.pointer (some ⟨g, 0, none⟩), .int .u64 most] w fun e w' => NuP (cntZ zs false p most) g n a N c zs w e w' := by
  obtain ⟨k, rfl⟩ := Int.eq_ofNat_of_zero_le h0
  exact numberB_any g n a N c zs p k (by omega) w h
/-- While a matcher is read: the reader, the result's box, the matcher's box at gm. -/
structure MbS (w u : World) (g n : Nat) (a : Option Addr) (N c : Nat) (zs : List Int) (p : Int) (gm : Nat) (h : Hm) : Prop where
  bd : BD u g n a N c zs p
  ch : Ch (fun b => b = g) w u
  box : BoxM u w.heap.size hm0
  mb : BoxM u gm h
  lt : g < w.heap.size
  gt : w.heap.size < gm
section
variable {w u v : World} {g n n' N c gm : Nat} {a : Option Addr} {zs : List Int} {p q : Int} {h : Hm}
theorem MbS.to (D : MbS w u g n a N c zs p gm h) (t : BD v g n' a N c zs q) (cc : Ch (fun b => b = g) u v) : MbS w v g n' a N c zs q gm h := by
  have := D.lt
  have := D.gt
  exact ⟨t, D.ch.trans cc, D.box.block (cc.block _ D.box.lt (by omega)), D.mb.block (cc.block _ D.mb.lt (by omega)), D.lt, D.gt⟩
theorem MbS.turn {h' : Hm} (D : MbS w u g n a N c zs p gm h) {o : Nat} {x : Value} (b : BoxM (u.setCell ⟨gm, o, none⟩ x) gm h') : MbS w (u.setCell ⟨gm, o, none⟩ x) g n a N c zs p gm h' := by
  have h1 := D.lt
  have h2 := D.gt
  have cs := ch_set u gm o x
  refine ⟨D.bd.ch cs (fun k e => by omega), ?_, D.box.block (cs.block _ D.box.lt (by omega)), b, h1, h2⟩
  refine ⟨cs.os.trans D.ch.os, cs.tape.trans D.ch.tape, cs.output.trans D.ch.output, Nat.le_trans D.ch.size cs.size, fun k hk hn => ?_⟩
  rw [cs.block k (Nat.lt_of_lt_of_le hk D.ch.size) (by omega)]
  exact D.ch.block k hk hn
theorem MbS.fin {m : Mt} {left n0 : Nat} (D : MbS w u g n a N c zs p gm h) (se : SeeM (fun b => w.heap.size + 1 ≤ b) u m h) (hn : n ≤ 64) (hl : 64 - n = left) (hnn : n0 < n) : RmB (some (m, p, left)) g n0 a N c zs w (.returned (.agg #[.int .i64 h.op, .string h.nm, .string h.vl, .slice h.va h.vn h.vc, .slice h.ka h.kn h.kc])) (put5 u w.heap.size h) := by
  have h1 := D.lt
  exact ⟨ch_box D.ch (Nat.le_refl _), h, n, rfl, see_box se rfl, hn, hl, hnn, D.bd.ch (ch_put5 u w.heap.size h) (fun k e => by omega)⟩
/-- What was read lies above the matcher's box. -/
theorem MbS.above (D : MbS w u g n a N c zs p gm h) {m : Mt} {h2 : Hm} {o : Nat} {x : Value} (se : SeeM (fun b => u.heap.size ≤ b) v m h2) : SeeM (fun b => w.heap.size + 1 ≤ b) (v.setCell ⟨gm, o, none⟩ x) m h2 := by
  have h1 := D.mb.lt
  have h2 := D.gt
  exact (se.ch (ch_set v gm o x) (fun b hb e => by omega)).mono (fun b _ hb => by omega)
theorem MbS.start {v' : World} (D : BD u g n a N c zs p) (cc : Ch (fun b => b = g) w u) (b : BoxM u w.heap.size hm0) (hlt : g < w.heap.size) {op : Int} (hv : u.alloc (.cells #[.int .i64 op, .string ⟨#[]⟩, .string ⟨#[]⟩, .slice none 0 0, .slice none 0 0] 25) = v') : MbS w v' g n a N c zs p u.heap.size ⟨op, ⟨#[]⟩, ⟨#[]⟩, none, 0, 0, none, 0, 0⟩ := by
  have bl : Below u.heap.size u v' := by rw [← hv]; exact (Below.refl _ _).alloc (Nat.le_refl _) _
  refine ⟨D.bel bl, ch_too cc bl, b.block (bl.block _ b.lt), ?_, hlt, b.lt⟩
  rw [← hv]
  exact boxM_new u ⟨op, ⟨#[]⟩, ⟨#[]⟩, none, 0, 0, none, 0, 0⟩
end
theorem str_size {zs : List Int} {p most q : Int} {v : List Int} (hz : Bytes8 zs) (h : textS zs p most = some (v, q)) (hm : most ≤ 64) : (strOfNums v).size ≤ 9223372036854775807 := by
  have := textS_size hz h
  omega

set_option maxHeartbeats 16000000 in
theorem matcherB_of (f : Nat) (IH : ∀ F, F < f → MbC F) : MbC f := by
  intro g n a N c zs p d w h hn hf
  have hg := h.br.lt
  obtain ⟨f, rfl⟩ : ∃ f', f = f' + 1 := ⟨f - 1, by omega⟩
  have hmf : ∀ (fn : Fn) (first cap : Array Value) (w : World), (Instr.makeFunc fn first cap).run Try.prog w = .ok (.func fn first cap) w := fun _ _ _ _ => rfl
  have HB8 := hide h.b8
  have TM := hide (fun n p d cnt u (hc : cnt ≤ 64) (q : BD u g n a N c zs p) (hn : n ≤ 64) (h3 : 3 * (64 - n) + 2 ≤ f) => timesM_of f (fun F hF => IH F (by omega)) g n a N c zs p d cnt hc u q hn h3)
  obtain ⟨W, hW⟩ : ∃ W, Hid (w.alloc (.cells #[.int .i64 0, .string ⟨#[]⟩, .string ⟨#[]⟩, .slice none 0 0, .slice none 0 0] 25) = W) := ⟨_, rfl⟩
  have LW : Hid (Below w.heap.size w W) := by rw [← hW.out]; exact (Below.refl _ _).alloc (Nat.le_refl _) _
  have B0 : Hid (BoxM W w.heap.size hm0) := by rw [← hW.out]; exact BoxM.zero w
  have HG : Hid (w.heap.size ≠ g) := by show _ ≠ _; omega
  have TW := hide (h.bel LW.out)
  have CW : Hid (Ch (fun b => b = g) w W) := (Ch.of_below LW.out).more (fun _ _ => False.elim)
  obtain ⟨ans, HA⟩ : ∃ ans, Hid (gtM zs false (f + 1) (64 - n) d p = ans) := ⟨_, rfl⟩
  rw [HA.out]
  clear h IH
  by_cases h64 : 64 ≤ n
  · have HF : Hid (none = ans) := by
      rw [← HA.out, show 64 - n = 0 by omega, gtM]
      exact rfl
    have MN := hide (moreB_no g n a N c zs p W TW.out h64 hn)
    clear TW hf HA
    go_enter Try.func43, Try.ntmps43
    go_upto_region 1 with fail
    rw [hW.out]
    clear hW
    go_wp2_with fail
    with_reducible refine MN.out.mono ?_
    rintro e u1 ⟨rfl, c1⟩
    have C1 := hide (CW.out.trans c1)
    clear c1
    go_wp2
    exact ⟨rfl, C1.out, by rw [← HF.out]⟩
  · have MY := hide (moreB_yes g n a N c zs p W TW.out (by omega))
    obtain ⟨left, hleft⟩ : ∃ left, 64 - n = left + 1 := ⟨64 - n - 1, by omega⟩
    have hl2 : 64 - (n + 1) = left := by omega
    rw [hleft, gtM, if_neg (by simp)] at HA
    clear TW
    go_enter Try.func43, Try.ntmps43
    go_upto_region 1 with fail
    rw [hW.out]
    clear hW
    go_wp2_with fail
    with_reducible refine MY.out.mono ?_
    rintro e u1 ⟨rfl, t1, c1⟩
    have C1 := hide (CW.out.trans c1)
    have B1 := hide (B0.out.block (c1.block _ B0.out.lt HG.out))
    have T1 := hide t1
    clear c1 t1 MY LW B0 CW
    have K1 := hide (numberB g (n + 1) a N c zs p 7 (by decide) (by decide) u1 T1.out)
    cases hu : cntZ zs false p 7 with
    | none =>
      have HF : Hid (none = ans) := by
        rw [← HA.out]
        unfold cntZ at hu
        rw [if_neg (by decide)] at hu
        show none = _
        cases hg : getS zs p with
        | none => rfl
        | some r =>
          rw [hg] at hu
          simp only at hu ⊢
          by_cases h7 : 7 < r.1
          · rw [if_pos h7]
          · rw [if_neg h7] at hu
            cases hu
      rw [hu] at K1
      clear hu HA
      go_wp2_with fail
      with_reducible refine K1.out.mono ?_
      rintro e u9 ⟨c9, p9⟩
      obtain rfl : e = refE := p9
      have C9 := hide (C1.out.trans c9)
      clear c9 K1
      go_wp2
      exact ⟨rfl, C9.out, by rw [← HF.out]⟩
    | some r =>
      obtain ⟨v, p1⟩ := r
      obtain ⟨hg1, hv0, hv7, -⟩ := cntZ_some HB8.out hu
      dsimp only at hg1 hv0 hv7
      rw [hg1] at HA
      simp only at HA
      rw [if_neg (by omega)] at HA
      rw [hu] at K1
      clear hu hg1
      go_wp2_with fail
      with_reducible refine K1.out.mono ?_
      rintro e u2 ⟨c2, p2⟩
      obtain ⟨rfl, b2⟩ : e = .returned (.int .i64 v) ∧ BD u2 g (n + 1) a N c zs p1 := p2
      obtain ⟨u3, hu3⟩ : ∃ u3, Hid (u2.alloc (.cells #[.int .i64 v, .string ⟨#[]⟩, .string ⟨#[]⟩, .slice none 0 0, .slice none 0 0] 25) = u3) := ⟨_, rfl⟩
      have D0 := hide (MbS.start b2 (C1.out.trans c2) (B1.out.block (c2.block _ B1.out.lt HG.out)) hg hu3.out)
      clear c2 b2 K1 C1 B1 T1
      go_upto_region 3 with fail
      rw [hu3.out]
      clear hu3
      generalize u2.heap.size = gm at *
      obtain ⟨m0, m1, m2, m3, m4, _⟩ := D0.out.mb.all
      dsimp only at m0 m1 m2 m3 m4
      go_upto_region 4 with fail
      clear m0 m1 m2 m3 m4
      have hcs : v = 0 ∨ v = 1 ∨ v = 2 ∨ v = 3 ∨ v = 4 ∨ v = 5 ∨ v = 6 ∨ v = 7 := by omega
      clear hv0 hv7
      rcases hcs with rfl | rfl | rfl | rfl | rfl | rfl | rfl | rfl
      · skip
        rw [if_neg (by decide), if_neg (by decide), if_neg (by decide), if_neg (by decide)] at HA
        have HF : Hid (some (.mk 0 .empty .empty [] [], p1, left) = ans) := HA.out
        have DN : Hid (RmB ans g n a N c zs w (.returned (.agg #[.int .i64 0, .string ⟨#[]⟩, .string ⟨#[]⟩, .slice none 0 0, .slice none 0 0])) (put5 u3 w.heap.size ⟨0, ⟨#[]⟩, ⟨#[]⟩, none, 0, 0, none, 0, 0⟩)) := by
          rw [← HF.out]
          exact D0.out.fin (h := ⟨0, ⟨#[]⟩, ⟨#[]⟩, none, 0, 0, none, 0, 0⟩) (leaf_see _ _ (by decide) (by decide) (by decide)) (by omega) (by omega) (by omega)
        obtain ⟨d0, d1, d2, d3, d4, df⟩ := D0.out.box.all
        obtain ⟨m0, m1, m2, m3, m4, _⟩ := D0.out.mb.all
        have f10 := df 0
        have f11 := df 1
        have f12 := df 2
        have f13 := df 3
        have f14 := df 4
        dsimp only [hm0] at d0 d1 d2 d3 d4 m0 m1 m2 m3 m4
        have FP := hide (D0.out.box.put ⟨0, ⟨#[]⟩, ⟨#[]⟩, none, 0, 0, none, 0, 0⟩)
        clear df
        go_wp2
        obtain ⟨x0, x1, x2, x3, x4, _⟩ := FP.out.all
        unfold put5 at x0 x1 x2 x3 x4
        dsimp only at x0 x1 x2 x3 x4
        exact bodyPost_ret (v := .agg #[.int .i64 0, .string ⟨#[]⟩, .string ⟨#[]⟩, .slice none 0 0, .slice none 0 0]) (by simp [results, Try.results43, go_sem, x0, x1, x2, x3, x4]) rfl DN.out
      · skip
        rw [if_pos (by decide)] at HA
        have Kv1 := hide (textB_any g (n + 1) a N c zs p1 32 (by decide) u3 D0.out.bd)
        cases htv1 : textS zs p1 32 with
        | none =>
          rw [htv1] at Kv1 HA
          have HF : Hid (none = ans) := HA.out
          clear htv1 HA
          go_wp2_with fail
          with_reducible refine Kv1.out.mono ?_
          rintro e u9 ⟨c9, p9⟩
          obtain rfl : e = refE := p9
          have C9 := hide (D0.out.ch.trans c9)
          clear c9 Kv1
          go_wp2
          exact ⟨rfl, C9.out, by rw [← HF.out]⟩
        | some r =>
          obtain ⟨s1z, p2⟩ := r
          have hsv1 := str_size HB8.out htv1 (by decide)
          rw [htv1] at Kv1 HA
          simp only at HA
          clear htv1
          go_wp2_with fail
          with_reducible refine Kv1.out.mono ?_
          rintro e v1a ⟨cc, pp⟩
          obtain ⟨rfl, bb⟩ : e = .returned (.string (strOfNums s1z)) ∧ BD v1a g (n + 1) a N c zs p2 := pp
          clear Kv1
          generalize strOfNums s1z = s1 at *
          have D1a := hide (D0.out.to bb cc)
          obtain ⟨m0, m1, m2, m3, m4, mf⟩ := D1a.out.mb.all
          have mf1 := mf 1
          dsimp only at m0 m1 m2 m3 m4
          obtain ⟨v1, huv1⟩ : ∃ v, Hid (v1a.setCell ⟨gm, 1, none⟩ (.string s1) = v) := ⟨_, rfl⟩
          have D1 : Hid (MbS w v1 g (n + 1) a N c zs p2 gm ⟨1, s1, ⟨#[]⟩, none, 0, 0, none, 0, 0⟩) := by
            rw [← huv1.out]
            exact D1a.out.turn (D1a.out.mb.name s1)
          clear cc bb D0 mf
          go_upto_region 8 with fail
          rw [huv1.out]
          clear huv1 D1a m0 m1 m2 m3 m4 mf1
          have Kv2 := hide (textB_any g (n + 1) a N c zs p2 64 (by decide) v1 D1.out.bd)
          cases htv2 : textS zs p2 64 with
          | none =>
            rw [htv2] at Kv2 HA
            have HF : Hid (none = ans) := HA.out
            clear htv2 HA
            go_wp2_with fail
            with_reducible refine Kv2.out.mono ?_
            rintro e u9 ⟨c9, p9⟩
            obtain rfl : e = refE := p9
            have C9 := hide (D1.out.ch.trans c9)
            clear c9 Kv2
            go_wp2
            exact ⟨rfl, C9.out, by rw [← HF.out]⟩
          | some r =>
            obtain ⟨s2z, p3⟩ := r
            have hsv2 := str_size HB8.out htv2 (by decide)
            rw [htv2] at Kv2 HA
            simp only at HA
            clear htv2
            go_wp2_with fail
            with_reducible refine Kv2.out.mono ?_
            rintro e v2a ⟨cc, pp⟩
            obtain ⟨rfl, bb⟩ : e = .returned (.string (strOfNums s2z)) ∧ BD v2a g (n + 1) a N c zs p3 := pp
            clear Kv2
            generalize strOfNums s2z = s2 at *
            have D2a := hide (D1.out.to bb cc)
            obtain ⟨m0, m1, m2, m3, m4, mf⟩ := D2a.out.mb.all
            have mf2 := mf 2
            dsimp only at m0 m1 m2 m3 m4
            obtain ⟨v2, huv2⟩ : ∃ v, Hid (v2a.setCell ⟨gm, 2, none⟩ (.string s2) = v) := ⟨_, rfl⟩
            have D2 : Hid (MbS w v2 g (n + 1) a N c zs p3 gm ⟨1, s1, s2, none, 0, 0, none, 0, 0⟩) := by
              rw [← huv2.out]
              exact D2a.out.turn (D2a.out.mb.value s2)
            clear cc bb D1 mf
            go_upto_region 17 with fail
            rw [huv2.out]
            clear huv2 D2a m0 m1 m2 m3 m4 mf2
            have HF : Hid (some (.mk 1 s1 s2 [] [], p3, left) = ans) := HA.out
            have DN : Hid (RmB ans g n a N c zs w (.returned (.agg #[.int .i64 1, .string s1, .string s2, .slice none 0 0, .slice none 0 0])) (put5 v2 w.heap.size ⟨1, s1, s2, none, 0, 0, none, 0, 0⟩)) := by
              rw [← HF.out]
              exact D2.out.fin (h := ⟨1, s1, s2, none, 0, 0, none, 0, 0⟩) (leaf_see _ _ (by decide) hsv1 hsv2) (by omega) (by omega) (by omega)
            obtain ⟨d0, d1, d2, d3, d4, df⟩ := D2.out.box.all
            obtain ⟨m0, m1, m2, m3, m4, _⟩ := D2.out.mb.all
            have f10 := df 0
            have f11 := df 1
            have f12 := df 2
            have f13 := df 3
            have f14 := df 4
            dsimp only [hm0] at d0 d1 d2 d3 d4 m0 m1 m2 m3 m4
            have FP := hide (D2.out.box.put ⟨1, s1, s2, none, 0, 0, none, 0, 0⟩)
            clear df
            go_wp2
            obtain ⟨x0, x1, x2, x3, x4, _⟩ := FP.out.all
            unfold put5 at x0 x1 x2 x3 x4
            dsimp only at x0 x1 x2 x3 x4
            exact bodyPost_ret (v := .agg #[.int .i64 1, .string s1, .string s2, .slice none 0 0, .slice none 0 0]) (by simp [results, Try.results43, go_sem, x0, x1, x2, x3, x4]) rfl DN.out
      · skip
        rw [if_pos (by decide)] at HA
        have Kv1 := hide (textB_any g (n + 1) a N c zs p1 32 (by decide) u3 D0.out.bd)
        cases htv1 : textS zs p1 32 with
        | none =>
          rw [htv1] at Kv1 HA
          have HF : Hid (none = ans) := HA.out
          clear htv1 HA
          go_wp2_with fail
          with_reducible refine Kv1.out.mono ?_
          rintro e u9 ⟨c9, p9⟩
          obtain rfl : e = refE := p9
          have C9 := hide (D0.out.ch.trans c9)
          clear c9 Kv1
          go_wp2
          exact ⟨rfl, C9.out, by rw [← HF.out]⟩
        | some r =>
          obtain ⟨s1z, p2⟩ := r
          have hsv1 := str_size HB8.out htv1 (by decide)
          rw [htv1] at Kv1 HA
          simp only at HA
          clear htv1
          go_wp2_with fail
          with_reducible refine Kv1.out.mono ?_
          rintro e v1a ⟨cc, pp⟩
          obtain ⟨rfl, bb⟩ : e = .returned (.string (strOfNums s1z)) ∧ BD v1a g (n + 1) a N c zs p2 := pp
          clear Kv1
          generalize strOfNums s1z = s1 at *
          have D1a := hide (D0.out.to bb cc)
          obtain ⟨m0, m1, m2, m3, m4, mf⟩ := D1a.out.mb.all
          have mf1 := mf 1
          dsimp only at m0 m1 m2 m3 m4
          obtain ⟨v1, huv1⟩ : ∃ v, Hid (v1a.setCell ⟨gm, 1, none⟩ (.string s1) = v) := ⟨_, rfl⟩
          have D1 : Hid (MbS w v1 g (n + 1) a N c zs p2 gm ⟨2, s1, ⟨#[]⟩, none, 0, 0, none, 0, 0⟩) := by
            rw [← huv1.out]
            exact D1a.out.turn (D1a.out.mb.name s1)
          clear cc bb D0 mf
          go_upto_region 8 with fail
          rw [huv1.out]
          clear huv1 D1a m0 m1 m2 m3 m4 mf1
          have Kv2 := hide (textB_any g (n + 1) a N c zs p2 64 (by decide) v1 D1.out.bd)
          cases htv2 : textS zs p2 64 with
          | none =>
            rw [htv2] at Kv2 HA
            have HF : Hid (none = ans) := HA.out
            clear htv2 HA
            go_wp2_with fail
            with_reducible refine Kv2.out.mono ?_
            rintro e u9 ⟨c9, p9⟩
            obtain rfl : e = refE := p9
            have C9 := hide (D1.out.ch.trans c9)
            clear c9 Kv2
            go_wp2
            exact ⟨rfl, C9.out, by rw [← HF.out]⟩
          | some r =>
            obtain ⟨s2z, p3⟩ := r
            have hsv2 := str_size HB8.out htv2 (by decide)
            rw [htv2] at Kv2 HA
            simp only at HA
            clear htv2
            go_wp2_with fail
            with_reducible refine Kv2.out.mono ?_
            rintro e v2a ⟨cc, pp⟩
            obtain ⟨rfl, bb⟩ : e = .returned (.string (strOfNums s2z)) ∧ BD v2a g (n + 1) a N c zs p3 := pp
            clear Kv2
            generalize strOfNums s2z = s2 at *
            have D2a := hide (D1.out.to bb cc)
            obtain ⟨m0, m1, m2, m3, m4, mf⟩ := D2a.out.mb.all
            have mf2 := mf 2
            dsimp only at m0 m1 m2 m3 m4
            obtain ⟨v2, huv2⟩ : ∃ v, Hid (v2a.setCell ⟨gm, 2, none⟩ (.string s2) = v) := ⟨_, rfl⟩
            have D2 : Hid (MbS w v2 g (n + 1) a N c zs p3 gm ⟨2, s1, s2, none, 0, 0, none, 0, 0⟩) := by
              rw [← huv2.out]
              exact D2a.out.turn (D2a.out.mb.value s2)
            clear cc bb D1 mf
            go_upto_region 17 with fail
            rw [huv2.out]
            clear huv2 D2a m0 m1 m2 m3 m4 mf2
            have HF : Hid (some (.mk 2 s1 s2 [] [], p3, left) = ans) := HA.out
            have DN : Hid (RmB ans g n a N c zs w (.returned (.agg #[.int .i64 2, .string s1, .string s2, .slice none 0 0, .slice none 0 0])) (put5 v2 w.heap.size ⟨2, s1, s2, none, 0, 0, none, 0, 0⟩)) := by
              rw [← HF.out]
              exact D2.out.fin (h := ⟨2, s1, s2, none, 0, 0, none, 0, 0⟩) (leaf_see _ _ (by decide) hsv1 hsv2) (by omega) (by omega) (by omega)
            obtain ⟨d0, d1, d2, d3, d4, df⟩ := D2.out.box.all
            obtain ⟨m0, m1, m2, m3, m4, _⟩ := D2.out.mb.all
            have f10 := df 0
            have f11 := df 1
            have f12 := df 2
            have f13 := df 3
            have f14 := df 4
            dsimp only [hm0] at d0 d1 d2 d3 d4 m0 m1 m2 m3 m4
            have FP := hide (D2.out.box.put ⟨2, s1, s2, none, 0, 0, none, 0, 0⟩)
            clear df
            go_wp2
            obtain ⟨x0, x1, x2, x3, x4, _⟩ := FP.out.all
            unfold put5 at x0 x1 x2 x3 x4
            dsimp only at x0 x1 x2 x3 x4
            exact bodyPost_ret (v := .agg #[.int .i64 2, .string s1, .string s2, .slice none 0 0, .slice none 0 0]) (by simp [results, Try.results43, go_sem, x0, x1, x2, x3, x4]) rfl DN.out
      · skip
        rw [if_pos (by decide)] at HA
        have Kv1 := hide (textB_any g (n + 1) a N c zs p1 32 (by decide) u3 D0.out.bd)
        cases htv1 : textS zs p1 32 with
        | none =>
          rw [htv1] at Kv1 HA
          have HF : Hid (none = ans) := HA.out
          clear htv1 HA
          go_wp2_with fail
          with_reducible refine Kv1.out.mono ?_
          rintro e u9 ⟨c9, p9⟩
          obtain rfl : e = refE := p9
          have C9 := hide (D0.out.ch.trans c9)
          clear c9 Kv1
          go_wp2
          exact ⟨rfl, C9.out, by rw [← HF.out]⟩
        | some r =>
          obtain ⟨s1z, p2⟩ := r
          have hsv1 := str_size HB8.out htv1 (by decide)
          rw [htv1] at Kv1 HA
          simp only at HA
          clear htv1
          go_wp2_with fail
          with_reducible refine Kv1.out.mono ?_
          rintro e v1a ⟨cc, pp⟩
          obtain ⟨rfl, bb⟩ : e = .returned (.string (strOfNums s1z)) ∧ BD v1a g (n + 1) a N c zs p2 := pp
          clear Kv1
          generalize strOfNums s1z = s1 at *
          have D1a := hide (D0.out.to bb cc)
          obtain ⟨m0, m1, m2, m3, m4, mf⟩ := D1a.out.mb.all
          have mf1 := mf 1
          dsimp only at m0 m1 m2 m3 m4
          obtain ⟨v1, huv1⟩ : ∃ v, Hid (v1a.setCell ⟨gm, 1, none⟩ (.string s1) = v) := ⟨_, rfl⟩
          have D1 : Hid (MbS w v1 g (n + 1) a N c zs p2 gm ⟨3, s1, ⟨#[]⟩, none, 0, 0, none, 0, 0⟩) := by
            rw [← huv1.out]
            exact D1a.out.turn (D1a.out.mb.name s1)
          clear cc bb D0 mf
          go_upto_region 8 with fail
          rw [huv1.out]
          clear huv1 D1a m0 m1 m2 m3 m4 mf1
          have Kv2 := hide (textB_any g (n + 1) a N c zs p2 64 (by decide) v1 D1.out.bd)
          cases htv2 : textS zs p2 64 with
          | none =>
            rw [htv2] at Kv2 HA
            have HF : Hid (none = ans) := HA.out
            clear htv2 HA
            go_wp2_with fail
            with_reducible refine Kv2.out.mono ?_
            rintro e u9 ⟨c9, p9⟩
            obtain rfl : e = refE := p9
            have C9 := hide (D1.out.ch.trans c9)
            clear c9 Kv2
            go_wp2
            exact ⟨rfl, C9.out, by rw [← HF.out]⟩
          | some r =>
            obtain ⟨s2z, p3⟩ := r
            have hsv2 := str_size HB8.out htv2 (by decide)
            rw [htv2] at Kv2 HA
            simp only at HA
            clear htv2
            go_wp2_with fail
            with_reducible refine Kv2.out.mono ?_
            rintro e v2a ⟨cc, pp⟩
            obtain ⟨rfl, bb⟩ : e = .returned (.string (strOfNums s2z)) ∧ BD v2a g (n + 1) a N c zs p3 := pp
            clear Kv2
            generalize strOfNums s2z = s2 at *
            have D2a := hide (D1.out.to bb cc)
            obtain ⟨m0, m1, m2, m3, m4, mf⟩ := D2a.out.mb.all
            have mf2 := mf 2
            dsimp only at m0 m1 m2 m3 m4
            obtain ⟨v2, huv2⟩ : ∃ v, Hid (v2a.setCell ⟨gm, 2, none⟩ (.string s2) = v) := ⟨_, rfl⟩
            have D2 : Hid (MbS w v2 g (n + 1) a N c zs p3 gm ⟨3, s1, s2, none, 0, 0, none, 0, 0⟩) := by
              rw [← huv2.out]
              exact D2a.out.turn (D2a.out.mb.value s2)
            clear cc bb D1 mf
            go_upto_region 17 with fail
            rw [huv2.out]
            clear huv2 D2a m0 m1 m2 m3 m4 mf2
            have HF : Hid (some (.mk 3 s1 s2 [] [], p3, left) = ans) := HA.out
            have DN : Hid (RmB ans g n a N c zs w (.returned (.agg #[.int .i64 3, .string s1, .string s2, .slice none 0 0, .slice none 0 0])) (put5 v2 w.heap.size ⟨3, s1, s2, none, 0, 0, none, 0, 0⟩)) := by
              rw [← HF.out]
              exact D2.out.fin (h := ⟨3, s1, s2, none, 0, 0, none, 0, 0⟩) (leaf_see _ _ (by decide) hsv1 hsv2) (by omega) (by omega) (by omega)
            obtain ⟨d0, d1, d2, d3, d4, df⟩ := D2.out.box.all
            obtain ⟨m0, m1, m2, m3, m4, _⟩ := D2.out.mb.all
            have f10 := df 0
            have f11 := df 1
            have f12 := df 2
            have f13 := df 3
            have f14 := df 4
            dsimp only [hm0] at d0 d1 d2 d3 d4 m0 m1 m2 m3 m4
            have FP := hide (D2.out.box.put ⟨3, s1, s2, none, 0, 0, none, 0, 0⟩)
            clear df
            go_wp2
            obtain ⟨x0, x1, x2, x3, x4, _⟩ := FP.out.all
            unfold put5 at x0 x1 x2 x3 x4
            dsimp only at x0 x1 x2 x3 x4
            exact bodyPost_ret (v := .agg #[.int .i64 3, .string s1, .string s2, .slice none 0 0, .slice none 0 0]) (by simp [results, Try.results43, go_sem, x0, x1, x2, x3, x4]) rfl DN.out
      · skip
        rw [if_neg (by decide), if_pos rfl] at HA
        have Kv1 := hide (textB_any g (n + 1) a N c zs p1 32 (by decide) u3 D0.out.bd)
        cases htv1 : textS zs p1 32 with
        | none =>
          rw [htv1] at Kv1 HA
          have HF : Hid (none = ans) := HA.out
          clear htv1 HA
          go_wp2_with fail
          with_reducible refine Kv1.out.mono ?_
          rintro e u9 ⟨c9, p9⟩
          obtain rfl : e = refE := p9
          have C9 := hide (D0.out.ch.trans c9)
          clear c9 Kv1
          go_wp2
          exact ⟨rfl, C9.out, by rw [← HF.out]⟩
        | some r =>
          obtain ⟨s1z, p2⟩ := r
          have hsv1 := str_size HB8.out htv1 (by decide)
          rw [htv1] at Kv1 HA
          simp only at HA
          clear htv1
          go_wp2_with fail
          with_reducible refine Kv1.out.mono ?_
          rintro e v1a ⟨cc, pp⟩
          obtain ⟨rfl, bb⟩ : e = .returned (.string (strOfNums s1z)) ∧ BD v1a g (n + 1) a N c zs p2 := pp
          clear Kv1
          generalize strOfNums s1z = s1 at *
          have D1a := hide (D0.out.to bb cc)
          obtain ⟨m0, m1, m2, m3, m4, mf⟩ := D1a.out.mb.all
          have mf1 := mf 1
          dsimp only at m0 m1 m2 m3 m4
          obtain ⟨v1, huv1⟩ : ∃ v, Hid (v1a.setCell ⟨gm, 1, none⟩ (.string s1) = v) := ⟨_, rfl⟩
          have D1 : Hid (MbS w v1 g (n + 1) a N c zs p2 gm ⟨4, s1, ⟨#[]⟩, none, 0, 0, none, 0, 0⟩) := by
            rw [← huv1.out]
            exact D1a.out.turn (D1a.out.mb.name s1)
          clear cc bb D0 mf
          go_upto_region 11 with fail
          rw [huv1.out]
          clear huv1 D1a m0 m1 m2 m3 m4 mf1
          have K5 := hide (numberB g (n + 1) a N c zs p2 16 (by decide) (by decide) v1 D1.out.bd)
          cases hu5 : cntZ zs false p2 16 with
          | none =>
            rw [hu5] at K5 HA
            have HF : Hid (none = ans) := HA.out
            clear hu5 HA
            go_wp2_with fail
            with_reducible refine K5.out.mono ?_
            rintro e u9 ⟨c9, p9⟩
            obtain rfl : e = refE := p9
            have C9 := hide (D1.out.ch.trans c9)
            clear c9 K5
            go_wp2
            exact ⟨rfl, C9.out, by rw [← HF.out]⟩
          | some r =>
            obtain ⟨cn, p3⟩ := r
            obtain ⟨-, hc0, hc1, -⟩ := cntZ_some HB8.out hu5
            dsimp only at hc0 hc1
            obtain ⟨cn, rfl⟩ := Int.eq_ofNat_of_zero_le hc0
            rw [hu5] at K5 HA
            simp only [Int.toNat_natCast] at HA
            clear hu5 hc0
            go_wp2_with fail
            with_reducible refine K5.out.mono ?_
            rintro e v3 ⟨cc, pp⟩
            obtain ⟨rfl, bb⟩ : e = .returned (.int .i64 (cn : Int)) ∧ BD v3 g (n + 1) a N c zs p3 := pp
            have DN5 := hide (D1.out.to bb cc)
            clear cc bb K5 D1
            have KV := hide (timesV_any g (n + 1) a N c zs p3 cn (by omega) v3 DN5.out.bd)
            cases hu6 : gtV zs cn p3 with
            | none =>
              rw [hu6] at KV HA
              have HF : Hid (none = ans) := HA.out
              clear hu6 HA
              go_wp2_with fail
              with_reducible refine KV.out.mono ?_
              rintro e u9 ⟨c9, p9⟩
              obtain rfl : e = refE := p9
              have C9 := hide (DN5.out.ch.trans c9)
              clear c9 KV
              go_wp2
              exact ⟨rfl, C9.out, by rw [← HF.out]⟩
            | some r =>
              obtain ⟨vs, p4⟩ := r
              rw [hu6] at KV HA
              simp only [Option.map_some] at HA
              clear hu6
              go_wp2_with fail
              with_reducible refine KV.out.mono ?_
              rintro e v4a ⟨cc, pp⟩
              obtain ⟨sa, j, sc, rfl, tx, hjc, hsa, bb⟩ : ∃ (sa : Option Addr) (j sc : Nat), e = .returned (.slice sa j sc) ∧ TxR (fun b => v3.heap.size ≤ b) v4a sa j vs ∧ j ≤ sc ∧ (sa = none → sc = 0) ∧ BD v4a g (n + 1) a N c zs p4 := pp
              have D4a := hide (DN5.out.to bb cc)
              obtain ⟨m0, m1, m2, m3, m4, mf⟩ := D4a.out.mb.all
              have mf3 := mf 3
              dsimp only at m0 m1 m2 m3 m4
              obtain ⟨v4, hu4⟩ : ∃ v, Hid (v4a.setCell ⟨gm, 3, none⟩ (.slice sa j sc) = v) := ⟨_, rfl⟩
              have D4 : Hid (MbS w v4 g (n + 1) a N c zs p4 gm ⟨4, s1, ⟨#[]⟩, sa, j, sc, none, 0, 0⟩) := by
                rw [← hu4.out]
                exact D4a.out.turn (D4a.out.mb.vals sa j sc)
              have S4 : Hid (SeeM (fun b => w.heap.size + 1 ≤ b) v4 (.mk 4 s1 .empty vs []) ⟨4, s1, ⟨#[]⟩, sa, j, sc, none, 0, 0⟩) := by
                rw [← hu4.out]
                exact DN5.out.above (vals_see (by decide) hsv1 (by decide) tx hjc hsa)
              clear cc bb tx KV DN5 mf hjc hsa
              go_upto_region 17 with fail
              rw [hu4.out]
              clear hu4 D4a m0 m1 m2 m3 m4 mf3
              have HF : Hid (some (.mk 4 s1 .empty vs [], p4, left) = ans) := HA.out
              have DN : Hid (RmB ans g n a N c zs w (.returned (.agg #[.int .i64 4, .string s1, .string ⟨#[]⟩, .slice sa j sc, .slice none 0 0])) (put5 v4 w.heap.size ⟨4, s1, ⟨#[]⟩, sa, j, sc, none, 0, 0⟩)) := by
                rw [← HF.out]
                exact D4.out.fin (h := ⟨4, s1, ⟨#[]⟩, sa, j, sc, none, 0, 0⟩) S4.out (by omega) (by omega) (by omega)
              obtain ⟨d0, d1, d2, d3, d4, df⟩ := D4.out.box.all
              obtain ⟨m0, m1, m2, m3, m4, _⟩ := D4.out.mb.all
              have f10 := df 0
              have f11 := df 1
              have f12 := df 2
              have f13 := df 3
              have f14 := df 4
              dsimp only [hm0] at d0 d1 d2 d3 d4 m0 m1 m2 m3 m4
              have FP := hide (D4.out.box.put ⟨4, s1, ⟨#[]⟩, sa, j, sc, none, 0, 0⟩)
              clear df
              go_wp2
              obtain ⟨x0, x1, x2, x3, x4, _⟩ := FP.out.all
              unfold put5 at x0 x1 x2 x3 x4
              dsimp only at x0 x1 x2 x3 x4
              exact bodyPost_ret (v := .agg #[.int .i64 4, .string s1, .string ⟨#[]⟩, .slice sa j sc, .slice none 0 0]) (by simp [results, Try.results43, go_sem, x0, x1, x2, x3, x4]) rfl DN.out
      · skip
        rw [if_neg (by decide), if_neg (by decide), if_pos (by decide)] at HA
        have K5 := hide (numberB g (n + 1) a N c zs p1 64 (by decide) (by decide) u3 D0.out.bd)
        cases hu5 : cntZ zs false p1 64 with
        | none =>
          rw [hu5] at K5 HA
          have HF : Hid (none = ans) := HA.out
          clear hu5 HA
          go_wp2_with fail
          with_reducible refine K5.out.mono ?_
          rintro e u9 ⟨c9, p9⟩
          obtain rfl : e = refE := p9
          have C9 := hide (D0.out.ch.trans c9)
          clear c9 K5
          go_wp2
          exact ⟨rfl, C9.out, by rw [← HF.out]⟩
        | some r =>
          obtain ⟨cn, p3⟩ := r
          obtain ⟨-, hc0, hc1, -⟩ := cntZ_some HB8.out hu5
          dsimp only at hc0 hc1
          obtain ⟨cn, rfl⟩ := Int.eq_ofNat_of_zero_le hc0
          rw [hu5] at K5 HA
          simp only [Int.toNat_natCast] at HA
          clear hu5 hc0
          go_wp2_with fail
          with_reducible refine K5.out.mono ?_
          rintro e v3 ⟨cc, pp⟩
          obtain ⟨rfl, bb⟩ : e = .returned (.int .i64 (cn : Int)) ∧ BD v3 g (n + 1) a N c zs p3 := pp
          have DN5 := hide (D0.out.to bb cc)
          clear cc bb K5 D0
          have KV := hide (TM.out (n + 1) p3 (d + 1) cn v3 (by omega) DN5.out.bd (by omega) (by omega))
          rw [hl2] at KV
          cases hu6 : gtK zs false f left (d + 1) cn p3 with
          | none =>
            rw [hu6] at KV HA
            have HF : Hid (none = ans) := HA.out
            clear hu6 HA
            go_wp2_with fail
            with_reducible refine KV.out.mono ?_
            rintro e u9 ⟨c9, p9⟩
            obtain rfl : e = refE := p9
            have C9 := hide (DN5.out.ch.trans c9)
            clear c9 KV
            go_wp2
            exact ⟨rfl, C9.out, by rw [← HF.out]⟩
          | some r =>
            obtain ⟨ks, p4, lf⟩ := r
            rw [hu6] at KV HA
            simp only [Option.map_some] at HA
            clear hu6
            go_wp2_with fail
            with_reducible refine KV.out.mono ?_
            rintro e v4a ⟨cc, pp⟩
            obtain ⟨ka, j, kc, n6, rfl, tx, hn6, hl6, hnn6, bb⟩ : ∃ (ka : Option Addr) (j kc n' : Nat), e = .returned (.slice ka j kc) ∧ (∀ op : Int, (Lit.int .i64 op).wf = true → SeeM (fun b => v3.heap.size ≤ b) v4a (.mk op .empty .empty [] ks) ⟨op, ⟨#[]⟩, ⟨#[]⟩, none, 0, 0, ka, j, kc⟩) ∧ n' ≤ 64 ∧ 64 - n' = lf ∧ n + 1 ≤ n' ∧ BD v4a g n' a N c zs p4 := pp
            have D4a := hide (DN5.out.to bb cc)
            obtain ⟨m0, m1, m2, m3, m4, mf⟩ := D4a.out.mb.all
            have mf4 := mf 4
            dsimp only at m0 m1 m2 m3 m4
            obtain ⟨v4, hu4⟩ : ∃ v, Hid (v4a.setCell ⟨gm, 4, none⟩ (.slice ka j kc) = v) := ⟨_, rfl⟩
            have D4 : Hid (MbS w v4 g n6 a N c zs p4 gm ⟨5, ⟨#[]⟩, ⟨#[]⟩, none, 0, 0, ka, j, kc⟩) := by
              rw [← hu4.out]
              exact D4a.out.turn (D4a.out.mb.kids ka j kc)
            have S4 : Hid (SeeM (fun b => w.heap.size + 1 ≤ b) v4 (.mk 5 .empty .empty [] ks) ⟨5, ⟨#[]⟩, ⟨#[]⟩, none, 0, 0, ka, j, kc⟩) := by
              rw [← hu4.out]
              exact DN5.out.above (tx 5 (by decide))
            clear cc bb tx KV DN5 mf
            go_upto_region 17 with fail
            rw [hu4.out]
            clear hu4 D4a m0 m1 m2 m3 m4 mf4
            have HF : Hid (some (.mk 5 .empty .empty [] ks, p4, lf) = ans) := HA.out
            have DN : Hid (RmB ans g n a N c zs w (.returned (.agg #[.int .i64 5, .string ⟨#[]⟩, .string ⟨#[]⟩, .slice none 0 0, .slice ka j kc])) (put5 v4 w.heap.size ⟨5, ⟨#[]⟩, ⟨#[]⟩, none, 0, 0, ka, j, kc⟩)) := by
              rw [← HF.out]
              exact D4.out.fin (h := ⟨5, ⟨#[]⟩, ⟨#[]⟩, none, 0, 0, ka, j, kc⟩) S4.out (by omega) (by omega) (by omega)
            obtain ⟨d0, d1, d2, d3, d4, df⟩ := D4.out.box.all
            obtain ⟨m0, m1, m2, m3, m4, _⟩ := D4.out.mb.all
            have f10 := df 0
            have f11 := df 1
            have f12 := df 2
            have f13 := df 3
            have f14 := df 4
            dsimp only [hm0] at d0 d1 d2 d3 d4 m0 m1 m2 m3 m4
            have FP := hide (D4.out.box.put ⟨5, ⟨#[]⟩, ⟨#[]⟩, none, 0, 0, ka, j, kc⟩)
            clear df
            go_wp2
            obtain ⟨x0, x1, x2, x3, x4, _⟩ := FP.out.all
            unfold put5 at x0 x1 x2 x3 x4
            dsimp only at x0 x1 x2 x3 x4
            exact bodyPost_ret (v := .agg #[.int .i64 5, .string ⟨#[]⟩, .string ⟨#[]⟩, .slice none 0 0, .slice ka j kc]) (by simp [results, Try.results43, go_sem, x0, x1, x2, x3, x4]) rfl DN.out
      · skip
        rw [if_neg (by decide), if_neg (by decide), if_pos (by decide)] at HA
        have K5 := hide (numberB g (n + 1) a N c zs p1 64 (by decide) (by decide) u3 D0.out.bd)
        cases hu5 : cntZ zs false p1 64 with
        | none =>
          rw [hu5] at K5 HA
          have HF : Hid (none = ans) := HA.out
          clear hu5 HA
          go_wp2_with fail
          with_reducible refine K5.out.mono ?_
          rintro e u9 ⟨c9, p9⟩
          obtain rfl : e = refE := p9
          have C9 := hide (D0.out.ch.trans c9)
          clear c9 K5
          go_wp2
          exact ⟨rfl, C9.out, by rw [← HF.out]⟩
        | some r =>
          obtain ⟨cn, p3⟩ := r
          obtain ⟨-, hc0, hc1, -⟩ := cntZ_some HB8.out hu5
          dsimp only at hc0 hc1
          obtain ⟨cn, rfl⟩ := Int.eq_ofNat_of_zero_le hc0
          rw [hu5] at K5 HA
          simp only [Int.toNat_natCast] at HA
          clear hu5 hc0
          go_wp2_with fail
          with_reducible refine K5.out.mono ?_
          rintro e v3 ⟨cc, pp⟩
          obtain ⟨rfl, bb⟩ : e = .returned (.int .i64 (cn : Int)) ∧ BD v3 g (n + 1) a N c zs p3 := pp
          have DN5 := hide (D0.out.to bb cc)
          clear cc bb K5 D0
          have KV := hide (TM.out (n + 1) p3 (d + 1) cn v3 (by omega) DN5.out.bd (by omega) (by omega))
          rw [hl2] at KV
          cases hu6 : gtK zs false f left (d + 1) cn p3 with
          | none =>
            rw [hu6] at KV HA
            have HF : Hid (none = ans) := HA.out
            clear hu6 HA
            go_wp2_with fail
            with_reducible refine KV.out.mono ?_
            rintro e u9 ⟨c9, p9⟩
            obtain rfl : e = refE := p9
            have C9 := hide (DN5.out.ch.trans c9)
            clear c9 KV
            go_wp2
            exact ⟨rfl, C9.out, by rw [← HF.out]⟩
          | some r =>
            obtain ⟨ks, p4, lf⟩ := r
            rw [hu6] at KV HA
            simp only [Option.map_some] at HA
            clear hu6
            go_wp2_with fail
            with_reducible refine KV.out.mono ?_
            rintro e v4a ⟨cc, pp⟩
            obtain ⟨ka, j, kc, n6, rfl, tx, hn6, hl6, hnn6, bb⟩ : ∃ (ka : Option Addr) (j kc n' : Nat), e = .returned (.slice ka j kc) ∧ (∀ op : Int, (Lit.int .i64 op).wf = true → SeeM (fun b => v3.heap.size ≤ b) v4a (.mk op .empty .empty [] ks) ⟨op, ⟨#[]⟩, ⟨#[]⟩, none, 0, 0, ka, j, kc⟩) ∧ n' ≤ 64 ∧ 64 - n' = lf ∧ n + 1 ≤ n' ∧ BD v4a g n' a N c zs p4 := pp
            have D4a := hide (DN5.out.to bb cc)
            obtain ⟨m0, m1, m2, m3, m4, mf⟩ := D4a.out.mb.all
            have mf4 := mf 4
            dsimp only at m0 m1 m2 m3 m4
            obtain ⟨v4, hu4⟩ : ∃ v, Hid (v4a.setCell ⟨gm, 4, none⟩ (.slice ka j kc) = v) := ⟨_, rfl⟩
            have D4 : Hid (MbS w v4 g n6 a N c zs p4 gm ⟨6, ⟨#[]⟩, ⟨#[]⟩, none, 0, 0, ka, j, kc⟩) := by
              rw [← hu4.out]
              exact D4a.out.turn (D4a.out.mb.kids ka j kc)
            have S4 : Hid (SeeM (fun b => w.heap.size + 1 ≤ b) v4 (.mk 6 .empty .empty [] ks) ⟨6, ⟨#[]⟩, ⟨#[]⟩, none, 0, 0, ka, j, kc⟩) := by
              rw [← hu4.out]
              exact DN5.out.above (tx 6 (by decide))
            clear cc bb tx KV DN5 mf
            go_upto_region 17 with fail
            rw [hu4.out]
            clear hu4 D4a m0 m1 m2 m3 m4 mf4
            have HF : Hid (some (.mk 6 .empty .empty [] ks, p4, lf) = ans) := HA.out
            have DN : Hid (RmB ans g n a N c zs w (.returned (.agg #[.int .i64 6, .string ⟨#[]⟩, .string ⟨#[]⟩, .slice none 0 0, .slice ka j kc])) (put5 v4 w.heap.size ⟨6, ⟨#[]⟩, ⟨#[]⟩, none, 0, 0, ka, j, kc⟩)) := by
              rw [← HF.out]
              exact D4.out.fin (h := ⟨6, ⟨#[]⟩, ⟨#[]⟩, none, 0, 0, ka, j, kc⟩) S4.out (by omega) (by omega) (by omega)
            obtain ⟨d0, d1, d2, d3, d4, df⟩ := D4.out.box.all
            obtain ⟨m0, m1, m2, m3, m4, _⟩ := D4.out.mb.all
            have f10 := df 0
            have f11 := df 1
            have f12 := df 2
            have f13 := df 3
            have f14 := df 4
            dsimp only [hm0] at d0 d1 d2 d3 d4 m0 m1 m2 m3 m4
            have FP := hide (D4.out.box.put ⟨6, ⟨#[]⟩, ⟨#[]⟩, none, 0, 0, ka, j, kc⟩)
            clear df
            go_wp2
            obtain ⟨x0, x1, x2, x3, x4, _⟩ := FP.out.all
            unfold put5 at x0 x1 x2 x3 x4
            dsimp only at x0 x1 x2 x3 x4
            exact bodyPost_ret (v := .agg #[.int .i64 6, .string ⟨#[]⟩, .string ⟨#[]⟩, .slice none 0 0, .slice ka j kc]) (by simp [results, Try.results43, go_sem, x0, x1, x2, x3, x4]) rfl DN.out
      · skip
        rw [if_neg (by decide), if_neg (by decide), if_neg (by decide), if_pos rfl] at HA
        have KV := hide (TM.out (n + 1) p1 (d + 1) 1 u3 (by omega) D0.out.bd (by omega) (by omega))
        rw [hl2] at KV
        rw [show ((1 : Nat) : Int) = 1 from rfl] at KV
        cases hu6 : gtK zs false f left (d + 1) 1 p1 with
        | none =>
          rw [hu6] at KV HA
          have HF : Hid (none = ans) := HA.out
          clear hu6 HA
          go_wp2_with fail
          with_reducible refine KV.out.mono ?_
          rintro e u9 ⟨c9, p9⟩
          obtain rfl : e = refE := p9
          have C9 := hide (D0.out.ch.trans c9)
          clear c9 KV
          go_wp2
          exact ⟨rfl, C9.out, by rw [← HF.out]⟩
        | some r =>
          obtain ⟨ks, p4, lf⟩ := r
          rw [hu6] at KV HA
          simp only [Option.map_some] at HA
          clear hu6
          go_wp2_with fail
          with_reducible refine KV.out.mono ?_
          rintro e v4a ⟨cc, pp⟩
          obtain ⟨ka, j, kc, n6, rfl, tx, hn6, hl6, hnn6, bb⟩ : ∃ (ka : Option Addr) (j kc n' : Nat), e = .returned (.slice ka j kc) ∧ (∀ op : Int, (Lit.int .i64 op).wf = true → SeeM (fun b => u3.heap.size ≤ b) v4a (.mk op .empty .empty [] ks) ⟨op, ⟨#[]⟩, ⟨#[]⟩, none, 0, 0, ka, j, kc⟩) ∧ n' ≤ 64 ∧ 64 - n' = lf ∧ n + 1 ≤ n' ∧ BD v4a g n' a N c zs p4 := pp
          have D4a := hide (D0.out.to bb cc)
          obtain ⟨m0, m1, m2, m3, m4, mf⟩ := D4a.out.mb.all
          have mf4 := mf 4
          dsimp only at m0 m1 m2 m3 m4
          obtain ⟨v4, hu4⟩ : ∃ v, Hid (v4a.setCell ⟨gm, 4, none⟩ (.slice ka j kc) = v) := ⟨_, rfl⟩
          have D4 : Hid (MbS w v4 g n6 a N c zs p4 gm ⟨7, ⟨#[]⟩, ⟨#[]⟩, none, 0, 0, ka, j, kc⟩) := by
            rw [← hu4.out]
            exact D4a.out.turn (D4a.out.mb.kids ka j kc)
          have S4 : Hid (SeeM (fun b => w.heap.size + 1 ≤ b) v4 (.mk 7 .empty .empty [] ks) ⟨7, ⟨#[]⟩, ⟨#[]⟩, none, 0, 0, ka, j, kc⟩) := by
            rw [← hu4.out]
            exact D0.out.above (tx 7 (by decide))
          clear cc bb tx KV D0 mf
          go_upto_region 17 with fail
          rw [hu4.out]
          clear hu4 D4a m0 m1 m2 m3 m4 mf4
          have HF : Hid (some (.mk 7 .empty .empty [] ks, p4, lf) = ans) := HA.out
          have DN : Hid (RmB ans g n a N c zs w (.returned (.agg #[.int .i64 7, .string ⟨#[]⟩, .string ⟨#[]⟩, .slice none 0 0, .slice ka j kc])) (put5 v4 w.heap.size ⟨7, ⟨#[]⟩, ⟨#[]⟩, none, 0, 0, ka, j, kc⟩)) := by
            rw [← HF.out]
            exact D4.out.fin (h := ⟨7, ⟨#[]⟩, ⟨#[]⟩, none, 0, 0, ka, j, kc⟩) S4.out (by omega) (by omega) (by omega)
          obtain ⟨d0, d1, d2, d3, d4, df⟩ := D4.out.box.all
          obtain ⟨m0, m1, m2, m3, m4, _⟩ := D4.out.mb.all
          have f10 := df 0
          have f11 := df 1
          have f12 := df 2
          have f13 := df 3
          have f14 := df 4
          dsimp only [hm0] at d0 d1 d2 d3 d4 m0 m1 m2 m3 m4
          have FP := hide (D4.out.box.put ⟨7, ⟨#[]⟩, ⟨#[]⟩, none, 0, 0, ka, j, kc⟩)
          clear df
          go_wp2
          obtain ⟨x0, x1, x2, x3, x4, _⟩ := FP.out.all
          unfold put5 at x0 x1 x2 x3 x4
          dsimp only at x0 x1 x2 x3 x4
          exact bodyPost_ret (v := .agg #[.int .i64 7, .string ⟨#[]⟩, .string ⟨#[]⟩, .slice none 0 0, .slice ka j kc]) (by simp [results, Try.results43, go_sem, x0, x1, x2, x3, x4]) rfl DN.out
theorem matcherB_any (f : Nat) : MbC f := by
  induction f using Nat.strongRecOn with
  | _ f ih => exact matcherB_of f ih
end Go.Proofs.Ythebcmkainplnaa

namespace Go.Proofs.Ythebcmkainplnaa
open Go.RowKit
set_option maxRecDepth 20000

/-- What attempt tells. -/
def AtB (res : Option (Mt × Int)) (g : Nat) (a : Option Addr) (N c : Nat) (zs : List Int) (w : World) (e : Ending) (w' : World) : Prop :=
  Ch (fun b => b = g) w w' ∧ match res with
  | none => e = .returned (.tuple #[.agg #[.int .i64 0, .string ⟨#[]⟩, .string ⟨#[]⟩, .slice none 0 0, .slice none 0 0], .bool false])
  | some (m, q) => ∃ (h : Hm) (n' : Nat), e = .returned (.tuple #[.agg #[.int .i64 h.op, .string h.nm, .string h.vl, .slice h.va h.vn h.vc, .slice h.ka h.kn h.kc], .bool true]) ∧ SeeM (fun b => w.heap.size ≤ b) w' m h ∧ BD w' g n' a N c zs q

set_option maxHeartbeats 8000000 in
theorem attemptB_any (g : Nat) (a : Option Addr) (N c : Nat) (zs : List Int) (p : Int) (w : World) (h : BD w g 0 a N c zs p) :
    Calls Try.prog 35 #[.func (.func 43) #[.pointer (some ⟨g, 0, none⟩)] #[]] w fun e w' => AtB (getZ zs false p) g a N c zs w e w' := by
  have hmf : ∀ (fn : Fn) (first cap : Array Value) (w : World), (Instr.makeFunc fn first cap).run Try.prog w = .ok (.func fn first cap) w := fun _ _ _ _ => rfl
  have NY := hide need_yes
  have NN := hide need_no
  have hg := h.br.lt
  obtain ⟨W, hW⟩ : ∃ W, Hid ((w.alloc (.cells #[.int .i64 0, .string ⟨#[]⟩, .string ⟨#[]⟩, .slice none 0 0, .slice none 0 0] 25)).alloc (.cells #[.bool false] 4) = W) := ⟨_, rfl⟩
  have LW : Hid (Below w.heap.size w W) := by rw [← hW.out]; exact bel_al (bel_al (Below.refl _ _) (Nat.le_refl _) _) (Nat.le_refl _) _
  have TW : Hid (Two w W g hm0 false) := by
    refine ⟨?_, ?_, (Ch.of_below LW.out).more (fun _ _ => False.elim)⟩
    · rw [← hW.out]
      exact (BoxM.zero w).block (Below.heap_alloc _ _ _ (by simp))
    · rw [← hW.out]
      have := heap_alloc_new (w.alloc (.cells #[.int .i64 0, .string ⟨#[]⟩, .string ⟨#[]⟩, .slice none 0 0, .slice none 0 0] 25)) (.cells #[.bool false] 4)
      rwa [show (w.alloc (.cells #[.int .i64 0, .string ⟨#[]⟩, .string ⟨#[]⟩, .slice none 0 0, .slice none 0 0] 25)).heap.size = w.heap.size + 1 by simp] at this
  have BW := hide (h.bel LW.out)
  have MT := hide (matcherB_any 300 g 0 a N c zs p 1 W BW.out (by decide) (by decide))
  rw [show 64 - 0 = 64 from rfl] at MT
  obtain ⟨ans, HA⟩ : ∃ ans, Hid (getZ zs false p = ans) := ⟨_, rfl⟩
  rw [HA.out]
  unfold getZ at HA
  generalize gtM zs false 300 64 1 p = res at *
  clear h BW
  cases res with
  | none =>
    have FN : Hid (none = ans) := HA.out
    go_enter_defers Try.func35, Try.ntmps35
    go_upto_region 2 with fail
    rw [hW.out]
    clear hW
    go_wp2_with fail
    with_reducible refine MT.out.mono ?_
    rintro e u1 ⟨c1, p1⟩
    obtain rfl : e = refE := p1
    have T1 := hide (TW.out.to hg c1)
    clear c1 MT
    go_wp2
    have TZ := hide ((T1.out.put hm0).set false)
    have TC := hide TZ.out.box.all
    have TD := hide TZ.out.ok.cell
    refine leaves_cons (f := 60) (args := #[.pointer (some ⟨w.heap.size, 0, none⟩), .pointer (some ⟨w.heap.size + 1, 0, none⟩)]) (by simp) (by simp [go_sem]) ?_
    refine (catch_panicking w.heap.size (w.heap.size + 1) _ false _ _ [] u1 T1.out.box T1.out.ok (by omega)).mono ?_
    rintro e u' w'' ⟨rfl, rfl, rfl⟩
    obtain ⟨e0, e1, e2, e3, e4, _⟩ := TC.out
    obtain ⟨e5, _⟩ := TD.out
    simp only [put5, hm0] at e0 e1 e2 e3 e4 e5
    have PF : Hid (AtB ans g a N c zs w (.returned (.tuple #[.agg #[.int .i64 0, .string ⟨#[]⟩, .string ⟨#[]⟩, .slice none 0 0, .slice none 0 0], .bool false])) ((put5 u1 w.heap.size hm0).setCell ⟨w.heap.size + 1, 0, none⟩ (.bool false))) := by
      rw [← FN.out]
      exact ⟨TZ.out.ch, rfl⟩
    simp only [put5, hm0] at PF
    refine ⟨_, ?_, PF.out⟩
    simp [results, Try.results35, go_sem, e0, e1, e2, e3, e4, e5, put5, hm0]
  | some q =>
    obtain ⟨m, q, lf⟩ := q
    simp only at HA
    go_enter_defers Try.func35, Try.ntmps35
    go_upto_region 2 with fail
    rw [hW.out]
    clear hW
    go_wp2_with fail
    with_reducible refine MT.out.mono ?_
    rintro e u1 ⟨c1, p1⟩
    obtain ⟨⟨op1, nm1, vl1, va1, vn1, vc1, ka1, kn1, kc1⟩, n1, rfl, q1, hn1, -, -, bd1⟩ : ∃ (h : Hm) (n' : Nat), e = .returned (.agg #[.int .i64 h.op, .string h.nm, .string h.vl, .slice h.va h.vn h.vc, .slice h.ka h.kn h.kc]) ∧ SeeM (fun b => W.heap.size ≤ b) u1 m h ∧ n' ≤ 64 ∧ 64 - n' = lf ∧ 0 < n' ∧ BD u1 g n' a N c zs q := p1
    dsimp only
    have T1 := hide (TW.out.to hg c1)
    have SZ : Hid (w.heap.size + 2 ≤ W.heap.size) := by have := TW.out.ok.lt; show _ ≤ _; omega
    have T2 := hide (T1.out.put ⟨op1, nm1, vl1, va1, vn1, vc1, ka1, kn1, kc1⟩)
    have Q2 : Hid (SeeM (fun b => w.heap.size + 2 ≤ b) (put5 u1 w.heap.size ⟨op1, nm1, vl1, va1, vn1, vc1, ka1, kn1, kc1⟩) m ⟨op1, nm1, vl1, va1, vn1, vc1, ka1, kn1, kc1⟩) :=
      (q1.ch (ch_put5 u1 w.heap.size _) (fun b hb e => by have := SZ.out; omega)).mono (fun b _ hb => Nat.le_trans SZ.out hb)
    have BD2 : Hid (BD (put5 u1 w.heap.size ⟨op1, nm1, vl1, va1, vn1, vc1, ka1, kn1, kc1⟩) g n1 a N c zs q) := bd1.ch (ch_put5 u1 w.heap.size _) (fun k e => by omega)
    obtain ⟨d0, d1, d2, d3, d4, df⟩ := T1.out.box.all
    have f0 := df 0
    have f1 := df 1
    have f2 := df 2
    have f3 := df 3
    have f4 := df 4
    dsimp only [hm0] at d0 d1 d2 d3 d4
    clear c1 q1 df MT bd1 hn1
    unfold put5 at T2 Q2 BD2
    dsimp only at T2 Q2 BD2
    go_upto_region 3 with fail
    generalize ((((u1.setCell ⟨w.heap.size, 0, none⟩ (.int .i64 op1)).setCell ⟨w.heap.size, 1, none⟩ (.string nm1)).setCell ⟨w.heap.size, 2, none⟩ (.string vl1)).setCell ⟨w.heap.size, 3, none⟩ (.slice va1 vn1 vc1)).setCell ⟨w.heap.size, 4, none⟩ (.slice ka1 kn1 kc1) = u2 at T2 Q2 BD2 ⊢
    clear T1 d0 d1 d2 d3 d4 f0 f1 f2 f3 f4
    obtain ⟨d0, d1, d2, d3, d4, _⟩ := T2.out.box.all
    dsimp only at d0 d1 d2 d3 d4
    have CK := hide (chkM_any _ m _ u2 Q2.out)
    dsimp only at CK
    cases hc : chkM m with
    | false =>
      have FN : Hid (none = ans) := by rw [← HA.out, hc]; exact rfl
      rw [hc] at CK
      go_wp2_with fail
      with_reducible refine CK.out.mono ?_
      rintro e u3 ⟨rfl, bw⟩
      have T3 := hide (T2.out.to hg ((Ch.of_below bw).more (fun _ _ => False.elim)))
      clear bw CK T2 Q2 BD2 d0 d1 d2 d3 d4
      go_wp2_with fail
      with_reducible refine (NN.out _).mono ?_
      rintro e w' ⟨rfl, hw⟩
      rw [hw]
      clear hw
      go_wp2
      have TZ := hide ((T3.out.put hm0).set false)
      have TC := hide TZ.out.box.all
      have TD := hide TZ.out.ok.cell
      refine leaves_cons (f := 60) (args := #[.pointer (some ⟨w.heap.size, 0, none⟩), .pointer (some ⟨w.heap.size + 1, 0, none⟩)]) (by simp) (by simp [go_sem]) ?_
      refine (catch_panicking w.heap.size (w.heap.size + 1) _ false _ _ [] u3 T3.out.box T3.out.ok (by omega)).mono ?_
      rintro e u' w'' ⟨rfl, rfl, rfl⟩
      obtain ⟨e0, e1, e2, e3, e4, _⟩ := TC.out
      obtain ⟨e5, _⟩ := TD.out
      simp only [put5, hm0] at e0 e1 e2 e3 e4 e5
      have PF : Hid (AtB ans g a N c zs w (.returned (.tuple #[.agg #[.int .i64 0, .string ⟨#[]⟩, .string ⟨#[]⟩, .slice none 0 0, .slice none 0 0], .bool false])) ((put5 u3 w.heap.size hm0).setCell ⟨w.heap.size + 1, 0, none⟩ (.bool false))) := by
        rw [← FN.out]
        exact ⟨TZ.out.ch, rfl⟩
      simp only [put5, hm0] at PF
      refine ⟨_, ?_, PF.out⟩
      simp [results, Try.results35, go_sem, e0, e1, e2, e3, e4, e5, put5, hm0]
    | true =>
      have HF : Hid (some (m, q) = ans) := by rw [← HA.out, hc]; exact rfl
      rw [hc] at CK
      go_wp2_with fail
      with_reducible refine CK.out.mono ?_
      rintro e u3 ⟨rfl, bw⟩
      have T3 := hide (T2.out.to hg ((Ch.of_below bw).more (fun _ _ => False.elim)))
      have Q3 := hide (Q2.out.below bw)
      have BD3 := hide (BD2.out.bel bw)
      clear bw CK T2 Q2 BD2 d0 d1 d2 d3 d4
      go_wp2_with fail
      with_reducible refine (NY.out _).mono ?_
      rintro e w' ⟨rfl, hw⟩
      rw [hw]
      clear hw
      have T4 := hide (T3.out.put ⟨op1, nm1, vl1, va1, vn1, vc1, ka1, kn1, kc1⟩)
      have T5 := hide (T4.out.set true)
      have Q5 : Hid (SeeM (fun b => w.heap.size ≤ b) ((put5 u3 w.heap.size ⟨op1, nm1, vl1, va1, vn1, vc1, ka1, kn1, kc1⟩).setCell ⟨w.heap.size + 1, 0, none⟩ (.bool true)) m ⟨op1, nm1, vl1, va1, vn1, vc1, ka1, kn1, kc1⟩) :=
        ((Q3.out.ch (ch_put5 u3 w.heap.size _) (fun b hb e => by omega)).ch (ch_set _ (w.heap.size + 1) 0 _) (fun b hb e => by omega)).mono (fun b _ hb => by omega)
      obtain ⟨d0, d1, d2, d3, d4, df⟩ := T3.out.box.all
      have f0 := df 0
      have f1 := df 1
      have f2 := df 2
      have f3 := df 3
      have f4 := df 4
      dsimp only at d0 d1 d2 d3 d4
      have Z := T4.out.ok.cell
      have PF : Hid (AtB ans g a N c zs w (.returned (.tuple #[.agg #[.int .i64 op1, .string nm1, .string vl1, .slice va1 vn1 vc1, .slice ka1 kn1 kc1], .bool true])) ((put5 u3 w.heap.size ⟨op1, nm1, vl1, va1, vn1, vc1, ka1, kn1, kc1⟩).setCell ⟨w.heap.size + 1, 0, none⟩ (.bool true))) := by
        rw [← HF.out]
        exact ⟨T5.out.ch, _, n1, rfl, Q5.out, (BD3.out.ch (ch_put5 u3 w.heap.size _) (fun k e => by omega)).ch (ch_set _ (w.heap.size + 1) 0 _) (fun k e => by omega)⟩
      have TC := hide T5.out.box.all
      have TD := hide T5.out.ok.cell
      simp only [put5] at PF Z
      obtain ⟨z1, z2⟩ := Z
      clear df
      go_wp2
      refine leaves_cons (f := 60) (args := #[.pointer (some ⟨w.heap.size, 0, none⟩), .pointer (some ⟨w.heap.size + 1, 0, none⟩)]) (by simp) (by simp [go_sem]) ?_
      refine (catch_idle _ _ _).mono ?_
      rintro e u' w'' ⟨rfl, rfl, rfl⟩
      obtain ⟨e0, e1, e2, e3, e4, _⟩ := TC.out
      obtain ⟨e5, _⟩ := TD.out
      simp only [put5] at e0 e1 e2 e3 e4 e5
      refine ⟨_, ?_, PF.out⟩
      simp [results, Try.results35, go_sem, e0, e1, e2, e3, e4, e5]
/-- What Get tells. -/
def GeP (res : Option (Mt × Int)) (w : World) (e : Ending) (w' : World) : Prop :=
  Below w.heap.size w w' ∧ match res with
  | none => e = .returned (.tuple #[.agg #[.int .i64 0, .string ⟨#[]⟩, .string ⟨#[]⟩, .slice none 0 0, .slice none 0 0], .int .i64 0, .bool false])
  | some (m, q) => ∃ h : Hm, e = .returned (.tuple #[.agg #[.int .i64 h.op, .string h.nm, .string h.vl, .slice h.va h.vn h.vc, .slice h.ka h.kn h.kc], .int .i64 q, .bool true]) ∧ SeeM (fun b => w.heap.size ≤ b) w' m h

set_option maxHeartbeats 8000000 in
theorem getM_any (a : Option Addr) (N c : Nat) (zs : List Int) (p : Int) (w : World) (hp : (Lit.int .i64 p).wf = true) (hc : N ≤ c) (hr : Row .u8 w a N zs) :
    Calls Try.prog 24 #[.slice a N c, .int .i64 p] w fun e w' => GeP (getZ zs false p) w e w' := by
  have hmf : ∀ (fn : Fn) (first cap : Array Value) (w : World), (Instr.makeFunc fn first cap).run Try.prog w = .ok (.func fn first cap) w := fun _ _ _ _ => rfl
  obtain ⟨W, hW⟩ : ∃ W, Hid (w.alloc (.cells #[.int .i64 0, .string ⟨#[]⟩, .string ⟨#[]⟩, .slice none 0 0, .slice none 0 0] 25) = W) := ⟨_, rfl⟩
  have LW : Hid (Below w.heap.size w W) := by rw [← hW.out]; exact (Below.refl _ _).alloc (Nat.le_refl _) _
  have B0 : Hid (BoxM W w.heap.size hm0) := by rw [← hW.out]; exact BoxM.zero w
  have SZ : Hid (W.heap.size = w.heap.size + 1) := by rw [← hW.out]; show _ = _; simp
  have Z0 : Hid (∀ u h', Below w.heap.size w u → Below w.heap.size w (put5 u w.heap.size h')) := fun u h' hb => hb.trans ((ch_put5 u w.heap.size h').below hb.size (fun k hk e => by omega))
  obtain ⟨W2, hW2⟩ : ∃ W2, Hid (W.alloc (.cells #[.int .i64 0, .slice a N c, .int .i64 p] 79) = W2) := ⟨_, rfl⟩
  have L2 : Hid (Below w.heap.size w W2) := by rw [← hW2.out]; exact bel_al LW.out (Nat.le_refl _) _
  have B2 : Hid (BoxM W2 w.heap.size hm0) := by rw [← hW2.out]; exact B0.out.block (Below.heap_alloc _ _ _ B0.out.lt)
  have T2 : Hid (BD W2 (w.heap.size + 1) 0 a N c zs p) := by
    refine ⟨?_, ⟨w, hr, Nat.le_succ _, L2.out⟩, hc, hp⟩
    rw [← hW2.out]
    have := heap_alloc_new W (.cells #[.int .i64 0, .slice a N c, .int .i64 p] 79)
    rwa [SZ.out] at this
  have AT := hide (attemptB_any (w.heap.size + 1) a N c zs p W2 T2.out)
  obtain ⟨res, HP⟩ : ∃ res, Hid (getZ zs false p = res) := ⟨_, rfl⟩
  rw [HP.out] at AT
  rw [HP.out]
  clear hr hp HP
  go_enter Try.func24, Try.ntmps24
  go_upto_region 1 with fail
  rw [hW.out]
  clear hW
  go_upto_region 2 with fail
  rw [hW2.out]
  clear hW2
  rw [← SZ.out] at AT
  go_wp2_with fail
  rw [SZ.out] at AT
  rw [SZ.out]
  with_reducible refine AT.out.mono ?_
  rintro e u1 ⟨c1, p1⟩
  have HB1 : Hid (Below w.heap.size w u1) := L2.out.trans (c1.below L2.out.size (fun k hk e => by omega))
  have BX1 := hide (B2.out.block (c1.block _ B2.out.lt (by omega)))
  have SU : Hid (w.heap.size + 1 ≤ u1.heap.size) := by have := BX1.out.lt; show _ ≤ _; omega
  cases res with
  | none =>
    obtain rfl : e = .returned (.tuple #[.agg #[.int .i64 0, .string ⟨#[]⟩, .string ⟨#[]⟩, .slice none 0 0, .slice none 0 0], .bool false]) := p1
    have A2 : Hid (Below u1.heap.size u1 (u1.alloc (.cells #[.int .i64 0, .string ⟨#[]⟩, .string ⟨#[]⟩, .slice none 0 0, .slice none 0 0] 25))) := (Below.refl _ _).alloc (Nat.le_refl _) _
    have BX2 := hide (BX1.out.block (A2.out.block _ BX1.out.lt))
    have DN : Hid (GeP none w (.returned (.tuple #[.agg #[.int .i64 0, .string ⟨#[]⟩, .string ⟨#[]⟩, .slice none 0 0, .slice none 0 0], .int .i64 0, .bool false])) (put5 (u1.alloc (.cells #[.int .i64 0, .string ⟨#[]⟩, .string ⟨#[]⟩, .slice none 0 0, .slice none 0 0] 25)) w.heap.size hm0)) :=
      ⟨Z0.out _ hm0 (bel_to HB1.out (Nat.le_refl _) A2.out), rfl⟩
    clear c1 AT B2 T2 L2 B0 LW
    go_upto_region 3 with fail
    generalize u1.alloc (.cells #[.int .i64 0, .string ⟨#[]⟩, .string ⟨#[]⟩, .slice none 0 0, .slice none 0 0] 25) = u2 at BX2 DN A2 ⊢
    obtain ⟨d0, d1, d2, d3, d4, df⟩ := BX2.out.all
    have f0 := df 0
    have f1 := df 1
    have f2 := df 2
    have f3 := df 3
    have f4 := df 4
    dsimp only [hm0] at d0 d1 d2 d3 d4
    have FP := hide (BX2.out.put hm0)
    clear df
    go_wp2
    obtain ⟨e0, e1, e2, e3, e4, _⟩ := FP.out.all
    unfold put5 at e0 e1 e2 e3 e4
    dsimp only [hm0] at e0 e1 e2 e3 e4
    exact bodyPost_ret (v := .tuple #[.agg #[.int .i64 0, .string ⟨#[]⟩, .string ⟨#[]⟩, .slice none 0 0, .slice none 0 0], .int .i64 0, .bool false]) (by simp [results, Try.results24, go_sem, e0, e1, e2, e3, e4]) rfl DN.out
  | some q =>
    obtain ⟨m, q⟩ := q
    obtain ⟨⟨op1, nm1, vl1, va1, vn1, vc1, ka1, kn1, kc1⟩, n1, rfl, q1, bd1⟩ : ∃ (h : Hm) (n' : Nat), e = .returned (.tuple #[.agg #[.int .i64 h.op, .string h.nm, .string h.vl, .slice h.va h.vn h.vc, .slice h.ka h.kn h.kc], .bool true]) ∧ SeeM (fun b => W2.heap.size ≤ b) u1 m h ∧ BD u1 (w.heap.size + 1) n' a N c zs q := p1
    dsimp only
    obtain ⟨u2, hu2⟩ : ∃ u2, Hid (u1.alloc (.cells #[.int .i64 op1, .string nm1, .string vl1, .slice va1 vn1 vc1, .slice ka1 kn1 kc1] 25) = u2) := ⟨_, rfl⟩
    have A2 : Hid (Below u1.heap.size u1 u2) := by rw [← hu2.out]; exact (Below.refl _ _).alloc (Nat.le_refl _) _
    have X2 : Hid (BoxM u2 u1.heap.size ⟨op1, nm1, vl1, va1, vn1, vc1, ka1, kn1, kc1⟩) := by rw [← hu2.out]; exact boxM_new u1 ⟨op1, nm1, vl1, va1, vn1, vc1, ka1, kn1, kc1⟩
    have BX2 := hide (BX1.out.block (A2.out.block _ BX1.out.lt))
    have BR2 := hide (bd1.bel A2.out)
    have S2 : Hid (w.heap.size + 1 ≤ W2.heap.size) := by have := B2.out.lt; show _ ≤ _; omega
    obtain ⟨x0, x1, x2, x3, x4, _⟩ := X2.out.all
    dsimp only at x0 x1 x2 x3 x4
    have DN0 : Hid (GeP (some (m, q)) w (.returned (.tuple #[.agg #[.int .i64 op1, .string nm1, .string vl1, .slice va1 vn1 vc1, .slice ka1 kn1 kc1], .int .i64 q, .bool true])) (put5 u2 w.heap.size ⟨op1, nm1, vl1, va1, vn1, vc1, ka1, kn1, kc1⟩).drew) :=
      ⟨(Z0.out _ _ (bel_to HB1.out (Nat.le_refl _) A2.out)).drew, ⟨op1, nm1, vl1, va1, vn1, vc1, ka1, kn1, kc1⟩, rfl, SeeM.drew (see_box ((q1.below A2.out).mono (fun b _ hb => Nat.le_trans S2.out hb)) rfl)⟩
    clear c1 AT B2 T2 L2 B0 LW q1 bd1
    go_upto_region 3 with fail
    rw [hu2.out]
    clear hu2
    obtain ⟨d0, d1, d2, d3, d4, df⟩ := BX2.out.all
    obtain ⟨r0, r1, r2, _⟩ := BR2.out.br.cell
    have f0 := df 0
    have f1 := df 1
    have f2 := df 2
    have f3 := df 3
    have f4 := df 4
    dsimp only [hm0] at d0 d1 d2 d3 d4
    have FP : Hid (BoxM (put5 u2 w.heap.size ⟨op1, nm1, vl1, va1, vn1, vc1, ka1, kn1, kc1⟩).drew w.heap.size ⟨op1, nm1, vl1, va1, vn1, vc1, ka1, kn1, kc1⟩) := (BX2.out.put ⟨op1, nm1, vl1, va1, vn1, vc1, ka1, kn1, kc1⟩).block rfl
    clear df
    go_upto_region 5 with fail
    go_region
    go_wp2
    obtain ⟨e0, e1, e2, e3, e4, _⟩ := FP.out.all
    unfold put5 at e0 e1 e2 e3 e4 DN0
    dsimp only at e0 e1 e2 e3 e4 DN0
    exact bodyPost_ret (v := .tuple #[.agg #[.int .i64 op1, .string nm1, .string vl1, .slice va1 vn1 vc1, .slice ka1 kn1 kc1], .int .i64 q, .bool true]) (by simp [results, Try.results24, go_sem, e0, e1, e2, e3, e4]) rfl DN0.out
end Go.Proofs.Ythebcmkainplnaa

namespace Go.Proofs.Ythebcmkainplnaa
open Go.RowKit
set_option maxRecDepth 20000

/-- The append of a row's bytes behind bytes of the call's own, as one step of a region that draws its order. -/
theorem oper_append_row {P : Program} (w : World) {o : Oper} {a : Act} {K : Act → World → Prop} {Q : Exit → Act → World → Prop} (s x : Operand) (t : TypeId)
    (ho : o.op = .call { callee := .builtin .append, args := #[s, x], argTypes := #[t, t] })
    (base : Nat) (e : TypeId) (i : TypeInfo) (ht : P.underlying t = some (.slice e)) (hi : P.info? e = some i) (hz : i.zero = some (.int .u8 0)) (hsize : i.size = 1) (hby : i.bytes = 1)
    (ao : Option Addr) (n cap : Nat) (zs : List Int) (hs : a.eval s = .slice ao n cap) (hown : Own e .u8 w base ao n cap zs)
    (bo : Option Addr) (m c : Nat) (news : List Int) (hx : a.eval x = .slice bo m c) (hrow : Row .u8 w bo m news) (hm : 0 < m)
    (hbytes : n + m ≤ 140737488355328) (hbase : base ≤ w.heap.size)
    (h : ∀ a' cap' w', Own e .u8 w' base a' (n + m) cap' (zs ++ news) → Below base w w' → Ch (fun k => (Value.slice ao n cap).ownBlock = some k) w w' → K (a.put o.dst (.slice a' (n + m) cap')) w') : Oper.wp P o a w K Q := by
  cases bo with
  | none =>
    have := hrow.nz rfl
    omega
  | some ad =>
    obtain ⟨v', w', hrun, r1, r2, _⟩ := run_append_own (P := P) w base t o.type e i (.int .u8 0) 1 1 ht hi hz hsize hby rfl (by decide) _ n (zs.map (Value.int .u8)) hown ad m c (news.map (Value.int .u8)) (by simp [hrow.1]) hrow.cells (one_cell .u8 news) (by unfold maxLen; omega) (by omega) hbase
    rw [← List.map_append] at r1
    obtain ⟨a', cap', rfl, h3⟩ := own_form r1
    unfold Oper.wp
    simp [execOp, ho, resolve, invoke, builtin, hs, hx, hrun, Result.andThen]
    exact h a' cap' w' h3 ((Below.refl _ _).grown r2 hbase (own_block hown)) (Ch.grown r2)
theorem PuS.drew {w u : World} {h : Hm} {a : Option Addr} {L c : Nat} {zs : List Int} (q : PuS w u h a L c zs) : PuS w u.drew h a L c zs := q.bel ((Below.refl _ _).drew)
theorem okM.leaf {m : Mt} (h : okM m) (ho : m.op ≤ 4) : m.ks = [] := by
  rcases fit_names h.fit with ⟨_, e⟩ | ⟨_, _, _, e⟩ | ⟨_, _, _, _, e⟩ | ⟨e, _⟩
  · rw [e]; rfl
  · exact e
  · exact e
  · omega
/-- What the document's Put tells. -/
def RuC (m : Mt) : Prop := ∀ (S : Nat → Prop) (h : Hm) (w : World), SeeM S w m h → okM m →
    Calls Try.prog 25 #[.agg #[.int .i64 h.op, .string h.nm, .string h.vl, .slice h.va h.vn h.vc, .slice h.ka h.kn h.kc]] w fun e w' => ∃ a' L cap', e = .returned (.slice a' L cap') ∧ (putB m).length = L ∧ Mine w' w.heap.size a' L cap' (putB m) ∧ Below w.heap.size w w'

set_option maxHeartbeats 16000000 in
theorem rput_of (m : Mt) (ih : ∀ k ∈ m.ks, RuC k) : RuC m := by
  intro S h w q ok
  obtain ⟨op, nm, vl, va, vn, vc, ka, kn, kc⟩ := h
  obtain ⟨e1, e2, e3, hw, hv, hk, -⟩ := seeM_iff.1 q
  dsimp only at e1 e2 e3 hv hk ⊢
  have w4 : kn * 88 ≤ 140737488355328 := hw.kn
  obtain ⟨ho0, ho7⟩ : 0 ≤ op ∧ op ≤ 7 := by have := ok.op; omega
  have hwo : IntKind.u64.wrap op = op := IntWalk.u64_in _ ⟨by omega, by omega⟩
  have IH := hide ih
  have OK := hide ok
  have HQ := hide q
  have HKL := hide hk
  have HV := hide hv
  have HPL : Hid ((headB m).length + (m.ks.flatMap putB).length ≤ 20000) := by
    have := ok.putlen
    rw [putB_head, List.length_append] at this
    exact this
  have hhl : (headB m).length ≤ 20000 := by have := HPL.out; omega
  have HPK : Hid (∀ k, (headB m ++ (m.ks.take k).flatMap putB).length ≤ 20000) := fun k => by
    have e := HPL.out
    have f := flat_take_le putB m.ks k
    rw [List.length_append]
    omega
  obtain ⟨i0, hi, hz0, hz1, hz2⟩ := info_parts Try.info5
  have P0 := hide (fun u => refput_any op u ⟨by omega, by omega⟩)
  obtain ⟨W, hW⟩ : ∃ W, Hid (w.alloc (.cells #[.int .i64 op, .string nm, .string vl, .slice va vn vc, .slice ka kn kc] 25) = W) := ⟨_, rfl⟩
  have LW : Hid (Below w.heap.size w W) := by rw [← hW.out]; exact (Below.refl _ _).alloc (Nat.le_refl _) _
  have SZ : Hid (W.heap.size = w.heap.size + 1) := by rw [← hW.out]; show _ = _; simp
  have BX0 : Hid (BoxM W w.heap.size ⟨op, nm, vl, va, vn, vc, ka, kn, kc⟩) := by rw [← hW.out]; exact boxM_new w ⟨op, nm, vl, va, vn, vc, ka, kn, kc⟩
  have HE := hide (And.intro e1 (And.intro e2 e3))
  have FT := hide (fit_names ok.fit)
  have FB := hide ok.fit
  have hlo := (putS_len op).2
  obtain ⟨L1, HL1⟩ : ∃ L1, Hid ((putS op).length = L1) := ⟨_, rfl⟩
  rw [HL1.out] at P0 hlo
  clear ih ok q hk hv hw e1 e2 e3
  go_enter Try.func25, Try.ntmps25
  go_upto_region 1 with fail
  rw [hW.out]
  clear hW
  obtain ⟨b0, b1, b2, b3, b4, bf⟩ := BX0.out.all
  dsimp only at b0 b1 b2 b3 b4
  go_wp2_with fail
  with_reducible refine (P0.out _).mono ?_
  rintro e v1 ⟨a1, c1, rfl, o1, bw1⟩
  have S1 : Hid (PuS w v1 ⟨op, nm, vl, va, vn, vc, ka, kn, kc⟩ a1 L1 c1 (putS op)) := ⟨BX0.out.block (bw1.block _ BX0.out.lt), by have := o1; rw [SZ.out] at this; exact this, bel_to LW.out (Nat.le_refl _) bw1, by have := bw1.size; rw [SZ.out] at this; exact this⟩
  clear o1 bw1 P0 b0 b1 b2 b3 b4 bf LW BX0 SZ
  obtain ⟨b0, b1, b2, b3, b4, bf⟩ := S1.out.box.all
  dsimp only at b0 b1 b2 b3 b4
  go_upto_block 0 with fail
  clear b0 b1 b2 b3 b4 bf
  go_cut [3] (fun x wx => ∃ (ar : Option Addr) (L cr : Nat), x = .slice ar L cr ∧ Hid (PuS w wx ⟨op, nm, vl, va, vn, vc, ka, kn, kc⟩ ar L cr (putB m)))
  case first =>
    obtain ⟨hop, e2, e3⟩ := HE.out
    have HK0 : Hid (op ≤ 4 → putB m = headB m) := fun h => by
      rw [putB_head, OK.out.leaf (by omega), List.flatMap_nil, List.append_nil]
    have hcs : op = 0 ∨ (op = 1 ∨ op = 2 ∨ op = 3) ∨ op = 4 ∨ (op = 5 ∨ op = 6) ∨ op = 7 := by omega
    clear hwo
    rcases hcs with h0 | h1 | h4 | h5 | h7
    · have HH : Hid (putB m = putS op) := by
        show _ = _
        rw [HK0.out (by omega)]
        unfold headB
        rw [← hop, h0, if_neg (by decide), if_neg (by decide), if_neg (by decide), List.append_nil]
      clear hop e2 e3
      subst h0
      go_wp2
      go_meet
      case rel =>
        refine ⟨a1, L1, c1, rfl, ?_⟩
        rw [HH.out]
        exact S1
    · have HH : Hid (putB m = putS op ++ putT (numsOf nm) ++ putT (numsOf vl)) := by
        show _ = _
        rw [HK0.out (by omega)]
        unfold headB
        rw [← hop, if_pos (by omega), ← e2, ← e3, List.append_assoc]
      have hsz : nm.size ≤ 32 ∧ vl.size ≤ 64 := by
        have hf := FB.out
        unfold fitB at hf
        rw [if_neg (by omega), if_pos (by omega)] at hf
        simp only [Bool.and_eq_true, decide_eq_true_eq] at hf
        rw [e2, e3]
        exact ⟨nameB_len' hf.1.2, hf.2⟩
      have T1 := hide (fun W => reftext_mine nm W (by omega))
      have T2 := hide (fun W => reftext_mine vl W (by omega))
      have HB1 := hide (fits_wf (putT_b8 (s := nm) (by omega)))
      have HB2 := hide (fits_wf (putT_b8 (s := vl) (by omega)))
      have q1 := putT_len (s := nm)
      have q2 := putT_len (s := vl)
      obtain ⟨z1, hz1'⟩ : ∃ z, Hid ((putT (numsOf nm)).length = z) := ⟨_, rfl⟩
      obtain ⟨z2, hz2'⟩ : ∃ z, Hid ((putT (numsOf vl)).length = z) := ⟨_, rfl⟩
      rw [hz1'.out] at T1 q1
      rw [hz2'.out] at T2 q2
      clear hop e2 e3
      rcases h1 with rfl | rfl | rfl
      · obtain ⟨b0, b1, b2, b3, b4, bf⟩ := S1.out.drew.box.all
        dsimp only at b0 b1 b2 b3 b4
        have SD := hide S1.out.drew
        go_upto_region 6 with fail
        refine wp_region_held_drew (S := fun w' => w'.cell? ⟨w.heap.size, 1, none⟩ = some (.string nm) ∧ w'.cell? ⟨w.heap.size, 2, none⟩ = some (.string vl)) (by kernel_rfl) ⟨b1, b2⟩ (fun hHeld => ?_)
        refine held_take (i := 0) (d := (some 17)) (v := ?_) rfl rfl (by kernel_rfl) (by kernel_rfl) (by kernel_rfl) (fun _ _ _ h => h) (Or.inl ⟨by rfl, ?_⟩) (by first | assumption | rfl | trivial) ?_
        rotate_left 1
        · (intro w hSw; (try dsimp only at hSw); (try subst hSw); go_simp; try with_reducible rfl)
        simp only [Act.put, List.setIfInBounds_toArray, List.set_cons_zero, List.set_cons_succ]
        refine held_take (i := 1) (d := (some 18)) (v := ?_) rfl rfl (by kernel_rfl) (by kernel_rfl) (by kernel_rfl) (fun _ _ _ h => h) (Or.inl ⟨by rfl, ?_⟩) (by first | assumption | rfl | trivial) ?_
        rotate_left 1
        · (intro w hSw; (try dsimp only at hSw); (try subst hSw); go_simp; try with_reducible rfl)
        simp only [Act.put, List.setIfInBounds_toArray, List.set_cons_zero, List.set_cons_succ]
        refine held_take (i := 2) (d := (some 19)) (v := ?_) rfl rfl (by kernel_rfl) (by kernel_rfl) (by kernel_rfl) (fun _ _ _ h => h) (Or.inl ⟨by rfl, ?_⟩) (by first | assumption | rfl | trivial) ?_
        rotate_left 1
        · (intro w hSw; (try dsimp only at hSw); (try subst hSw); go_simp; try with_reducible rfl)
        simp only [Act.put, List.setIfInBounds_toArray, List.set_cons_zero, List.set_cons_succ]
        refine held_take (i := 5) (d := (some 22)) (v := ?_) rfl rfl (by kernel_rfl) (by kernel_rfl) (by kernel_rfl) (fun _ _ _ h => h) (Or.inl ⟨by rfl, ?_⟩) (by first | assumption | rfl | trivial) ?_
        rotate_left 1
        · (intro w hSw; (try dsimp only at hSw); (try subst hSw); go_simp; try with_reducible rfl)
        simp only [Act.put, List.setIfInBounds_toArray, List.set_cons_zero, List.set_cons_succ]
        refine held_take (i := 6) (d := (some 23)) (v := ?_) rfl rfl (by kernel_rfl) (by kernel_rfl) (by kernel_rfl) (fun _ _ _ h => h) (Or.inl ⟨by rfl, ?_⟩) (by first | assumption | rfl | trivial) ?_
        rotate_left 1
        · (intro w hSw; (try dsimp only at hSw); (try subst hSw); go_simp; try with_reducible rfl)
        simp only [Act.put, List.setIfInBounds_toArray, List.set_cons_zero, List.set_cons_succ]
        clear b0 b1 b2 b3 b4 bf
        refine held_next (i := 3) (by kernel_rfl) rfl (by rfl) (fun K hK => ?_)
        go_simp
        with_reducible refine (T1.out _).mono ?_
        rintro e x7 ⟨a7, c7, rfl, o7, b7⟩
        have SDx7 := hide (SD.out.bel b7)
        have Rx7 := hide (o7.row (by omega) HB1.out)
        clear o7 b7 T1 SD
        obtain ⟨b0, b1, b2, b3, b4, bf⟩ := SDx7.out.box.all
        dsimp only at b0 b1 b2 b3 b4
        go_wp2_with fail
        have hS : _ ∧ _ := And.intro b1 b2
        refine hK.out _ _ hS ?_
        clear hK hS b0 b1 b2 b3 b4 bf hHeld
        refine held_next (i := 4) (by kernel_rfl) rfl (by rfl) (fun K hK => ?_)
        refine oper_append_row _ (.tmp 17) (.tmp 20) 38 rfl (w.heap.size + 1) 5 i0 Try.underlying38 hi hz0 hz1 hz2 a1 L1 c1 _ rfl SDx7.out.own a7 z1 c7 _ rfl Rx7.out (by omega) (by omega) SDx7.out.size ?_
        intro a8 c8 a8w o8 b8 _
        have SE := hide (SDx7.out.app o8 b8)
        clear o8 b8 SDx7 Rx7
        obtain ⟨b0, b1, b2, b3, b4, bf⟩ := SE.out.box.all
        dsimp only at b0 b1 b2 b3 b4
        have hS : _ ∧ _ := And.intro b1 b2
        go_simp
        refine hK.out _ _ hS ?_
        clear hK b0 b1 b2 b3 b4 bf hS
        refine held_next (i := 7) (by kernel_rfl) rfl (by rfl) (fun K hK => ?_)
        go_simp
        with_reducible refine (T2.out _).mono ?_
        rintro e x9 ⟨a9, c9, rfl, o7, b7⟩
        have SEx9 := hide (SE.out.bel b7)
        have Rx9 := hide (o7.row (by omega) HB2.out)
        clear o7 b7 T2 SE
        obtain ⟨b0, b1, b2, b3, b4, bf⟩ := SEx9.out.box.all
        dsimp only at b0 b1 b2 b3 b4
        go_wp2_with fail
        have hS : _ ∧ _ := And.intro b1 b2
        refine hK.out _ _ hS ?_
        clear hK hS b0 b1 b2 b3 b4 bf
        refine held_next (i := 8) (by kernel_rfl) rfl (by rfl) (fun K hK => ?_)
        refine oper_append_row _ (.tmp 21) (.tmp 24) 38 rfl (w.heap.size + 1) 5 i0 Try.underlying38 hi hz0 hz1 hz2 a8 (L1 + z1) c8 _ rfl SEx9.out.own a9 z2 c9 _ rfl Rx9.out (by omega) (by omega) SEx9.out.size ?_
        intro a10 c10 a10w o8 b8 _
        have SF := hide (SEx9.out.app o8 b8)
        clear o8 b8 SEx9 Rx9
        obtain ⟨b0, b1, b2, b3, b4, bf⟩ := SF.out.box.all
        dsimp only at b0 b1 b2 b3 b4
        have hS : _ ∧ _ := And.intro b1 b2
        go_simp
        refine hK.out _ _ hS ?_
        clear hK b0 b1 b2 b3 b4 bf
        refine held_take (i := 9) (d := (some 3)) (v := ?_) rfl rfl (by kernel_rfl) (by kernel_rfl) (by kernel_rfl) (fun _ _ _ h => h) (Or.inl ⟨by rfl, ?_⟩) (by first | assumption | rfl | trivial) ?_
        rotate_left 1
        · (intro w hSw; (try dsimp only at hSw); (try subst hSw); go_simp; try with_reducible rfl)
        simp only [Act.put, List.setIfInBounds_toArray, List.set_cons_zero, List.set_cons_succ]
        refine wpAnyH_done (by kernel_rfl) ?_ _
        go_wp2
        go_meet
        case rel =>
          refine ⟨a10, _, c10, rfl, ?_⟩
          rw [HH.out]
          exact SF
      · obtain ⟨b0, b1, b2, b3, b4, bf⟩ := S1.out.drew.box.all
        dsimp only at b0 b1 b2 b3 b4
        have SD := hide S1.out.drew
        go_upto_region 6 with fail
        refine wp_region_held_drew (S := fun w' => w'.cell? ⟨w.heap.size, 1, none⟩ = some (.string nm) ∧ w'.cell? ⟨w.heap.size, 2, none⟩ = some (.string vl)) (by kernel_rfl) ⟨b1, b2⟩ (fun hHeld => ?_)
        refine held_take (i := 0) (d := (some 17)) (v := ?_) rfl rfl (by kernel_rfl) (by kernel_rfl) (by kernel_rfl) (fun _ _ _ h => h) (Or.inl ⟨by rfl, ?_⟩) (by first | assumption | rfl | trivial) ?_
        rotate_left 1
        · (intro w hSw; (try dsimp only at hSw); (try subst hSw); go_simp; try with_reducible rfl)
        simp only [Act.put, List.setIfInBounds_toArray, List.set_cons_zero, List.set_cons_succ]
        refine held_take (i := 1) (d := (some 18)) (v := ?_) rfl rfl (by kernel_rfl) (by kernel_rfl) (by kernel_rfl) (fun _ _ _ h => h) (Or.inl ⟨by rfl, ?_⟩) (by first | assumption | rfl | trivial) ?_
        rotate_left 1
        · (intro w hSw; (try dsimp only at hSw); (try subst hSw); go_simp; try with_reducible rfl)
        simp only [Act.put, List.setIfInBounds_toArray, List.set_cons_zero, List.set_cons_succ]
        refine held_take (i := 2) (d := (some 19)) (v := ?_) rfl rfl (by kernel_rfl) (by kernel_rfl) (by kernel_rfl) (fun _ _ _ h => h) (Or.inl ⟨by rfl, ?_⟩) (by first | assumption | rfl | trivial) ?_
        rotate_left 1
        · (intro w hSw; (try dsimp only at hSw); (try subst hSw); go_simp; try with_reducible rfl)
        simp only [Act.put, List.setIfInBounds_toArray, List.set_cons_zero, List.set_cons_succ]
        refine held_take (i := 5) (d := (some 22)) (v := ?_) rfl rfl (by kernel_rfl) (by kernel_rfl) (by kernel_rfl) (fun _ _ _ h => h) (Or.inl ⟨by rfl, ?_⟩) (by first | assumption | rfl | trivial) ?_
        rotate_left 1
        · (intro w hSw; (try dsimp only at hSw); (try subst hSw); go_simp; try with_reducible rfl)
        simp only [Act.put, List.setIfInBounds_toArray, List.set_cons_zero, List.set_cons_succ]
        refine held_take (i := 6) (d := (some 23)) (v := ?_) rfl rfl (by kernel_rfl) (by kernel_rfl) (by kernel_rfl) (fun _ _ _ h => h) (Or.inl ⟨by rfl, ?_⟩) (by first | assumption | rfl | trivial) ?_
        rotate_left 1
        · (intro w hSw; (try dsimp only at hSw); (try subst hSw); go_simp; try with_reducible rfl)
        simp only [Act.put, List.setIfInBounds_toArray, List.set_cons_zero, List.set_cons_succ]
        clear b0 b1 b2 b3 b4 bf
        refine held_next (i := 3) (by kernel_rfl) rfl (by rfl) (fun K hK => ?_)
        go_simp
        with_reducible refine (T1.out _).mono ?_
        rintro e x7 ⟨a7, c7, rfl, o7, b7⟩
        have SDx7 := hide (SD.out.bel b7)
        have Rx7 := hide (o7.row (by omega) HB1.out)
        clear o7 b7 T1 SD
        obtain ⟨b0, b1, b2, b3, b4, bf⟩ := SDx7.out.box.all
        dsimp only at b0 b1 b2 b3 b4
        go_wp2_with fail
        have hS : _ ∧ _ := And.intro b1 b2
        refine hK.out _ _ hS ?_
        clear hK hS b0 b1 b2 b3 b4 bf hHeld
        refine held_next (i := 4) (by kernel_rfl) rfl (by rfl) (fun K hK => ?_)
        refine oper_append_row _ (.tmp 17) (.tmp 20) 38 rfl (w.heap.size + 1) 5 i0 Try.underlying38 hi hz0 hz1 hz2 a1 L1 c1 _ rfl SDx7.out.own a7 z1 c7 _ rfl Rx7.out (by omega) (by omega) SDx7.out.size ?_
        intro a8 c8 a8w o8 b8 _
        have SE := hide (SDx7.out.app o8 b8)
        clear o8 b8 SDx7 Rx7
        obtain ⟨b0, b1, b2, b3, b4, bf⟩ := SE.out.box.all
        dsimp only at b0 b1 b2 b3 b4
        have hS : _ ∧ _ := And.intro b1 b2
        go_simp
        refine hK.out _ _ hS ?_
        clear hK b0 b1 b2 b3 b4 bf hS
        refine held_next (i := 7) (by kernel_rfl) rfl (by rfl) (fun K hK => ?_)
        go_simp
        with_reducible refine (T2.out _).mono ?_
        rintro e x9 ⟨a9, c9, rfl, o7, b7⟩
        have SEx9 := hide (SE.out.bel b7)
        have Rx9 := hide (o7.row (by omega) HB2.out)
        clear o7 b7 T2 SE
        obtain ⟨b0, b1, b2, b3, b4, bf⟩ := SEx9.out.box.all
        dsimp only at b0 b1 b2 b3 b4
        go_wp2_with fail
        have hS : _ ∧ _ := And.intro b1 b2
        refine hK.out _ _ hS ?_
        clear hK hS b0 b1 b2 b3 b4 bf
        refine held_next (i := 8) (by kernel_rfl) rfl (by rfl) (fun K hK => ?_)
        refine oper_append_row _ (.tmp 21) (.tmp 24) 38 rfl (w.heap.size + 1) 5 i0 Try.underlying38 hi hz0 hz1 hz2 a8 (L1 + z1) c8 _ rfl SEx9.out.own a9 z2 c9 _ rfl Rx9.out (by omega) (by omega) SEx9.out.size ?_
        intro a10 c10 a10w o8 b8 _
        have SF := hide (SEx9.out.app o8 b8)
        clear o8 b8 SEx9 Rx9
        obtain ⟨b0, b1, b2, b3, b4, bf⟩ := SF.out.box.all
        dsimp only at b0 b1 b2 b3 b4
        have hS : _ ∧ _ := And.intro b1 b2
        go_simp
        refine hK.out _ _ hS ?_
        clear hK b0 b1 b2 b3 b4 bf
        refine held_take (i := 9) (d := (some 3)) (v := ?_) rfl rfl (by kernel_rfl) (by kernel_rfl) (by kernel_rfl) (fun _ _ _ h => h) (Or.inl ⟨by rfl, ?_⟩) (by first | assumption | rfl | trivial) ?_
        rotate_left 1
        · (intro w hSw; (try dsimp only at hSw); (try subst hSw); go_simp; try with_reducible rfl)
        simp only [Act.put, List.setIfInBounds_toArray, List.set_cons_zero, List.set_cons_succ]
        refine wpAnyH_done (by kernel_rfl) ?_ _
        go_wp2
        go_meet
        case rel =>
          refine ⟨a10, _, c10, rfl, ?_⟩
          rw [HH.out]
          exact SF
      · obtain ⟨b0, b1, b2, b3, b4, bf⟩ := S1.out.drew.box.all
        dsimp only at b0 b1 b2 b3 b4
        have SD := hide S1.out.drew
        go_upto_region 6 with fail
        refine wp_region_held_drew (S := fun w' => w'.cell? ⟨w.heap.size, 1, none⟩ = some (.string nm) ∧ w'.cell? ⟨w.heap.size, 2, none⟩ = some (.string vl)) (by kernel_rfl) ⟨b1, b2⟩ (fun hHeld => ?_)
        refine held_take (i := 0) (d := (some 17)) (v := ?_) rfl rfl (by kernel_rfl) (by kernel_rfl) (by kernel_rfl) (fun _ _ _ h => h) (Or.inl ⟨by rfl, ?_⟩) (by first | assumption | rfl | trivial) ?_
        rotate_left 1
        · (intro w hSw; (try dsimp only at hSw); (try subst hSw); go_simp; try with_reducible rfl)
        simp only [Act.put, List.setIfInBounds_toArray, List.set_cons_zero, List.set_cons_succ]
        refine held_take (i := 1) (d := (some 18)) (v := ?_) rfl rfl (by kernel_rfl) (by kernel_rfl) (by kernel_rfl) (fun _ _ _ h => h) (Or.inl ⟨by rfl, ?_⟩) (by first | assumption | rfl | trivial) ?_
        rotate_left 1
        · (intro w hSw; (try dsimp only at hSw); (try subst hSw); go_simp; try with_reducible rfl)
        simp only [Act.put, List.setIfInBounds_toArray, List.set_cons_zero, List.set_cons_succ]
        refine held_take (i := 2) (d := (some 19)) (v := ?_) rfl rfl (by kernel_rfl) (by kernel_rfl) (by kernel_rfl) (fun _ _ _ h => h) (Or.inl ⟨by rfl, ?_⟩) (by first | assumption | rfl | trivial) ?_
        rotate_left 1
        · (intro w hSw; (try dsimp only at hSw); (try subst hSw); go_simp; try with_reducible rfl)
        simp only [Act.put, List.setIfInBounds_toArray, List.set_cons_zero, List.set_cons_succ]
        refine held_take (i := 5) (d := (some 22)) (v := ?_) rfl rfl (by kernel_rfl) (by kernel_rfl) (by kernel_rfl) (fun _ _ _ h => h) (Or.inl ⟨by rfl, ?_⟩) (by first | assumption | rfl | trivial) ?_
        rotate_left 1
        · (intro w hSw; (try dsimp only at hSw); (try subst hSw); go_simp; try with_reducible rfl)
        simp only [Act.put, List.setIfInBounds_toArray, List.set_cons_zero, List.set_cons_succ]
        refine held_take (i := 6) (d := (some 23)) (v := ?_) rfl rfl (by kernel_rfl) (by kernel_rfl) (by kernel_rfl) (fun _ _ _ h => h) (Or.inl ⟨by rfl, ?_⟩) (by first | assumption | rfl | trivial) ?_
        rotate_left 1
        · (intro w hSw; (try dsimp only at hSw); (try subst hSw); go_simp; try with_reducible rfl)
        simp only [Act.put, List.setIfInBounds_toArray, List.set_cons_zero, List.set_cons_succ]
        clear b0 b1 b2 b3 b4 bf
        refine held_next (i := 3) (by kernel_rfl) rfl (by rfl) (fun K hK => ?_)
        go_simp
        with_reducible refine (T1.out _).mono ?_
        rintro e x7 ⟨a7, c7, rfl, o7, b7⟩
        have SDx7 := hide (SD.out.bel b7)
        have Rx7 := hide (o7.row (by omega) HB1.out)
        clear o7 b7 T1 SD
        obtain ⟨b0, b1, b2, b3, b4, bf⟩ := SDx7.out.box.all
        dsimp only at b0 b1 b2 b3 b4
        go_wp2_with fail
        have hS : _ ∧ _ := And.intro b1 b2
        refine hK.out _ _ hS ?_
        clear hK hS b0 b1 b2 b3 b4 bf hHeld
        refine held_next (i := 4) (by kernel_rfl) rfl (by rfl) (fun K hK => ?_)
        refine oper_append_row _ (.tmp 17) (.tmp 20) 38 rfl (w.heap.size + 1) 5 i0 Try.underlying38 hi hz0 hz1 hz2 a1 L1 c1 _ rfl SDx7.out.own a7 z1 c7 _ rfl Rx7.out (by omega) (by omega) SDx7.out.size ?_
        intro a8 c8 a8w o8 b8 _
        have SE := hide (SDx7.out.app o8 b8)
        clear o8 b8 SDx7 Rx7
        obtain ⟨b0, b1, b2, b3, b4, bf⟩ := SE.out.box.all
        dsimp only at b0 b1 b2 b3 b4
        have hS : _ ∧ _ := And.intro b1 b2
        go_simp
        refine hK.out _ _ hS ?_
        clear hK b0 b1 b2 b3 b4 bf hS
        refine held_next (i := 7) (by kernel_rfl) rfl (by rfl) (fun K hK => ?_)
        go_simp
        with_reducible refine (T2.out _).mono ?_
        rintro e x9 ⟨a9, c9, rfl, o7, b7⟩
        have SEx9 := hide (SE.out.bel b7)
        have Rx9 := hide (o7.row (by omega) HB2.out)
        clear o7 b7 T2 SE
        obtain ⟨b0, b1, b2, b3, b4, bf⟩ := SEx9.out.box.all
        dsimp only at b0 b1 b2 b3 b4
        go_wp2_with fail
        have hS : _ ∧ _ := And.intro b1 b2
        refine hK.out _ _ hS ?_
        clear hK hS b0 b1 b2 b3 b4 bf
        refine held_next (i := 8) (by kernel_rfl) rfl (by rfl) (fun K hK => ?_)
        refine oper_append_row _ (.tmp 21) (.tmp 24) 38 rfl (w.heap.size + 1) 5 i0 Try.underlying38 hi hz0 hz1 hz2 a8 (L1 + z1) c8 _ rfl SEx9.out.own a9 z2 c9 _ rfl Rx9.out (by omega) (by omega) SEx9.out.size ?_
        intro a10 c10 a10w o8 b8 _
        have SF := hide (SEx9.out.app o8 b8)
        clear o8 b8 SEx9 Rx9
        obtain ⟨b0, b1, b2, b3, b4, bf⟩ := SF.out.box.all
        dsimp only at b0 b1 b2 b3 b4
        have hS : _ ∧ _ := And.intro b1 b2
        go_simp
        refine hK.out _ _ hS ?_
        clear hK b0 b1 b2 b3 b4 bf
        refine held_take (i := 9) (d := (some 3)) (v := ?_) rfl rfl (by kernel_rfl) (by kernel_rfl) (by kernel_rfl) (fun _ _ _ h => h) (Or.inl ⟨by rfl, ?_⟩) (by first | assumption | rfl | trivial) ?_
        rotate_left 1
        · (intro w hSw; (try dsimp only at hSw); (try subst hSw); go_simp; try with_reducible rfl)
        simp only [Act.put, List.setIfInBounds_toArray, List.set_cons_zero, List.set_cons_succ]
        refine wpAnyH_done (by kernel_rfl) ?_ _
        go_wp2
        go_meet
        case rel =>
          refine ⟨a10, _, c10, rfl, ?_⟩
          rw [HH.out]
          exact SF
    · have HH : Hid (headB m = putS 4 ++ putT (numsOf nm) ++ putS (vn : Int) ++ m.vs.flatMap fun v => putT (numsOf v)) := by
        show _ = _
        unfold headB
        rw [← hop, if_neg (by omega), if_pos (by omega), h4, ← e2, HV.out.1]
        simp only [List.append_assoc]
      have HH2 : Hid (putB m = headB m) := HK0.out (by omega)
      subst h4
      have hvz : nameB nm = true ∧ vn ≤ 16 ∧ ∀ v ∈ m.vs, v.size ≤ 64 := by
        rcases FT.out with ⟨ho', -⟩ | ⟨ho', -⟩ | ⟨-, hnm, -, hv', -⟩ | ⟨ho', -⟩
        · omega
        · omega
        · obtain ⟨x1, x2⟩ := ris_fit hv'
          exact ⟨by rw [e2]; exact hnm, by rw [← HV.out.1]; exact x1, x2⟩
        · omega
      obtain ⟨hnm, hvn, hv64⟩ := hvz
      have hnl := nameB_len' hnm
      have HV64 := hide hv64
      clear hv64 hop e2 e3
      have T1 := hide (fun W => reftext_mine nm W (by omega))
      have T2 := hide (fun W => refput_any (vn : Int) W (w64_len (by omega)))
      have HB1 := hide (fits_wf (putT_b8 (s := nm) (by omega)))
      have HB2 := hide (fits_wf (putS_byte (w64_len (n := vn) (by omega))))
      have q1 := putT_len (s := nm)
      have q2 := putS_len (vn : Int)
      obtain ⟨z1, hz1'⟩ : ∃ z, Hid ((putT (numsOf nm)).length = z) := ⟨_, rfl⟩
      obtain ⟨z2, hz2'⟩ : ∃ z, Hid ((putS (vn : Int)).length = z) := ⟨_, rfl⟩
      rw [hz1'.out] at T1 q1
      rw [hz2'.out] at T2 q2
      have hwr : IntKind.u64.wrap (vn : Int) = (vn : Int) := IntWalk.u64_in _ ⟨by omega, by omega⟩
      obtain ⟨b0, b1, b2, b3, b4, bf⟩ := S1.out.drew.box.all
      dsimp only at b0 b1 b2 b3 b4
      have SD := hide S1.out.drew
      go_upto_region 8 with fail
      refine wp_region_held_drew (S := fun w' => w'.cell? ⟨w.heap.size, 1, none⟩ = some (.string nm) ∧ w'.cell? ⟨w.heap.size, 3, none⟩ = some (.slice va vn vc)) (by kernel_rfl) ⟨b1, b3⟩ (fun hHeld => ?_)
      refine held_take (i := 0) (d := (some 28)) (v := ?_) rfl rfl (by kernel_rfl) (by kernel_rfl) (by kernel_rfl) (fun _ _ _ h => h) (Or.inl ⟨by rfl, ?_⟩) (by first | assumption | rfl | trivial) ?_
      rotate_left 1
      · (intro w hSw; (try dsimp only at hSw); (try subst hSw); go_simp; try with_reducible rfl)
      simp only [Act.put, List.setIfInBounds_toArray, List.set_cons_zero, List.set_cons_succ]
      refine held_take (i := 1) (d := (some 29)) (v := ?_) rfl rfl (by kernel_rfl) (by kernel_rfl) (by kernel_rfl) (fun _ _ _ h => h) (Or.inl ⟨by rfl, ?_⟩) (by first | assumption | rfl | trivial) ?_
      rotate_left 1
      · (intro w hSw; (try dsimp only at hSw); (try subst hSw); go_simp; try with_reducible rfl)
      simp only [Act.put, List.setIfInBounds_toArray, List.set_cons_zero, List.set_cons_succ]
      refine held_take (i := 2) (d := (some 30)) (v := ?_) rfl rfl (by kernel_rfl) (by kernel_rfl) (by kernel_rfl) (fun _ _ _ h => h) (Or.inl ⟨by rfl, ?_⟩) (by first | assumption | rfl | trivial) ?_
      rotate_left 1
      · (intro w hSw; (try dsimp only at hSw); (try subst hSw); go_simp; try with_reducible rfl)
      simp only [Act.put, List.setIfInBounds_toArray, List.set_cons_zero, List.set_cons_succ]
      refine held_take (i := 5) (d := (some 33)) (v := ?_) rfl rfl (by kernel_rfl) (by kernel_rfl) (by kernel_rfl) (fun _ _ _ h => h) (Or.inl ⟨by rfl, ?_⟩) (by first | assumption | rfl | trivial) ?_
      rotate_left 1
      · (intro w hSw; (try dsimp only at hSw); (try subst hSw); go_simp; try with_reducible rfl)
      simp only [Act.put, List.setIfInBounds_toArray, List.set_cons_zero, List.set_cons_succ]
      refine held_take (i := 6) (d := (some 34)) (v := ?_) rfl rfl (by kernel_rfl) (by kernel_rfl) (by kernel_rfl) (fun _ _ _ h => h) (Or.inl ⟨by rfl, ?_⟩) (by first | assumption | rfl | trivial) ?_
      rotate_left 1
      · (intro w hSw; (try dsimp only at hSw); (try subst hSw); go_simp; try with_reducible rfl)
      simp only [Act.put, List.setIfInBounds_toArray, List.set_cons_zero, List.set_cons_succ]
      refine held_take (i := 7) (d := (some 35)) (v := ?_) rfl rfl (by kernel_rfl) (by kernel_rfl) (by kernel_rfl) (fun _ _ _ h => h) (Or.inl ⟨by rfl, ?_⟩) (by first | assumption | rfl | trivial) ?_
      rotate_left 1
      · (intro w hSw; (try dsimp only at hSw); (try subst hSw); go_simp; try with_reducible rfl)
      simp only [Act.put, List.setIfInBounds_toArray, List.set_cons_zero, List.set_cons_succ]
      refine held_take (i := 8) (d := (some 36)) (v := ?_) rfl rfl (by kernel_rfl) (by kernel_rfl) (by kernel_rfl) (fun _ _ _ h => h) (Or.inl ⟨by rfl, ?_⟩) (by first | assumption | rfl | trivial) ?_
      rotate_left 1
      · (intro w hSw; (try dsimp only at hSw); (try subst hSw); go_simp; try with_reducible rfl)
      simp only [Act.put, List.setIfInBounds_toArray, List.set_cons_zero, List.set_cons_succ]
      clear b0 b1 b2 b3 b4 bf
      refine held_next (i := 3) (by kernel_rfl) rfl (by rfl) (fun K hK => ?_)
      go_simp
      with_reducible refine (T1.out _).mono ?_
      rintro e x7 ⟨a7, c7, rfl, o7, b7⟩
      have SDx7 := hide (SD.out.bel b7)
      have Rx7 := hide (o7.row (by omega) HB1.out)
      clear o7 b7 T1 SD
      obtain ⟨b0, b1, b2, b3, b4, bf⟩ := SDx7.out.box.all
      dsimp only at b0 b1 b2 b3 b4
      go_wp2_with fail
      have hS : _ ∧ _ := And.intro b1 b3
      refine hK.out _ _ hS ?_
      clear hK hS b0 b1 b2 b3 b4 bf hHeld
      refine held_next (i := 4) (by kernel_rfl) rfl (by rfl) (fun K hK => ?_)
      refine oper_append_row _ (.tmp 28) (.tmp 31) 38 rfl (w.heap.size + 1) 5 i0 Try.underlying38 hi hz0 hz1 hz2 a1 L1 c1 _ rfl SDx7.out.own a7 z1 c7 _ rfl Rx7.out (by omega) (by omega) SDx7.out.size ?_
      intro a8 c8 a8w o8 b8 _
      have SE := hide (SDx7.out.app o8 b8)
      clear o8 b8 SDx7 Rx7
      obtain ⟨b0, b1, b2, b3, b4, bf⟩ := SE.out.box.all
      dsimp only at b0 b1 b2 b3 b4
      have hS : _ ∧ _ := And.intro b1 b3
      go_simp
      refine hK.out _ _ hS ?_
      clear hK b0 b1 b2 b3 b4 bf hS
      refine held_next (i := 9) (by kernel_rfl) rfl (by rfl) (fun K hK => ?_)
      go_simp
      with_reducible refine (T2.out _).mono ?_
      rintro e x9 ⟨a9, c9, rfl, o7, b7⟩
      have SEx9 := hide (SE.out.bel b7)
      have Rx9 := hide (o7.row (by omega) HB2.out)
      clear o7 b7 T2 SE
      obtain ⟨b0, b1, b2, b3, b4, bf⟩ := SEx9.out.box.all
      dsimp only at b0 b1 b2 b3 b4
      go_wp2_with fail
      have hS : _ ∧ _ := And.intro b1 b3
      refine hK.out _ _ hS ?_
      clear hK hS b0 b1 b2 b3 b4 bf
      refine held_next (i := 10) (by kernel_rfl) rfl (by rfl) (fun K hK => ?_)
      refine oper_append_row _ (.tmp 32) (.tmp 37) 38 rfl (w.heap.size + 1) 5 i0 Try.underlying38 hi hz0 hz1 hz2 a8 (L1 + z1) c8 _ rfl SEx9.out.own a9 z2 c9 _ rfl Rx9.out (by omega) (by omega) SEx9.out.size ?_
      intro a10 c10 a10w o8 b8 _
      have S3 := hide (SEx9.out.app o8 b8)
      clear o8 b8 SEx9 Rx9
      obtain ⟨b0, b1, b2, b3, b4, bf⟩ := S3.out.box.all
      dsimp only at b0 b1 b2 b3 b4
      have hS : _ ∧ _ := And.intro b1 b3
      go_simp
      refine hK.out _ _ hS ?_
      clear hK b0 b1 b2 b3 b4 bf
      refine held_take (i := 11) (d := (some 3)) (v := ?_) rfl rfl (by kernel_rfl) (by kernel_rfl) (by kernel_rfl) (fun _ _ _ h => h) (Or.inl ⟨by rfl, ?_⟩) (by first | assumption | rfl | trivial) ?_
      rotate_left 1
      · (intro w hSw; (try dsimp only at hSw); (try subst hSw); go_simp; try with_reducible rfl)
      simp only [Act.put, List.setIfInBounds_toArray, List.set_cons_zero, List.set_cons_succ]
      refine wpAnyH_done (by kernel_rfl) ?_ _
      obtain ⟨L3, hL3⟩ : ∃ L3, L1 + z1 + z2 = L3 := ⟨_, rfl⟩
      rw [hL3] at S3
      rw [hL3]
      have HPV : Hid (∀ k, (putS 4 ++ putT (numsOf nm) ++ putS (vn : Int) ++ (m.vs.take k).flatMap fun v => putT (numsOf v)).length ≤ 20000) := fun k => by
        have e := hhl
        have f := flat_take_le (fun v => putT (numsOf v)) m.vs k
        rw [HH.out, List.length_append] at e
        rw [List.length_append]
        omega
      have hL20 : L3 ≤ 20000 := by
        have e := HPV.out 0
        rw [List.take_zero, List.flatMap_nil, List.append_nil, S3.out.own.len] at e
        exact e
      go_wp2
      go_loopw [3, 4] (fun x i wr => ∃ (k : Nat) (ar : Option Addr) (L cr : Nat), k ≤ vn ∧ i = .int .i64 k ∧ x = .slice ar L cr ∧ L ≤ 20000 ∧ Hid (PuS w wr ⟨4, nm, vl, va, vn, vc, ka, kn, kc⟩ ar L cr (putS 4 ++ putT (numsOf nm) ++ putS (vn : Int) ++ (m.vs.take k).flatMap fun v => putT (numsOf v)))) (fun _ i _ => vn - (intOf i).toNat)
      case atStart =>
        refine ⟨0, a10, L3, c10, by omega, rfl, rfl, hL20, ?_⟩
        rw [List.take_zero, List.flatMap_nil, List.append_nil]
        exact S3
      case round =>
        obtain ⟨k, ar, L, cr, hk, rfl, rfl, hL, SS⟩ := hrel
        obtain ⟨u, rfl⟩ : ∃ u, u = wr := ⟨wr, rfl⟩
        clear S3
        obtain ⟨b0, b1, b2, b3, b4, bf⟩ := SS.out.box.all
        dsimp only at b0 b1 b2 b3 b4
        clear bf
        by_cases hlt : k < vn
        · obtain ⟨x1, y1, s, e, hs, -, -, hcell⟩ := (HV.out.ch (Ch.of_below SS.out.low) (fun _ _ => id)).at' hlt
          subst e
          have i1 : (0 : Int) ≤ (k : Int) := by omega
          have i2 : (k : Int) < (vn : Int) := by omega
          have hs64 := HV64.out s (List.mem_of_getElem? hs)
          have PT := hide (fun W => reftext_mine s W (by omega))
          have HB3 := hide (fits_wf (putT_b8 (s := s) (by omega)))
          have q3 := putT_len (s := s)
          obtain ⟨z3, hz3'⟩ : ∃ z, Hid ((putT (numsOf s)).length = z) := ⟨_, rfl⟩
          rw [hz3'.out] at PT q3
          have HFT : Hid (((m.vs.take (k + 1)).flatMap fun v => putT (numsOf v)) = ((m.vs.take k).flatMap fun v => putT (numsOf v)) ++ putT (numsOf s)) := flat_take hs
          clear hs
          go_wp2_with fail
          with_reducible refine (PT.out _).mono ?_
          rintro e u4 ⟨a4, c4, rfl, o4, bw4⟩
          have S4 := hide (SS.out.bel bw4)
          have R4 := hide (o4.row (by omega) HB3.out)
          have N4 := hide o4.capped.2
          clear o4 bw4 PT SS hcell b0 b1 b2 b3 b4
          go_wp2_with (at_builtin; refine wpList_append_rowC _ rfl _ _ 38 rfl (w.heap.size + 1) 5 i0 Try.underlying38 hi hz0 hz1 hz2 ar L cr _ rfl S4.out.own a4 z3 c4 _ rfl R4.out N4.out (by omega) S4.out.size ?_)
          intro a5 c5 u5 o5 bw5 _
          have S5 : Hid (PuS w u5 ⟨4, nm, vl, some ⟨x1, y1, none⟩, vn, vc, ka, kn, kc⟩ a5 (L + z3) c5 (putS 4 ++ putT (numsOf nm) ++ putS (vn : Int) ++ (m.vs.take (k + 1)).flatMap fun v => putT (numsOf v))) := by
            rw [HFT.out]
            have := S4.out.app o5 bw5
            simp only [List.append_assoc] at this ⊢
            exact this
          have hL5 : L + z3 ≤ 20000 := by rw [← S5.out.own.len]; exact HPV.out (k + 1)
          clear o5 bw5 S4 R4 N4
          generalize L + z3 = L5 at *
          go_wp2
          go_roundw
          case rel => exact ⟨k + 1, a5, L5, c5, by omega, by go_num, rfl, hL5, S5⟩
          case measure => simp [intOf]; omega
        · have i2 : ¬ (k : Int) < (vn : Int) := by omega
          have hkv : m.vs.take k = m.vs := List.take_of_length_le (by rw [HV.out.1]; omega)
          rw [hkv, ← HH.out, ← HH2.out] at SS
          go_wp2
          go_meet
          case rel => exact ⟨ar, L, cr, rfl, SS⟩
    · have HH : Hid (headB m = putS op ++ putS (kn : Int)) := by
        show _ = _
        unfold headB
        rw [← hop, if_neg (by omega), if_neg (by omega), if_pos (by omega), HKL.out]
      have T2 := hide (fun W => refput_any (kn : Int) W (w64_len (by omega)))
      have HB2 := hide (fits_wf (putS_byte (w64_len (n := kn) (by omega))))
      have q2 := putS_len (kn : Int)
      obtain ⟨z2, hz2'⟩ : ∃ z, Hid ((putS (kn : Int)).length = z) := ⟨_, rfl⟩
      rw [hz2'.out] at T2 q2
      clear hop e2 e3
      rcases h5 with rfl | rfl
      · obtain ⟨b0, b1, b2, b3, b4, bf⟩ := S1.out.box.all
        dsimp only at b0 b1 b2 b3 b4
        clear bf
        go_wp2_with fail
        with_reducible refine (T2.out _).mono ?_
        rintro e u4 ⟨a4, c4, rfl, o4, bw4⟩
        have S4 := hide (S1.out.bel bw4)
        have R4 := hide (o4.row (by omega) HB2.out)
        have N4 := hide o4.capped.2
        clear o4 bw4 T2 S1 b0 b1 b2 b3 b4
        go_wp2_with (at_builtin; refine wpList_append_rowC _ rfl _ _ 38 rfl (w.heap.size + 1) 5 i0 Try.underlying38 hi hz0 hz1 hz2 a1 L1 c1 _ rfl S4.out.own a4 z2 c4 _ rfl R4.out N4.out (by omega) S4.out.size ?_)
        intro a5 c5 u5 o5 bw5 _
        have S5 := hide (S4.out.app o5 bw5)
        clear o5 bw5 S4 R4 N4
        have hL20 : L1 + z2 ≤ 20000 := by omega
        generalize L1 + z2 = L5 at *
        go_wp2
        go_loopw [3, 5] (fun x i wr => ∃ (k : Nat) (ar : Option Addr) (L cr : Nat), k ≤ kn ∧ i = .int .i64 k ∧ x = .slice ar L cr ∧ L ≤ 20000 ∧ Hid (PuS w wr ⟨5, nm, vl, va, vn, vc, ka, kn, kc⟩ ar L cr (headB m ++ (m.ks.take k).flatMap putB))) (fun _ i _ => kn - (intOf i).toNat)
        case atStart =>
          refine ⟨0, a5, L5, c5, by omega, rfl, rfl, hL20, ?_⟩
          rw [List.take_zero, List.flatMap_nil, List.append_nil, HH.out]
          exact S5
        case round =>
          clear S5 hL20
          obtain ⟨k, ar, L, cr, hk, rfl, rfl, hL, SS⟩ := hrel
          obtain ⟨u, rfl⟩ : ∃ u, u = wr := ⟨wr, rfl⟩
          obtain ⟨b0, b1, b2, b3, b4, bf⟩ := SS.out.box.all
          dsimp only at b0 b1 b2 b3 b4
          clear bf
          by_cases hlt : k < kn
          · obtain ⟨x1, y1, kd, h', e, hkd, -, q5, qk⟩ := (HQ.out.below SS.out.low).kid hlt
            obtain ⟨p0, p1, p2, p3, p4, p5, p6, p7, p8⟩ := h'
            dsimp only at e
            subst e
            obtain ⟨g0, g1, g2, g3, g4⟩ := q5.all
            dsimp only at g0 g1 g2 g3 g4
            have i1 : (0 : Int) ≤ (k : Int) := by omega
            have i2 : (k : Int) < (kn : Int) := by omega
            have hkm := List.mem_of_getElem? hkd
            have HFT : Hid ((m.ks.take (k + 1)).flatMap putB = (m.ks.take k).flatMap putB ++ putB kd) := flat_take hkd
            have TT := hide (IH.out kd hkm S _ _ qk (OK.out.kid hkm))
            dsimp only at TT
            have KB := hide (put_b8 kd (OK.out.kid hkm))
            have KL := (OK.out.kid hkm).putlen
            clear hkd q5 qk hkm
            go_wp2_with fail
            with_reducible refine TT.out.mono ?_
            rintro e u2 ⟨a2, L2, c2, rfl, hL2, o2, bw2⟩
            rw [hL2] at KL
            clear hL2
            have S2 := hide (SS.out.bel bw2)
            have R2 := hide (o2.row (by omega) (fits_wf KB.out))
            have N2 := hide o2.capped.2
            clear o2 bw2 TT SS g0 g1 g2 g3 g4 b0 b1 b2 b3 b4 KB
            go_wp2_with (at_builtin; refine wpList_append_rowC _ rfl _ _ 38 rfl (w.heap.size + 1) 5 i0 Try.underlying38 hi hz0 hz1 hz2 ar L cr _ rfl S2.out.own a2 L2 c2 _ rfl R2.out N2.out (by omega) S2.out.size ?_)
            intro a3 c3 u3 o3 bw3 _
            have S3 : Hid (PuS w u3 ⟨5, nm, vl, va, vn, vc, some ⟨x1, y1, none⟩, kn, kc⟩ a3 (L + L2) c3 (headB m ++ (m.ks.take (k + 1)).flatMap putB)) := by
              rw [HFT.out, ← List.append_assoc]
              have := S2.out.app o3 bw3
              simp only [List.append_assoc] at this ⊢
              exact this
            clear o3 bw3 S2 R2 N2
            have hL3 : L + L2 ≤ 20000 := by rw [← S3.out.own.len]; exact HPK.out (k + 1)
            generalize L + L2 = L3 at *
            go_wp2
            go_roundw
            case rel => exact ⟨k + 1, a3, L3, c3, by omega, by go_num, rfl, hL3, S3⟩
            case measure => simp [intOf]; omega
          · have i2 : ¬ (k : Int) < (kn : Int) := by omega
            have hkv : m.ks.take k = m.ks := List.take_of_length_le (by rw [HKL.out]; omega)
            rw [hkv, ← putB_head] at SS
            go_wp2
            go_meet
            case rel => exact ⟨ar, L, cr, rfl, SS⟩
      · obtain ⟨b0, b1, b2, b3, b4, bf⟩ := S1.out.box.all
        dsimp only at b0 b1 b2 b3 b4
        clear bf
        go_wp2_with fail
        with_reducible refine (T2.out _).mono ?_
        rintro e u4 ⟨a4, c4, rfl, o4, bw4⟩
        have S4 := hide (S1.out.bel bw4)
        have R4 := hide (o4.row (by omega) HB2.out)
        have N4 := hide o4.capped.2
        clear o4 bw4 T2 S1 b0 b1 b2 b3 b4
        go_wp2_with (at_builtin; refine wpList_append_rowC _ rfl _ _ 38 rfl (w.heap.size + 1) 5 i0 Try.underlying38 hi hz0 hz1 hz2 a1 L1 c1 _ rfl S4.out.own a4 z2 c4 _ rfl R4.out N4.out (by omega) S4.out.size ?_)
        intro a5 c5 u5 o5 bw5 _
        have S5 := hide (S4.out.app o5 bw5)
        clear o5 bw5 S4 R4 N4
        have hL20 : L1 + z2 ≤ 20000 := by omega
        generalize L1 + z2 = L5 at *
        go_wp2
        go_loopw [3, 5] (fun x i wr => ∃ (k : Nat) (ar : Option Addr) (L cr : Nat), k ≤ kn ∧ i = .int .i64 k ∧ x = .slice ar L cr ∧ L ≤ 20000 ∧ Hid (PuS w wr ⟨6, nm, vl, va, vn, vc, ka, kn, kc⟩ ar L cr (headB m ++ (m.ks.take k).flatMap putB))) (fun _ i _ => kn - (intOf i).toNat)
        case atStart =>
          refine ⟨0, a5, L5, c5, by omega, rfl, rfl, hL20, ?_⟩
          rw [List.take_zero, List.flatMap_nil, List.append_nil, HH.out]
          exact S5
        case round =>
          clear S5 hL20
          obtain ⟨k, ar, L, cr, hk, rfl, rfl, hL, SS⟩ := hrel
          obtain ⟨u, rfl⟩ : ∃ u, u = wr := ⟨wr, rfl⟩
          obtain ⟨b0, b1, b2, b3, b4, bf⟩ := SS.out.box.all
          dsimp only at b0 b1 b2 b3 b4
          clear bf
          by_cases hlt : k < kn
          · obtain ⟨x1, y1, kd, h', e, hkd, -, q5, qk⟩ := (HQ.out.below SS.out.low).kid hlt
            obtain ⟨p0, p1, p2, p3, p4, p5, p6, p7, p8⟩ := h'
            dsimp only at e
            subst e
            obtain ⟨g0, g1, g2, g3, g4⟩ := q5.all
            dsimp only at g0 g1 g2 g3 g4
            have i1 : (0 : Int) ≤ (k : Int) := by omega
            have i2 : (k : Int) < (kn : Int) := by omega
            have hkm := List.mem_of_getElem? hkd
            have HFT : Hid ((m.ks.take (k + 1)).flatMap putB = (m.ks.take k).flatMap putB ++ putB kd) := flat_take hkd
            have TT := hide (IH.out kd hkm S _ _ qk (OK.out.kid hkm))
            dsimp only at TT
            have KB := hide (put_b8 kd (OK.out.kid hkm))
            have KL := (OK.out.kid hkm).putlen
            clear hkd q5 qk hkm
            go_wp2_with fail
            with_reducible refine TT.out.mono ?_
            rintro e u2 ⟨a2, L2, c2, rfl, hL2, o2, bw2⟩
            rw [hL2] at KL
            clear hL2
            have S2 := hide (SS.out.bel bw2)
            have R2 := hide (o2.row (by omega) (fits_wf KB.out))
            have N2 := hide o2.capped.2
            clear o2 bw2 TT SS g0 g1 g2 g3 g4 b0 b1 b2 b3 b4 KB
            go_wp2_with (at_builtin; refine wpList_append_rowC _ rfl _ _ 38 rfl (w.heap.size + 1) 5 i0 Try.underlying38 hi hz0 hz1 hz2 ar L cr _ rfl S2.out.own a2 L2 c2 _ rfl R2.out N2.out (by omega) S2.out.size ?_)
            intro a3 c3 u3 o3 bw3 _
            have S3 : Hid (PuS w u3 ⟨6, nm, vl, va, vn, vc, some ⟨x1, y1, none⟩, kn, kc⟩ a3 (L + L2) c3 (headB m ++ (m.ks.take (k + 1)).flatMap putB)) := by
              rw [HFT.out, ← List.append_assoc]
              have := S2.out.app o3 bw3
              simp only [List.append_assoc] at this ⊢
              exact this
            clear o3 bw3 S2 R2 N2
            have hL3 : L + L2 ≤ 20000 := by rw [← S3.out.own.len]; exact HPK.out (k + 1)
            generalize L + L2 = L3 at *
            go_wp2
            go_roundw
            case rel => exact ⟨k + 1, a3, L3, c3, by omega, by go_num, rfl, hL3, S3⟩
            case measure => simp [intOf]; omega
          · have i2 : ¬ (k : Int) < (kn : Int) := by omega
            have hkv : m.ks.take k = m.ks := List.take_of_length_le (by rw [HKL.out]; omega)
            rw [hkv, ← putB_head] at SS
            go_wp2
            go_meet
            case rel => exact ⟨ar, L, cr, rfl, SS⟩
    · have HH : Hid (headB m = putS op) := by
        show _ = _
        unfold headB
        rw [← hop, h7, if_neg (by decide), if_neg (by decide), if_neg (by decide), List.append_nil]
      have hk1 : kn = 1 := by
        rcases FT.out with ⟨ho', -⟩ | ⟨ho', -⟩ | ⟨ho', -⟩ | ⟨-, -, -, -, h7'⟩
        · omega
        · omega
        · omega
        · rw [← HKL.out]; exact h7' (by omega)
      have HK1 := hide hk1
      clear hk1
      clear hop e2 e3
      subst h7
      have hL20 : L1 ≤ 20000 := by omega
      go_wp2
      go_loopw [3, 6] (fun x i wr => ∃ (k : Nat) (ar : Option Addr) (L cr : Nat), k ≤ kn ∧ i = .int .i64 k ∧ x = .slice ar L cr ∧ L ≤ 20000 ∧ Hid (PuS w wr ⟨7, nm, vl, va, vn, vc, ka, kn, kc⟩ ar L cr (headB m ++ (m.ks.take k).flatMap putB))) (fun _ i _ => kn - (intOf i).toNat)
      case atStart =>
        refine ⟨0, a1, L1, c1, by omega, rfl, rfl, hL20, ?_⟩
        rw [List.take_zero, List.flatMap_nil, List.append_nil, HH.out]
        exact S1
      case round =>
        clear S1 hL20
        obtain ⟨k, ar, L, cr, hk, rfl, rfl, hL, SS⟩ := hrel
        obtain ⟨u, rfl⟩ : ∃ u, u = wr := ⟨wr, rfl⟩
        obtain ⟨b0, b1, b2, b3, b4, bf⟩ := SS.out.box.all
        dsimp only at b0 b1 b2 b3 b4
        clear bf
        by_cases hlt : k < kn
        · obtain ⟨x1, y1, kd, h', e, hkd, -, q5, qk⟩ := (HQ.out.below SS.out.low).kid hlt
          obtain ⟨p0, p1, p2, p3, p4, p5, p6, p7, p8⟩ := h'
          dsimp only at e
          subst e
          obtain ⟨g0, g1, g2, g3, g4⟩ := q5.all
          dsimp only at g0 g1 g2 g3 g4
          have i1 : (0 : Int) ≤ (k : Int) := by omega
          have i2 : (k : Int) < (kn : Int) := by omega
          have i3 : (k : Int) < 1 := by have := HK1.out; omega
          have hkm := List.mem_of_getElem? hkd
          have HFT : Hid ((m.ks.take (k + 1)).flatMap putB = (m.ks.take k).flatMap putB ++ putB kd) := flat_take hkd
          have TT := hide (IH.out kd hkm S _ _ qk (OK.out.kid hkm))
          dsimp only at TT
          have KB := hide (put_b8 kd (OK.out.kid hkm))
          have KL := (OK.out.kid hkm).putlen
          clear hkd q5 qk hkm
          go_wp2_with fail
          with_reducible refine TT.out.mono ?_
          rintro e u2 ⟨a2, L2, c2, rfl, hL2, o2, bw2⟩
          rw [hL2] at KL
          clear hL2
          have S2 := hide (SS.out.bel bw2)
          have R2 := hide (o2.row (by omega) (fits_wf KB.out))
          have N2 := hide o2.capped.2
          clear o2 bw2 TT SS g0 g1 g2 g3 g4 b0 b1 b2 b3 b4 KB
          go_wp2_with (at_builtin; refine wpList_append_rowC _ rfl _ _ 38 rfl (w.heap.size + 1) 5 i0 Try.underlying38 hi hz0 hz1 hz2 ar L cr _ rfl S2.out.own a2 L2 c2 _ rfl R2.out N2.out (by omega) S2.out.size ?_)
          intro a3 c3 u3 o3 bw3 _
          have S3 : Hid (PuS w u3 ⟨7, nm, vl, va, vn, vc, some ⟨x1, y1, none⟩, kn, kc⟩ a3 (L + L2) c3 (headB m ++ (m.ks.take (k + 1)).flatMap putB)) := by
            rw [HFT.out, ← List.append_assoc]
            have := S2.out.app o3 bw3
            simp only [List.append_assoc] at this ⊢
            exact this
          clear o3 bw3 S2 R2 N2
          have hL3 : L + L2 ≤ 20000 := by rw [← S3.out.own.len]; exact HPK.out (k + 1)
          generalize L + L2 = L3 at *
          go_wp2
          go_roundw
          case rel => exact ⟨k + 1, a3, L3, c3, by omega, by go_num, rfl, hL3, S3⟩
          case measure => simp [intOf]; omega
        · have i2 : ¬ (k : Int) < (kn : Int) := by omega
          have hkv : m.ks.take k = m.ks := List.take_of_length_le (by rw [HKL.out]; omega)
          rw [hkv, ← putB_head] at SS
          go_wp2
          go_meet
          case rel => exact ⟨ar, L, cr, rfl, SS⟩
  case rest =>
    obtain ⟨ar, L, cr, rfl, SS⟩ := hcut
    clear S1
    go_wp2
    go_ret
    exact ⟨ar, L, cr, rfl, SS.out.own.len, SS.out.own.mono (Nat.le_succ _), SS.out.low⟩
theorem rput_any (m : Mt) : RuC m := Mt.ind (P := RuC) rput_of m
end Go.Proofs.Ythebcmkainplnaa
