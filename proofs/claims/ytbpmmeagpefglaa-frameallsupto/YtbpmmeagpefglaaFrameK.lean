/-
  A frame's bytes, and the frame that begins at a place, as plain functions of lists.
  Conditions: as each theorem says; bytes are 0 to 255.
-/
import Derived.Test.YtbpmmeagpefglaaSumV
import Derived.Test.YtbpmmeagpefglaaVintL
namespace Go.Proofs.Ytbpmmeagpefglaa

/-- The four bytes of a word, the lowest first. -/
def quad (s : Int) : List Int := [s % 256, s / 256 % 256, s / 65536 % 256, s / 16777216 % 256]
/-- The four bytes of a body's sum. -/
def sumB (zs : List Int) : List Int := quad (moreS 0 zs)
/-- A frame. -/
def frameS (body : List Int) : List Int := putS body.length ++ (sumB body ++ body)
/-- The frame that begins at a place: where its body begins, and how many bytes it has. -/
def findS (zs : List Int) (p : Int) : Option (Nat × Nat) :=
  match getS zs p with
  | none => none
  | some (v, fr) => if v < 1 ∨ 1048576 < v ∨ (zs.length : Int) - fr < 4 + v then none
    else if (zs.drop fr.toNat).take 4 = sumB ((zs.drop (fr.toNat + 4)).take v.toNat) then some (fr.toNat + 4, v.toNat) else none

theorem quad_len (s : Int) : (quad s).length = 4 := rfl
theorem quad_byte (s : Int) : Bytes8 (quad s) := by
  intro z hz
  simp only [quad, List.mem_cons, List.not_mem_nil, or_false] at hz
  rcases hz with rfl | rfl | rfl | rfl <;> exact ⟨by omega, by omega⟩
theorem sumB_len (zs : List Int) : (sumB zs).length = 4 := rfl
theorem sumB_byte (zs : List Int) : Bytes8 (sumB zs) := quad_byte _
theorem frameS_len (body : List Int) : (frameS body).length = (putS body.length).length + (4 + body.length) := by
  unfold frameS
  rw [List.length_append, List.length_append, sumB_len]
theorem frameS_byte {body : List Int} (h : Bytes8 body) (hl : body.length ≤ 9223372036854775807) : Bytes8 (frameS body) :=
  Bytes8.append (putS_byte (w64_len hl)) (Bytes8.append (sumB_byte _) h)

theorem findS_some {zs : List Int} {p : Int} {st v : Nat} (hz : Bytes8 zs) (h : findS zs p = some (st, v)) :
    1 ≤ v ∧ v ≤ 1048576 ∧ st + v ≤ zs.length ∧ ∃ k : Nat, p = k ∧ st = k + (putS (v : Int)).length + 4 ∧ ((zs.drop st).take v).length = v ∧ zs.drop k = frameS ((zs.drop st).take v) ++ zs.drop (st + v) := by
  unfold findS at h
  split at h
  · simp at h
  · rename_i u fr hg
    obtain ⟨hw, k, rfl, hk, rfl, hl, t, ht⟩ := getS_some hz hg
    split at h
    · simp at h
    · rename_i hc
      split at h
      · rename_i hs
        simp only [Option.some.injEq, Prod.mk.injEq] at h
        obtain ⟨rfl, rfl⟩ := h
        have h1 := hw.1
        obtain ⟨u, rfl⟩ := Int.eq_ofNat_of_zero_le h1
        simp only [Int.toNat_natCast] at *
        have hb : ((zs.drop (k + (putS (u : Int)).length + 4)).take u).length = u := by
          rw [List.length_take, List.length_drop]; omega
        refine ⟨by omega, by omega, by omega, k, rfl, rfl, hb, ?_⟩
        unfold frameS
        have d4 : zs.drop (k + (putS (u : Int)).length) = t := by rw [← List.drop_drop, ht, List.drop_left]
        have d5 : zs.drop (k + (putS (u : Int)).length + 4) = t.drop 4 := by rw [← List.drop_drop, d4]
        have d6 : zs.drop (k + (putS (u : Int)).length + 4 + u) = (t.drop 4).drop u := by rw [← List.drop_drop, d5]
        rw [hb, ← hs, d4, d5, d6, ht, List.append_assoc, List.append_assoc, List.take_append_drop, List.take_append_drop]
      · simp at h

theorem findS_at {body : List Int} (h1 : 1 ≤ body.length) (h2 : body.length ≤ 1048576) (xs ys : List Int) :
    findS (xs ++ (frameS body ++ ys)) xs.length = some (xs.length + (putS body.length).length + 4, body.length) := by
  have hg := getS_at (w64_len (n := body.length) (by omega)) xs (sumB body ++ body ++ ys)
  have hl := putS_len (body.length : Int)
  have e : xs ++ (frameS body ++ ys) = xs ++ (putS body.length ++ (sumB body ++ body ++ ys)) := by unfold frameS; simp
  rw [e]
  unfold findS
  rw [hg]
  simp only [Int.toNat_natCast]
  have d1 : (xs ++ (putS (body.length : Int) ++ (sumB body ++ body ++ ys))).drop (xs.length + (putS (body.length : Int)).length) = sumB body ++ body ++ ys := by
    rw [← List.append_assoc, ← List.length_append, List.drop_left]
  have d2 : (xs ++ (putS (body.length : Int) ++ (sumB body ++ body ++ ys))).drop (xs.length + (putS (body.length : Int)).length + 4) = body ++ ys := by
    rw [← List.drop_drop, d1, List.append_assoc, ← sumB_len body, List.drop_left]
  rw [if_neg, d1, d2, if_pos]
  · rw [List.append_assoc, ← sumB_len body, List.take_left, List.take_left]
  · simp only [List.length_append, sumB_len]
    omega
theorem findS_end (xs : List Int) : findS xs xs.length = none := by
  unfold findS
  rw [getS_end]
theorem findS_out {zs : List Int} {p : Int} (h : p < 0 ∨ (zs.length : Int) ≤ p) : findS zs p = none := by
  unfold findS getS
  rw [if_neg (by omega)]
end Go.Proofs.Ytbpmmeagpefglaa
