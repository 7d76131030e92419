/-
  VfsOnce in plain words: what the calls come to. No function is named.
  Conditions: as each theorem says.
-/
import Derived.Test.YthlkmjaflomflaaGreatVfsDp
import Derived.Test.YthlkmjaflomflaaGreatVfsDs
import Derived.Test.YthlkmjaflomflaaGreatVfsXb
import Derived.Test.YthlkmjaflomflaaGreatVfsLa
namespace Go.Proofs.YthlkmjaflomflaaGreat
set_option maxRecDepth 20000
set_option linter.unusedVariables false

/-- One new file with bytes behind its name. -/
def oneG (b : List Int) (N : Int) (ar : Bool) (k af : Int) : Fs := ⟨[⟨[], moreU b⟩], [], [⟨0, ⟨#[97]⟩, ByteArray.empty, 0⟩], N, ar, k, af, false⟩
theorem oneG_file (b : List Int) (N : Int) (ar : Bool) (k af : Int) : fileF (oneG b N ar k af) ⟨#[97]⟩ = some 0 := by kernel_rfl
theorem oneG_byt (b : List Int) (N : Int) (ar : Bool) (k af : Int) : bytF (atF (oneG b N ar k af) 0) = b := by
  show unsB [] (moreU b) = b
  rw [unsB_more]; rfl
theorem oneG_more (b d : List Int) (N : Int) (ar : Bool) (k af : Int) : moreF (oneG b N ar k af) 0 (moreU d) = oneG (b ++ d) N ar k af := by
  unfold moreF oneG moreU
  simp [atF]
theorem oneG_ok {F : Fs} {b d : List Int} {N : Int} {ar : Bool} {k af : Int} (h : callF F = (oneG b N ar k af, none)) (hl : b.length + d.length ≤ 1073741824) : appendF F ⟨#[97]⟩ d = (oneG (b ++ d) N ar k af, 0) := by
  unfold appendF
  rw [h]
  dsimp only
  rw [if_neg (by decide), oneG_file]
  dsimp only
  rw [oneG_byt, if_neg (by omega), oneG_more]
theorem oneG_fail {F : Fs} {b d : List Int} {N e : Int} {ar : Bool} {k af : Int} (h : callF F = (oneG b N ar k af, some e)) (hd : F.dark = false) (hl : b.length + d.length ≤ 1073741824) : appendF F ⟨#[97]⟩ d = (oneG (b ++ d.take (d.length / 2)) N ar k af, e) := by
  unfold appendF
  rw [h]
  dsimp only
  rw [oneG_file]
  dsimp only
  rw [oneG_byt, if_pos ⟨hd, by omega⟩, oneG_more]
/-- The bytes behind i appends; the one that fails is the p-th. -/
def accB (data : List Int) (p : Nat) : Nat → List Int
  | 0 => []
  | i + 1 => accB data p i ++ if i = p then data.take (data.length / 2) else data
theorem accB_le (data : List Int) (p : Nat) : ∀ i, (accB data p i).length ≤ i * data.length
  | 0 => by simp [accB]
  | i + 1 => by
    have := accB_le data p i
    unfold accB
    rw [List.length_append, Nat.succ_mul]
    split
    · rw [List.length_take]; omega
    · omega
theorem accB_len (data : List Int) (p i : Nat) : (accB data p (i + 1)).length = (accB data p i).length + if i = p then data.length / 2 else data.length := by
  rw [accB, List.length_append]
  split
  · rw [List.length_take]; omega
  · rfl
def onS (k : Int) (p i : Nat) (data : List Int) : Fs := oneG (accB data p i) (1 + (i : Int)) (decide (i ≤ p)) k ((p - i : Nat) : Int)
theorem on_armed (k : Int) (p : Nat) (data : List Int) (hk : k = 0 ∨ k = 14 ∨ k = 15) : armF exF1 k (p : Int) = (onS k p 0 data, 0) := by
  rw [armF_ok hk (by omega)]
  unfold onS oneG accB exF1
  simp [fs0, moreU, emF]
theorem on_step {k : Int} {p i : Nat} {data : List Int} (hk : k = 14 ∨ k = 15) (hl : (accB data p i).length + data.length ≤ 1073741824) : appendF (onS k p i data) ⟨#[97]⟩ data = (onS k p (i + 1) data, if i = p then k else 0) := by
  by_cases h1 : i = p
  · subst h1
    have hc : callF (onS k i i data) = (oneG (accB data i i) (1 + ((i + 1 : Nat) : Int)) false k 0, some k) := by
      unfold callF onS
      rw [if_neg (by simp [oneG]), if_neg (by simp [oneG]), if_neg (by simp [oneG]), if_neg (by simp [oneG]; omega)]
      simp [oneG]
      omega
    rw [oneG_fail hc rfl hl, if_pos rfl]
    unfold onS
    rw [show accB data i (i + 1) = accB data i i ++ data.take (data.length / 2) by rw [accB, if_pos rfl], decide_eq_false (show ¬ i + 1 ≤ i by omega)]
    simp
  · rw [if_neg h1]
    have e1 : accB data p (i + 1) = accB data p i ++ data := by rw [accB, if_neg h1]
    unfold onS at *
    rw [e1]
    by_cases h2 : i < p
    · refine oneG_ok ?_ hl
      unfold callF
      rw [if_neg (by simp [oneG]), if_neg (by simp [oneG]; omega), if_pos (by simp [oneG]; omega)]
      simp only [oneG, Prod.mk.injEq, and_true, Fs.mk.injEq, true_and]
      refine ⟨by omega, ?_, by omega⟩
      rw [decide_eq_true (by omega), decide_eq_true (by omega)]
    · refine oneG_ok ?_ hl
      unfold callF
      rw [if_neg (by simp [oneG]), if_pos (by simp [oneG]; omega)]
      simp only [oneG, Prod.mk.injEq, and_true, Fs.mk.injEq, true_and]
      refine ⟨by omega, ?_, by omega⟩
      rw [decide_eq_false (by omega), decide_eq_false (by omega)]
theorem onS_lim {k : Int} {p i m : Nat} {data : List Int} (h : i * data.length + i + 1 ≤ m) : LimB m (onS k p i data) := by
  have := accB_le data p i
  refine ⟨by show 1 ≤ m; omega, by show 0 + 1 ≤ m; omega, fun x hx => ?_, by show 0 ≤ 1 + (i : Int) ∧ 1 + (i : Int) ≤ m; omega⟩
  obtain rfl := List.mem_singleton.1 hx
  show 0 + (moreU _).length ≤ m
  unfold moreU
  rw [List.length_map]; omega
theorem onS_read (k : Int) (p i : Nat) (data : List Int) : readF (onS k p i data) ⟨#[97]⟩ = some (accB data p i) := by
  unfold readF onS
  rw [oneG_file]
  dsimp only [Option.map_some]
  rw [oneG_byt]
end Go.Proofs.YthlkmjaflomflaaGreat
