/-
  VfsCreates, VfsCuts in plain words: what the calls come to. No function is named.
  Conditions: as each theorem says.
-/
import Derived.Test.YthlkmjaflomflabVfsDp
import Derived.Test.YthlkmjaflomflabVfsDn
import Derived.Test.YthlkmjaflomflabVfsQ
namespace Go.Proofs.Ythlkmjaflomflab
set_option maxRecDepth 20000
set_option linter.unusedVariables false

/-- One file, laid. -/
def oneL (data : List Int) : Fs := { fs0 with files := [⟨data, []⟩], sure := [⟨⟨#[97]⟩, 0⟩] }
theorem oneL_laid {data : List Int} (h : data.length ≤ 1073741824) : laidF [⟨#[97]⟩] [data] = (some (oneL data), 0) := by
  unfold laidF
  rw [if_neg (by simp), if_neg (show ¬ ¬ _ from fun q => q ⟨fun s hs => by obtain rfl := List.mem_singleton.1 hs; decide, by simp⟩), if_neg (by
    rintro (q | ⟨b, hb, q⟩)
    · simp at q
    · obtain rfl := List.mem_singleton.1 hb
      omega)]
  rfl
theorem oneL_lim {data : List Int} {m : Nat} (h : data.length ≤ m) (hm : 1 ≤ m) : LimB m (oneL data) := ⟨hm, hm, fun x hx => by
  obtain rfl := List.mem_singleton.1 hx
  simpa using h, by show (0 : Int) ≤ 0 ∧ (0 : Int) ≤ m; omega⟩
def cr1 (data : List Int) : Fs := { fs0 with files := [⟨data, []⟩, emF], sure := [⟨⟨#[97]⟩, 0⟩], turns := [⟨0, ⟨#[97]⟩, ByteArray.empty, 1⟩], n := 1 }
def cr2 (data more : List Int) : Fs := { cr1 data with files := [⟨data, []⟩, ⟨[], moreU more⟩], n := 2 }
def cr3 (data more : List Int) : Fs := { cr1 data with files := [⟨data, []⟩, ⟨more, []⟩], n := 3 }
theorem cr_create (data : List Int) : createF (oneL data) ⟨#[97]⟩ = (cr1 data, 0) := by kernel_rfl
theorem cr_read (data : List Int) : readF (cr1 data) ⟨#[97]⟩ = some [] := by kernel_rfl
theorem cr_append (data : List Int) {more : List Int} (h : more.length ≤ 1073741824) : appendF (cr1 data) ⟨#[97]⟩ more = (cr2 data more, 0) := by
  have e : appendF (cr1 data) ⟨#[97]⟩ more = if 1073741824 < 0 + more.length then ({ cr1 data with n := 2 }, 2) else (cr2 data more, 0) := by kernel_rfl
  rw [e, if_neg (by omega)]
theorem cr_sync (data more : List Int) : syncF (cr2 data more) ⟨#[97]⟩ = (cr3 data more, 0) := by
  have e : syncF (cr2 data more) ⟨#[97]⟩ = ({ cr1 data with files := [⟨data, []⟩, ⟨unsB [] (moreU more), []⟩], n := 3 }, 0) := by kernel_rfl
  rw [e, unsB_more]
  rfl
theorem cr_crash (data more : List Int) (ops : Int) : readF (crashF (cr3 data more) ops []) ⟨#[97]⟩ = some (if 1 ≤ ops then more else data) := by
  rw [crashK_end]
  by_cases h : 1 ≤ ops
  · rw [if_pos h, show (cr3 data more).turns.take (cutN ops) = [⟨0, ⟨#[97]⟩, ByteArray.empty, 1⟩] from List.take_of_length_le (by unfold cutN; show 1 ≤ _; omega)]
    kernel_rfl
  · rw [if_neg h, show cutN ops = 0 by unfold cutN; omega, List.take_zero]
    kernel_rfl
/-! ### cuts -/
def cu1 (data : List Int) (k : Nat) : Fs := { oneL data with files := [⟨data, [⟨0, true, (k : Int)⟩]⟩], n := 1 }
def cu2 (data : List Int) (k : Nat) (more : List Int) : Fs := { oneL data with files := [⟨data, [⟨0, true, (k : Int)⟩] ++ moreU more⟩], n := 2 }
def cu3 (data : List Int) (k : Nat) (more : List Int) : Fs := { oneL data with files := [⟨data, [⟨0, true, (k : Int)⟩] ++ moreU more⟩], n := 3 }
theorem cu_cut {data : List Int} {k : Nat} (h : k ≤ data.length) : cutF (oneL data) ⟨#[97]⟩ (k : Int) = (cu1 data k, 0) := by
  have e : cutF (oneL data) ⟨#[97]⟩ (k : Int) = if (k : Int) < 0 ∨ (data.length : Int) < (k : Int) then ({ oneL data with n := 1 }, 1) else (cu1 data k, 0) := by kernel_rfl
  rw [e, if_neg (by omega)]
theorem cu_byt (data : List Int) (k : Nat) (more : List Int) : unsB data ([⟨0, true, (k : Int)⟩] ++ moreU more) = data.take k ++ more := by
  rw [unsB_app, unsB_more]
  congr 1
theorem cu_append {data more : List Int} {k : Nat} (h1 : data.length ≤ 1000) (h2 : more.length ≤ 1000) : appendF (cu1 data k) ⟨#[97]⟩ more = (cu2 data k more, 0) := by
  have e : appendF (cu1 data k) ⟨#[97]⟩ more = if 1073741824 < (unsB data [⟨0, true, (k : Int)⟩]).length + more.length then ({ cu1 data k with n := 2 }, 2) else (cu2 data k more, 0) := by kernel_rfl
  have l := unsB_len [⟨0, true, (k : Int)⟩] data
  simp at l
  rw [e, if_neg (by omega)]
theorem cu_far {data more : List Int} {k : Nat} (h : k ≤ data.length) : cutF (cu2 data k more) ⟨#[97]⟩ ((data.length : Int) + (more.length : Int) + 1) = (cu3 data k more, 1) := by
  have e : cutF (cu2 data k more) ⟨#[97]⟩ ((data.length : Int) + (more.length : Int) + 1) = if (data.length : Int) + (more.length : Int) + 1 < 0 ∨ ((unsB data ([⟨0, true, (k : Int)⟩] ++ moreU more)).length : Int) < (data.length : Int) + (more.length : Int) + 1 then (cu3 data k more, 1) else (moreF (cu3 data k more) 0 [⟨0, true, (data.length : Int) + (more.length : Int) + 1⟩], 0) := by kernel_rfl
  rw [e, cu_byt, if_pos (by rw [List.length_append, List.length_take]; omega)]
theorem cu_read (data : List Int) (k : Nat) (more : List Int) : readF (cu3 data k more) ⟨#[97]⟩ = some (data.take k ++ more) := by
  have e : readF (cu3 data k more) ⟨#[97]⟩ = some (unsB data ([⟨0, true, (k : Int)⟩] ++ moreU more)) := by kernel_rfl
  rw [e, cu_byt]
theorem cu_crash (data : List Int) (k : Nat) (more : List Int) (n : Nat) : readF (crashF (cu3 data k more) 0 [(n : Int)]) ⟨#[97]⟩ = some (if n = 0 then data else data.take k ++ more.take (n - 1)) := by
  have e : readF (crashF (cu3 data k more) 0 [(n : Int)]) ⟨#[97]⟩ = some (unsB data (([(⟨0, true, (k : Int)⟩ : Un)] ++ moreU more).take (cutN (n : Int)))) := by kernel_rfl
  rw [e, show cutN (n : Int) = n by unfold cutN; omega]
  by_cases h : n = 0
  · subst h
    rw [if_pos rfl]; rfl
  · rw [if_neg h]
    obtain ⟨j, rfl⟩ : ∃ j, n = j + 1 := ⟨n - 1, by omega⟩
    rw [show ([(⟨0, true, (k : Int)⟩ : Un)] ++ moreU more).take (j + 1) = [(⟨0, true, (k : Int)⟩ : Un)] ++ moreU (more.take j) from by
      unfold moreU
      rw [List.singleton_append, List.take_succ_cons, ← List.map_take]
      rfl, cu_byt]
    simp
end Go.Proofs.Ythlkmjaflomflab
