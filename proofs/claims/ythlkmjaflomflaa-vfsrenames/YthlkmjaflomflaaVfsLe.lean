/-
  VfsRenames in plain words: what the calls come to. No function is named.
  Conditions: as each theorem says.
-/
import Derived.Test.YthlkmjaflomflaaVfsDp
import Derived.Test.YthlkmjaflomflaaVfsDn
import Derived.Test.YthlkmjaflomflaaVfsQ
namespace Go.Proofs.Ythlkmjaflomflaa
set_option maxRecDepth 20000
set_option linter.unusedVariables false

/-- Two files, laid. -/
def twoL (data old : List Int) : Fs := { fs0 with files := [⟨data, []⟩, ⟨old, []⟩], sure := [⟨⟨#[110, 101, 119]⟩, 0⟩, ⟨⟨#[111, 108, 100]⟩, 1⟩] }
theorem twoL_laid {data old : List Int} (h1 : data.length ≤ 1073741824) (h2 : old.length ≤ 1073741824) : laidF [⟨#[110, 101, 119]⟩, ⟨#[111, 108, 100]⟩] [data, old] = (some (twoL data old), 0) := by
  unfold laidF
  rw [if_neg (by simp), if_neg (show ¬ ¬ _ from fun q => q ⟨fun s hs => by
    rcases List.mem_cons.1 hs with rfl | hs
    · decide
    · obtain rfl := List.mem_singleton.1 hs; decide, by decide⟩), if_neg (by
    rintro (q | ⟨b, hb, q⟩)
    · simp at q
    · rcases List.mem_cons.1 hb with rfl | hb
      · omega
      · obtain rfl := List.mem_singleton.1 hb
        omega)]
  rfl
theorem twoL_lim {data old : List Int} {m : Nat} (h1 : data.length ≤ m) (h2 : old.length ≤ m) (hm : 2 ≤ m) : LimB m (twoL data old) := ⟨hm, hm, fun x hx => by
  rcases List.mem_cons.1 hx with rfl | hx
  · simpa using h1
  · obtain rfl := List.mem_singleton.1 hx
    simpa using h2, by show (0 : Int) ≤ 0 ∧ (0 : Int) ≤ m; omega⟩
def rn1 (data old : List Int) : Fs := { twoL data old with turns := [⟨1, ⟨#[110, 101, 119]⟩, ⟨#[111, 108, 100]⟩, 0⟩], n := 1 }
def rn2 (data old : List Int) : Fs := { twoL data old with sure := [⟨⟨#[111, 108, 100]⟩, 0⟩], n := 2 }
theorem rn_rename (data old : List Int) : renameF (twoL data old) ⟨#[110, 101, 119]⟩ ⟨#[111, 108, 100]⟩ = (rn1 data old, 0) := by kernel_rfl
theorem rn_sync (data old : List Int) : syncdirF (rn1 data old) = (rn2 data old, 0) := by kernel_rfl
theorem rn1_old (data old : List Int) : readF (rn1 data old) ⟨#[111, 108, 100]⟩ = some data := by kernel_rfl
theorem rn1_new (data old : List Int) : readF (rn1 data old) ⟨#[110, 101, 119]⟩ = none := by kernel_rfl
theorem rn2_old (data old : List Int) : readF (rn2 data old) ⟨#[111, 108, 100]⟩ = some data := by kernel_rfl
theorem rn2_new (data old : List Int) : readF (rn2 data old) ⟨#[110, 101, 119]⟩ = none := by kernel_rfl
theorem rn2_crash (data old : List Int) (ops : Int) : readF (crashF (rn2 data old) ops []) ⟨#[111, 108, 100]⟩ = some data ∧ (listF (crashF (rn2 data old) ops [])).length = 1 := by
  rw [crashK_end, show (rn2 data old).turns.take (cutN ops) = [] from List.take_nil]
  exact ⟨by kernel_rfl, by kernel_rfl⟩
theorem rn1_crash (data old : List Int) {ops : Int} (h : 1 ≤ ops) : readF (crashF (rn1 data old) ops []) ⟨#[111, 108, 100]⟩ = some data ∧ (listF (crashF (rn1 data old) ops [])).length = 1 := by
  rw [crashK_end, show (rn1 data old).turns.take (cutN ops) = [⟨1, ⟨#[110, 101, 119]⟩, ⟨#[111, 108, 100]⟩, 0⟩] from List.take_of_length_le (by unfold cutN; show 1 ≤ _; omega)]
  exact ⟨by kernel_rfl, by kernel_rfl⟩
theorem rn1_back (data old : List Int) {ops : Int} (h : ¬ 1 ≤ ops) : readF (crashF (rn1 data old) ops []) ⟨#[111, 108, 100]⟩ = some old ∧ (listF (crashF (rn1 data old) ops [])).length = 2 := by
  rw [crashK_end, show cutN ops = 0 by unfold cutN; omega, List.take_zero]
  exact ⟨by kernel_rfl, by kernel_rfl⟩
end Go.Proofs.Ythlkmjaflomflaa
