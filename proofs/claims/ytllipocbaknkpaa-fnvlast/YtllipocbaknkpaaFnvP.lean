/-
  A text's parts as lists of bytes.
  Conditions: as each theorem says.
-/
import Derived.Test.YtllipocbaknkpaaFnvA
namespace Go.Proofs.Ytllipocbaknkpaa

theorem nums_to (s : ByteArray) (k : Nat) : numsOf (s.extract 0 k) = (numsOf s).take k := by
  unfold numsOf
  rw [← List.map_take]
  congr 1
  simp [ByteArray.data_extract]
theorem nums_from (s : ByteArray) (k : Nat) : numsOf (s.extract k s.size) = (numsOf s).drop k := by
  unfold numsOf
  rw [← List.map_drop]
  congr 1
  have e : s.data.toList.length = s.size := by rw [Array.length_toList]; rfl
  simp [ByteArray.data_extract, List.take_of_length_le, e]
theorem nums_append (s t : ByteArray) : numsOf (s ++ t) = numsOf s ++ numsOf t := by
  unfold numsOf
  rw [← List.map_append]
  simp
theorem size_to (s : ByteArray) (k : Nat) : (s.extract 0 k).size ≤ s.size := by simp; omega
theorem size_from (s : ByteArray) (k : Nat) : (s.extract k s.size).size ≤ s.size := by simp
end Go.Proofs.Ytllipocbaknkpaa
