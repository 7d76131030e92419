/-
  'string(b)' of bytes, and which numbers fit: for the layers above vint.
  Conditions: the slice shows its bytes.
-/
import Derived.Test.YtnhjjdgdffjdcaaVintB
import Derived.Test.YtnhjjdgdffjdcaaVintL
import Derived.BigRegion
import Derived.WalkLawsBesides
namespace Go.Proofs.Ytnhjjdgdffjdcaa
open Go.RowKit

theorem row_string {w : World} {a : Option Addr} {n cap : Nat} {zs : List Int} (hr : Row .u8 w a n zs) :
    (convert 33 9 (.slice a n cap)).run Try.prog w = .ok (.string (strOfNums zs)) w := by
  obtain ⟨h1, _, _, rfl | ⟨b, off, rfl, hc⟩⟩ := hr
  · have hz : zs = [] := List.length_eq_zero_iff.1 h1
    subst hz
    rw [run_convert_bytes_string w _ _ 5 _ 0 cap Try.underlying33 Try.underlying5 Try.underlying9]
    cases a <;> simp [Conv.bytesToString, loadCells] <;> rfl
  · exact run_convert_bytes_arg w _ _ Try.underlying33 Try.underlying5 b off n cap zs h1 hc _ Try.underlying9
theorem i64_wf {x : Int} (h0 : -9223372036854775808 ≤ x) (h1 : x ≤ 9223372036854775807) : (Lit.int .i64 x).wf = true := by
  simp [Lit.wf, IntKind.min, IntKind.max, IntKind.signed, IntKind.bits]
  omega
theorem fits_wf {zs : List Int} (h : Bytes8 zs) : ∀ z ∈ zs, (Lit.int .u8 z).wf = true := fun z hz => wf_of_u8 (h z hz).1 (h z hz).2
theorem mine_string {w : World} {base n cap : Nat} {a : Option Addr} {zs : List Int} (h : Mine w base a n cap zs) (hn : n ≤ 281474976710656) (hz : Bytes8 zs) :
    (convert 33 9 (.slice a n cap)).run Try.prog w = .ok (.string (strOfNums zs)) w := row_string (h.row hn (fits_wf hz))
theorem Own.row8 {e : TypeId} {w : World} {base n cap : Nat} {a : Option Addr} {zs : List Int} (h : Own e .u8 w base a n cap zs) (hn : n ≤ 281474976710656) (hz : Bytes8 zs) : Row .u8 w a n zs := h.row hn (fits_wf hz)
end Go.Proofs.Ytnhjjdgdffjdcaa
