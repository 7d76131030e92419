/-
  What the laws ask of the index holds of this code.
  Conditions: none.
-/
import Derived.Test.YtpffhpnmbpjifaaGreatIdxDf
import Derived.Test.YtpffhpnmbpjifaaGreatIdxDy
import Derived.Test.YtpffhpnmbpjifaaGreatIdxDj
import Derived.Test.YtpffhpnmbpjifaaGreatIdxDo
namespace Go.Proofs.YtpffhpnmbpjifaaGreat
open Go.RowKit
set_option maxRecDepth 20000

theorem ixI : IxI IAt where
  lt := fun h => h.lt
  keep := fun h k hn => h.keep k hn
  new := fun w => new_any w
  id := fun g S L a n c l w h _ _ hr _ hnc hap => id_any g S L a n c l w h hr hnc hap
  labels := fun g S L i w h hi => labelsX_any g S L i w h hi
  len := fun g S L w h => by
    obtain ⟨_, _, ax, cx, hs, bn, bp, nb, p, q, _, hB⟩ := h
    exact (len_any g S L L L ax cx hs bn bp nb p q w hB).mono fun e w' h => ⟨h.1, by rw [h.2]; exact Below.refl _ _⟩
  post := fun g S L nm v w h hnm hv => post_any g S L nm v w h hnm hv
theorem ixF : IxF IAt where
  find := fun g S L a n c l w h hr _ _ => (find_any g S L a n c l w h hr).mono fun e w' q => ⟨_, _, q.1, fun hc => by simp [hc], q.2⟩
theorem ixS : IxS IAt where
  sel := fun g S T L m h w hA hm => select_any g S T L m h w hA hm
end Go.Proofs.YtpffhpnmbpjifaaGreat
