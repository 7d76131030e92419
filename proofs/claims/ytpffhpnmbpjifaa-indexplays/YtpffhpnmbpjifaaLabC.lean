/-
  The laws LabelChecks and LabelCmps, over what the laws ask of the program's own functions on labels.
  Conditions: as LaN, LaC, LaV, LaP, LaM, LaT say.
-/
import Derived.Test.YtpffhpnmbpjifaaLabI
namespace Go.Proofs.Ytpffhpnmbpjifaa
open Go.RowKit
set_option maxRecDepth 20000

theorem quietB {P : Program} {f : Nat} {args : Array Value} {v : Value} {w : World} (h : Calls P f args w (fun e w' => e = .returned v ∧ ∃ q, w' = w.drewN q)) : Calls P f args w fun e w' => e = .returned v ∧ Below w.heap.size w w' :=
  h.mono fun e w' ⟨he, q, hq⟩ => ⟨he, by rw [hq]; exact bel_drewN (Below.refl _ _) q⟩
theorem quietC {P : Program} {f : Nat} {args : Array Value} {v : Value} {w : World} (h : Calls P f args w (fun e w' => e = .returned v ∧ w' = w)) : Calls P f args w fun e w' => e = .returned v ∧ Below w.heap.size w w' :=
  h.mono fun e w' ⟨he, hq⟩ => ⟨he, by rw [hq]; exact Below.refl _ _⟩
theorem bel_too {w v u : World} (h : Below w.heap.size w v) (g : Below v.heap.size v u) : Below w.heap.size w u := bel_to h (Nat.le_refl _) g

theorem cmpP_range (x y : Lb) : lexP cmpT cmpT x y = -1 ∨ lexP cmpT cmpT x y = 0 ∨ lexP cmpT cmpT x y = 1 := by
  unfold lexP
  split
  · exact cmpT_range _ _
  · exact cmpT_range _ _
theorem cmpL_range : ∀ (l r : List Lb), cmpL l r = -1 ∨ cmpL l r = 0 ∨ cmpL l r = 1
  | [], [] => Or.inr (Or.inl rfl)
  | [], _ :: _ => Or.inl rfl
  | _ :: _, [] => Or.inr (Or.inr rfl)
  | x :: a, y :: b => by
    show (if lexP cmpT cmpT x y = 0 then cmpL a b else lexP cmpT cmpT x y) = -1 ∨ (if lexP cmpT cmpT x y = 0 then cmpL a b else lexP cmpT cmpT x y) = 0 ∨ (if lexP cmpT cmpT x y = 0 then cmpL a b else lexP cmpT cmpT x y) = 1
    split
    · exact cmpL_range a b
    · exact cmpP_range x y

end Go.Proofs.Ytpffhpnmbpjifaa
