/-
  What the laws of layer 8 ask of the layer, one contract for each function (each is paid where the code is walked); what follows for a sketch that other calls pass by; the document's example.
  Conditions: as each theorem says.
-/
import Derived.Test.YtlhiikibbppodaaKmvD
import Derived.Test.YtlhiikibbppodaaChK
import Derived.Test.YtlhiikibbppodaaNumS
namespace Go.Proofs.Ytlhiikibbppodaa
open Go.RowKit

/-- A sketch's blocks and its list behind a call that may turn its blocks alone. -/
def StepK (At : World → Nat → (Nat → Prop) → List Int → Prop) (w w' : World) (g : Nat) (S : Nat → Prop) (l : List Int) : Prop :=
  ∃ S', At w' g S' l ∧ (∀ k, S' k → S k ∨ w.heap.size ≤ k) ∧ Ch S w w'
/-- A sketch that is made. -/
def MadeK (At : World → Nat → (Nat → Prop) → List Int → Prop) (w w' : World) (g : Nat) (l : List Int) : Prop :=
  ∃ S, At w' g S l ∧ (∀ k, S k → w.heap.size ≤ k) ∧ Below w.heap.size w w'

/-- What is asked of the layer. -/
structure KmvI (At : World → Nat → (Nat → Prop) → List Int → Prop) : Prop where
  lt : ∀ {w : World} {g : Nat} {S : Nat → Prop} {l : List Int}, At w g S l → ∀ k, S k → k < w.heap.size
  good : ∀ {w : World} {g : Nat} {S : Nat → Prop} {l : List Int}, At w g S l → Up l ∧ l.length ≤ 1024 ∧ ∀ x ∈ l, W64 x
  keep : ∀ {w w' : World} {g : Nat} {S T : Nat → Prop} {l : List Int}, At w g S l → Ch T w w' → (∀ k, S k → ¬ T k) → At w' g S l
  new : ∀ w, Calls Try.prog 26 #[] w fun e w' => ∃ g, e = .returned (.pointer (some ⟨g, 0, none⟩)) ∧ MadeK At w w' g []
  fromOk : ∀ (a : Option Addr) (n cap : Nat) (l : List Int) (w : World), Row .u64 w a n l → chkK l = true →
    Calls Try.prog 9 #[.slice a n cap] w fun e w' => ∃ g, e = .returned (.tuple #[.pointer (some ⟨g, 0, none⟩), .int .i64 0]) ∧ MadeK At w w' g l
  fromNo : ∀ (a : Option Addr) (n cap : Nat) (l : List Int) (w : World), Row .u64 w a n l → chkK l = false →
    Calls Try.prog 9 #[.slice a n cap] w fun e w' => e = .returned (.tuple #[.pointer none, .int .i64 5]) ∧ Below w.heap.size w w'
  hash : ∀ (g : Nat) (S : Nat → Prop) (l : List Int) (h : Int) (w : World), At w g S l → W64 h →
    Calls Try.prog 16 #[.pointer (some ⟨g, 0, none⟩), .int .u64 h] w fun e w' => e = .returned (.tuple #[]) ∧ StepK At w w' g S (hashK 1024 l h)
  add : ∀ (g : Nat) (S : Nat → Prop) (l : List Int) (s : ByteArray) (w : World), At w g S l → s.size ≤ 9223372036854775807 →
    Calls Try.prog 14 #[.pointer (some ⟨g, 0, none⟩), .string s] w fun e w' => e = .returned (.tuple #[]) ∧ StepK At w w' g S (hashK 1024 l (fnvOf (numsOf s)))
  hashes : ∀ (g : Nat) (S : Nat → Prop) (l : List Int) (w : World), At w g S l →
    Calls Try.prog 21 #[.pointer (some ⟨g, 0, none⟩)] w fun e w' => ∃ a c, e = .returned (.slice a l.length c) ∧ OwnU w' w.heap.size a l.length c l ∧ Below w.heap.size w w'
  distinct : ∀ (g : Nat) (S : Nat → Prop) (l : List Int) (w : World), At w g S l →
    Calls Try.prog 22 #[.pointer (some ⟨g, 0, none⟩)] w fun e w' => e = .returned (.int .u64 (distK l)) ∧ Below w.heap.size w w'

section
variable {At : World → Nat → (Nat → Prop) → List Int → Prop} (I : KmvI At)
include I
theorem KmvI.below {w w' : World} {g : Nat} {S : Nat → Prop} {l : List Int} (h : At w g S l) (b : Below w.heap.size w w') : At w' g S l := I.keep h (Ch.of_below b) (fun _ _ => id)
end
theorem StepK.low {At : World → Nat → (Nat → Prop) → List Int → Prop} {w w1 w2 : World} {g B : Nat} {S : Nat → Prop} {l : List Int} (h : StepK At w1 w2 g S l) (b : Below B w w1) (hB : B ≤ w.heap.size) (hS : ∀ k, S k → B ≤ k) :
    Below B w w2 ∧ ∃ S', At w2 g S' l ∧ ∀ k, S' k → B ≤ k := by
  obtain ⟨S', h1, h2, h3⟩ := h
  have hb := Nat.le_trans hB b.size
  refine ⟨b.trans (h3.below hb (fun k hk hs => by have := hS k hs; omega)), S', h1, fun k hk => ?_⟩
  rcases h2 k hk with h | h
  · exact hS k h
  · omega

/-- The laws' own copy of numbers in new memory. -/
theorem numsK_any (a : Option Addr) (n cap : Nat) (zs : List Int) (w : World) (hr : Row .u64 w a n zs) (hc : a = none → cap = 0) (hn : n * 8 ≤ 140737488355328) :
    Calls Try.prog 10 #[.slice a n cap] w fun e w' => ∃ a' cap', e = .returned (.slice a' n cap') ∧ OwnU w' w.heap.size a' n cap' zs ∧ Below w.heap.size w w' := by
  obtain ⟨i0, hi0⟩ := info_parts Try.infoU
  have HI := hide hi0
  have HR := hide hr
  clear hr hi0
  go_enter Try.func10, Try.ntmps10
  go_wp2_with (at_builtin; refine wpList_append_words _ rfl _ _ 22 rfl w.heap.size 31 i0 Try.underlying22 HI.out.1 HI.out.2.1 HI.out.2.2.1 HI.out.2.2.2 none 0 0 [] rfl (own_nil _ _ _ _) a n cap zs rfl HR.out hc (by omega) (Nat.le_refl _) ?_)
  intro a2 c2 w2 o2 b2
  try rw [Nat.zero_add] at o2
  try rw [List.nil_append] at o2
  try rw [Nat.zero_add]
  have O2 := hide o2
  have B2 := hide b2
  clear o2 b2
  go_wp2
  go_ret
  exact ⟨a2, c2, rfl, O2.out, B2.out⟩

theorem awake_h : hashK 1024 (hashK 1024 (hashK 1024 [] (fnvOf (numsOf ⟨#[97]⟩))) (fnvOf (numsOf ⟨#[97]⟩))) (fnvOf (numsOf ⟨#[98]⟩)) = [12638187200555641996, 12638190499090526629] := by decide +kernel
theorem awake_d : distK [12638187200555641996, 12638190499090526629] = 2 := by decide +kernel

set_option maxHeartbeats 1000000 in
theorem awakeK_any {At : World → Nat → (Nat → Prop) → List Int → Prop} (I : KmvI At) (w : World) : Calls Try.prog 12 #[] w fun e w' => e = .returned (.bool true) ∧ Below w.heap.size w w' := by
  have N := hide (I.new w)
  have HI := hide I
  clear I
  go_enter Try.func12, Try.ntmps12
  go_wp2_with fail
  refine N.out.mono ?_
  rintro e w1 ⟨g, rfl, S1, h1, s1, b1⟩
  have A1 := hide (HI.out.add g S1 _ ⟨#[97]⟩ w1 h1 (by decide))
  have HS1 := hide s1
  have B1 := hide b1
  clear h1 s1 b1 N
  go_wp2_with fail
  refine A1.out.mono ?_
  rintro e w2 ⟨rfl, st⟩
  obtain ⟨b2, S2, h2, s2⟩ := st.low B1.out (Nat.le_refl _) HS1.out
  have A2 := hide (HI.out.add g S2 _ ⟨#[97]⟩ w2 h2 (by decide))
  have HS2 := hide s2
  have B2 := hide b2
  clear h2 s2 b2 A1 B1 HS1 st
  go_wp2_with fail
  refine A2.out.mono ?_
  rintro e w3 ⟨rfl, st⟩
  obtain ⟨b3, S3, h3, s3⟩ := st.low B2.out (Nat.le_refl _) HS2.out
  have A3 := hide (HI.out.add g S3 _ ⟨#[98]⟩ w3 h3 (by decide))
  have HS3 := hide s3
  have B3 := hide b3
  clear h3 s3 b3 A2 B2 HS2 st
  go_wp2_with fail
  refine A3.out.mono ?_
  rintro e w4 ⟨rfl, st⟩
  obtain ⟨b4, S4, h4, s4⟩ := st.low B3.out (Nat.le_refl _) HS3.out
  rw [awake_h] at h4
  have D := hide (HI.out.distinct g S4 _ w4 h4)
  rw [awake_d] at D
  have H4 := hide h4
  have B4 := hide b4
  clear h4 s4 b4 A3 B3 HS3 st
  go_wp2_with fail
  refine D.out.mono ?_
  rintro e w5 ⟨rfl, b5⟩
  have HH := hide (HI.out.hashes g S4 _ w5 (HI.out.below H4.out b5))
  have B5 : Hid (Below w.heap.size w w5) := B4.out.trans (b5.mono B4.out.size)
  clear b5 D B4 H4
  go_wp2_with fail
  refine HH.out.mono ?_
  rintro e w6 ⟨a6, c6, rfl, -, b6⟩
  have B6 : Hid (Below w.heap.size w w6) := B5.out.trans (b6.mono B5.out.size)
  clear b6 HH B5
  go_wp2
  go_ret
  exact ⟨rfl, B6.out⟩
end Go.Proofs.Ytlhiikibbppodaa
