/-
  What the laws of layer 14 ask of the index, one contract for each function (each is paid where the code is walked); the index beside the document's; what follows.
  Conditions: as each theorem says.
-/
import Derived.Test.YtpffhpnmbpjifaaGreatIdxY
import Derived.Test.YtpffhpnmbpjifaaGreatMatM
import Derived.Test.YtpffhpnmbpjifaaGreatVintZa
namespace Go.Proofs.YtpffhpnmbpjifaaGreat
open Go.RowKit
set_option maxRecDepth 20000

/-- A row of values with their counts. -/
def flatV (l : List Vn) : List Value := l.flatMap fun x => [.string x.1, .int .i64 (x.2 : Int)]
def OwnV (w : World) (base : Nat) (a : Option Addr) (n cap : Nat) (l : List Vn) : Prop := w.ownsRow base 173 2 (.slice a n cap) n (flatV l)
/-- What Labels tells. -/
def LabP (x : Option (List Lb)) (w : World) (e : Ending) (w' : World) : Prop := Below w.heap.size w w' ∧ match x with
  | none => ∃ a c, e = .returned (.tuple #[.slice a 0 c, .bool false])
  | some l => ∃ a c, e = .returned (.tuple #[.slice a l.length c, .bool true]) ∧ OwnL w' w.heap.size a l.length c l
/-- The set of a number. -/
def atX (L : Lx) (i : Int) : Option (List Lb) := if 0 ≤ i then L[i.toNat]? else none
/-- What Select tells. -/
def SelP (L : Lx) (m : Mt) (w : World) (e : Ending) (w' : World) : Prop := Below w.heap.size w w' ∧ if chkM m = true then ∃ a n c, e = .returned (.tuple #[.slice a n c, .int .i64 0]) ∧ MineI w' w.heap.size a n c (selX L m) else ∃ a c, e = .returned (.tuple #[.slice a 0 c, .int .i64 5]) ∧ (a = none → c = 0)
/-- What is asked of the layer. -/
structure IxI (At : World → Nat → (Nat → Prop) → Lx → Prop) : Prop where
  lt : ∀ {w : World} {g : Nat} {S : Nat → Prop} {L : Lx}, At w g S L → ∀ k, S k → k < w.heap.size
  keep : ∀ {w w' : World} {g : Nat} {S T : Nat → Prop} {L : Lx}, At w g S L → Ch T w w' → (∀ k, S k → ¬ T k) → At w' g S L
  new : ∀ w, Calls Tryz.prog 15 #[] w fun e w' => ∃ g, e = .returned (.pointer (some ⟨g, 0, none⟩)) ∧ MadeX At w w' g []
  id : ∀ (g : Nat) (S : Nat → Prop) (L : Lx) (a : Option Addr) (n c : Nat) (l : List Lb) (w : World), At w g S L → GoodX L → L.length ≤ 4096 → RowL w a n l → n ≤ c → (a = none → c = 0) → (∀ b off, a = some ⟨b, off, none⟩ → n ≠ 0 → ¬ S b) →
    Calls Tryz.prog 17 #[.pointer (some ⟨g, 0, none⟩), .slice a n c] w fun e w' => e = .returned (.tuple #[.int .i64 (idN L l), .int .i64 (idE L l)]) ∧ StepX At w w' g S (idL L l)
  labels : ∀ (g : Nat) (S : Nat → Prop) (L : Lx) (i : Int) (w : World), At w g S L → (Lit.int .i64 i).wf = true →
    Calls Tryz.prog 13 #[.pointer (some ⟨g, 0, none⟩), .int .i64 i] w fun e w' => LabP (atX L i) w e w'
  len : ∀ (g : Nat) (S : Nat → Prop) (L : Lx) (w : World), At w g S L →
    Calls Tryz.prog 20 #[.pointer (some ⟨g, 0, none⟩)] w fun e w' => e = .returned (.int .i64 (L.length : Int)) ∧ Below w.heap.size w w'
  post : ∀ (g : Nat) (S : Nat → Prop) (L : Lx) (nm v : ByteArray) (w : World), At w g S L → nm.size ≤ 9223372036854775807 → v.size ≤ 9223372036854775807 →
    Calls Tryz.prog 22 #[.pointer (some ⟨g, 0, none⟩), .string nm, .string v] w fun e w' => ∃ a n c, e = .returned (.slice a n c) ∧ MineI w' w.heap.size a n c (postX L nm v) ∧ Below w.heap.size w w'
/-- And of Find, Select, Values (where the seat has them). -/
structure IxF (At : World → Nat → (Nat → Prop) → Lx → Prop) : Prop where
  find : ∀ (g : Nat) (S : Nat → Prop) (L : Lx) (a : Option Addr) (n c : Nat) (l : List Lb) (w : World), At w g S L → RowL w a n l → n ≤ c → (a = none → c = 0) →
    Calls Tryz.prog 31 #[.pointer (some ⟨g, 0, none⟩), .slice a n c] w fun e w' => ∃ (x : Int) (b : Bool), e = .returned (.tuple #[.int .i64 x, .bool b]) ∧ (chkL l = true → x = findN L l ∧ b = (findX L l).isSome) ∧ Below w.heap.size w w'
structure IxS (At : World → Nat → (Nat → Prop) → Lx → Prop) : Prop where
  sel : ∀ (g : Nat) (S T : Nat → Prop) (L : Lx) (m : Mt) (h : Hm) (w : World), At w g S L → SeeM T w m h →
    Calls Tryz.prog 8 #[.pointer (some ⟨g, 0, none⟩), .agg #[.int .i64 h.op, .string h.nm, .string h.vl, .slice h.va h.vn h.vc, .slice h.ka h.kn h.kc]] w fun e w' => SelP L m w e w'
section
variable {At : World → Nat → (Nat → Prop) → Lx → Prop} (I : IxI At)
include I
theorem IxI.below {w w' : World} {g : Nat} {S : Nat → Prop} {L : Lx} (h : At w g S L) (b : Below w.heap.size w w') : At w' g S L := I.keep h (Ch.of_below b) (fun _ _ q => q)
end
/-- The index and the document's, side by side, in memory from base on. -/
def TwoX (At : World → Nat → (Nat → Prop) → Lx → Prop) (base : Nat) (w : World) (g1 g2 : Nat) (L M : Lx) : Prop :=
  ∃ S1 S2, At w g1 S1 L ∧ XAt w g2 S2 M ∧ (∀ k, S1 k → base ≤ k) ∧ (∀ k, S2 k → base ≤ k) ∧ ∀ k, S1 k → ¬ S2 k
section
variable {At : World → Nat → (Nat → Prop) → Lx → Prop} (I : IxI At) {base : Nat} {w w' : World} {g1 g2 : Nat} {L M : Lx}
include I
theorem TwoX.keep {T : Nat → Prop} (h : TwoX At base w g1 g2 L M) (k : Ch T w w') (hn : ∀ j, T j → j < base) : TwoX At base w' g1 g2 L M := by
  obtain ⟨S1, S2, h1, h2, h3, h4, h5⟩ := h
  exact ⟨S1, S2, I.keep h1 k (fun j hj ht => by have := h3 j hj; have := hn j ht; omega), h2.keep k (fun j hj ht => by have := h4 j hj; have := hn j ht; omega), h3, h4, h5⟩
theorem TwoX.below (h : TwoX At base w g1 g2 L M) (b : Below w.heap.size w w') : TwoX At base w' g1 g2 L M := TwoX.keep I h (Ch.of_below b) (fun _ h => h.elim)
/-- Blocks that are neither's may turn. -/
theorem TwoX.apart {T : Nat → Prop} (h : TwoX At base w g1 g2 L M) {v : World} (b : Below w.heap.size w v) (k : Ch T v w') (hn : ∀ j, T j → w.heap.size ≤ j) : TwoX At base w' g1 g2 L M := by
  obtain ⟨S1, S2, h1, h2, h3, h4, h5⟩ := h
  exact ⟨S1, S2, I.keep (I.below h1 b) k (fun j hj ht => by have := I.lt h1 j hj; have := hn j ht; omega), (h2.below b).keep k (fun j hj ht => by have := h2.lt j hj; have := hn j ht; omega), h3, h4, h5⟩
theorem two_mid {v1 v2 : World} {S1 S2 : Nat → Prop} {L' : Lx} (t2 : XAt w g2 S2 M) (t5 : ∀ k, S1 k → ¬ S2 k) (b1 : Below w.heap.size w v1) (st1 : StepX At v1 v2 g1 S1 L') : XAt v2 g2 S2 M := by
  obtain ⟨S1', q1, q2, q3⟩ := st1
  have _ := I
  exact (t2.below b1).keep q3 (fun j hj ht => t5 j ht hj)
/-- A set laid in both, and the copy that was handed in written over. -/
theorem two_round {v1 v2 v3 v5 : World} {S1 S2 T : Nat → Prop} {L' M' : Lx} (t1 : At w g1 S1 L) (t2 : XAt w g2 S2 M) (t3 : ∀ k, S1 k → base ≤ k) (t4 : ∀ k, S2 k → base ≤ k) (t5 : ∀ k, S1 k → ¬ S2 k) (hb : base ≤ w.heap.size)
    (b1 : Below w.heap.size w v1) (st1 : StepX At v1 v2 g1 S1 L') (st2 : StepX XAt v2 v3 g2 S2 M') (k5 : Ch T v3 v5) (hT : ∀ k, T k → w.heap.size ≤ k ∧ k < v1.heap.size) : TwoX At base v5 g1 g2 L' M' ∧ Below base w v5 := by
  obtain ⟨S1', q1, q2, q3⟩ := st1
  obtain ⟨S2', r1, r2, r3⟩ := st2
  have hs1 := b1.size
  have hs2 := q3.size
  have hs3 := r3.size
  have l1 := fun k hk => I.lt t1 k hk
  have l2 := t2.lt
  have a3 : At v3 g1 S1' L' := I.keep q1 r3 (fun j hj ht => by
    rcases q2 j hj with e | e
    · exact t5 j e ht
    · have := l2 j ht
      omega)
  refine ⟨⟨S1', S2', I.keep a3 k5 (fun j hj ht => ?_), r1.keep k5 (fun j hj ht => ?_), fun k hk => ?_, fun k hk => ?_, fun k hk hk2 => ?_⟩, ?_⟩
  · have := hT j ht
    rcases q2 j hj with e | e
    · have := l1 j e
      omega
    · omega
  · have := hT j ht
    rcases r2 j hj with e | e
    · have := l2 j e
      omega
    · omega
  · rcases q2 k hk with e | e
    · exact t3 k e
    · omega
  · rcases r2 k hk with e | e
    · exact t4 k e
    · omega
  · rcases q2 k hk with e | e
    · rcases r2 k hk2 with e' | e'
      · exact t5 k e e'
      · have := l1 k e
        omega
    · rcases r2 k hk2 with e' | e'
      · have := l2 k e'
        omega
      · have := I.lt q1 k hk
        omega
  · refine (b1.mono hb).trans ((q3.below (by omega) (fun k hk ht => by have := t3 k ht; omega)).trans ((r3.below (by omega) (fun k hk ht => by have := t4 k ht; omega)).trans (k5.below (by omega) (fun k hk ht => by have := hT k ht; omega))))
end
end Go.Proofs.YtpffhpnmbpjifaaGreat
