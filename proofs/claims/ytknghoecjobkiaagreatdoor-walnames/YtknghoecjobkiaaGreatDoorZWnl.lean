/-
  A log in plain words, further: records laid one behind the other are found; the laws' own records; the document's example. No function is named. The document's example holds (awake of the laws of layer 17): a contract, for every world. What a law's shell hands on: the library's table of powers and its error variable, as the rows list them. P17.2 (the walk): any number's name, any name's number: as the document says, and back. The call returns true, and its arguments read as they did.
  Conditions: as each theorem says.
-/
import Derived.Test.YtknghoecjobkiaaGreatDoorZWnh
import Derived.Test.YtknghoecjobkiaaGreatDoorZWnk
import Derived.Test.YtknghoecjobkiaaGreatDoorZWnj
import Derived.Test.YtknghoecjobkiaaGreatDoorZWni
import Derived.Test.YtknghoecjobkiaaGreatDoorRows
import Derived.Lib.SmallJoins
import Derived.Lib.LaidTab
import Derived.Laws.IdiomArrays
import Derived.SizedLaws
import Derived.LaidMore
import Derived.Stop.LaidErr
import Derived.Test.YtknghoecjobkiaaGreatDoorZWnc
import Derived.Deep.CondSized
import Derived.ProofKit
import Derived.OpenShut
import Derived.ShutString
import Derived.ChangeOld
import Derived.ChangeArms
import Derived.Stop.Joined
import Derived.SevenTiedAt
namespace Go.Proofs.YtknghoecjobkiaaGreatDoor
open Go.RowKit
set_option maxRecDepth 20000
set_option linter.unusedVariables false

/-- Records laid one behind the other are found, in their order. -/
theorem recsF_laid {D : Bool} : ∀ (gs : List (List Int)) (rs : List Rc), GoodFr gs → gs.map (getRc D) = rs.map some → ∀ (xs ys : List Int) (f : Nat), gs.length < f → findS (xs ++ (laidS gs ++ ys)) ((xs.length + (laidS gs).length : Nat) : Int) = none →
    recsF D (xs ++ (laidS gs ++ ys)) f xs.length = some (rs, xs.length + (laidS gs).length)
  | [], rs, hg, hr, xs, ys, f, hf, hno => by
    obtain rfl : rs = [] := by simpa using hr.symm
    obtain ⟨f, rfl⟩ : ∃ k, f = k + 1 := ⟨f - 1, by simp at hf; omega⟩
    unfold recsF
    have e : (laidS ([] : List (List Int))).length = 0 := rfl
    rw [e, Nat.add_zero] at hno ⊢
    rw [hno]
  | s :: t, rs, hg, hr, xs, ys, f, hf, hno => by
    cases rs with
    | nil => simp at hr
    | cons r rt =>
      simp only [List.map_cons, List.cons.injEq] at hr
      obtain ⟨hr1, hr2⟩ := hr
      have hs := hg s (by simp)
      obtain ⟨f, rfl⟩ : ∃ k, f = k + 1 := ⟨f - 1, by simp at hf; omega⟩
      have e0 : xs ++ (laidS (s :: t) ++ ys) = xs ++ (frameS s ++ (laidS t ++ ys)) := by rw [laidS_cons, List.append_assoc]
      have h1 := findS_at hs.1 hs.2.1 xs (laidS t ++ ys)
      rw [e0] at hno ⊢
      unfold recsF
      rw [h1]
      dsimp only
      have e2 : ((xs ++ (frameS s ++ (laidS t ++ ys))).drop (xs.length + (putS (s.length : Int)).length + 4)).take s.length = s := by
        have e3 : xs ++ (frameS s ++ (laidS t ++ ys)) = (xs ++ putS (s.length : Int) ++ sumB s) ++ (s ++ (laidS t ++ ys)) := by
          unfold frameS
          simp only [List.append_assoc]
        have e4 : xs.length + (putS (s.length : Int)).length + 4 = (xs ++ putS (s.length : Int) ++ sumB s).length := by
          simp only [List.length_append, sumB_len]
        rw [e3, e4, List.drop_left, List.take_left]
      rw [e2, hr1]
      dsimp only
      have e5 : xs.length + (putS (s.length : Int)).length + 4 + s.length = (xs ++ frameS s).length := by
        rw [List.length_append, frameS_len]
        omega
      have e6 : xs ++ (frameS s ++ (laidS t ++ ys)) = (xs ++ frameS s) ++ (laidS t ++ ys) := by rw [List.append_assoc]
      have e7 : (xs ++ frameS s).length + (laidS t).length = xs.length + (laidS (s :: t)).length := by
        rw [laidS_cons, List.length_append, List.length_append]
        omega
      rw [e5, e6, recsF_laid t rt hg.tail hr2 (xs ++ frameS s) ys f (by simp at hf; omega) (by rw [← e6, e7]; exact hno), e7]
      rfl
theorem recsW_laid {D : Bool} {gs : List (List Int)} {rs : List Rc} (hg : GoodFr gs) (hr : gs.map (getRc D) = rs.map some) (ys : List Int) (hno : findS (laidS gs ++ ys) ((laidS gs).length : Int) = none) : recsW D (laidS gs ++ ys) = some (rs, (laidS gs).length) := by
  have h := recsF_laid gs rs hg hr [] ys ((laidS gs ++ ys).length + 1) (by have := laidS_long gs; rw [List.length_append]; omega) (by simpa using hno)
  simpa [recsW] using h
theorem recsW_all {D : Bool} {gs : List (List Int)} {rs : List Rc} (hg : GoodFr gs) (hr : gs.map (getRc D) = rs.map some) : recsW D (laidS gs) = some (rs, (laidS gs).length) := by
  have h := recsW_laid hg hr [] (by rw [List.append_nil]; exact findS_end _)
  rwa [List.append_nil] at h

/-! ### the laws' own records -/
def rcN (seq at' : Int) : Rc := ⟨seq, .write (setN at') at' (skN at')⟩
def bodyN (seq at' : Int) : List Int := putRc (rcN seq at')
def I64 (z : Int) : Prop := -9223372036854775808 ≤ z ∧ z ≤ 9223372036854775807
theorem okN {seq at' : Int} (hs : I64 seq) (ha : I64 at') : OkRc (rcN seq at') := by
  obtain ⟨_, c2, c3⟩ := chkL_parts (setN_chk at')
  refine ⟨hs, ⟨setN_chk at', c2, fun y hy => ⟨?_, (c3 y hy).2.2⟩⟩, ha, skN_ok at'⟩
  have e1 := (c3 y hy).1
  unfold nameB at e1
  simp only [Bool.and_eq_true, decide_eq_true_eq] at e1
  omega
theorem backN' {seq at' : Int} (hs : I64 seq) (ha : I64 at') : getRc false (bodyN seq at') = some (rcN seq at') := getRc_back (okN hs ha)
theorem bodyN_fit {seq at' : Int} (hs : I64 seq) (ha : I64 at') : 1 ≤ (bodyN seq at').length ∧ (bodyN seq at').length ≤ 101000 ∧ Bytes8 (bodyN seq at') := by
  have h0 := putS_len (zig seq)
  have h1 := putS_len 1
  have h2 := putL_fit (smL_of (setN_chk at'))
  have h3 := putS_len (zig at')
  have h4 := putP_len (skN_ok at')
  have e : bodyN seq at' = putS (zig seq) ++ (putS 1 ++ (putL (setN at') ++ (putS (zig at') ++ putP (skN at')))) := rfl
  rw [e]
  refine ⟨by simp only [List.length_append]; omega, by simp only [List.length_append]; omega, ?_⟩
  exact Bytes8.append (putS_byte (zig_word hs.1 hs.2)) (Bytes8.append (putS_byte w64_sm) (Bytes8.append h2.2.2 (Bytes8.append (putS_byte (zig_word ha.1 ha.2)) (putP_byte (skN_ok at')))))

/-! ### the document's example -/
def exW1 : Fs := { fs0 with files := [⟨[], []⟩], sure := [⟨nmW 1, 0⟩], n := 3 }
def exW2 (b : List Int) : Fs := { fs0 with files := [⟨b, []⟩], sure := [⟨nmW 1, 0⟩], n := 5 }
theorem exW_ready : readyG fs0 ⟨1, 1, -1, false⟩ = (exW1, 0, ⟨1, 1, -1, true⟩) := by kernel_rfl
theorem exW_room : roomW exW1 1 = (exW1, 0, 1) := by kernel_rfl
theorem exW_append {b : List Int} (hb : b.length ≤ 1073741824) : appendF exW1 (nmW 1) b = ({ exW1 with files := [⟨[], moreU b⟩], n := 4 }, 0) := by
  have e1 : callF exW1 = ({ exW1 with n := 4 }, none) := by kernel_rfl
  have e2 : mayN (nmW 1) = true := by kernel_rfl
  have e3 : fileF { exW1 with n := 4 } (nmW 1) = some 0 := by kernel_rfl
  unfold appendF
  rw [e1]
  dsimp only
  rw [if_neg (by rw [e2]; decide), e3]
  dsimp only
  have e4 : (bytF (atF { exW1 with n := 4 } 0)).length = 0 := by kernel_rfl
  rw [e4, if_neg (by omega)]
  rfl
theorem exW_sync (b : List Int) : syncF { exW1 with files := [⟨[], moreU b⟩], n := 4 } (nmW 1) = (exW2 b, 0) := by
  have e1 : callF { exW1 with files := [⟨[], moreU b⟩], n := 4 } = ({ exW1 with files := [⟨[], moreU b⟩], n := 5 }, none) := by kernel_rfl
  have e2 : mayN (nmW 1) = true := by kernel_rfl
  have e3 : fileF { exW1 with files := [⟨[], moreU b⟩], n := 5 } (nmW 1) = some 0 := by kernel_rfl
  unfold syncF
  rw [e1]
  dsimp only
  rw [if_neg (by rw [e2]; decide), e3]
  dsimp only
  have e4 : bytF (atF { exW1 with files := [⟨[], moreU b⟩], n := 5 } 0) = b := by
    show unsB [] (moreU b) = b
    rw [unsB_more]
    rfl
  rw [e4]
  rfl
theorem exW_more {b : List Int} (h1 : b.length ≤ 1048576) : appendW exW1 1 b = (exW2 (frameS b), 0, 1) := by
  have hf : (frameS b).length ≤ 1073741824 := by have := (frameS_long b).2; omega
  unfold appendW
  rw [exW_room]
  dsimp only
  rw [if_pos rfl, if_neg (by omega), exW_append hf]
  dsimp only
  rw [if_pos rfl, exW_sync]
theorem exW_read (b : List Int) : readF (exW2 b) (nmW 1) = some b := by kernel_rfl
theorem exW_read2 (b : List Int) : readF (exW2 b) (nmW 2) = none := by kernel_rfl
theorem exW_read0 (s : ByteArray) : readF fs0 s = none := by
  have e : dirF fs0 = [] := by kernel_rfl
  unfold readF fileF
  rw [e]
  rfl
theorem exW_lim1 : LimB 3 exW1 := ⟨by decide, by decide, fun x hx => by
  obtain rfl := List.mem_singleton.1 hx
  decide, by decide⟩
theorem exW_lim2 {b : List Int} (h : b.length ≤ 200000) : LimB 200005 (exW2 b) := ⟨by show 1 ≤ 200005; decide, by show 1 + 0 ≤ 200005; decide, fun x hx => by
  obtain rfl := List.mem_singleton.1 hx
  show b.length + 0 ≤ 200005
  omega, by show (0 : Int) ≤ 5 ∧ (5 : Int) ≤ (200005 : Nat); decide⟩
end Go.Proofs.YtknghoecjobkiaaGreatDoor

namespace Go.Proofs.YtknghoecjobkiaaGreatDoor
open Go.RowKit Go.Maps
set_option maxRecDepth 20000
set_option linter.unusedVariables false

theorem onOpen_ok {base : Nat} {w u u' : World} {g : Nat} {F : Fs} {frm : Int} {e : Ending} {s : Ow} (h : OnOpen base w g F frm u e u') (h0 : ¬ nmW frm = ByteArray.empty) (ho : openW false F frm = some s) :
    ∃ q a c, e = .returned (.tuple #[.pointer (some ⟨q, 0, none⟩), .slice a s.recs.length c, .int .i64 0]) ∧ OnG base w u' g q F ⟨s.last, s.last, s.cut, false⟩ ∧ RecsAt u' u.heap.size a s.recs.length c s.recs := by
  unfold OnOpen at h
  rw [if_neg h0, ho] at h
  exact h
theorem RecsAt.cell {w : World} {base n c i : Nat} {a : Option Addr} {rs : List Rc} {r : Rc} (h : RecsAt w base a n c rs) (hi : rs[i]? = some r) :
    ∃ g, a = some ⟨g, 0, none⟩ ∧ i < n ∧ n ≤ c ∧ w.cell? ⟨g, i * 18, none⟩ = some (.int .i64 (ofRc r).seq) ∧ w.cell? ⟨g, i * 18 + 1, none⟩ = some (.int .i64 (ofRc r).kind) ∧ w.cell? ⟨g, i * 18 + 3, none⟩ = some (.int .i64 (ofRc r).at9) := by
  obtain ⟨l, h1, _, h3, _⟩ := h
  have e := congrArg (fun l => l[i]?) h3
  simp only [List.getElem?_map, hi, Option.map_some] at e
  cases hl : l[i]? with
  | none => rw [hl] at e; cases e
  | some p =>
    rw [hl] at e
    have e2 : p.1 = ofRc r := by simpa using e
    obtain ⟨g, q1, q2, q3, q4⟩ := OwnG.at recV_len (by decide) h1 hl
    rw [← e2]
    exact ⟨g, q1, q2, q3, q4 0 _ rfl, q4 1 _ rfl, q4 3 _ rfl⟩
theorem few_until {F : Fs} {frm : Int} (k : Nat) (hk : k ≤ 4096) (h : readF F (nmW (frm + k)) = none) : FewF F frm := fun j hj => by
  by_cases e : k < j
  · have := hj k e
    rw [h] at this
    cases this
  · omega
theorem nm1_ne : ¬ nmW 1 = ByteArray.empty := by
  rw [nmW_empty]
  omega
theorem exW_open0 : openW false fs0 1 = some (ow0 1) := goW_none (exW_read0 _) _
theorem exW_open2 {body : List Int} {r : Rc} (h1 : 1 ≤ body.length) (h2 : body.length ≤ 1048576) (hb : Bytes8 body) (hr : getRc false body = some r) : openW false (exW2 (frameS body)) 1 = some ⟨[r], -1, 1, true⟩ := by
  have e0 : laidS [body] = frameS body := by simp [laidS]
  have hw : recsW false (frameS body) = some ([r], (frameS body).length) := by
    have := recsW_all (D := false) (gs := [body]) (rs := [r]) (fun s hs => by obtain rfl := List.mem_singleton.1 hs; exact ⟨h1, h2, hb⟩) (by simp [hr])
    rwa [e0] at this
  unfold openW
  rw [goW_more (by omega) (by omega) (exW_read _)]
  have hst : stepW false (ow0 1) 1 (frameS body) = some ⟨[r], -1, 1, true⟩ := by
    unfold stepW
    rw [hw]
    dsimp only
    rw [if_pos (show (ow0 1).cut = -1 from rfl), if_neg (Nat.lt_irrefl _)]
    rfl
  rw [hst]
  exact goW_none (exW_read2 _) _

/-- The frame of a body that GetRec answers of: a walk over it comes by that body alone. -/
theorem reach_frame {b : List Int} (h1 : 1 ≤ b.length) (h2 : b.length ≤ 1048576) : ∀ {k : Nat}, ReachF (frameS b) k → k = 0 ∨ k = (frameS b).length := by
  intro k h
  induction h with
  | zero => exact Or.inl rfl
  | @next k st v h f ih =>
    have e0 := findS_at h1 h2 [] []
    simp only [List.nil_append, List.append_nil, List.length_nil, Nat.zero_add] at e0
    rcases ih with rfl | rfl
    · have e1 := f.symm.trans e0
      simp only [Option.some.injEq, Prod.mk.injEq] at e1
      refine Or.inr ?_
      rw [frameS_len]
      omega
    · rw [findS_end] at f
      cases f
theorem grF_frame {b : List Int} (h1 : 1 ≤ b.length) (h2 : b.length ≤ 1048576) (hT : GrT b) : GrF (frameS b) := by
  intro k st v hk f
  have e0 := findS_at h1 h2 [] []
  simp only [List.nil_append, List.append_nil, List.length_nil, Nat.zero_add] at e0
  rcases reach_frame h1 h2 hk with rfl | rfl
  · have e1 := f.symm.trans e0
    simp only [Option.some.injEq, Prod.mk.injEq] at e1
    obtain ⟨rfl, rfl⟩ := e1
    have e2 : ((frameS b).drop ((putS (b.length : Int)).length + 4)).take b.length = b := by
      have e3 : frameS b = (putS (b.length : Int) ++ sumB b) ++ b := by unfold frameS; simp only [List.append_assoc]
      have e4 : (putS (b.length : Int)).length + 4 = (putS (b.length : Int) ++ sumB b).length := by simp only [List.length_append, sumB_len]
      rw [e3, e4, List.drop_left, List.take_length]
    rw [e2]
    exact hT
  · rw [findS_end] at f
    cases f
theorem exW_file {b bs : List Int} {s : ByteArray} (h : readF (exW2 b) s = some bs) : bs = b := by
  have e : dirF (exW2 b) = [⟨nmW 1, 0⟩] := by kernel_rfl
  unfold readF fileF at h
  rw [e] at h
  cases hf : fileD [(⟨nmW 1, 0⟩ : Dn)] s with
  | none => rw [hf] at h; cases h
  | some k =>
    have hk : k = 0 := by
      unfold fileD at hf
      cases hj : findD [(⟨nmW 1, 0⟩ : Dn)] s with
      | none => rw [hj] at hf; cases hf
      | some j =>
        rw [hj] at hf
        cases j with
        | zero => exact (Option.some.inj hf).symm
        | succ j => cases hf
    rw [hf, hk] at h
    exact (Option.some.inj h).symm

set_option maxHeartbeats 16000000 in
theorem awakeW_any (w : World) (hT : TbP w) : Calls Tryz.prog 18 #[] w fun e w' => e = .returned (.bool true) ∧ Below w.heap.size w w' := by
  have HT := hide hT
  have BF := hide (bodyN_fit (seq := 1) (at' := 5) (by unfold I64; omega) (by unfold I64; omega))
  have BK := hide (backN' (seq := 1) (at' := 5) (by unfold I64; omega) (by unfold I64; omega))
  have LF : Hid ((frameS (bodyN 1 5)).length ≤ 200000) := by have := (frameS_long (bodyN 1 5)).2; have := BF.out.2.1; show _ ≤ _; omega
  have GF : Hid (∀ (n : Int) (bs : List Int), readF (exW2 (frameS (bodyN 1 5))) (nmW n) = some bs → GrF bs) := fun n bs h => by
    rw [exW_file h]
    exact grF_frame BF.out.1 (by have := BF.out.2.1; omega) (getRec_one BK.out)
  clear hT
  go_enter Tryz.func18, Tryz.ntmps18
  go_wp2_with fail
  with_reducible refine (lnew_any _).mono ?_
  rintro e u0 ⟨g, rfl, hm⟩
  have O0 := hide (on_open_of (onL_made hm) (fun n bs h => by rw [exW_read0] at h; cases h) HT.out (Nat.le_refl _) limB0 (by omega) 1 (by decide) (few_until 0 (by omega) (exW_read0 _)))
  clear hm
  go_wp2_with fail
  with_reducible refine O0.out.mono ?_
  rintro e u1 h1
  obtain ⟨q, a1, c1, rfl, hG1, hR1⟩ := onOpen_ok h1 nm1_ne exW_open0
  have R1 := hide (ong_ready hG1 limB0 (by omega))
  rw [show readyG fs0 ⟨(ow0 1).last, (ow0 1).last, (ow0 1).cut, false⟩ = (exW1, 0, ⟨1, 1, -1, true⟩) from exW_ready] at R1
  dsimp only [ow0, List.length_nil]
  clear h1 hG1 hR1 O0
  go_wp2_with fail
  with_reducible refine R1.out.mono ?_
  rintro e u2 ⟨rfl, hG2⟩
  have RC := hide (rec_any 1 5 (by decide) (by decide) u2)
  have G2 := hide hG2
  clear hG2 R1
  go_wp2_with fail
  with_reducible refine RC.out.mono ?_
  rintro e u3 ⟨hh, rfl, s3, b3⟩
  have A3 := hide (ong_append_of G2.out b3 exW_lim1 (by omega) s3 (fun k hk => Or.inr hk) (puts_one s3 rfl (setN_chk 5) (skN_ok 5).chk))
  rw [show appendW exW1 (Lg.mk 1 1 (-1) true).last (putRc (rcX (recN 1 5))) = (exW2 (frameS (bodyN 1 5)), 0, 1) from exW_more (b := bodyN 1 5) (by have := BF.out.2.1; omega)] at A3
  clear s3 b3 G2 RC
  go_wp2_with fail
  with_reducible refine A3.out.mono ?_
  rintro e u4 ⟨rfl, hG4⟩
  have O4 := hide (on_open_of hG4.fs GF.out HT.out (Nat.le_refl _) ((exW_lim2 LF.out)) (by omega) 1 (by decide) (few_until 1 (by omega) (exW_read2 _)))
  clear hG4 A3
  go_wp2_with fail
  with_reducible refine O4.out.mono ?_
  rintro e u5 h5
  obtain ⟨q5, a5, c5, rfl, hG5, hR5⟩ := onOpen_ok h5 nm1_ne (exW_open2 BF.out.1 (by have := BF.out.2.1; omega) BF.out.2.2 BK.out)
  obtain ⟨g5, e5, l5, l6, d0, _, d3⟩ := hR5.cell (i := 0) rfl
  have N5 := hide (wname_any 7 u5 (by decide) hG5.tab)
  rw [show nmW 7 = ⟨#[108, 111, 103, 45, 48, 48, 48, 48, 48, 48, 48, 55]⟩ by kernel_rfl] at N5
  have B5 := hide hG5.bel
  clear h5 hG5 hR5 O4
  subst e5
  dsimp only [List.length_cons, List.length_nil]
  go_wp2_with fail
  with_reducible refine N5.out.mono ?_
  rintro e u6 ⟨rfl, b6⟩
  have B6 : Hid (Below w.heap.size w u6) := B5.out.trans (b6.mono B5.out.size)
  clear b6 N5 B5
  go_wp2
  go_ret
  exact ⟨rfl, B6.out⟩
end Go.Proofs.YtknghoecjobkiaaGreatDoor

namespace Go.Proofs.YtknghoecjobkiaaGreatDoor
open Go.RowKit Go.ChangeShapes Go.WideShapes Go.Joins
set_option maxRecDepth 20000

def laidW5 : List (String × DataW Unit) := [("math/bits.deBruijn32tab", Rows.laid_math_bits_deBruijn32tab), ("math/bits.deBruijn64tab", Rows.laid_math_bits_deBruijn64tab), ("internal/strconv.uint64pow10", Rows.laid_internal_strconv_uint64pow10), ("strconv.ErrRange", Rows.laid_strconv_ErrRange), ("strconv.ErrSyntax", Rows.laid_strconv_ErrSyntax)]
theorem tPow : (Tryz.prog.globals[2]?).map (·.type) = some 368 := by kernel_rfl
theorem wU64_cells : Tryz.prog.cellsOf 25 = 1 := by kernel_rfl
theorem pow_cells : Tryz.prog.cellsOf 368 = 20 := by kernel_rfl
theorem tab_laid {r : List (String × DataW Unit)} {W : World} (h : laidMet Tryz.prog (("internal/strconv.uint64pow10", Rows.laid_internal_strconv_uint64pow10) :: r) W) : TbP W :=
  Lib.tabIs_of_head gPow tPow Tryz.underlying368 Tryz.underlying25 wU64_cells pow_cells h
theorem gErr : Tryz.prog.globalNamed "strconv.ErrSyntax" = some 0 := by kernel_rfl
theorem tErr : (Tryz.prog.globals[0]?).map (·.type) = some 131 := by kernel_rfl
theorem err_cells : Tryz.prog.cellsOf 373 = 1 := by kernel_rfl
theorem str_cells : Tryz.prog.cellsOf 9 = 1 := by kernel_rfl
theorem err_star : "*" ++ "errors.errorString" = "*errors.errorString" := by decide
theorem row_err (u : TypeId) (h : Tryz.prog.typeName? 3 u = some "*errors.errorString") : u = 371 :=
  typeName_ptr_named (nm := "errors.errorString") (by rw [err_star]; kernel_rfl) (by kernel_rfl) (by decide) u (by rw [err_star]; exact h)
theorem doorW5_met (os : Os) (args : Array Value) : laidMetH Tryz.prog laidW5 ((World.doorLaid Tryz.prog 400 os).forCall (fun _ _ => 0) ⟨#[], args, []⟩).memory :=
  laidMetH_of_parts3 (fuel := 8) (laidMet_of_run' 8 (by kernel_rfl) (by kernel_rfl)) (by kernel_rfl) (by kernel_rfl)
theorem tab_of5 {W : World} (h : laidMetH Tryz.prog laidW5 W) : TbP W ∧ ErP W := by
  rw [MakeChecks.laidMetH_plain _ _ _ (by kernel_rfl)] at h
  obtain ⟨a, s, hv, _⟩ := laid_sentinel h.tail.tail.tail.tail gErr tErr Tryz.underlying131 row_err Tryz.underlying371 Tryz.underlying373 rfl rfl Tryz.underlying9 err_cells str_cells
  exact ⟨tab_laid h.tail.tail, _, _, hv⟩
end Go.Proofs.YtknghoecjobkiaaGreatDoor

namespace Go.Proofs.YtknghoecjobkiaaGreatDoor
open Go.RowKit
set_option maxRecDepth 20000
theorem numW_name {n : Int} (h : 0 ≤ n ∧ n ≤ 99999999) : numW (nmW n) = some n.toNat := by
  rw [nmW_of h.1 h.2]
  exact numW_iff.2 ⟨by omega, rfl⟩
theorem numW_none : numW ByteArray.empty = none := by kernel_rfl

set_option maxHeartbeats 4000000 in
theorem walNames_walk (n : Int) (s : ByteArray) (w : World) (tb : TbP w ∧ ErP w) (hn : (Lit.int .i64 n).wf = true) (hs : s.size ≤ 140737488351232) :
    Calls Tryz.prog 4 #[.int .i64 n, .string s] w fun e w' => e = .returned (.bool true) ∧ Below w.heap.size w w' := by
  have N1 := hide (wname_any n w hn tb.1)
  have hs2 : s.size ≤ 9223372036854775807 := by omega
  have N2 := hide (fun v (b : Below w.heap.size w v) => wnumber_any s v hs2 (tb.1.bel b) (tb.2.to b (Nat.le_refl _)))
  have N3 := hide (fun v => refnumber_any s v hs2)
  have N4 := hide (fun v => refnumbered_any n v hn)
  have SZ := nmW_size n
  have N5 := hide (fun v (b : Below w.heap.size w v) => wnumber_any (nmW n) v (by omega) (tb.1.bel b) (tb.2.to b (Nat.le_refl _)))
  have AW := hide (fun v (b : Below w.heap.size w v) => awakeW_any v (tb.1.bel b))
  obtain ⟨k1, hk1⟩ : ∃ k1 : Int, ((numW s).getD 0 : Nat) = k1 := ⟨_, rfl⟩
  rw [hk1] at N2 N3
  generalize (numW s).isSome = b1 at N2 N3
  have XX : ((0 ≤ n ∧ n ≤ 99999999) ∧ Hid (numW (nmW n) = some n.toNat) ∧ ((nmW n).toList == []) = false) ∨ (Hid (numW (nmW n) = none) ∧ ((nmW n).toList == []) = true) := by
    by_cases h : 0 ≤ n ∧ n ≤ 99999999
    · refine Or.inl ⟨h, numW_name h, ?_⟩
      rw [beq_eq_false_iff_ne]
      intro e
      exact (mt nmW_empty.1 (fun f => f h)) (ba_ext (by rw [e, ByteArray.toList_eq]; rfl))
    · have e := nmW_no h
      exact Or.inr ⟨by rw [e]; exact numW_none, by rw [e]; kernel_rfl⟩
  have tb0 := tb
  clear tb hk1 hs2
  rcases XX with ⟨⟨h0, h1⟩, HN, hne⟩ | ⟨HN, hne⟩
  · rw [HN.out] at N5
    obtain ⟨m, rfl⟩ := Int.eq_ofNat_of_zero_le h0
    simp only [Option.getD_some, Option.isSome_some, Int.toNat_natCast] at N5
    clear HN
    generalize nmW (m : Int) = t at *
    go_enter Tryz.func4, Tryz.ntmps4
    go_wp2_with fail
    with_reducible refine N1.out.mono ?_
    rintro e v1 ⟨rfl, b1'⟩
    have B1 := hide b1'
    have C2 := hide (N2.out _ B1.out)
    clear b1' N1 N2
    go_wp2_with fail
    with_reducible refine C2.out.mono ?_
    rintro e v2 ⟨rfl, b2'⟩
    have B2 := hide (bel_to B1.out (Nat.le_refl _) b2')
    have C3 := hide (N3.out v2)
    clear b2' C2 N3 B1
    go_wp2_with fail
    with_reducible refine C3.out.mono ?_
    rintro e v3 ⟨rfl, hv⟩
    obtain rfl := hv.symm
    have C4 := hide (N4.out v2)
    clear C3 N4
    go_wp2_with fail
    with_reducible refine C4.out.mono ?_
    rintro e v4 ⟨rfl, hv⟩
    obtain rfl := hv.symm
    have C5 := hide (N5.out _ B2.out)
    clear C4 N5
    go_wp2_with fail
    with_reducible refine C5.out.mono ?_
    rintro e v5 ⟨rfl, b5'⟩
    have B5 := hide (bel_to B2.out (Nat.le_refl _) b5')
    have C6 := hide (AW.out _ B5.out)
    clear b5' C5 AW
    go_wp2_with fail
    with_reducible refine C6.out.mono ?_
    rintro e v6 ⟨rfl, b6'⟩
    have B6 := hide (bel_to B5.out (Nat.le_refl _) b6')
    clear b6' C6
    go_wp2
    go_ret
    exact ⟨rfl, B6.out⟩
  · rw [HN.out] at N5
    simp only [Option.getD_none, Option.isSome_none] at N5
    clear HN
    generalize nmW n = t at *
    go_enter Tryz.func4, Tryz.ntmps4
    go_wp2_with fail
    with_reducible refine N1.out.mono ?_
    rintro e v1 ⟨rfl, b1'⟩
    have B1 := hide b1'
    have C2 := hide (N2.out _ B1.out)
    clear b1' N1 N2
    go_wp2_with fail
    with_reducible refine C2.out.mono ?_
    rintro e v2 ⟨rfl, b2'⟩
    have B2 := hide (bel_to B1.out (Nat.le_refl _) b2')
    have C3 := hide (N3.out v2)
    clear b2' C2 N3 B1
    go_wp2_with fail
    with_reducible refine C3.out.mono ?_
    rintro e v3 ⟨rfl, hv⟩
    obtain rfl := hv.symm
    have C4 := hide (N4.out v2)
    clear C3 N4
    go_wp2_with fail
    with_reducible refine C4.out.mono ?_
    rintro e v4 ⟨rfl, hv⟩
    obtain rfl := hv.symm
    have C5 := hide (N5.out _ B2.out)
    clear C4 N5
    go_wp2_with fail
    with_reducible refine C5.out.mono ?_
    rintro e v5 ⟨rfl, b5'⟩
    have B5 := hide (bel_to B2.out (Nat.le_refl _) b5')
    have C6 := hide (AW.out _ B5.out)
    clear b5' C5 AW
    go_wp2_with fail
    with_reducible refine C6.out.mono ?_
    rintro e v6 ⟨rfl, b6'⟩
    have B6 := hide (bel_to B5.out (Nat.le_refl _) b6')
    clear b6' C6
    go_wp2
    go_ret
    exact ⟨rfl, B6.out⟩
end Go.Proofs.YtknghoecjobkiaaGreatDoor
