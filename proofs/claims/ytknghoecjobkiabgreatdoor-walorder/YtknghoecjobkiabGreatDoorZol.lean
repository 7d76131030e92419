/-
  A log in plain words, further: records laid one behind the other are found; the laws' own records; the document's example. No function is named. The document's example holds (awake of the laws of layer 17): a contract, for every world. A log in plain words, as the laws make it: files one behind the other, all of them certain; what a turn, an append, an opening make of it. No function is named. A log in plain words: a crash, wherever the power goes while a record is appended; made ready behind it. No function is named. A log that is found: opened, made ready, gone on with, and found again behind a crash: contracts, for every world. Records in their order, over files that are begun by hand: the law's log in plain words; opened beside the old log: contracts, for every world. P17.3, P17.4 (the walk): records come back in their order, over as many files as there are. The call returns true, and its arguments read as they did. What a law's shell hands on: the library's table of powers and its error variable, as the rows list them.
  Conditions: as each theorem says.
-/
import Derived.Test.YtknghoecjobkiabGreatDoorZoh
import Derived.Test.YtknghoecjobkiabGreatDoorZok
import Derived.Test.YtknghoecjobkiabGreatDoorZoj
import Derived.Deep.CutBlock
import Derived.Deep.CutRange
import Derived.Test.YtknghoecjobkiabGreatDoorZoi
import Derived.Test.YtknghoecjobkiabGreatDoorRows
import Derived.Lib.SmallJoins
import Derived.Lib.LaidTab
import Derived.Laws.IdiomArrays
import Derived.SizedLaws
import Derived.LaidMore
import Derived.Stop.LaidErr
namespace Go.Proofs.YtknghoecjobkiabGreatDoor
open Go.RowKit
set_option maxRecDepth 20000
set_option linter.unusedVariables false

/-- Records laid one behind the other are found, in their order. -/
theorem recsF_laid {D : Bool} : ∀ (gs : List (List Int)) (rs : List Rc), GoodFr gs → gs.map (getRc D) = rs.map some → ∀ (xs ys : List Int) (f : Nat), gs.length < f → findS (xs ++ (laidS gs ++ ys)) ((xs.length + (laidS gs).length : Nat) : Int) = none →
    recsF D (xs ++ (laidS gs ++ ys)) f xs.length = some (rs, xs.length + (laidS gs).length)
  | [], rs, hg, hr, xs, ys, f, hf, hno => by
    obtain rfl : rs = [] := by simpa using hr.symm
    obtain ⟨f, rfl⟩ : ∃ k, f = k + 1 := ⟨f - 1, by simp at hf; omega⟩
    unfold recsF
    have e : (laidS ([] : List (List Int))).length = 0 := rfl
    rw [e, Nat.add_zero] at hno ⊢
    rw [hno]
  | s :: t, rs, hg, hr, xs, ys, f, hf, hno => by
    cases rs with
    | nil => simp at hr
    | cons r rt =>
      simp only [List.map_cons, List.cons.injEq] at hr
      obtain ⟨hr1, hr2⟩ := hr
      have hs := hg s (by simp)
      obtain ⟨f, rfl⟩ : ∃ k, f = k + 1 := ⟨f - 1, by simp at hf; omega⟩
      have e0 : xs ++ (laidS (s :: t) ++ ys) = xs ++ (frameS s ++ (laidS t ++ ys)) := by rw [laidS_cons, List.append_assoc]
      have h1 := findS_at hs.1 hs.2.1 xs (laidS t ++ ys)
      rw [e0] at hno ⊢
      unfold recsF
      rw [h1]
      dsimp only
      have e2 : ((xs ++ (frameS s ++ (laidS t ++ ys))).drop (xs.length + (putS (s.length : Int)).length + 4)).take s.length = s := by
        have e3 : xs ++ (frameS s ++ (laidS t ++ ys)) = (xs ++ putS (s.length : Int) ++ sumB s) ++ (s ++ (laidS t ++ ys)) := by
          unfold frameS
          simp only [List.append_assoc]
        have e4 : xs.length + (putS (s.length : Int)).length + 4 = (xs ++ putS (s.length : Int) ++ sumB s).length := by
          simp only [List.length_append, sumB_len]
        rw [e3, e4, List.drop_left, List.take_left]
      rw [e2, hr1]
      dsimp only
      have e5 : xs.length + (putS (s.length : Int)).length + 4 + s.length = (xs ++ frameS s).length := by
        rw [List.length_append, frameS_len]
        omega
      have e6 : xs ++ (frameS s ++ (laidS t ++ ys)) = (xs ++ frameS s) ++ (laidS t ++ ys) := by rw [List.append_assoc]
      have e7 : (xs ++ frameS s).length + (laidS t).length = xs.length + (laidS (s :: t)).length := by
        rw [laidS_cons, List.length_append, List.length_append]
        omega
      rw [e5, e6, recsF_laid t rt hg.tail hr2 (xs ++ frameS s) ys f (by simp at hf; omega) (by rw [← e6, e7]; exact hno), e7]
      rfl
theorem recsW_laid {D : Bool} {gs : List (List Int)} {rs : List Rc} (hg : GoodFr gs) (hr : gs.map (getRc D) = rs.map some) (ys : List Int) (hno : findS (laidS gs ++ ys) ((laidS gs).length : Int) = none) : recsW D (laidS gs ++ ys) = some (rs, (laidS gs).length) := by
  have h := recsF_laid gs rs hg hr [] ys ((laidS gs ++ ys).length + 1) (by have := laidS_long gs; rw [List.length_append]; omega) (by simpa using hno)
  simpa [recsW] using h
theorem recsW_all {D : Bool} {gs : List (List Int)} {rs : List Rc} (hg : GoodFr gs) (hr : gs.map (getRc D) = rs.map some) : recsW D (laidS gs) = some (rs, (laidS gs).length) := by
  have h := recsW_laid hg hr [] (by rw [List.append_nil]; exact findS_end _)
  rwa [List.append_nil] at h

/-! ### the laws' own records -/
def rcN (seq at' : Int) : Rc := ⟨seq, .write (setN at') at' (skN at')⟩
theorem rcX_recN (seq at' : Int) : rcX (recN seq at') = rcN seq at' := rfl
def bodyN (seq at' : Int) : List Int := putRc (rcN seq at')
def I64 (z : Int) : Prop := -9223372036854775808 ≤ z ∧ z ≤ 9223372036854775807
theorem okN {seq at' : Int} (hs : I64 seq) (ha : I64 at') : OkRc (rcN seq at') := by
  obtain ⟨_, c2, c3⟩ := chkL_parts (setN_chk at')
  refine ⟨hs, ⟨setN_chk at', c2, fun y hy => ⟨?_, (c3 y hy).2.2⟩⟩, ha, skN_ok at'⟩
  have e1 := (c3 y hy).1
  unfold nameB at e1
  simp only [Bool.and_eq_true, decide_eq_true_eq] at e1
  omega
theorem backN' {seq at' : Int} (hs : I64 seq) (ha : I64 at') : getRc false (bodyN seq at') = some (rcN seq at') := getRc_back (okN hs ha)
theorem bodyN_fit {seq at' : Int} (hs : I64 seq) (ha : I64 at') : 1 ≤ (bodyN seq at').length ∧ (bodyN seq at').length ≤ 101000 ∧ Bytes8 (bodyN seq at') := by
  have h0 := putS_len (zig seq)
  have h1 := putS_len 1
  have h2 := putL_fit (smL_of (setN_chk at'))
  have h3 := putS_len (zig at')
  have h4 := putP_len (skN_ok at')
  have e : bodyN seq at' = putS (zig seq) ++ (putS 1 ++ (putL (setN at') ++ (putS (zig at') ++ putP (skN at')))) := rfl
  rw [e]
  refine ⟨by simp only [List.length_append]; omega, by simp only [List.length_append]; omega, ?_⟩
  exact Bytes8.append (putS_byte (zig_word hs.1 hs.2)) (Bytes8.append (putS_byte w64_sm) (Bytes8.append h2.2.2 (Bytes8.append (putS_byte (zig_word ha.1 ha.2)) (putP_byte (skN_ok at')))))

/-! ### the document's example -/
def exW1 : Fs := { fs0 with files := [⟨[], []⟩], sure := [⟨nmW 1, 0⟩], n := 3 }
def exW2 (b : List Int) : Fs := { fs0 with files := [⟨b, []⟩], sure := [⟨nmW 1, 0⟩], n := 5 }
theorem exW_ready : readyG fs0 ⟨1, 1, -1, false⟩ = (exW1, 0, ⟨1, 1, -1, true⟩) := by kernel_rfl
theorem exW_room : roomW exW1 1 = (exW1, 0, 1) := by kernel_rfl
theorem exW_append {b : List Int} (hb : b.length ≤ 1073741824) : appendF exW1 (nmW 1) b = ({ exW1 with files := [⟨[], moreU b⟩], n := 4 }, 0) := by
  have e1 : callF exW1 = ({ exW1 with n := 4 }, none) := by kernel_rfl
  have e2 : mayN (nmW 1) = true := by kernel_rfl
  have e3 : fileF { exW1 with n := 4 } (nmW 1) = some 0 := by kernel_rfl
  unfold appendF
  rw [e1]
  dsimp only
  rw [if_neg (by rw [e2]; decide), e3]
  dsimp only
  have e4 : (bytF (atF { exW1 with n := 4 } 0)).length = 0 := by kernel_rfl
  rw [e4, if_neg (by omega)]
  rfl
theorem exW_sync (b : List Int) : syncF { exW1 with files := [⟨[], moreU b⟩], n := 4 } (nmW 1) = (exW2 b, 0) := by
  have e1 : callF { exW1 with files := [⟨[], moreU b⟩], n := 4 } = ({ exW1 with files := [⟨[], moreU b⟩], n := 5 }, none) := by kernel_rfl
  have e2 : mayN (nmW 1) = true := by kernel_rfl
  have e3 : fileF { exW1 with files := [⟨[], moreU b⟩], n := 5 } (nmW 1) = some 0 := by kernel_rfl
  unfold syncF
  rw [e1]
  dsimp only
  rw [if_neg (by rw [e2]; decide), e3]
  dsimp only
  have e4 : bytF (atF { exW1 with files := [⟨[], moreU b⟩], n := 5 } 0) = b := by
    show unsB [] (moreU b) = b
    rw [unsB_more]
    rfl
  rw [e4]
  rfl
theorem exW_more {b : List Int} (h1 : b.length ≤ 1048576) : appendW exW1 1 b = (exW2 (frameS b), 0, 1) := by
  have hf : (frameS b).length ≤ 1073741824 := by have := (frameS_long b).2; omega
  unfold appendW
  rw [exW_room]
  dsimp only
  rw [if_pos rfl, if_neg (by omega), exW_append hf]
  dsimp only
  rw [if_pos rfl, exW_sync]
theorem exW_read (b : List Int) : readF (exW2 b) (nmW 1) = some b := by kernel_rfl
theorem exW_read2 (b : List Int) : readF (exW2 b) (nmW 2) = none := by kernel_rfl
theorem exW_read0 (s : ByteArray) : readF fs0 s = none := by
  have e : dirF fs0 = [] := by kernel_rfl
  unfold readF fileF
  rw [e]
  rfl
theorem exW_lim1 : LimB 3 exW1 := ⟨by decide, by decide, fun x hx => by
  obtain rfl := List.mem_singleton.1 hx
  decide, by decide⟩
theorem exW_lim2 {b : List Int} (h : b.length ≤ 200000) : LimB 200005 (exW2 b) := ⟨by show 1 ≤ 200005; decide, by show 1 + 0 ≤ 200005; decide, fun x hx => by
  obtain rfl := List.mem_singleton.1 hx
  show b.length + 0 ≤ 200005
  omega, by show (0 : Int) ≤ 5 ∧ (5 : Int) ≤ (200005 : Nat); decide⟩
end Go.Proofs.YtknghoecjobkiabGreatDoor

namespace Go.Proofs.YtknghoecjobkiabGreatDoor
open Go.RowKit Go.Maps
set_option maxRecDepth 20000
set_option linter.unusedVariables false

theorem onOpen_ok {base : Nat} {w u u' : World} {g : Nat} {F : Fs} {frm : Int} {e : Ending} {s : Ow} (h : OnOpen base w g F frm u e u') (h0 : ¬ nmW frm = ByteArray.empty) (ho : openW false F frm = some s) :
    ∃ q a c, e = .returned (.tuple #[.pointer (some ⟨q, 0, none⟩), .slice a s.recs.length c, .int .i64 0]) ∧ OnG base w u' g q F ⟨s.last, s.last, s.cut, false⟩ ∧ RecsAt u' u.heap.size a s.recs.length c s.recs := by
  unfold OnOpen at h
  rw [if_neg h0, ho] at h
  exact h
theorem RecsAt.cell {w : World} {base n c i : Nat} {a : Option Addr} {rs : List Rc} {r : Rc} (h : RecsAt w base a n c rs) (hi : rs[i]? = some r) :
    ∃ g, a = some ⟨g, 0, none⟩ ∧ i < n ∧ n ≤ c ∧ w.cell? ⟨g, i * 18, none⟩ = some (.int .i64 (ofRc r).seq) ∧ w.cell? ⟨g, i * 18 + 1, none⟩ = some (.int .i64 (ofRc r).kind) ∧ w.cell? ⟨g, i * 18 + 3, none⟩ = some (.int .i64 (ofRc r).at9) := by
  obtain ⟨l, h1, _, h3, _⟩ := h
  have e := congrArg (fun l => l[i]?) h3
  simp only [List.getElem?_map, hi, Option.map_some] at e
  cases hl : l[i]? with
  | none => rw [hl] at e; cases e
  | some p =>
    rw [hl] at e
    have e2 : p.1 = ofRc r := by simpa using e
    obtain ⟨g, q1, q2, q3, q4⟩ := OwnG.at recV_len (by decide) h1 hl
    rw [← e2]
    exact ⟨g, q1, q2, q3, q4 0 _ rfl, q4 1 _ rfl, q4 3 _ rfl⟩
theorem few_until {F : Fs} {frm : Int} (k : Nat) (hk : k ≤ 4096) (h : readF F (nmW (frm + k)) = none) : FewF F frm := fun j hj => by
  by_cases e : k < j
  · have := hj k e
    rw [h] at this
    cases this
  · omega
theorem nm1_ne : ¬ nmW 1 = ByteArray.empty := by
  rw [nmW_empty]
  omega
theorem exW_open0 : openW false fs0 1 = some (ow0 1) := goW_none (exW_read0 _) _
theorem exW_open2 {body : List Int} {r : Rc} (h1 : 1 ≤ body.length) (h2 : body.length ≤ 1048576) (hb : Bytes8 body) (hr : getRc false body = some r) : openW false (exW2 (frameS body)) 1 = some ⟨[r], -1, 1, true⟩ := by
  have e0 : laidS [body] = frameS body := by simp [laidS]
  have hw : recsW false (frameS body) = some ([r], (frameS body).length) := by
    have := recsW_all (D := false) (gs := [body]) (rs := [r]) (fun s hs => by obtain rfl := List.mem_singleton.1 hs; exact ⟨h1, h2, hb⟩) (by simp [hr])
    rwa [e0] at this
  unfold openW
  rw [goW_more (by omega) (by omega) (exW_read _)]
  have hst : stepW false (ow0 1) 1 (frameS body) = some ⟨[r], -1, 1, true⟩ := by
    unfold stepW
    rw [hw]
    dsimp only
    rw [if_pos (show (ow0 1).cut = -1 from rfl), if_neg (Nat.lt_irrefl _)]
    rfl
  rw [hst]
  exact goW_none (exW_read2 _) _

/-- The frame of a body that GetRec answers of: a walk over it comes by that body alone. -/
theorem reach_frame {b : List Int} (h1 : 1 ≤ b.length) (h2 : b.length ≤ 1048576) : ∀ {k : Nat}, ReachF (frameS b) k → k = 0 ∨ k = (frameS b).length := by
  intro k h
  induction h with
  | zero => exact Or.inl rfl
  | @next k st v h f ih =>
    have e0 := findS_at h1 h2 [] []
    simp only [List.nil_append, List.append_nil, List.length_nil, Nat.zero_add] at e0
    rcases ih with rfl | rfl
    · have e1 := f.symm.trans e0
      simp only [Option.some.injEq, Prod.mk.injEq] at e1
      refine Or.inr ?_
      rw [frameS_len]
      omega
    · rw [findS_end] at f
      cases f
theorem grF_frame {b : List Int} (h1 : 1 ≤ b.length) (h2 : b.length ≤ 1048576) (hT : GrT b) : GrF (frameS b) := by
  intro k st v hk f
  have e0 := findS_at h1 h2 [] []
  simp only [List.nil_append, List.append_nil, List.length_nil, Nat.zero_add] at e0
  rcases reach_frame h1 h2 hk with rfl | rfl
  · have e1 := f.symm.trans e0
    simp only [Option.some.injEq, Prod.mk.injEq] at e1
    obtain ⟨rfl, rfl⟩ := e1
    have e2 : ((frameS b).drop ((putS (b.length : Int)).length + 4)).take b.length = b := by
      have e3 : frameS b = (putS (b.length : Int) ++ sumB b) ++ b := by unfold frameS; simp only [List.append_assoc]
      have e4 : (putS (b.length : Int)).length + 4 = (putS (b.length : Int) ++ sumB b).length := by simp only [List.length_append, sumB_len]
      rw [e3, e4, List.drop_left, List.take_length]
    rw [e2]
    exact hT
  · rw [findS_end] at f
    cases f
theorem exW_file {b bs : List Int} {s : ByteArray} (h : readF (exW2 b) s = some bs) : bs = b := by
  have e : dirF (exW2 b) = [⟨nmW 1, 0⟩] := by kernel_rfl
  unfold readF fileF at h
  rw [e] at h
  cases hf : fileD [(⟨nmW 1, 0⟩ : Dn)] s with
  | none => rw [hf] at h; cases h
  | some k =>
    have hk : k = 0 := by
      unfold fileD at hf
      cases hj : findD [(⟨nmW 1, 0⟩ : Dn)] s with
      | none => rw [hj] at hf; cases hf
      | some j =>
        rw [hj] at hf
        cases j with
        | zero => exact (Option.some.inj hf).symm
        | succ j => cases hf
    rw [hf, hk] at h
    exact (Option.some.inj h).symm

set_option maxHeartbeats 16000000 in
theorem awakeW_any (w : World) (hT : TbP w) : Calls Tryz.prog 14 #[] w fun e w' => e = .returned (.bool true) ∧ Below w.heap.size w w' := by
  have HT := hide hT
  have BF := hide (bodyN_fit (seq := 1) (at' := 5) (by unfold I64; omega) (by unfold I64; omega))
  have BK := hide (backN' (seq := 1) (at' := 5) (by unfold I64; omega) (by unfold I64; omega))
  have LF : Hid ((frameS (bodyN 1 5)).length ≤ 200000) := by have := (frameS_long (bodyN 1 5)).2; have := BF.out.2.1; show _ ≤ _; omega
  have GF : Hid (∀ (n : Int) (bs : List Int), readF (exW2 (frameS (bodyN 1 5))) (nmW n) = some bs → GrF bs) := fun n bs h => by
    rw [exW_file h]
    exact grF_frame BF.out.1 (by have := BF.out.2.1; omega) (getRec_one BK.out)
  clear hT
  go_enter Tryz.func14, Tryz.ntmps14
  go_wp2_with fail
  with_reducible refine (lnew_any _).mono ?_
  rintro e u0 ⟨g, rfl, hm⟩
  have O0 := hide (on_open_of (onL_made hm) (fun n bs h => by rw [exW_read0] at h; cases h) HT.out (Nat.le_refl _) limB0 (by omega) 1 (by decide) (few_until 0 (by omega) (exW_read0 _)))
  clear hm
  go_wp2_with fail
  with_reducible refine O0.out.mono ?_
  rintro e u1 h1
  obtain ⟨q, a1, c1, rfl, hG1, hR1⟩ := onOpen_ok h1 nm1_ne exW_open0
  have R1 := hide (ong_ready hG1 limB0 (by omega))
  rw [show readyG fs0 ⟨(ow0 1).last, (ow0 1).last, (ow0 1).cut, false⟩ = (exW1, 0, ⟨1, 1, -1, true⟩) from exW_ready] at R1
  dsimp only [ow0, List.length_nil]
  clear h1 hG1 hR1 O0
  go_wp2_with fail
  with_reducible refine R1.out.mono ?_
  rintro e u2 ⟨rfl, hG2⟩
  have RC := hide (rec_any 1 5 (by decide) (by decide) u2)
  have G2 := hide hG2
  clear hG2 R1
  go_wp2_with fail
  with_reducible refine RC.out.mono ?_
  rintro e u3 ⟨hh, rfl, s3, b3⟩
  have A3 := hide (ong_append_of G2.out b3 exW_lim1 (by omega) s3 (fun k hk => Or.inr hk) (puts_one s3 rfl (setN_chk 5) (skN_ok 5).chk))
  rw [show appendW exW1 (Lg.mk 1 1 (-1) true).last (putRc (rcX (recN 1 5))) = (exW2 (frameS (bodyN 1 5)), 0, 1) from exW_more (b := bodyN 1 5) (by have := BF.out.2.1; omega)] at A3
  clear s3 b3 G2 RC
  go_wp2_with fail
  with_reducible refine A3.out.mono ?_
  rintro e u4 ⟨rfl, hG4⟩
  have O4 := hide (on_open_of hG4.fs GF.out HT.out (Nat.le_refl _) ((exW_lim2 LF.out)) (by omega) 1 (by decide) (few_until 1 (by omega) (exW_read2 _)))
  clear hG4 A3
  go_wp2_with fail
  with_reducible refine O4.out.mono ?_
  rintro e u5 h5
  obtain ⟨q5, a5, c5, rfl, hG5, hR5⟩ := onOpen_ok h5 nm1_ne (exW_open2 BF.out.1 (by have := BF.out.2.1; omega) BF.out.2.2 BK.out)
  obtain ⟨g5, e5, l5, l6, d0, _, d3⟩ := hR5.cell (i := 0) rfl
  have N5 := hide (wname_any 7 u5 (by decide) hG5.tab)
  rw [show nmW 7 = ⟨#[108, 111, 103, 45, 48, 48, 48, 48, 48, 48, 48, 55]⟩ by kernel_rfl] at N5
  have B5 := hide hG5.bel
  clear h5 hG5 hR5 O4
  subst e5
  dsimp only [List.length_cons, List.length_nil]
  go_wp2_with fail
  with_reducible refine N5.out.mono ?_
  rintro e u6 ⟨rfl, b6⟩
  have B6 : Hid (Below w.heap.size w u6) := B5.out.trans (b6.mono B5.out.size)
  clear b6 N5 B5
  go_wp2
  go_ret
  exact ⟨rfl, B6.out⟩
end Go.Proofs.YtknghoecjobkiabGreatDoor

namespace Go.Proofs.YtknghoecjobkiabGreatDoor
open Go.RowKit
set_option maxRecDepth 20000
set_option linter.unusedVariables false

/-- The first names from a number on. -/
def sureW (a : Int) (k : Nat) : List Dn := (List.range k).map fun i : Nat => ⟨nmW (a + i), i⟩
/-- Files from a number on; the first k names are certain. -/
def lgU (a : Int) (k : Nat) (fs : List Fi) (ts : List Tn) (X : Fs) : Fs := { X with files := fs, sure := sureW a k, turns := ts }
def cleanW (bs : List (List Int)) : List Fi := bs.map fun b => ⟨b, []⟩
/-- All of it certain. -/
def lgC (a : Int) (bs : List (List Int)) (X : Fs) : Fs := lgU a bs.length (cleanW bs) [] X
theorem sureW_len (a : Int) (k : Nat) : (sureW a k).length = k := by unfold sureW; simp
theorem sureW_at (a : Int) {k j : Nat} (h : j < k) : (sureW a k)[j]? = some ⟨nmW (a + j), j⟩ := by
  unfold sureW
  rw [List.getElem?_map, List.getElem?_range h]
  rfl
theorem sureW_succ (a : Int) (k : Nat) : sureW a (k + 1) = sureW a k ++ [⟨nmW (a + k), k⟩] := by
  unfold sureW
  rw [List.range_succ, List.map_append]
  rfl
theorem sureW_mem {a : Int} {k : Nat} {d : Dn} (h : d ∈ sureW a k) : ∃ j : Nat, j < k ∧ d = ⟨nmW (a + j), j⟩ := by
  unfold sureW at h
  obtain ⟨j, hj, rfl⟩ := List.mem_map.1 h
  exact ⟨j, List.mem_range.1 hj, rfl⟩
theorem sureW_nm {a : Int} {k : Nat} (h0 : 0 ≤ a) (h1 : a + k ≤ 100000000) {n : Int} (hn : n < a ∨ a + k ≤ n) (hm : 0 ≤ n ∧ n ≤ 99999999) : ∀ d ∈ sureW a k, ¬ d.nm = nmW n := fun d hd e => by
  obtain ⟨j, hj, rfl⟩ := sureW_mem hd
  have := nmW_inj (by omega) hm (show nmW (a + j) = nmW n from e)
  omega
theorem findD_sure {a : Int} {k : Nat} (h0 : 0 ≤ a) (h1 : a + k ≤ 100000000) {j : Nat} (hj : j < k) : findD (sureW a k) (nmW (a + j)) = some j :=
  findD_at (sureW_at a hj) rfl fun i x hi hx e => by
    rw [sureW_at a (by omega)] at hx
    obtain rfl := Option.some.inj hx
    have := nmW_inj (by omega) (by omega) (show nmW (a + i) = nmW (a + j) from e)
    omega
theorem fileD_sure {a : Int} {k : Nat} (h0 : 0 ≤ a) (h1 : a + k ≤ 100000000) {j : Nat} (hj : j < k) : fileD (sureW a k) (nmW (a + j)) = some j := by
  unfold fileD
  rw [findD_sure h0 h1 hj]
  show Option.map _ _ = _
  rw [sureW_at a hj]
  rfl
theorem findD_past {a : Int} {k : Nat} (h0 : 0 ≤ a) (h1 : a + k ≤ 99999999) : findD (sureW a k) (nmW (a + k)) = none :=
  findD_none (sureW_nm h0 (by omega) (Or.inr (Int.le_refl _)) (by omega))
theorem fileD_past {a : Int} {k : Nat} (h0 : 0 ≤ a) (h1 : a + k ≤ 99999999) : fileD (sureW a k) (nmW (a + k)) = none := by
  unfold fileD
  rw [findD_past h0 h1]
  rfl
theorem wout_past {a : Int} {k : Nat} (h0 : 0 ≤ a) (h1 : a + k ≤ 99999999) : wout (sureW a k) (nmW (a + k)) = sureW a k := by
  unfold wout
  rw [List.filter_eq_self]
  intro d hd
  have := sureW_nm h0 (by omega) (Or.inr (Int.le_refl _)) (by omega) d hd
  simp [this]
/-- The name behind the last one, made. -/
def tnW (a : Int) (k : Nat) : Tn := ⟨0, nmW (a + k), ByteArray.empty, k⟩
theorem turnsD_sure {a : Int} {k : Nat} (h0 : 0 ≤ a) (h1 : a + k ≤ 99999999) : turnsD (sureW a k) [tnW a k] = sureW a (k + 1) := by
  show turnD (sureW a k) (tnW a k) = sureW a (k + 1)
  unfold turnD tnW
  dsimp only
  rw [if_pos rfl, wout_past h0 h1, sureW_succ]
theorem callF_lg (a : Int) (k : Nat) (fs : List Fi) (ts : List Tn) (X : Fs) : callF (lgU a k fs ts X) = (lgU a k fs ts (callF X).1, (callF X).2) := by
  unfold callF lgU
  dsimp only
  split
  · rfl
  · split
    · rfl
    · split
      · rfl
      · split <;> rfl
theorem callF_lgo {X Y : Fs} (h : callF X = (Y, none)) (a : Int) (k : Nat) (fs : List Fi) (ts : List Tn) : callF (lgU a k fs ts X) = (lgU a k fs ts Y, none) := by rw [callF_lg, h]
theorem mayW {a : Int} {j : Nat} (h0 : 0 ≤ a) (h1 : a + j ≤ 99999999) : mayN (nmW (a + j)) = true := nmW_may (by omega) h1
section
variable {a : Int} {k : Nat} {fs : List Fi} {X Y Z : Fs}
theorem fileF_lg (h0 : 0 ≤ a) (h1 : a + k ≤ 100000000) {j : Nat} (hj : j < k) : fileF (lgU a k fs [] X) (nmW (a + j)) = some j := fileD_sure h0 h1 hj
theorem fileF_past (h0 : 0 ≤ a) (h1 : a + k ≤ 99999999) : fileF (lgU a k fs [] X) (nmW (a + k)) = none := fileD_past h0 h1
theorem readF_lg (h0 : 0 ≤ a) (h1 : a + k ≤ 100000000) {j : Nat} (hj : j < k) : readF (lgU a k fs [] X) (nmW (a + j)) = some (bytF (fs.getD j emF)) := by
  unfold readF
  rw [fileF_lg h0 h1 hj]
  rfl
theorem readF_lgj (h0 : 0 ≤ a) {j : Nat} (hj : j < k) (h1 : a + j ≤ 99999999) : readF (lgU a k fs [] X) (nmW (a + j)) = some (bytF (fs.getD j emF)) := by
  have e : findD (sureW a k) (nmW (a + j)) = some j := findD_at (sureW_at a hj) rfl fun i x hi hx e => by
    rw [sureW_at a (by omega)] at hx
    obtain rfl := Option.some.inj hx
    have := nmW_inj (by omega) (by omega) (show nmW (a + i) = nmW (a + j) from e)
    omega
  have e2 : fileF (lgU a k fs [] X) (nmW (a + j)) = some j := by
    show fileD (sureW a k) (nmW (a + j)) = some j
    unfold fileD
    rw [e]
    show Option.map _ _ = _
    rw [sureW_at a hj]
    rfl
  unfold readF
  rw [e2]
  rfl
theorem readF_past (h0 : 0 ≤ a) (h1 : a + k ≤ 99999999) : readF (lgU a k fs [] X) (nmW (a + k)) = none := by
  unfold readF
  rw [fileF_past h0 h1]
  rfl
theorem readF_any {s : ByteArray} {zs : List Int} (h : readF (lgU a k fs [] X) s = some zs) : ∃ j : Nat, j < k ∧ s = nmW (a + j) ∧ zs = bytF (fs.getD j emF) := by
  unfold readF fileF at h
  rw [Option.map_eq_some_iff] at h
  obtain ⟨j, hj, rfl⟩ := h
  have hj : fileD (sureW a k) s = some j := hj
  unfold fileD at hj
  rw [Option.bind_eq_some_iff] at hj
  obtain ⟨i, hi, e⟩ := hj
  obtain ⟨d, d1, d2, d3⟩ := findD_some hi
  rw [sureW_len] at d3
  rw [sureW_at a d3] at d1 e
  obtain rfl := Option.some.inj d1
  obtain rfl : i = j := Option.some.inj e
  exact ⟨i, d3, d2.symm, rfl⟩
/-- To create the next file. -/
theorem create_lg (h0 : 0 ≤ a) (h1 : a + k ≤ 99999999) (hk : k < 1024) (hX : callF X = (Y, none)) : createF (lgU a k fs [] X) (nmW (a + k)) = (lgU a k (fs ++ [emF]) [⟨0, nmW (a + k), ByteArray.empty, fs.length⟩] Y, 0) := by
  unfold createF
  rw [callF_lgo hX]
  dsimp only
  rw [if_neg (by rw [mayW h0 h1]; decide), if_neg ?_]
  · rfl
  · rintro ⟨-, c⟩
    have c : 1024 ≤ (sureW a k).length := c
    rw [sureW_len] at c
    omega
theorem syncdir_lg (h0 : 0 ≤ a) (h1 : a + k ≤ 99999999) (hX : callF X = (Y, none)) : syncdirF (lgU a k fs [tnW a k] X) = (lgU a (k + 1) fs [] Y, 0) := by
  unfold syncdirF
  rw [callF_lgo hX]
  dsimp only
  unfold dirF lgU
  dsimp only
  rw [turnsD_sure h0 h1]
theorem append_lg (h0 : 0 ≤ a) (h1 : a + k ≤ 100000000) (hX : callF X = (Y, none)) {cs : List Fi} {z b : List Int} (hk : cs.length + 1 = k) (hz : z.length + b.length ≤ 1073741824) : appendF (lgU a k (cs ++ [⟨z, []⟩]) [] X) (nmW (a + cs.length)) b = (lgU a k (cs ++ [⟨z, moreU b⟩]) [] Y, 0) := by
  unfold appendF
  rw [callF_lgo hX]
  dsimp only
  rw [if_neg (by rw [mayW h0 (by omega)]; decide), fileF_lg h0 h1 (by omega)]
  dsimp only
  have e : atF (lgU a k (cs ++ [⟨z, []⟩]) [] Y) cs.length = ⟨z, []⟩ := by
    show List.getD (cs ++ [(⟨z, []⟩ : Fi)]) cs.length emF = _
    rw [List.getD_eq_getElem?_getD, List.getElem?_append_right (Nat.le_refl _), Nat.sub_self]
    rfl
  unfold moreF
  rw [e]
  dsimp only
  rw [if_neg (by show ¬ _ < (List.length z) + _; omega)]
  have e2 : (lgU a k (cs ++ [⟨z, []⟩]) [] Y).files.set cs.length ⟨z, [] ++ moreU b⟩ = cs ++ [⟨z, moreU b⟩] := by
    show List.set (cs ++ [(⟨z, []⟩ : Fi)]) cs.length _ = _
    rw [List.set_append_right _ _ (Nat.le_refl _), Nat.sub_self]
    rfl
  rw [e2]
  rfl
theorem sync_lg (h0 : 0 ≤ a) (h1 : a + k ≤ 100000000) (hX : callF X = (Y, none)) {cs : List Fi} {z : List Int} {us : List Un} (hk : cs.length + 1 = k) : syncF (lgU a k (cs ++ [⟨z, us⟩]) [] X) (nmW (a + cs.length)) = (lgU a k (cs ++ [⟨unsB z us, []⟩]) [] Y, 0) := by
  unfold syncF
  rw [callF_lgo hX]
  dsimp only
  rw [if_neg (by rw [mayW h0 (by omega)]; decide), fileF_lg h0 h1 (by omega)]
  dsimp only
  have e : atF (lgU a k (cs ++ [⟨z, us⟩]) [] Y) cs.length = ⟨z, us⟩ := by
    show List.getD (cs ++ [(⟨z, us⟩ : Fi)]) cs.length emF = _
    rw [List.getD_eq_getElem?_getD, List.getElem?_append_right (Nat.le_refl _), Nat.sub_self]
    rfl
  rw [e]
  have e2 : (lgU a k (cs ++ [⟨z, us⟩]) [] Y).files.set cs.length ⟨bytF ⟨z, us⟩, []⟩ = cs ++ [⟨unsB z us, []⟩] := by
    show List.set (cs ++ [(⟨z, us⟩ : Fi)]) cs.length _ = _
    rw [List.set_append_right _ _ (Nat.le_refl _), Nat.sub_self]
    rfl
  rw [e2]
  rfl
end
theorem cleanW_len (bs : List (List Int)) : (cleanW bs).length = bs.length := by unfold cleanW; simp
theorem cleanW_app (bs cs : List (List Int)) : cleanW (bs ++ cs) = cleanW bs ++ cleanW cs := by unfold cleanW; simp
theorem cleanW_at (bs : List (List Int)) (j : Nat) : bytF ((cleanW bs).getD j emF) = bs.getD j [] := by
  unfold cleanW
  rw [List.getD_eq_getElem?_getD, List.getElem?_map, List.getD_eq_getElem?_getD]
  cases bs[j]? <;> rfl
section
variable {a : Int} {bs cs : List (List Int)} {z : List Int} {X Y Z : Fs}
theorem read_lgc (h0 : 0 ≤ a) (h1 : a + bs.length ≤ 100000000) {j : Nat} (hj : j < bs.length) : readF (lgC a bs X) (nmW (a + j)) = some (bs.getD j []) := by
  unfold lgC
  rw [readF_lg h0 h1 hj, cleanW_at]
theorem read_last (h0 : 0 ≤ a) (h1 : a + cs.length < 100000000) : readF (lgC a (cs ++ [z]) X) (nmW (a + cs.length)) = some z := by
  rw [read_lgc h0 (by rw [List.length_append, List.length_singleton]; omega) (by rw [List.length_append, List.length_singleton]; omega)]
  rw [List.getD_eq_getElem?_getD, List.getElem?_append_right (Nat.le_refl _), Nat.sub_self]
  rfl
theorem read_past (h0 : 0 ≤ a) (h1 : a + bs.length ≤ 99999999) : readF (lgC a bs X) (nmW (a + bs.length)) = none := readF_past h0 h1
theorem read_lgany {s : ByteArray} {zs : List Int} (h : readF (lgC a bs X) s = some zs) : ∃ j : Nat, j < bs.length ∧ s = nmW (a + j) ∧ zs = bs.getD j [] := by
  obtain ⟨j, h1, h2, h3⟩ := readF_any h
  exact ⟨j, h1, h2, by rw [h3, cleanW_at]⟩
/-- A turn. -/
theorem turn_lg (h0 : 0 ≤ a) (h1 : a + bs.length ≤ 99999999) (hk : bs.length < 1024) (hX : callF X = (Y, none)) (hY : callF Y = (Z, none)) {n : Int} (hn : n + 1 = a + bs.length) : turnW (lgC a bs X) n = (lgC a (bs ++ [[]]) Z, 0, n + 1) := by
  have e1 : ¬ nmW (n + 1) = ByteArray.empty := by rw [nmW_empty]; omega
  unfold turnW
  rw [if_neg e1, hn]
  unfold lgC
  rw [create_lg h0 h1 hk hX]
  dsimp only
  rw [if_pos rfl, cleanW_len, show (⟨0, nmW (a + bs.length), ByteArray.empty, bs.length⟩ : Tn) = tnW a bs.length from rfl, syncdir_lg h0 h1 hY]
  dsimp only
  rw [if_pos rfl, List.length_append, cleanW_app]
  rfl
theorem room_lg (h0 : 0 ≤ a) (h1 : a + cs.length < 100000000) (hz : z.length < 4096) : roomW (lgC a (cs ++ [z]) X) (a + cs.length) = (lgC a (cs ++ [z]) X, 0, a + cs.length) := by
  unfold roomW
  rw [read_last h0 h1, if_pos (by simpa using hz)]
/-- A body behind the last file's. -/
theorem append_lgc (h0 : 0 ≤ a) (h1 : a + cs.length < 100000000) (hz : z.length < 4096) {body : List Int} (hb : body.length ≤ 1048576) (hX : callF X = (Y, none)) (hY : callF Y = (Z, none)) : appendW (lgC a (cs ++ [z]) X) (a + cs.length) body = (lgC a (cs ++ [z ++ frameS body]) Z, 0, a + cs.length) := by
  have hf := (frameS_long body).2
  unfold appendW
  rw [room_lg h0 h1 hz]
  dsimp only
  rw [if_pos rfl, if_neg (by omega)]
  unfold lgC
  rw [cleanW_app]
  have e1 : a + ((cs ++ [z]).length : Int) ≤ 100000000 := by rw [List.length_append, List.length_singleton]; omega
  have e2 : (cleanW cs).length + 1 = (cs ++ [z]).length := by rw [cleanW_len, List.length_append, List.length_singleton]
  have e3 := append_lg (X := X) (Y := Y) h0 e1 hX (cs := cleanW cs) (z := z) (b := frameS body) e2 (by omega)
  have e4 := sync_lg (X := Y) (Y := Z) h0 e1 hY (cs := cleanW cs) (z := z) (us := moreU (frameS body)) e2
  rw [cleanW_len] at e3 e4
  rw [show cleanW [z] = [(⟨z, []⟩ : Fi)] from rfl, e3]
  dsimp only
  rw [if_pos rfl, e4, unsB_more, cleanW_app, List.length_append, List.length_append]
  rfl
end
/-! ### what an opening finds -/
theorem goW_pre {D : Bool} {a : Int} {X : Fs} (qs : List (List Int)) (f : Nat) : ∀ (xs : List (List Int × List Rc)) (ps : List (List Int)) (rs : List Rc) (last : Int) (th : Bool), 0 ≤ a → a + (ps.length + xs.length) ≤ 99999999 → (∀ x ∈ xs, recsW D x.1 = some (x.2, x.1.length)) →
    ∃ last' th', goW D (lgC a (ps ++ (xs.map (·.1) ++ qs)) X) (xs.length + f) (a + ps.length) ⟨rs, -1, last, th⟩ = goW D (lgC a (ps ++ (xs.map (·.1) ++ qs)) X) f (a + ps.length + xs.length) ⟨rs ++ xs.flatMap (·.2), -1, last', th'⟩
  | [], ps, rs, last, th, h0, h1, hx => ⟨last, th, by simp⟩
  | x :: t, ps, rs, last, th, h0, h1, hx => by
    rw [List.length_cons] at h1
    have e : ps ++ ((x :: t).map (·.1) ++ qs) = (ps ++ [x.1]) ++ (t.map (·.1) ++ qs) := by simp
    obtain ⟨la, tb, ih⟩ := goW_pre (D := D) (a := a) (X := X) qs f t (ps ++ [x.1]) (rs ++ x.2) (a + ps.length) true h0 (by rw [List.length_append, List.length_singleton]; omega) (fun y hy => hx y (by simp [hy]))
    refine ⟨la, tb, ?_⟩
    have hr : readF (lgC a (ps ++ ((x :: t).map (·.1) ++ qs)) X) (nmW (a + ps.length)) = some x.1 := by
      unfold lgC
      rw [readF_lgj h0 (by simp) (by omega), cleanW_at, List.getD_eq_getElem?_getD, List.getElem?_append_right (Nat.le_refl _), Nat.sub_self]
      rfl
    rw [show (x :: t).length + f = (t.length + f) + 1 by rw [List.length_cons]; omega]
    rw [goW, hr]
    dsimp only
    unfold stepW
    rw [hx x (by simp)]
    dsimp only
    rw [if_pos rfl, if_neg (Nat.lt_irrefl _)]
    dsimp only
    rw [e]
    rw [List.length_append, List.length_singleton] at ih
    rw [show a + (ps.length : Int) + 1 = a + ((ps.length + 1 : Nat) : Int) by omega, ih]
    simp only [List.flatMap_cons, List.append_assoc, List.length_cons]
    congr 1
    omega
/-- Files that hold whole records, and a last one that may be torn. -/
theorem openW_lgt {D : Bool} {a : Int} {X : Fs} {xs : List (List Int × List Rc)} {z : List Int} {rs : List Rc} {e : Nat} (h0 : 0 ≤ a) (h1 : a + xs.length + 1 ≤ 99999999) (hx : ∀ x ∈ xs, recsW D x.1 = some (x.2, x.1.length)) (hz : recsW D z = some (rs, e)) :
    openW D (lgC a (xs.map (·.1) ++ [z]) X) a = some ⟨xs.flatMap (·.2) ++ rs, if e < z.length then (e : Int) else -1, a + xs.length, true⟩ := by
  obtain ⟨la, tb, h⟩ := goW_pre (D := D) (a := a) (X := X) [z] ((100000000 - a).toNat - xs.length - 2 + 1 + 1) xs [] [] a false h0 (by simp; omega) hx
  simp only [List.nil_append, List.length_nil, Int.natCast_zero, Int.add_zero] at h
  unfold openW ow0
  rw [show (100000000 - a).toNat = xs.length + ((100000000 - a).toNat - xs.length - 2 + 1 + 1) by omega, h]
  have e0 : readF (lgC a (xs.map (·.1) ++ [z]) X) (nmW (a + xs.length)) = some z := by
    have := read_last (a := a) (cs := xs.map (·.1)) (z := z) (X := X) h0 (by rw [List.length_map]; omega)
    rwa [List.length_map] at this
  have e1 : readF (lgC a (xs.map (·.1) ++ [z]) X) (nmW (a + xs.length + 1)) = none := by
    have := read_past (a := a) (bs := xs.map (·.1) ++ [z]) (X := X) h0 (by rw [List.length_append, List.length_map, List.length_singleton]; omega)
    rw [List.length_append, List.length_map, List.length_singleton] at this
    rwa [show a + ((xs.length + 1 : Nat) : Int) = a + xs.length + 1 by omega] at this
  rw [goW, e0]
  dsimp only
  unfold stepW
  rw [hz]
  dsimp only
  rw [if_pos rfl]
  dsimp only
  rw [goW, e1]

/-! ### files of records -/
/-- A record as the laws make it. -/
structure GoodR (r : Rc) : Prop where
  ok : OkRc r
  wr : ∃ s l a sk, r = ⟨s, .write l a sk⟩
  lo : 1 ≤ (putRc r).length
  hi : (putRc r).length ≤ 101000
  by8 : Bytes8 (putRc r)
theorem goodR_of {s a : Int} {l : List Lb} {sk : Sp} (hs : I64 s) (ha : I64 a) (hl : chkL l = true) (hk : Ok sk) : GoodR ⟨s, .write l a sk⟩ := by
  obtain ⟨_, c2, c3⟩ := chkL_parts hl
  have h0 := putS_len (zig s)
  have h1 := putS_len 1
  have h2 := putL_fit (smL_of hl)
  have h3 := putS_len (zig a)
  have h4 := putP_len hk
  have e : putRc ⟨s, .write l a sk⟩ = putS (zig s) ++ (putS 1 ++ (putL l ++ (putS (zig a) ++ putP sk))) := rfl
  refine ⟨⟨hs, ⟨hl, c2, fun y hy => ⟨?_, (c3 y hy).2.2⟩⟩, ha, hk⟩, ⟨s, l, a, sk, rfl⟩, ?_, ?_, ?_⟩
  · have e1 := (c3 y hy).1
    unfold nameB at e1
    simp only [Bool.and_eq_true, decide_eq_true_eq] at e1
    omega
  · rw [e]; simp only [List.length_append]; omega
  · rw [e]; simp only [List.length_append]; omega
  · rw [e]
    exact Bytes8.append (putS_byte (zig_word hs.1 hs.2)) (Bytes8.append (putS_byte w64_sm) (Bytes8.append h2.2.2 (Bytes8.append (putS_byte (zig_word ha.1 ha.2)) (putP_byte hk))))
theorem goodN {seq at' : Int} (hs : I64 seq) (ha : I64 at') : GoodR (rcN seq at') := goodR_of hs ha (setN_chk at') (skN_ok at')
theorem GoodR.back {r : Rc} (h : GoodR r) : getRc false (putRc r) = some r := getRc_back h.ok
theorem GoodR.grt {r : Rc} (h : GoodR r) : GrT (putRc r) := by
  obtain ⟨s, l, a, sk, e⟩ := h.wr
  have := h.back
  rw [e] at this ⊢
  exact getRec_one this
/-- A file's bytes. -/
def fileR (l : List Rc) : List Int := laidS (l.map putRc)
theorem fileR_snoc (l : List Rc) (r : Rc) : fileR (l ++ [r]) = fileR l ++ frameS (putRc r) := by
  unfold fileR
  rw [List.map_append, laidS_append, List.map_singleton]
  simp [laidS]
theorem fileR_fr {l : List Rc} (h : ∀ r ∈ l, GoodR r) : GoodFr (l.map putRc) := fun s hs => by
  obtain ⟨r, hr, rfl⟩ := List.mem_map.1 hs
  have := h r hr
  exact ⟨this.lo, by have := this.hi; omega, this.by8⟩
theorem fileR_get {l : List Rc} (h : ∀ r ∈ l, GoodR r) : (l.map putRc).map (getRc false) = l.map some := by
  rw [List.map_map]
  exact List.map_congr_left fun r hr => (h r hr).back
theorem recsW_fileR {l : List Rc} (h : ∀ r ∈ l, GoodR r) : recsW false (fileR l) = some (l, (fileR l).length) := recsW_all (fileR_fr h) (fileR_get h)
theorem reach_laid {gs : List (List Int)} (hg : GoodFr gs) {ys : List Int} (hno : findS (laidS gs ++ ys) ((laidS gs).length : Int) = none) {k : Nat} (h : ReachF (laidS gs ++ ys) k) : ∃ j, j ≤ gs.length ∧ k = (laidS (gs.take j)).length := by
  induction h with
  | zero => exact ⟨0, Nat.zero_le _, rfl⟩
  | @next k st v h f ih =>
    obtain ⟨j, hj, rfl⟩ := ih
    by_cases e : j = gs.length
    · subst e
      rw [List.take_length, hno] at f
      cases f
    · have hlt : j < gs.length := by omega
      have hs := hg gs[j] (List.getElem_mem hlt)
      have e1 := findS_at hs.1 hs.2.1 (laidS (gs.take j)) (laidS (gs.drop (j + 1)) ++ ys)
      have e2 : laidS (gs.take j) ++ (frameS gs[j] ++ (laidS (gs.drop (j + 1)) ++ ys)) = laidS gs ++ ys := by
        rw [← List.append_assoc, ← List.append_assoc]
        congr 1
        rw [List.append_assoc, ← laidS_cons, ← laidS_append, ← List.drop_eq_getElem_cons hlt, List.take_append_drop]
      rw [e2] at e1
      have e3 := f.symm.trans e1
      simp only [Option.some.injEq, Prod.mk.injEq] at e3
      refine ⟨j + 1, hlt, ?_⟩
      rw [List.take_succ_eq_append_getElem hlt, laidS_append, List.length_append]
      have e4 : laidS [gs[j]] = frameS gs[j] := by simp [laidS]
      rw [e4, frameS_len]
      omega
theorem grF_laid {gs : List (List Int)} (hg : GoodFr gs) (hT : ∀ g ∈ gs, GrT g) {ys : List Int} (hno : findS (laidS gs ++ ys) ((laidS gs).length : Int) = none) : GrF (laidS gs ++ ys) := by
  intro k st v hk f
  obtain ⟨j, hj, rfl⟩ := reach_laid hg hno hk
  by_cases e : j = gs.length
  · subst e
    rw [List.take_length, hno] at f
    cases f
  · have hlt : j < gs.length := by omega
    have hs := hg gs[j] (List.getElem_mem hlt)
    have e1 := findS_at hs.1 hs.2.1 (laidS (gs.take j)) (laidS (gs.drop (j + 1)) ++ ys)
    have e2 : laidS (gs.take j) ++ (frameS gs[j] ++ (laidS (gs.drop (j + 1)) ++ ys)) = laidS gs ++ ys := by
      rw [← List.append_assoc, ← List.append_assoc]
      congr 1
      rw [List.append_assoc, ← laidS_cons, ← laidS_append, ← List.drop_eq_getElem_cons hlt, List.take_append_drop]
    rw [e2] at e1
    have e3 := f.symm.trans e1
    simp only [Option.some.injEq, Prod.mk.injEq] at e3
    obtain ⟨rfl, rfl⟩ := e3
    have e5 : ((laidS gs ++ ys).drop ((laidS (gs.take j)).length + (putS (gs[j].length : Int)).length + 4)).take gs[j].length = gs[j] := by
      have e6 : laidS gs ++ ys = (laidS (gs.take j) ++ putS (gs[j].length : Int) ++ sumB gs[j]) ++ (gs[j] ++ (laidS (gs.drop (j + 1)) ++ ys)) := by
        rw [← e2]
        unfold frameS
        simp only [List.append_assoc]
      have e7 : (laidS (gs.take j)).length + (putS (gs[j].length : Int)).length + 4 = (laidS (gs.take j) ++ putS (gs[j].length : Int) ++ sumB gs[j]).length := by
        simp only [List.length_append, sumB_len]
      rw [e6, e7, List.drop_left, List.take_left]
    rw [e5]
    exact hT _ (List.getElem_mem hlt)
/-- A file of records, and behind them what is no frame. -/
theorem grF_fileR {l : List Rc} (h : ∀ r ∈ l, GoodR r) {ys : List Int} (hno : findS (fileR l ++ ys) ((fileR l).length : Int) = none) : GrF (fileR l ++ ys) :=
  grF_laid (fileR_fr h) (fun g hg => by
    obtain ⟨r, hr, rfl⟩ := List.mem_map.1 hg
    exact (h r hr).grt) hno
theorem grF_all {l : List Rc} (h : ∀ r ∈ l, GoodR r) : GrF (fileR l) := by
  have := grF_fileR h (ys := []) (by rw [List.append_nil]; exact findS_end _)
  rwa [List.append_nil] at this
/-- A log of whole files and a last one, that may be torn. -/
def lgR (a : Int) (cs : List (List Rc)) (z : List Int) (X : Fs) : Fs := lgC a (cs.map fileR ++ [z]) X
theorem openR {a : Int} {cs : List (List Rc)} {z : List Int} {X : Fs} {rs : List Rc} {e : Nat} (h0 : 0 ≤ a) (h1 : a + cs.length + 1 ≤ 99999999) (hc : ∀ l ∈ cs, ∀ r ∈ l, GoodR r) (hz : recsW false z = some (rs, e)) :
    openW false (lgR a cs z X) a = some ⟨cs.flatten ++ rs, if e < z.length then (e : Int) else -1, a + cs.length, true⟩ := by
  have h := openW_lgt (D := false) (a := a) (X := X) (xs := cs.map fun l => (fileR l, l)) (z := z) (rs := rs) (e := e) h0 (by rw [List.length_map]; omega) (fun x hx => by
    obtain ⟨l, hl, rfl⟩ := List.mem_map.1 hx
    exact recsW_fileR (hc l hl)) hz
  rw [List.map_map, List.length_map, List.flatMap_map] at h
  unfold lgR
  rw [show ((fun x : List Int × List Rc => x.1) ∘ fun l : List Rc => (fileR l, l)) = fileR from rfl, show cs.flatMap (fun l : List Rc => ((fileR l, l) : List Int × List Rc).2) = cs.flatten from List.flatMap_id] at h
  exact h
theorem openR_all {a : Int} {cs : List (List Rc)} {l : List Rc} {X : Fs} (h0 : 0 ≤ a) (h1 : a + cs.length + 1 ≤ 99999999) (hc : ∀ l ∈ cs, ∀ r ∈ l, GoodR r) (hl : ∀ r ∈ l, GoodR r) :
    openW false (lgR a cs (fileR l) X) a = some ⟨cs.flatten ++ l, -1, a + cs.length, true⟩ := by
  rw [openR h0 h1 hc (recsW_fileR hl), if_neg (Nat.lt_irrefl _)]
theorem lgR_grF {a : Int} {cs : List (List Rc)} {z : List Int} {X : Fs} (hc : ∀ l ∈ cs, ∀ r ∈ l, GoodR r) (hz : GrF z) (n : Int) (bs : List Int) (h : readF (lgR a cs z X) (nmW n) = some bs) : GrF bs := by
  obtain ⟨j, h1, -, rfl⟩ := read_lgany h
  rw [List.getD_eq_getElem?_getD]
  by_cases e : j < cs.length
  · rw [List.getElem?_append_left (by rw [List.length_map]; exact e), List.getElem?_map, List.getElem?_eq_getElem e]
    exact grF_all (hc _ (List.getElem_mem e))
  · rw [List.length_append, List.length_map, List.length_singleton] at h1
    rw [List.getElem?_append_right (by rw [List.length_map]; omega), List.length_map, show j - cs.length = 0 by omega]
    exact hz
theorem lgR_few {a : Int} {cs : List (List Rc)} {z : List Int} {X : Fs} (h0 : 0 ≤ a) (h1 : a + cs.length + 1 ≤ 99999999) (h2 : cs.length < 4096) : FewF (lgR a cs z X) a := by
  refine few_until (cs.length + 1) (by omega) ?_
  have := read_past (a := a) (bs := cs.map fileR ++ [z]) (X := X) h0 (by rw [List.length_append, List.length_map, List.length_singleton]; omega)
  rwa [List.length_append, List.length_map, List.length_singleton] at this
/-- Within limits. -/
theorem lgU_lim {a : Int} {k m : Nat} {fs : List Fi} {ts : List Tn} {X : Fs} (h1 : fs.length ≤ m) (h2 : k + ts.length ≤ m) (h3 : ∀ x ∈ fs, x.sure.length + x.us.length ≤ m) (h4 : 0 ≤ X.n ∧ X.n ≤ m) : LimB m (lgU a k fs ts X) :=
  ⟨h1, by show (sureW a k).length + ts.length ≤ m; rw [sureW_len]; exact h2, h3, h4⟩
theorem lgR_lim {a : Int} {m : Nat} {cs : List (List Rc)} {z : List Int} {X : Fs} (h1 : cs.length + 1 ≤ m) (h3 : ∀ l ∈ cs, (fileR l).length ≤ m) (hz : z.length ≤ m) (h4 : 0 ≤ X.n ∧ X.n ≤ m) : LimB m (lgR a cs z X) := by
  unfold lgR lgC
  refine lgU_lim (by rw [cleanW_len, List.length_append, List.length_map, List.length_singleton]; exact h1) (by rw [List.length_append, List.length_map, List.length_singleton]; exact h1) (fun x hx => ?_) h4
  unfold cleanW at hx
  obtain ⟨b, hb, rfl⟩ := List.mem_map.1 hx
  rcases List.mem_append.1 hb with q | q
  · obtain ⟨l, hl, rfl⟩ := List.mem_map.1 q
    exact h3 l hl
  · obtain rfl := List.mem_singleton.1 q
    exact hz
end Go.Proofs.YtknghoecjobkiabGreatDoor

namespace Go.Proofs.YtknghoecjobkiabGreatDoor
open Go.RowKit
set_option maxRecDepth 20000
set_option linter.unusedVariables false

/-- Nothing armed. -/
def clX (n : Int) : Fs := { fs0 with n := n }
theorem call_cl (n : Int) : callF (clX n) = (clX (n + 1), none) := rfl
end Go.Proofs.YtknghoecjobkiabGreatDoor

namespace Go.Proofs.YtknghoecjobkiabGreatDoor
open Go.RowKit Go.Maps
set_option maxRecDepth 20000
set_option linter.unusedVariables false

section
variable {cs : List (List Rc)} {l : List Rc}
end
theorem lgR_lim4 {a : Int} {cs : List (List Rc)} {z : List Int} {X : Fs} (h1 : cs.length ≤ 1000) (h3 : ∀ c ∈ cs, (fileR c).length ≤ 105200) (hz : z.length ≤ 400000) (h4 : 0 ≤ X.n ∧ X.n ≤ 400000) : LimB 400000 (lgR a cs z X) :=
  lgR_lim (by omega) (fun c hc => Nat.le_trans (h3 c hc) (by omega)) hz (by omega)
section
variable {rs : List Rc} {cs : List (List Rc)} {z : List Int} {l : List Rc} {e : Nat}
end
end Go.Proofs.YtknghoecjobkiabGreatDoor

namespace Go.Proofs.YtknghoecjobkiabGreatDoor
open Go.RowKit Go.Maps
set_option maxRecDepth 20000
set_option linter.unusedVariables false

def recsO (n : Nat) : List Rc := (List.range n).map fun i : Nat => rcN ((i : Int) * i) i
theorem recsO_succ (n : Nat) : recsO (n + 1) = recsO n ++ [rcN ((n : Int) * n) n] := by
  unfold recsO
  rw [List.range_succ, List.map_append]
  rfl
theorem recsO_len (n : Nat) : (recsO n).length = n := by unfold recsO; simp
theorem recsO_at {n i : Nat} (h : i < n) : (recsO n)[i]? = some (rcN ((i : Int) * i) i) := by
  unfold recsO
  rw [List.getElem?_map, List.getElem?_range h]
  rfl
theorem sq_wf {i : Nat} (h : i ≤ 1000) : 0 ≤ (i : Int) * i ∧ (i : Int) * i ≤ 1000000 := by
  have h1 : ((i * i : Nat) : Int) = (i : Int) * i := by rw [Int.natCast_mul]
  have h2 : i * i ≤ 1000 * 1000 := Nat.mul_le_mul h h
  omega
theorem goodO {i : Nat} (h : i ≤ 1000) : GoodR (rcN ((i : Int) * i) i) := by
  have := sq_wf h
  exact goodN ⟨by omega, by omega⟩ ⟨by omega, by omega⟩
theorem recsO_good {n : Nat} (h : n ≤ 1000) : ∀ r ∈ recsO n, GoodR r := fun r hr => by
  unfold recsO at hr
  obtain ⟨i, hi, rfl⟩ := List.mem_map.1 hr
  exact goodO (by have := List.mem_range.1 hi; omega)
theorem sizeO_all : ((List.range 25).all fun i : Nat => decide ((frameS (putRc (rcN ((i : Int) * i) i))).length ≤ 170)) = true := by decide +kernel
theorem sizeO {i : Nat} (h : i < 25) : (frameS (putRc (rcN ((i : Int) * i) i))).length ≤ 170 := by
  have := List.all_eq_true.1 sizeO_all i (List.mem_range.2 h)
  exact of_decide_eq_true this
theorem insN_l (m : List ByteArray) (s : ByteArray) : (insN m s).length = m.length + 1 := by
  unfold insN
  have := backN_le m s m.length
  rw [List.length_append, List.length_cons, List.length_take, List.length_drop]
  omega
theorem listD_l (l : List Dn) : ∀ m : List ByteArray, (l.foldl (fun m d => insN m d.nm) m).length = m.length + l.length := by
  induction l with
  | nil => intro m; rfl
  | cons d t ih =>
    intro m
    rw [List.foldl_cons, ih, insN_l, List.length_cons]
    omega
/-- The log of the law, under way. -/
structure OrdW (i fl : Nat) (cs : List (List Rc)) (l : List Rc) : Prop where
  len : cs.length = fl
  flat : cs.flatten ++ l = recsO i
  each : ∀ c ∈ cs, (fileR c).length ≤ 170 * i
  last : (fileR l).length ≤ 170 * i
def OrdK (base : Nat) (w u : World) (g q i fl : Nat) : Prop := ∃ cs l n, OrdW i fl cs l ∧ 0 ≤ n ∧ n ≤ 3 + 4 * (i : Int) + 2 * (fl : Int) ∧ OnG base w u g q (lgR 3 cs (fileR l) (clX n)) ⟨3 + cs.length, 3, -1, true⟩
theorem OrdW.lim {i fl : Nat} {cs : List (List Rc)} {l : List Rc} (h : OrdW i fl cs l) (hi : i ≤ 25) (hf : fl ≤ 50) {X : Fs} (hX : 0 ≤ X.n ∧ X.n ≤ 1000) : LimB 400000 (lgR 3 cs (fileR l) X) :=
  lgR_lim4 (by have := h.len; omega) (fun c hc => by have := h.each c hc; omega) (by have := h.last; omega) (by omega)
section
variable {base : Nat} {w u v : World} {g q i fl : Nat}
theorem OrdK.bel (h : OrdK base w u g q i fl) : Below base w u := by
  obtain ⟨cs, l, n, _, _, _, hG⟩ := h
  exact hG.bel
theorem ord_turn (h : OrdK base w u g q i fl) (hi : i ≤ 25) (hf : fl ≤ 40) : Calls Tryz.prog 9 #[.pointer (some ⟨q, 0, none⟩)] u fun e u' => e = .returned (.int .i64 0) ∧ OrdK base w u' g q i (fl + 1) := by
  obtain ⟨cs, l, n, h1, n0, n1, hG⟩ := h
  have hl := h1.len
  have T := ong_turn hG (h1.lim hi (by omega) (X := clX n) ⟨n0, by show n ≤ _; omega⟩) (by omega)
  have hbl : (cs.map fileR ++ [fileR l]).length = cs.length + 1 := by rw [List.length_append, List.length_map, List.length_singleton]
  have e := turn_lg (a := 3) (bs := cs.map fileR ++ [fileR l]) (X := clX n) (by omega) (by rw [hbl]; omega) (by rw [hbl]; omega) (call_cl n) (call_cl (n + 1)) (n := 3 + cs.length) (by rw [hbl]; omega)
  dsimp only at T
  unfold lgR at T
  rw [e] at T
  refine T.mono ?_
  rintro x u' ⟨hx, hv⟩
  refine ⟨hx, cs ++ [l], [], n + 1 + 1, ⟨by rw [List.length_append, List.length_singleton, hl], ?_, fun c hc => ?_, Nat.zero_le _⟩, by omega, by omega, ?_⟩
  · rw [List.append_nil, List.flatten_append]
    simpa using h1.flat
  · rcases List.mem_append.1 hc with k | k
    · exact h1.each c k
    · obtain rfl := List.mem_singleton.1 k
      exact h1.last
  · unfold lgR
    rw [List.map_append, List.map_singleton, List.length_append, List.length_singleton]
    have e2 : (3 : Int) + ((cs.length + 1 : Nat) : Int) = 3 + cs.length + 1 := by omega
    rw [e2]
    exact hv
theorem ord_append (h : OrdK base w u g q i fl) (hi : i < 25) (hf : fl ≤ 40) (b : Below u.heap.size u v) {hh : RecH} (sx : SeeR (fun k => u.heap.size ≤ k) v (recN ((i : Int) * i) i) hh) :
    Calls Tryz.prog 10 #[.pointer (some ⟨q, 0, none⟩), (Value.agg #[.int .i64 (RecX.seq ((recN ((i : Int) * i) i))), .int .i64 (RecX.kind ((recN ((i : Int) * i) i))), .slice (RecH.la hh) (RecH.ln hh) (RecH.lc hh), .int .i64 (RecX.at9 ((recN ((i : Int) * i) i))), .slice (Hd.a (RecH.sk hh)) (Hd.n (RecH.sk hh)) (Hd.c (RecH.sk hh)), .slice (Hd.k (RecH.sk hh)) (Hd.m (RecH.sk hh)) (Hd.d (RecH.sk hh)), .int .u64 (Gz.n (Sp.g (RecX.sk ((recN ((i : Int) * i) i))))), .int .u64 (Gz.nans (Sp.g (RecX.sk ((recN ((i : Int) * i) i))))), .int .u64 (Gz.lo (Sp.g (RecX.sk ((recN ((i : Int) * i) i))))), .int .u64 (Gz.hi (Sp.g (RecX.sk ((recN ((i : Int) * i) i))))), .int .i64 (RecX.tseq ((recN ((i : Int) * i) i))), .int .i64 (Hm.op (RecH.m hh)), .string (Hm.nm (RecH.m hh)), .string (Hm.vl (RecH.m hh)), .slice (Hm.va (RecH.m hh)) (Hm.vn (RecH.m hh)) (Hm.vc (RecH.m hh)), .slice (Hm.ka (RecH.m hh)) (Hm.kn (RecH.m hh)) (Hm.kc (RecH.m hh)), .int .i64 (RecX.frm ((recN ((i : Int) * i) i))), .int .i64 (RecX.till ((recN ((i : Int) * i) i)))])] v fun e v' => e = .returned (.int .i64 0) ∧ OrdK base w v' g q (i + 1) fl := by
  obtain ⟨cs, l, n, h1, n0, n1, hG⟩ := h
  have hl := h1.len
  have hs := sizeO hi
  have hgr := goodO (i := i) (by omega)
  have A := ong_append_of hG b (h1.lim (by omega) (by omega) (X := clX n) ⟨n0, by show n ≤ _; omega⟩) (by omega) sx (fun k hk => Or.inr hk) (puts_one sx rfl (setN_chk i) (skN_ok i).chk)
  have hsm : (fileR l).length < 4096 := by have := h1.last; omega
  have e := append_lgc (a := 3) (cs := cs.map fileR) (z := fileR l) (X := clX n) (by omega) (by rw [List.length_map]; omega) hsm (body := putRc (rcN ((i : Int) * i) i)) (by have := hgr.hi; omega) (call_cl n) (call_cl (n + 1))
  rw [List.length_map] at e
  rw [rcX_recN] at A
  dsimp only at A
  unfold lgR at A
  rw [e] at A
  refine A.mono ?_
  rintro x v' ⟨hx, hv⟩
  refine ⟨hx, cs, l ++ [rcN ((i : Int) * i) i], n + 1 + 1, ⟨hl, ?_, fun c hc => by have := h1.each c hc; omega, ?_⟩, by omega, by omega, ?_⟩
  · rw [← List.append_assoc, h1.flat, recsO_succ]
  · rw [fileR_snoc, List.length_append]
    have := h1.last
    omega
  · unfold lgR
    rw [fileR_snoc]
    exact hv
/-- An opening, told with what it leaves. -/
theorem on_open_bel {m : Nat} {F : Fs} (h : OnL base w u g F) (hR : ∀ (n : Int) (bs : List Int), readF F (nmW n) = some bs → GrF bs) (hT : TbP w) (hb : w.heap.size ≤ base) (hL : LimB m F) (hm : m ≤ 67108864) (frm : Int) (hf : (Lit.int .i64 frm).wf = true) (hW : FewF F frm) (h0 : ¬ nmW frm = ByteArray.empty) {s : Ow} (ho : openW false F frm = some s) :
    Calls Tryz.prog 6 #[.pointer (some ⟨g, 0, none⟩), .int .i64 frm] u fun e u' => Below u.heap.size u u' ∧ ∃ q a c, e = .returned (.tuple #[.pointer (some ⟨q, 0, none⟩), .slice a s.recs.length c, .int .i64 0]) ∧ OnG base w u' g q F ⟨s.last, s.last, s.cut, false⟩ ∧ RecsAt u' u.heap.size a s.recs.length c s.recs := by
  have hg := h.good
  have h' := h
  obtain ⟨S, h1, h2, h3, h4⟩ := h
  have tu : TbP u := hT.to h3 hb
  have hp : gPw < base := Nat.lt_of_lt_of_le hT.lt hb
  refine (open_of g S F m frm u hR h1 tu hL hm hf hW).mono ?_
  rintro e v ⟨b, hc⟩
  rw [if_neg h0, ho] at hc
  obtain ⟨q, a, c, he, hq, hx, hr⟩ := hc
  have hfr := mt nmW_empty.2 h0
  refine ⟨b, q, a, c, he, ⟨fun k => S k ∨ k = q, ⟨S, h1.below b, hx, fun e => ?_, tu.bel b, fun e => ?_, fun k => Iff.rfl, openW_wf hg.1 hg.2 hL hm (by omega) (by omega) ho⟩, fun k hk => ?_, h3.trans (b.mono h4), Nat.le_trans h4 b.size⟩, hr.mono (by omega)⟩
  · have := h1.lt q e
    omega
  · rcases e with e | e
    · have := h2 _ e
      omega
    · omega
  · rcases hk with e | e
    · exact h2 k e
    · omega
theorem ord_open (h : OrdK base w u g q i fl) (hi : i ≤ 25) (hf : fl ≤ 40) (hT : TbP w) (hb : w.heap.size ≤ base) :
    Calls Tryz.prog 6 #[.pointer (some ⟨g, 0, none⟩), .int .i64 3] u fun e u' => ∃ q2 a c, e = .returned (.tuple #[.pointer (some ⟨q2, 0, none⟩), .slice a i c, .int .i64 0]) ∧ OrdK base w u' g q i fl ∧ (∃ F L, OnG base w u' g q2 F L ∧ L.last = 3 + (fl : Int)) ∧ RecsAt u' u.heap.size a i c (recsO i) := by
  obtain ⟨cs, l, n, h1, n0, n1, hG⟩ := h
  have hl := h1.len
  have hgd := recsO_good (n := i) (by omega)
  have hg2 : (∀ c ∈ cs, ∀ r ∈ c, GoodR r) ∧ ∀ r ∈ l, GoodR r := ⟨fun c hc r hr => hgd r (by rw [← h1.flat]; exact List.mem_append_left _ (List.mem_flatten.2 ⟨c, hc, hr⟩)), fun r hr => hgd r (by rw [← h1.flat]; exact List.mem_append_right _ hr)⟩
  have ho := openR_all (a := 3) (cs := cs) (l := l) (X := clX n) (by omega) (by omega) hg2.1 hg2.2
  rw [h1.flat] at ho
  refine (on_open_bel hG.fs (fun n bs hb => lgR_grF hg2.1 (grF_all hg2.2) n bs hb) hT hb (h1.lim hi (by omega) (X := clX n) ⟨n0, by show n ≤ _; omega⟩) (by omega) 3 (by decide) (lgR_few (by omega) (by omega) (by omega)) (by rw [nmW_empty]; omega) ho).mono ?_
  rintro x u' ⟨b, q2, a, c, he, hG2, hR⟩
  dsimp only at he hG2 hR
  rw [recsO_len] at he hR
  exact ⟨q2, a, c, he, ⟨cs, l, n, h1, n0, n1, hG.below b⟩, ⟨_, _, hG2, by show 3 + (cs.length : Int) = _; rw [hl]⟩, hR⟩
theorem ord_last (h : OrdK base w u g q i fl) : Calls Tryz.prog 12 #[.pointer (some ⟨q, 0, none⟩)] u fun e u' => e = .returned (.int .i64 (3 + (fl : Int))) ∧ u' = u := by
  obtain ⟨cs, l, n, h1, n0, n1, hG⟩ := h
  have := ong_last hG
  rw [← h1.len]
  exact this
theorem ord_list (h : OrdK base w u g q i fl) (hi : i ≤ 25) (hf : fl ≤ 40) : Calls Tryz.prog 13 #[.pointer (some ⟨g, 0, none⟩)] u fun e u' => ∃ a c, e = .returned (.slice a (fl + 1) c) ∧ Below u.heap.size u u' := by
  obtain ⟨cs, l, n, h1, n0, n1, hG⟩ := h
  have hl := h1.len
  refine (on_list hG.fs (h1.lim hi (by omega) (X := clX n) ⟨n0, by show n ≤ _; omega⟩) (by omega)).mono ?_
  rintro x u' ⟨a, c, he, _, b⟩
  have e : (listF (lgR 3 cs (fileR l) (clX n))).length = fl + 1 := by
    show ((sureW 3 (cs.map fileR ++ [fileR l]).length).foldl (fun m d => insN m d.nm) []).length = _
    rw [listD_l, sureW_len, List.length_append, List.length_map, List.length_singleton, hl]
    simp
  rw [e] at he
  exact ⟨a, c, he, b⟩
end
theorem ord_zero {base : Nat} {w u : World} {g q : Nat} (h : OnG base w u g q (lgR 3 [] (fileR []) (clX 3)) ⟨3, 3, -1, true⟩) : OrdK base w u g q 0 0 := ⟨[], [], 3, ⟨rfl, rfl, fun c hc => (by cases hc), Nat.zero_le _⟩, by omega, by omega, h⟩
end Go.Proofs.YtknghoecjobkiabGreatDoor

namespace Go.Proofs.YtknghoecjobkiabGreatDoor
open Go.RowKit Go.Maps
set_option maxRecDepth 20000
set_option linter.unusedVariables false

/-- A row of bools that was handed in. -/
def IsBl (w : World) (a : Option Addr) (n c : Nat) (B : Nat → Bool) : Prop := n ≤ c ∧ c ≤ maxLen ∧ (a = none → n = 0) ∧ ∀ ad, a = some ad → ∀ i, i < c → w.cell? (ad.add i) = some (.bool (B i))
theorem isBl_nil (w : World) : IsBl w none 0 0 fun _ => false := ⟨Nat.le_refl _, Nat.zero_le _, fun _ => rfl, fun ad e => by cases e⟩
theorem IsBl.at' {w u : World} {a : Option Addr} {n c : Nat} {B : Nat → Bool} (h : IsBl w a n c B) (b : Below w.heap.size w u) {i : Nat} (hi : i < n) : ∃ g off, a = some ⟨g, off, none⟩ ∧ u.cell? ⟨g, off + i, none⟩ = some (.bool (B i)) := by
  obtain ⟨h1, h2, h3, h4⟩ := h
  cases a with
  | none => have := h3 rfl; omega
  | some ad =>
    obtain ⟨g, off, f⟩ := ad
    cases f with
    | none =>
      have hc := h4 _ rfl i (by omega)
      rw [Addr.add_lit] at hc
      exact ⟨g, off, rfl, (b.cell (p := ⟨g, off + i, none⟩) (World.block_lt_of_cell? w _ hc)).trans hc⟩
    | some f =>
      have h0 := h4 _ rfl 0 (by omega)
      simp only [World.cell?, Addr.add, if_true, Option.isSome_some] at h0
      split at h0 <;> cases h0
theorem readyO : readyG fs0 ⟨3, 3, -1, false⟩ = (lgR 3 [] (fileR []) (clX 3), 0, ⟨3, 3, -1, true⟩) := by kernel_rfl
theorem readyO2 : readyG (lgR 3 [] (fileR []) (clX 3)) ⟨3, 3, -1, true⟩ = (lgR 3 [] (fileR []) (clX 3), 0, ⟨3, 3, -1, true⟩) := by kernel_rfl
theorem nm3_ne : ¬ nmW 3 = ByteArray.empty := by
  rw [nmW_empty]
  omega
theorem openO : openW false fs0 3 = some (ow0 3) := goW_none (exW_read0 _) _

set_option maxHeartbeats 64000000 in
theorem order_walk (n : Int) (a : Option Addr) (m c : Nat) (B : Nat → Bool) (w : World) (tb : TbP w) (hn : (Lit.int .i64 n).wf = true) (hb : IsBl w a m c B) :
    Calls Tryz.prog 3 #[.int .i64 n, .slice a m c] w fun e w' => e = .returned (.bool true) ∧ Below w.heap.size w w' := by
  have HB := hide hb
  have HT := hide tb
  obtain ⟨N, hN, hN25⟩ : ∃ N : Nat, n % 25 = (N : Int) ∧ N < 25 := by
    have q1 := Int.emod_nonneg n (show (25 : Int) ≠ 0 by omega)
    have q2 := Int.emod_lt_of_pos n (show (0 : Int) < 25 by omega)
    exact ⟨(n % 25).toNat, by omega, by omega⟩
  have P2 := hide (fun u => place_any n 25 (by omega) (by omega) u)
  rw [hN] at P2
  clear hN tb hn hb
  go_enter Tryz.func3, Tryz.ntmps3
  go_wp2_with fail
  with_reducible refine (lnew_any _).mono ?_
  rintro e u0 ⟨g, rfl, hm⟩
  have O0 := hide (on_open_of (onL_made hm) (fun n bs h => by rw [exW_read0] at h; cases h) HT.out (Nat.le_refl _) limB0 (by omega) 3 (by decide) (few_until 0 (by omega) (exW_read0 _)))
  clear hm
  go_wp2_with fail
  with_reducible refine O0.out.mono ?_
  rintro e u1 h1
  obtain ⟨q, a1, c1, rfl, hG1, hR1⟩ := onOpen_ok h1 nm3_ne openO
  have R1 := hide (ong_ready hG1 limB0 (by omega))
  rw [show readyG fs0 ⟨(ow0 3).last, (ow0 3).last, (ow0 3).cut, false⟩ = (lgR 3 [] (fileR []) (clX 3), 0, ⟨3, 3, -1, true⟩) from readyO] at R1
  dsimp only [ow0, List.length_nil]
  clear h1 hG1 hR1 O0
  go_wp2_with fail
  with_reducible refine R1.out.mono ?_
  rintro e u2 ⟨rfl, hG2⟩
  have R2 := hide (ong_ready hG2 (lgR_lim4 (cs := []) (z := fileR []) (by simp) (fun c hc => by cases hc) (Nat.zero_le _) (by decide)) (by omega))
  rw [readyO2] at R2
  clear hG2 R1
  go_wp2_with fail
  with_reducible refine R2.out.mono ?_
  rintro e u3 ⟨rfl, hG3⟩
  have G3 := hide (ord_zero hG3)
  clear hG3 R2
  go_wp2_with fail
  with_reducible refine (P2.out _).mono ?_
  rintro e u ⟨rfl, hu⟩
  rw [hu]
  clear hu P2
  go_wp2
  go_loopw [9, 10] (fun x y wr => ∃ i fl : Nat, i ≤ N ∧ fl ≤ i ∧ x = .int .i64 (fl : Int) ∧ y = .int .i64 (i : Int) ∧ Hid (OrdK w.heap.size w wr g q i fl)) (fun _ y _ => 30 - (intOf y).toNat)
  case atStart => exact ⟨0, 0, by omega, by omega, rfl, rfl, G3.out⟩
  case round =>
    clear G3
    obtain ⟨i, fl, hi, hf, rfl, rfl, HG⟩ := hrel
    obtain ⟨v, rfl⟩ : ∃ v, v = wr := ⟨wr, rfl⟩
    by_cases hlt : i < N
    · have i0 : (0 : Int) ≤ (i : Int) := by omega
      have i1 : (i : Int) < (N : Int) := by omega
      have sq := sq_wf (i := i) (by omega)
      have wm : IntKind.i64.wrap ((i : Int) * i) = (i : Int) * i := by rw [IntKind.wrap_i64]; omega
      have HS : Hid ((Lit.int .i64 ((i : Int) * i)).wf = true) := by simp [Hid, Lit.wf, IntKind.min, IntKind.max, IntKind.signed, IntKind.bits]; omega
      have HI : Hid ((Lit.int .i64 (i : Int)).wf = true) := by simp [Hid, Lit.wf, IntKind.min, IntKind.max, IntKind.signed, IntKind.bits]; omega
      have RC := hide (fun u => rec_any ((i : Int) * i) i HS.out HI.out u)
      by_cases him : i < m
      · obtain ⟨bb, off, rfl, cb⟩ := HB.out.at' HG.out.bel him
        have i2 : (i : Int) < (m : Int) := by omega
        cases hB : B i with
        | true =>
          rw [hB] at cb
          have T := hide (ord_turn HG.out (by omega) (by omega))
          have wf : IntKind.i64.wrap ((fl : Int) + 1) = ((fl + 1 : Nat) : Int) := by rw [IntKind.wrap_i64]; omega
          go_wp2_with fail
          with_reducible refine T.out.mono ?_
          rintro e v1 ⟨rfl, h1⟩
          have RC1 := hide (RC.out v1)
          have H1 := hide h1
          clear h1 T HG cb RC
          go_wp2_with fail
          with_reducible refine RC1.out.mono ?_
          rintro e v2 ⟨hh, rfl, s2, b2⟩
          have A := hide (ord_append H1.out (by omega) (by omega) b2 s2)
          clear s2 b2 RC1 H1
          go_wp2_with fail
          with_reducible refine A.out.mono ?_
          rintro e v3 ⟨rfl, h3⟩
          have H3 := hide h3
          clear h3 A
          go_wp2
          go_roundw
          case rel => exact ⟨i + 1, fl + 1, by omega, by omega, by go_num, by go_num, H3⟩
          case measure => simp [intOf]; omega
        | false =>
          rw [hB] at cb
          have RC1 := hide (RC.out v)
          clear RC
          go_wp2_with fail
          with_reducible refine RC1.out.mono ?_
          rintro e v2 ⟨hh, rfl, s2, b2⟩
          have A := hide (ord_append HG.out (by omega) (by omega) b2 s2)
          clear s2 b2 RC1 HG cb
          go_wp2_with fail
          with_reducible refine A.out.mono ?_
          rintro e v3 ⟨rfl, h3⟩
          have H3 := hide h3
          clear h3 A
          go_wp2
          go_roundw
          case rel => exact ⟨i + 1, fl, by omega, by omega, by go_num, by go_num, H3⟩
          case measure => simp [intOf]; omega
      · have i2 : ¬ (i : Int) < (m : Int) := by omega
        have RC1 := hide (RC.out v)
        clear RC
        go_wp2_with fail
        with_reducible refine RC1.out.mono ?_
        rintro e v2 ⟨hh, rfl, s2, b2⟩
        have A := hide (ord_append HG.out (by omega) (by omega) b2 s2)
        clear s2 b2 RC1 HG
        go_wp2_with fail
        with_reducible refine A.out.mono ?_
        rintro e v3 ⟨rfl, h3⟩
        have H3 := hide h3
        clear h3 A
        go_wp2
        go_roundw
        case rel => exact ⟨i + 1, fl, by omega, by omega, by go_num, by go_num, H3⟩
        case measure => simp [intOf]; omega
    · obtain rfl : i = N := by omega
      have i1 : ¬ (i : Int) < (i : Int) := by omega
      have O1 := hide (ord_open HG.out (by omega) (by omega) HT.out (Nat.le_refl _))
      clear HG
      go_wp2_with fail
      with_reducible refine O1.out.mono ?_
      rintro e u1 ⟨q2, ar, cr, rfl, hO, ⟨F2, L2, hG2, hl2⟩, hR⟩
      have L1 := hide (ong_last hG2)
      rw [hl2] at L1
      have L2' := hide (ord_last hO)
      have LS := hide (ord_list hO (by omega) (by omega))
      have HO := hide hO
      have HR := hide hR
      have wf : IntKind.i64.wrap (3 + (fl : Int)) = 3 + (fl : Int) := by rw [IntKind.wrap_i64]; omega
      have wf2 : IntKind.i64.wrap ((fl : Int) + 1) = (fl : Int) + 1 := by rw [IntKind.wrap_i64]; omega
      clear hO hG2 hl2 hR O1
      go_wp2_with fail
      with_reducible refine L1.out.mono ?_
      rintro e u ⟨rfl, hu⟩
      rw [hu]
      clear hu L1
      go_wp2_with fail
      with_reducible refine L2'.out.mono ?_
      rintro e u ⟨rfl, hu⟩
      rw [hu]
      clear hu L2'
      go_wp2_with fail
      with_reducible refine LS.out.mono ?_
      rintro e u2 ⟨al, cl, rfl, b2⟩
      have B2 := hide (bel_to HO.out.bel (Nat.le_refl _) b2)
      have HR2 := hide (fun j (hj : j < i) => HR.out.cell (recsO_at hj))
      have BB := hide b2
      have j3 : (((fl + 1 : Nat) : Int) == (fl : Int) + 1) = true := by simp
      clear b2 LS HR HO
      go_wp2
      go_loopw [13] (fun x wr => ∃ j : Nat, j ≤ i ∧ x = .int .i64 (j : Int) ∧ Hid (wr = u2)) (fun x _ => 40 - (intOf x).toNat)
      case atStart => exact ⟨0, by omega, rfl, rfl⟩
      case round =>
        obtain ⟨j, hj, rfl, HW⟩ := hrel
        have hW := HW.out
        subst hW
        clear HW
        by_cases hlt2 : j < i
        · obtain ⟨g9, rfl, l5, l6, d0, d1, d3⟩ := HR2.out j hlt2
          have lt9 := World.block_lt_of_cell? u1 _ d0
          have i0 : (0 : Int) ≤ (j : Int) := by omega
          have i2 : (j : Int) < (i : Int) := by omega
          have sq := sq_wf (i := j) (by omega)
          have wm : IntKind.i64.wrap ((j : Int) * j) = (j : Int) * j := by rw [IntKind.wrap_i64]; omega
          have D0 : wr.cell? ⟨g9, j * 18, none⟩ = some (.int .i64 ((j : Int) * j)) := (BB.out.cell (p := ⟨g9, j * 18, none⟩) lt9).trans d0
          have D1 : wr.cell? ⟨g9, j * 18 + 1, none⟩ = some (.int .i64 1) := (BB.out.cell (p := ⟨g9, j * 18 + 1, none⟩) lt9).trans d1
          have D3 : wr.cell? ⟨g9, j * 18 + 3, none⟩ = some (.int .i64 (j : Int)) := (BB.out.cell (p := ⟨g9, j * 18 + 3, none⟩) lt9).trans d3
          clear d0 d1 d3
          go_wp2
          go_roundw
          case rel => exact ⟨j + 1, by omega, by go_num, trivial⟩
          case measure => simp [intOf]; omega
        · obtain rfl : j = i := by omega
          have i2 : ¬ (j : Int) < (j : Int) := by omega
          have AW := hide (awakeW_any wr (HT.out.to B2.out (Nat.le_refl _)))
          clear HR2 BB
          go_wp2_with fail
          with_reducible refine AW.out.mono ?_
          rintro e u16 ⟨rfl, b16⟩
          have B16 := hide (bel_to B2.out (Nat.le_refl _) b16)
          clear b16 AW
          go_wp2
          go_ret
          exact ⟨rfl, B16.out⟩
end Go.Proofs.YtknghoecjobkiabGreatDoor

namespace Go.Proofs.YtknghoecjobkiabGreatDoor
open Go.RowKit Go.ChangeShapes Go.WideShapes Go.Joins
set_option maxRecDepth 20000

/-- What the rows list. -/
def laidW3 : List (String × DataW Unit) := [("math/bits.deBruijn32tab", Rows.laid_math_bits_deBruijn32tab), ("math/bits.deBruijn64tab", Rows.laid_math_bits_deBruijn64tab), ("internal/strconv.uint64pow10", Rows.laid_internal_strconv_uint64pow10)]
theorem tPow : (Tryz.prog.globals[0]?).map (·.type) = some 253 := by kernel_rfl
theorem wU64_cells : Tryz.prog.cellsOf 36 = 1 := by kernel_rfl
theorem pow_cells : Tryz.prog.cellsOf 253 = 20 := by kernel_rfl
/-- The door's own heap meets the condition. -/
theorem doorW3_met (os : Os) (args : Array Value) : laidMetH Tryz.prog laidW3 ((World.doorLaid Tryz.prog 400 os).forCall (fun _ _ => 0) ⟨#[], args, []⟩).memory :=
  laidMetH_of_parts3 (fuel := 8) (laidMet_of_run' 8 (by kernel_rfl) (by kernel_rfl)) (by kernel_rfl) (by kernel_rfl)
theorem tab_laid {r : List (String × DataW Unit)} {W : World} (h : laidMet Tryz.prog (("internal/strconv.uint64pow10", Rows.laid_internal_strconv_uint64pow10) :: r) W) : TbP W :=
  Lib.tabIs_of_head gPow tPow Tryz.underlying253 Tryz.underlying36 wU64_cells pow_cells h
theorem tab_of3 {W : World} (h : laidMetH Tryz.prog laidW3 W) : TbP W := by
  rw [MakeChecks.laidMetH_plain _ _ _ (by kernel_rfl)] at h
  exact tab_laid h.tail.tail
end Go.Proofs.YtknghoecjobkiabGreatDoor
