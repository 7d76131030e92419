/-
  A log in plain words, further: records laid one behind the other are found; the laws' own records; the document's example. No function is named. The document's example holds (awake of the laws of layer 17): a contract, for every world. A log in plain words, as the laws make it: files one behind the other, all of them certain; what a turn, an append, an opening make of it. No function is named. A log in plain words: a crash, wherever the power goes while a record is appended; made ready behind it. No function is named. A log that is found: opened, made ready, gone on with, and found again behind a crash: contracts, for every world. A log that is cut anywhere: the law's log in plain words, the list of its ends beside it: contracts, for every world. P17.3, P17.4 (the walk): a log cut anywhere tells the records that are whole; made ready, it goes on behind them. The call returns true, and its arguments read as they did. What a law's shell hands on: the library's table of powers and its error variable, as the rows list them.
  Conditions: as each theorem says.
-/
import Derived.Test.YtknghoecjobkiabGreatDoorZti
import Derived.Test.YtknghoecjobkiabGreatDoorZtm
import Derived.Test.YtknghoecjobkiabGreatDoorZtk
import Derived.Test.YtknghoecjobkiabGreatDoorZtl
import Derived.Deep.CutBlock
import Derived.Deep.CutRange
import Derived.Test.YtknghoecjobkiabGreatDoorZtj
import Derived.Test.YtknghoecjobkiabGreatDoorRows
import Derived.Lib.SmallJoins
import Derived.Lib.LaidTab
import Derived.Laws.IdiomArrays
import Derived.SizedLaws
import Derived.LaidMore
import Derived.Stop.LaidErr
namespace Go.Proofs.YtknghoecjobkiabGreatDoor
open Go.RowKit
set_option maxRecDepth 20000
set_option linter.unusedVariables false

/-- Records laid one behind the other are found, in their order. -/
theorem recsF_laid {D : Bool} : ∀ (gs : List (List Int)) (rs : List Rc), GoodFr gs → gs.map (getRc D) = rs.map some → ∀ (xs ys : List Int) (f : Nat), gs.length < f → findS (xs ++ (laidS gs ++ ys)) ((xs.length + (laidS gs).length : Nat) : Int) = none →
    recsF D (xs ++ (laidS gs ++ ys)) f xs.length = some (rs, xs.length + (laidS gs).length)
  | [], rs, hg, hr, xs, ys, f, hf, hno => by
    obtain rfl : rs = [] := by simpa using hr.symm
    obtain ⟨f, rfl⟩ : ∃ k, f = k + 1 := ⟨f - 1, by simp at hf; omega⟩
    unfold recsF
    have e : (laidS ([] : List (List Int))).length = 0 := rfl
    rw [e, Nat.add_zero] at hno ⊢
    rw [hno]
  | s :: t, rs, hg, hr, xs, ys, f, hf, hno => by
    cases rs with
    | nil => simp at hr
    | cons r rt =>
      simp only [List.map_cons, List.cons.injEq] at hr
      obtain ⟨hr1, hr2⟩ := hr
      have hs := hg s (by simp)
      obtain ⟨f, rfl⟩ : ∃ k, f = k + 1 := ⟨f - 1, by simp at hf; omega⟩
      have e0 : xs ++ (laidS (s :: t) ++ ys) = xs ++ (frameS s ++ (laidS t ++ ys)) := by rw [laidS_cons, List.append_assoc]
      have h1 := findS_at hs.1 hs.2.1 xs (laidS t ++ ys)
      rw [e0] at hno ⊢
      unfold recsF
      rw [h1]
      dsimp only
      have e2 : ((xs ++ (frameS s ++ (laidS t ++ ys))).drop (xs.length + (putS (s.length : Int)).length + 4)).take s.length = s := by
        have e3 : xs ++ (frameS s ++ (laidS t ++ ys)) = (xs ++ putS (s.length : Int) ++ sumB s) ++ (s ++ (laidS t ++ ys)) := by
          unfold frameS
          simp only [List.append_assoc]
        have e4 : xs.length + (putS (s.length : Int)).length + 4 = (xs ++ putS (s.length : Int) ++ sumB s).length := by
          simp only [List.length_append, sumB_len]
        rw [e3, e4, List.drop_left, List.take_left]
      rw [e2, hr1]
      dsimp only
      have e5 : xs.length + (putS (s.length : Int)).length + 4 + s.length = (xs ++ frameS s).length := by
        rw [List.length_append, frameS_len]
        omega
      have e6 : xs ++ (frameS s ++ (laidS t ++ ys)) = (xs ++ frameS s) ++ (laidS t ++ ys) := by rw [List.append_assoc]
      have e7 : (xs ++ frameS s).length + (laidS t).length = xs.length + (laidS (s :: t)).length := by
        rw [laidS_cons, List.length_append, List.length_append]
        omega
      rw [e5, e6, recsF_laid t rt hg.tail hr2 (xs ++ frameS s) ys f (by simp at hf; omega) (by rw [← e6, e7]; exact hno), e7]
      rfl
theorem recsW_laid {D : Bool} {gs : List (List Int)} {rs : List Rc} (hg : GoodFr gs) (hr : gs.map (getRc D) = rs.map some) (ys : List Int) (hno : findS (laidS gs ++ ys) ((laidS gs).length : Int) = none) : recsW D (laidS gs ++ ys) = some (rs, (laidS gs).length) := by
  have h := recsF_laid gs rs hg hr [] ys ((laidS gs ++ ys).length + 1) (by have := laidS_long gs; rw [List.length_append]; omega) (by simpa using hno)
  simpa [recsW] using h
theorem recsW_all {D : Bool} {gs : List (List Int)} {rs : List Rc} (hg : GoodFr gs) (hr : gs.map (getRc D) = rs.map some) : recsW D (laidS gs) = some (rs, (laidS gs).length) := by
  have h := recsW_laid hg hr [] (by rw [List.append_nil]; exact findS_end _)
  rwa [List.append_nil] at h

/-! ### the laws' own records -/
def rcN (seq at' : Int) : Rc := ⟨seq, .write (setN at') at' (skN at')⟩
theorem rcX_recN (seq at' : Int) : rcX (recN seq at') = rcN seq at' := rfl
def bodyN (seq at' : Int) : List Int := putRc (rcN seq at')
def I64 (z : Int) : Prop := -9223372036854775808 ≤ z ∧ z ≤ 9223372036854775807
theorem okN {seq at' : Int} (hs : I64 seq) (ha : I64 at') : OkRc (rcN seq at') := by
  obtain ⟨_, c2, c3⟩ := chkL_parts (setN_chk at')
  refine ⟨hs, ⟨setN_chk at', c2, fun y hy => ⟨?_, (c3 y hy).2.2⟩⟩, ha, skN_ok at'⟩
  have e1 := (c3 y hy).1
  unfold nameB at e1
  simp only [Bool.and_eq_true, decide_eq_true_eq] at e1
  omega
theorem backN' {seq at' : Int} (hs : I64 seq) (ha : I64 at') : getRc false (bodyN seq at') = some (rcN seq at') := getRc_back (okN hs ha)
theorem bodyN_fit {seq at' : Int} (hs : I64 seq) (ha : I64 at') : 1 ≤ (bodyN seq at').length ∧ (bodyN seq at').length ≤ 101000 ∧ Bytes8 (bodyN seq at') := by
  have h0 := putS_len (zig seq)
  have h1 := putS_len 1
  have h2 := putL_fit (smL_of (setN_chk at'))
  have h3 := putS_len (zig at')
  have h4 := putP_len (skN_ok at')
  have e : bodyN seq at' = putS (zig seq) ++ (putS 1 ++ (putL (setN at') ++ (putS (zig at') ++ putP (skN at')))) := rfl
  rw [e]
  refine ⟨by simp only [List.length_append]; omega, by simp only [List.length_append]; omega, ?_⟩
  exact Bytes8.append (putS_byte (zig_word hs.1 hs.2)) (Bytes8.append (putS_byte w64_sm) (Bytes8.append h2.2.2 (Bytes8.append (putS_byte (zig_word ha.1 ha.2)) (putP_byte (skN_ok at')))))

/-! ### the document's example -/
def exW1 : Fs := { fs0 with files := [⟨[], []⟩], sure := [⟨nmW 1, 0⟩], n := 3 }
def exW2 (b : List Int) : Fs := { fs0 with files := [⟨b, []⟩], sure := [⟨nmW 1, 0⟩], n := 5 }
theorem exW_ready : readyG fs0 ⟨1, 1, -1, false⟩ = (exW1, 0, ⟨1, 1, -1, true⟩) := by kernel_rfl
theorem exW_room : roomW exW1 1 = (exW1, 0, 1) := by kernel_rfl
theorem exW_append {b : List Int} (hb : b.length ≤ 1073741824) : appendF exW1 (nmW 1) b = ({ exW1 with files := [⟨[], moreU b⟩], n := 4 }, 0) := by
  have e1 : callF exW1 = ({ exW1 with n := 4 }, none) := by kernel_rfl
  have e2 : mayN (nmW 1) = true := by kernel_rfl
  have e3 : fileF { exW1 with n := 4 } (nmW 1) = some 0 := by kernel_rfl
  unfold appendF
  rw [e1]
  dsimp only
  rw [if_neg (by rw [e2]; decide), e3]
  dsimp only
  have e4 : (bytF (atF { exW1 with n := 4 } 0)).length = 0 := by kernel_rfl
  rw [e4, if_neg (by omega)]
  rfl
theorem exW_sync (b : List Int) : syncF { exW1 with files := [⟨[], moreU b⟩], n := 4 } (nmW 1) = (exW2 b, 0) := by
  have e1 : callF { exW1 with files := [⟨[], moreU b⟩], n := 4 } = ({ exW1 with files := [⟨[], moreU b⟩], n := 5 }, none) := by kernel_rfl
  have e2 : mayN (nmW 1) = true := by kernel_rfl
  have e3 : fileF { exW1 with files := [⟨[], moreU b⟩], n := 5 } (nmW 1) = some 0 := by kernel_rfl
  unfold syncF
  rw [e1]
  dsimp only
  rw [if_neg (by rw [e2]; decide), e3]
  dsimp only
  have e4 : bytF (atF { exW1 with files := [⟨[], moreU b⟩], n := 5 } 0) = b := by
    show unsB [] (moreU b) = b
    rw [unsB_more]
    rfl
  rw [e4]
  rfl
theorem exW_more {b : List Int} (h1 : b.length ≤ 1048576) : appendW exW1 1 b = (exW2 (frameS b), 0, 1) := by
  have hf : (frameS b).length ≤ 1073741824 := by have := (frameS_long b).2; omega
  unfold appendW
  rw [exW_room]
  dsimp only
  rw [if_pos rfl, if_neg (by omega), exW_append hf]
  dsimp only
  rw [if_pos rfl, exW_sync]
theorem exW_read (b : List Int) : readF (exW2 b) (nmW 1) = some b := by kernel_rfl
theorem exW_read2 (b : List Int) : readF (exW2 b) (nmW 2) = none := by kernel_rfl
theorem exW_read0 (s : ByteArray) : readF fs0 s = none := by
  have e : dirF fs0 = [] := by kernel_rfl
  unfold readF fileF
  rw [e]
  rfl
theorem exW_lim1 : LimB 3 exW1 := ⟨by decide, by decide, fun x hx => by
  obtain rfl := List.mem_singleton.1 hx
  decide, by decide⟩
theorem exW_lim2 {b : List Int} (h : b.length ≤ 200000) : LimB 200005 (exW2 b) := ⟨by show 1 ≤ 200005; decide, by show 1 + 0 ≤ 200005; decide, fun x hx => by
  obtain rfl := List.mem_singleton.1 hx
  show b.length + 0 ≤ 200005
  omega, by show (0 : Int) ≤ 5 ∧ (5 : Int) ≤ (200005 : Nat); decide⟩
end Go.Proofs.YtknghoecjobkiabGreatDoor

namespace Go.Proofs.YtknghoecjobkiabGreatDoor
open Go.RowKit Go.Maps
set_option maxRecDepth 20000
set_option linter.unusedVariables false

theorem onOpen_ok {base : Nat} {w u u' : World} {g : Nat} {F : Fs} {frm : Int} {e : Ending} {s : Ow} (h : OnOpen base w g F frm u e u') (h0 : ¬ nmW frm = ByteArray.empty) (ho : openW false F frm = some s) :
    ∃ q a c, e = .returned (.tuple #[.pointer (some ⟨q, 0, none⟩), .slice a s.recs.length c, .int .i64 0]) ∧ OnG base w u' g q F ⟨s.last, s.last, s.cut, false⟩ ∧ RecsAt u' u.heap.size a s.recs.length c s.recs := by
  unfold OnOpen at h
  rw [if_neg h0, ho] at h
  exact h
theorem RecsAt.cell {w : World} {base n c i : Nat} {a : Option Addr} {rs : List Rc} {r : Rc} (h : RecsAt w base a n c rs) (hi : rs[i]? = some r) :
    ∃ g, a = some ⟨g, 0, none⟩ ∧ i < n ∧ n ≤ c ∧ w.cell? ⟨g, i * 18, none⟩ = some (.int .i64 (ofRc r).seq) ∧ w.cell? ⟨g, i * 18 + 1, none⟩ = some (.int .i64 (ofRc r).kind) ∧ w.cell? ⟨g, i * 18 + 3, none⟩ = some (.int .i64 (ofRc r).at9) := by
  obtain ⟨l, h1, _, h3, _⟩ := h
  have e := congrArg (fun l => l[i]?) h3
  simp only [List.getElem?_map, hi, Option.map_some] at e
  cases hl : l[i]? with
  | none => rw [hl] at e; cases e
  | some p =>
    rw [hl] at e
    have e2 : p.1 = ofRc r := by simpa using e
    obtain ⟨g, q1, q2, q3, q4⟩ := OwnG.at recV_len (by decide) h1 hl
    rw [← e2]
    exact ⟨g, q1, q2, q3, q4 0 _ rfl, q4 1 _ rfl, q4 3 _ rfl⟩
theorem few_until {F : Fs} {frm : Int} (k : Nat) (hk : k ≤ 4096) (h : readF F (nmW (frm + k)) = none) : FewF F frm := fun j hj => by
  by_cases e : k < j
  · have := hj k e
    rw [h] at this
    cases this
  · omega
theorem nm1_ne : ¬ nmW 1 = ByteArray.empty := by
  rw [nmW_empty]
  omega
theorem exW_open0 : openW false fs0 1 = some (ow0 1) := goW_none (exW_read0 _) _
theorem exW_open2 {body : List Int} {r : Rc} (h1 : 1 ≤ body.length) (h2 : body.length ≤ 1048576) (hb : Bytes8 body) (hr : getRc false body = some r) : openW false (exW2 (frameS body)) 1 = some ⟨[r], -1, 1, true⟩ := by
  have e0 : laidS [body] = frameS body := by simp [laidS]
  have hw : recsW false (frameS body) = some ([r], (frameS body).length) := by
    have := recsW_all (D := false) (gs := [body]) (rs := [r]) (fun s hs => by obtain rfl := List.mem_singleton.1 hs; exact ⟨h1, h2, hb⟩) (by simp [hr])
    rwa [e0] at this
  unfold openW
  rw [goW_more (by omega) (by omega) (exW_read _)]
  have hst : stepW false (ow0 1) 1 (frameS body) = some ⟨[r], -1, 1, true⟩ := by
    unfold stepW
    rw [hw]
    dsimp only
    rw [if_pos (show (ow0 1).cut = -1 from rfl), if_neg (Nat.lt_irrefl _)]
    rfl
  rw [hst]
  exact goW_none (exW_read2 _) _

/-- The frame of a body that GetRec answers of: a walk over it comes by that body alone. -/
theorem reach_frame {b : List Int} (h1 : 1 ≤ b.length) (h2 : b.length ≤ 1048576) : ∀ {k : Nat}, ReachF (frameS b) k → k = 0 ∨ k = (frameS b).length := by
  intro k h
  induction h with
  | zero => exact Or.inl rfl
  | @next k st v h f ih =>
    have e0 := findS_at h1 h2 [] []
    simp only [List.nil_append, List.append_nil, List.length_nil, Nat.zero_add] at e0
    rcases ih with rfl | rfl
    · have e1 := f.symm.trans e0
      simp only [Option.some.injEq, Prod.mk.injEq] at e1
      refine Or.inr ?_
      rw [frameS_len]
      omega
    · rw [findS_end] at f
      cases f
theorem grF_frame {b : List Int} (h1 : 1 ≤ b.length) (h2 : b.length ≤ 1048576) (hT : GrT b) : GrF (frameS b) := by
  intro k st v hk f
  have e0 := findS_at h1 h2 [] []
  simp only [List.nil_append, List.append_nil, List.length_nil, Nat.zero_add] at e0
  rcases reach_frame h1 h2 hk with rfl | rfl
  · have e1 := f.symm.trans e0
    simp only [Option.some.injEq, Prod.mk.injEq] at e1
    obtain ⟨rfl, rfl⟩ := e1
    have e2 : ((frameS b).drop ((putS (b.length : Int)).length + 4)).take b.length = b := by
      have e3 : frameS b = (putS (b.length : Int) ++ sumB b) ++ b := by unfold frameS; simp only [List.append_assoc]
      have e4 : (putS (b.length : Int)).length + 4 = (putS (b.length : Int) ++ sumB b).length := by simp only [List.length_append, sumB_len]
      rw [e3, e4, List.drop_left, List.take_length]
    rw [e2]
    exact hT
  · rw [findS_end] at f
    cases f
theorem exW_file {b bs : List Int} {s : ByteArray} (h : readF (exW2 b) s = some bs) : bs = b := by
  have e : dirF (exW2 b) = [⟨nmW 1, 0⟩] := by kernel_rfl
  unfold readF fileF at h
  rw [e] at h
  cases hf : fileD [(⟨nmW 1, 0⟩ : Dn)] s with
  | none => rw [hf] at h; cases h
  | some k =>
    have hk : k = 0 := by
      unfold fileD at hf
      cases hj : findD [(⟨nmW 1, 0⟩ : Dn)] s with
      | none => rw [hj] at hf; cases hf
      | some j =>
        rw [hj] at hf
        cases j with
        | zero => exact (Option.some.inj hf).symm
        | succ j => cases hf
    rw [hf, hk] at h
    exact (Option.some.inj h).symm

set_option maxHeartbeats 16000000 in
theorem awakeW_any (w : World) (hT : TbP w) : Calls Tryz.prog 14 #[] w fun e w' => e = .returned (.bool true) ∧ Below w.heap.size w w' := by
  have HT := hide hT
  have BF := hide (bodyN_fit (seq := 1) (at' := 5) (by unfold I64; omega) (by unfold I64; omega))
  have BK := hide (backN' (seq := 1) (at' := 5) (by unfold I64; omega) (by unfold I64; omega))
  have LF : Hid ((frameS (bodyN 1 5)).length ≤ 200000) := by have := (frameS_long (bodyN 1 5)).2; have := BF.out.2.1; show _ ≤ _; omega
  have GF : Hid (∀ (n : Int) (bs : List Int), readF (exW2 (frameS (bodyN 1 5))) (nmW n) = some bs → GrF bs) := fun n bs h => by
    rw [exW_file h]
    exact grF_frame BF.out.1 (by have := BF.out.2.1; omega) (getRec_one BK.out)
  clear hT
  go_enter Tryz.func14, Tryz.ntmps14
  go_wp2_with fail
  with_reducible refine (lnew_any _).mono ?_
  rintro e u0 ⟨g, rfl, hm⟩
  have O0 := hide (on_open_of (onL_made hm) (fun n bs h => by rw [exW_read0] at h; cases h) HT.out (Nat.le_refl _) limB0 (by omega) 1 (by decide) (few_until 0 (by omega) (exW_read0 _)))
  clear hm
  go_wp2_with fail
  with_reducible refine O0.out.mono ?_
  rintro e u1 h1
  obtain ⟨q, a1, c1, rfl, hG1, hR1⟩ := onOpen_ok h1 nm1_ne exW_open0
  have R1 := hide (ong_ready hG1 limB0 (by omega))
  rw [show readyG fs0 ⟨(ow0 1).last, (ow0 1).last, (ow0 1).cut, false⟩ = (exW1, 0, ⟨1, 1, -1, true⟩) from exW_ready] at R1
  dsimp only [ow0, List.length_nil]
  clear h1 hG1 hR1 O0
  go_wp2_with fail
  with_reducible refine R1.out.mono ?_
  rintro e u2 ⟨rfl, hG2⟩
  have RC := hide (rec_any 1 5 (by decide) (by decide) u2)
  have G2 := hide hG2
  clear hG2 R1
  go_wp2_with fail
  with_reducible refine RC.out.mono ?_
  rintro e u3 ⟨hh, rfl, s3, b3⟩
  have A3 := hide (ong_append_of G2.out b3 exW_lim1 (by omega) s3 (fun k hk => Or.inr hk) (puts_one s3 rfl (setN_chk 5) (skN_ok 5).chk))
  rw [show appendW exW1 (Lg.mk 1 1 (-1) true).last (putRc (rcX (recN 1 5))) = (exW2 (frameS (bodyN 1 5)), 0, 1) from exW_more (b := bodyN 1 5) (by have := BF.out.2.1; omega)] at A3
  clear s3 b3 G2 RC
  go_wp2_with fail
  with_reducible refine A3.out.mono ?_
  rintro e u4 ⟨rfl, hG4⟩
  have O4 := hide (on_open_of hG4.fs GF.out HT.out (Nat.le_refl _) ((exW_lim2 LF.out)) (by omega) 1 (by decide) (few_until 1 (by omega) (exW_read2 _)))
  clear hG4 A3
  go_wp2_with fail
  with_reducible refine O4.out.mono ?_
  rintro e u5 h5
  obtain ⟨q5, a5, c5, rfl, hG5, hR5⟩ := onOpen_ok h5 nm1_ne (exW_open2 BF.out.1 (by have := BF.out.2.1; omega) BF.out.2.2 BK.out)
  obtain ⟨g5, e5, l5, l6, d0, _, d3⟩ := hR5.cell (i := 0) rfl
  have N5 := hide (wname_any 7 u5 (by decide) hG5.tab)
  rw [show nmW 7 = ⟨#[108, 111, 103, 45, 48, 48, 48, 48, 48, 48, 48, 55]⟩ by kernel_rfl] at N5
  have B5 := hide hG5.bel
  clear h5 hG5 hR5 O4
  subst e5
  dsimp only [List.length_cons, List.length_nil]
  go_wp2_with fail
  with_reducible refine N5.out.mono ?_
  rintro e u6 ⟨rfl, b6⟩
  have B6 : Hid (Below w.heap.size w u6) := B5.out.trans (b6.mono B5.out.size)
  clear b6 N5 B5
  go_wp2
  go_ret
  exact ⟨rfl, B6.out⟩
end Go.Proofs.YtknghoecjobkiabGreatDoor

namespace Go.Proofs.YtknghoecjobkiabGreatDoor
open Go.RowKit
set_option maxRecDepth 20000
set_option linter.unusedVariables false

/-- The first names from a number on. -/
def sureW (a : Int) (k : Nat) : List Dn := (List.range k).map fun i : Nat => ⟨nmW (a + i), i⟩
/-- Files from a number on; the first k names are certain. -/
def lgU (a : Int) (k : Nat) (fs : List Fi) (ts : List Tn) (X : Fs) : Fs := { X with files := fs, sure := sureW a k, turns := ts }
def cleanW (bs : List (List Int)) : List Fi := bs.map fun b => ⟨b, []⟩
/-- All of it certain. -/
def lgC (a : Int) (bs : List (List Int)) (X : Fs) : Fs := lgU a bs.length (cleanW bs) [] X
theorem sureW_len (a : Int) (k : Nat) : (sureW a k).length = k := by unfold sureW; simp
theorem sureW_at (a : Int) {k j : Nat} (h : j < k) : (sureW a k)[j]? = some ⟨nmW (a + j), j⟩ := by
  unfold sureW
  rw [List.getElem?_map, List.getElem?_range h]
  rfl
theorem sureW_succ (a : Int) (k : Nat) : sureW a (k + 1) = sureW a k ++ [⟨nmW (a + k), k⟩] := by
  unfold sureW
  rw [List.range_succ, List.map_append]
  rfl
theorem sureW_mem {a : Int} {k : Nat} {d : Dn} (h : d ∈ sureW a k) : ∃ j : Nat, j < k ∧ d = ⟨nmW (a + j), j⟩ := by
  unfold sureW at h
  obtain ⟨j, hj, rfl⟩ := List.mem_map.1 h
  exact ⟨j, List.mem_range.1 hj, rfl⟩
theorem sureW_nm {a : Int} {k : Nat} (h0 : 0 ≤ a) (h1 : a + k ≤ 100000000) {n : Int} (hn : n < a ∨ a + k ≤ n) (hm : 0 ≤ n ∧ n ≤ 99999999) : ∀ d ∈ sureW a k, ¬ d.nm = nmW n := fun d hd e => by
  obtain ⟨j, hj, rfl⟩ := sureW_mem hd
  have := nmW_inj (by omega) hm (show nmW (a + j) = nmW n from e)
  omega
theorem findD_sure {a : Int} {k : Nat} (h0 : 0 ≤ a) (h1 : a + k ≤ 100000000) {j : Nat} (hj : j < k) : findD (sureW a k) (nmW (a + j)) = some j :=
  findD_at (sureW_at a hj) rfl fun i x hi hx e => by
    rw [sureW_at a (by omega)] at hx
    obtain rfl := Option.some.inj hx
    have := nmW_inj (by omega) (by omega) (show nmW (a + i) = nmW (a + j) from e)
    omega
theorem fileD_sure {a : Int} {k : Nat} (h0 : 0 ≤ a) (h1 : a + k ≤ 100000000) {j : Nat} (hj : j < k) : fileD (sureW a k) (nmW (a + j)) = some j := by
  unfold fileD
  rw [findD_sure h0 h1 hj]
  show Option.map _ _ = _
  rw [sureW_at a hj]
  rfl
theorem findD_past {a : Int} {k : Nat} (h0 : 0 ≤ a) (h1 : a + k ≤ 99999999) : findD (sureW a k) (nmW (a + k)) = none :=
  findD_none (sureW_nm h0 (by omega) (Or.inr (Int.le_refl _)) (by omega))
theorem fileD_past {a : Int} {k : Nat} (h0 : 0 ≤ a) (h1 : a + k ≤ 99999999) : fileD (sureW a k) (nmW (a + k)) = none := by
  unfold fileD
  rw [findD_past h0 h1]
  rfl
theorem wout_past {a : Int} {k : Nat} (h0 : 0 ≤ a) (h1 : a + k ≤ 99999999) : wout (sureW a k) (nmW (a + k)) = sureW a k := by
  unfold wout
  rw [List.filter_eq_self]
  intro d hd
  have := sureW_nm h0 (by omega) (Or.inr (Int.le_refl _)) (by omega) d hd
  simp [this]
/-- The name behind the last one, made. -/
def tnW (a : Int) (k : Nat) : Tn := ⟨0, nmW (a + k), ByteArray.empty, k⟩
theorem turnsD_sure {a : Int} {k : Nat} (h0 : 0 ≤ a) (h1 : a + k ≤ 99999999) : turnsD (sureW a k) [tnW a k] = sureW a (k + 1) := by
  show turnD (sureW a k) (tnW a k) = sureW a (k + 1)
  unfold turnD tnW
  dsimp only
  rw [if_pos rfl, wout_past h0 h1, sureW_succ]
theorem callF_lg (a : Int) (k : Nat) (fs : List Fi) (ts : List Tn) (X : Fs) : callF (lgU a k fs ts X) = (lgU a k fs ts (callF X).1, (callF X).2) := by
  unfold callF lgU
  dsimp only
  split
  · rfl
  · split
    · rfl
    · split
      · rfl
      · split <;> rfl
theorem callF_lgo {X Y : Fs} (h : callF X = (Y, none)) (a : Int) (k : Nat) (fs : List Fi) (ts : List Tn) : callF (lgU a k fs ts X) = (lgU a k fs ts Y, none) := by rw [callF_lg, h]
theorem callF_lge {X Y : Fs} {e : Int} (h : callF X = (Y, some e)) (a : Int) (k : Nat) (fs : List Fi) (ts : List Tn) : callF (lgU a k fs ts X) = (lgU a k fs ts Y, some e) := by rw [callF_lg, h]
theorem mayW {a : Int} {j : Nat} (h0 : 0 ≤ a) (h1 : a + j ≤ 99999999) : mayN (nmW (a + j)) = true := nmW_may (by omega) h1
section
variable {a : Int} {k : Nat} {fs : List Fi} {X Y Z : Fs}
theorem fileF_lg (h0 : 0 ≤ a) (h1 : a + k ≤ 100000000) {j : Nat} (hj : j < k) : fileF (lgU a k fs [] X) (nmW (a + j)) = some j := fileD_sure h0 h1 hj
theorem fileF_past (h0 : 0 ≤ a) (h1 : a + k ≤ 99999999) : fileF (lgU a k fs [] X) (nmW (a + k)) = none := fileD_past h0 h1
theorem readF_lg (h0 : 0 ≤ a) (h1 : a + k ≤ 100000000) {j : Nat} (hj : j < k) : readF (lgU a k fs [] X) (nmW (a + j)) = some (bytF (fs.getD j emF)) := by
  unfold readF
  rw [fileF_lg h0 h1 hj]
  rfl
theorem readF_lgj (h0 : 0 ≤ a) {j : Nat} (hj : j < k) (h1 : a + j ≤ 99999999) : readF (lgU a k fs [] X) (nmW (a + j)) = some (bytF (fs.getD j emF)) := by
  have e : findD (sureW a k) (nmW (a + j)) = some j := findD_at (sureW_at a hj) rfl fun i x hi hx e => by
    rw [sureW_at a (by omega)] at hx
    obtain rfl := Option.some.inj hx
    have := nmW_inj (by omega) (by omega) (show nmW (a + i) = nmW (a + j) from e)
    omega
  have e2 : fileF (lgU a k fs [] X) (nmW (a + j)) = some j := by
    show fileD (sureW a k) (nmW (a + j)) = some j
    unfold fileD
    rw [e]
    show Option.map _ _ = _
    rw [sureW_at a hj]
    rfl
  unfold readF
  rw [e2]
  rfl
theorem readF_past (h0 : 0 ≤ a) (h1 : a + k ≤ 99999999) : readF (lgU a k fs [] X) (nmW (a + k)) = none := by
  unfold readF
  rw [fileF_past h0 h1]
  rfl
theorem readF_any {s : ByteArray} {zs : List Int} (h : readF (lgU a k fs [] X) s = some zs) : ∃ j : Nat, j < k ∧ s = nmW (a + j) ∧ zs = bytF (fs.getD j emF) := by
  unfold readF fileF at h
  rw [Option.map_eq_some_iff] at h
  obtain ⟨j, hj, rfl⟩ := h
  have hj : fileD (sureW a k) s = some j := hj
  unfold fileD at hj
  rw [Option.bind_eq_some_iff] at hj
  obtain ⟨i, hi, e⟩ := hj
  obtain ⟨d, d1, d2, d3⟩ := findD_some hi
  rw [sureW_len] at d3
  rw [sureW_at a d3] at d1 e
  obtain rfl := Option.some.inj d1
  obtain rfl : i = j := Option.some.inj e
  exact ⟨i, d3, d2.symm, rfl⟩
/-- To create the next file. -/
theorem create_lg (h0 : 0 ≤ a) (h1 : a + k ≤ 99999999) (hk : k < 1024) (hX : callF X = (Y, none)) : createF (lgU a k fs [] X) (nmW (a + k)) = (lgU a k (fs ++ [emF]) [⟨0, nmW (a + k), ByteArray.empty, fs.length⟩] Y, 0) := by
  unfold createF
  rw [callF_lgo hX]
  dsimp only
  rw [if_neg (by rw [mayW h0 h1]; decide), if_neg ?_]
  · rfl
  · rintro ⟨-, c⟩
    have c : 1024 ≤ (sureW a k).length := c
    rw [sureW_len] at c
    omega
theorem syncdir_lg (h0 : 0 ≤ a) (h1 : a + k ≤ 99999999) (hX : callF X = (Y, none)) : syncdirF (lgU a k fs [tnW a k] X) = (lgU a (k + 1) fs [] Y, 0) := by
  unfold syncdirF
  rw [callF_lgo hX]
  dsimp only
  unfold dirF lgU
  dsimp only
  rw [turnsD_sure h0 h1]
theorem syncdir_lgn (hX : callF X = (Y, none)) : syncdirF (lgU a k fs [] X) = (lgU a k fs [] Y, 0) := by
  unfold syncdirF
  rw [callF_lgo hX]
  rfl
theorem append_lg (h0 : 0 ≤ a) (h1 : a + k ≤ 100000000) (hX : callF X = (Y, none)) {cs : List Fi} {z b : List Int} (hk : cs.length + 1 = k) (hz : z.length + b.length ≤ 1073741824) : appendF (lgU a k (cs ++ [⟨z, []⟩]) [] X) (nmW (a + cs.length)) b = (lgU a k (cs ++ [⟨z, moreU b⟩]) [] Y, 0) := by
  unfold appendF
  rw [callF_lgo hX]
  dsimp only
  rw [if_neg (by rw [mayW h0 (by omega)]; decide), fileF_lg h0 h1 (by omega)]
  dsimp only
  have e : atF (lgU a k (cs ++ [⟨z, []⟩]) [] Y) cs.length = ⟨z, []⟩ := by
    show List.getD (cs ++ [(⟨z, []⟩ : Fi)]) cs.length emF = _
    rw [List.getD_eq_getElem?_getD, List.getElem?_append_right (Nat.le_refl _), Nat.sub_self]
    rfl
  unfold moreF
  rw [e]
  dsimp only
  rw [if_neg (by show ¬ _ < (List.length z) + _; omega)]
  have e2 : (lgU a k (cs ++ [⟨z, []⟩]) [] Y).files.set cs.length ⟨z, [] ++ moreU b⟩ = cs ++ [⟨z, moreU b⟩] := by
    show List.set (cs ++ [(⟨z, []⟩ : Fi)]) cs.length _ = _
    rw [List.set_append_right _ _ (Nat.le_refl _), Nat.sub_self]
    rfl
  rw [e2]
  rfl
theorem sync_lg (h0 : 0 ≤ a) (h1 : a + k ≤ 100000000) (hX : callF X = (Y, none)) {cs : List Fi} {z : List Int} {us : List Un} (hk : cs.length + 1 = k) : syncF (lgU a k (cs ++ [⟨z, us⟩]) [] X) (nmW (a + cs.length)) = (lgU a k (cs ++ [⟨unsB z us, []⟩]) [] Y, 0) := by
  unfold syncF
  rw [callF_lgo hX]
  dsimp only
  rw [if_neg (by rw [mayW h0 (by omega)]; decide), fileF_lg h0 h1 (by omega)]
  dsimp only
  have e : atF (lgU a k (cs ++ [⟨z, us⟩]) [] Y) cs.length = ⟨z, us⟩ := by
    show List.getD (cs ++ [(⟨z, us⟩ : Fi)]) cs.length emF = _
    rw [List.getD_eq_getElem?_getD, List.getElem?_append_right (Nat.le_refl _), Nat.sub_self]
    rfl
  rw [e]
  have e2 : (lgU a k (cs ++ [⟨z, us⟩]) [] Y).files.set cs.length ⟨bytF ⟨z, us⟩, []⟩ = cs ++ [⟨unsB z us, []⟩] := by
    show List.set (cs ++ [(⟨z, us⟩ : Fi)]) cs.length _ = _
    rw [List.set_append_right _ _ (Nat.le_refl _), Nat.sub_self]
    rfl
  rw [e2]
  rfl
end
theorem cleanW_len (bs : List (List Int)) : (cleanW bs).length = bs.length := by unfold cleanW; simp
theorem cleanW_app (bs cs : List (List Int)) : cleanW (bs ++ cs) = cleanW bs ++ cleanW cs := by unfold cleanW; simp
theorem cleanW_at (bs : List (List Int)) (j : Nat) : bytF ((cleanW bs).getD j emF) = bs.getD j [] := by
  unfold cleanW
  rw [List.getD_eq_getElem?_getD, List.getElem?_map, List.getD_eq_getElem?_getD]
  cases bs[j]? <;> rfl
section
variable {a : Int} {bs cs : List (List Int)} {z : List Int} {X Y Z : Fs}
theorem read_lgc (h0 : 0 ≤ a) (h1 : a + bs.length ≤ 100000000) {j : Nat} (hj : j < bs.length) : readF (lgC a bs X) (nmW (a + j)) = some (bs.getD j []) := by
  unfold lgC
  rw [readF_lg h0 h1 hj, cleanW_at]
theorem read_last (h0 : 0 ≤ a) (h1 : a + cs.length < 100000000) : readF (lgC a (cs ++ [z]) X) (nmW (a + cs.length)) = some z := by
  rw [read_lgc h0 (by rw [List.length_append, List.length_singleton]; omega) (by rw [List.length_append, List.length_singleton]; omega)]
  rw [List.getD_eq_getElem?_getD, List.getElem?_append_right (Nat.le_refl _), Nat.sub_self]
  rfl
theorem read_past (h0 : 0 ≤ a) (h1 : a + bs.length ≤ 99999999) : readF (lgC a bs X) (nmW (a + bs.length)) = none := readF_past h0 h1
theorem read_lgany {s : ByteArray} {zs : List Int} (h : readF (lgC a bs X) s = some zs) : ∃ j : Nat, j < bs.length ∧ s = nmW (a + j) ∧ zs = bs.getD j [] := by
  obtain ⟨j, h1, h2, h3⟩ := readF_any h
  exact ⟨j, h1, h2, by rw [h3, cleanW_at]⟩
/-- A turn. -/
theorem turn_lg (h0 : 0 ≤ a) (h1 : a + bs.length ≤ 99999999) (hk : bs.length < 1024) (hX : callF X = (Y, none)) (hY : callF Y = (Z, none)) {n : Int} (hn : n + 1 = a + bs.length) : turnW (lgC a bs X) n = (lgC a (bs ++ [[]]) Z, 0, n + 1) := by
  have e1 : ¬ nmW (n + 1) = ByteArray.empty := by rw [nmW_empty]; omega
  unfold turnW
  rw [if_neg e1, hn]
  unfold lgC
  rw [create_lg h0 h1 hk hX]
  dsimp only
  rw [if_pos rfl, cleanW_len, show (⟨0, nmW (a + bs.length), ByteArray.empty, bs.length⟩ : Tn) = tnW a bs.length from rfl, syncdir_lg h0 h1 hY]
  dsimp only
  rw [if_pos rfl, List.length_append, cleanW_app]
  rfl
theorem room_lg (h0 : 0 ≤ a) (h1 : a + cs.length < 100000000) (hz : z.length < 4096) : roomW (lgC a (cs ++ [z]) X) (a + cs.length) = (lgC a (cs ++ [z]) X, 0, a + cs.length) := by
  unfold roomW
  rw [read_last h0 h1, if_pos (by simpa using hz)]
/-- A body behind the last file's. -/
theorem append_lgc (h0 : 0 ≤ a) (h1 : a + cs.length < 100000000) (hz : z.length < 4096) {body : List Int} (hb : body.length ≤ 1048576) (hX : callF X = (Y, none)) (hY : callF Y = (Z, none)) : appendW (lgC a (cs ++ [z]) X) (a + cs.length) body = (lgC a (cs ++ [z ++ frameS body]) Z, 0, a + cs.length) := by
  have hf := (frameS_long body).2
  unfold appendW
  rw [room_lg h0 h1 hz]
  dsimp only
  rw [if_pos rfl, if_neg (by omega)]
  unfold lgC
  rw [cleanW_app]
  have e1 : a + ((cs ++ [z]).length : Int) ≤ 100000000 := by rw [List.length_append, List.length_singleton]; omega
  have e2 : (cleanW cs).length + 1 = (cs ++ [z]).length := by rw [cleanW_len, List.length_append, List.length_singleton]
  have e3 := append_lg (X := X) (Y := Y) h0 e1 hX (cs := cleanW cs) (z := z) (b := frameS body) e2 (by omega)
  have e4 := sync_lg (X := Y) (Y := Z) h0 e1 hY (cs := cleanW cs) (z := z) (us := moreU (frameS body)) e2
  rw [cleanW_len] at e3 e4
  rw [show cleanW [z] = [(⟨z, []⟩ : Fi)] from rfl, e3]
  dsimp only
  rw [if_pos rfl, e4, unsB_more, cleanW_app, List.length_append, List.length_append]
  rfl
end
/-! ### what an opening finds -/
theorem goW_pre {D : Bool} {a : Int} {X : Fs} (qs : List (List Int)) (f : Nat) : ∀ (xs : List (List Int × List Rc)) (ps : List (List Int)) (rs : List Rc) (last : Int) (th : Bool), 0 ≤ a → a + (ps.length + xs.length) ≤ 99999999 → (∀ x ∈ xs, recsW D x.1 = some (x.2, x.1.length)) →
    ∃ last' th', goW D (lgC a (ps ++ (xs.map (·.1) ++ qs)) X) (xs.length + f) (a + ps.length) ⟨rs, -1, last, th⟩ = goW D (lgC a (ps ++ (xs.map (·.1) ++ qs)) X) f (a + ps.length + xs.length) ⟨rs ++ xs.flatMap (·.2), -1, last', th'⟩
  | [], ps, rs, last, th, h0, h1, hx => ⟨last, th, by simp⟩
  | x :: t, ps, rs, last, th, h0, h1, hx => by
    rw [List.length_cons] at h1
    have e : ps ++ ((x :: t).map (·.1) ++ qs) = (ps ++ [x.1]) ++ (t.map (·.1) ++ qs) := by simp
    obtain ⟨la, tb, ih⟩ := goW_pre (D := D) (a := a) (X := X) qs f t (ps ++ [x.1]) (rs ++ x.2) (a + ps.length) true h0 (by rw [List.length_append, List.length_singleton]; omega) (fun y hy => hx y (by simp [hy]))
    refine ⟨la, tb, ?_⟩
    have hr : readF (lgC a (ps ++ ((x :: t).map (·.1) ++ qs)) X) (nmW (a + ps.length)) = some x.1 := by
      unfold lgC
      rw [readF_lgj h0 (by simp) (by omega), cleanW_at, List.getD_eq_getElem?_getD, List.getElem?_append_right (Nat.le_refl _), Nat.sub_self]
      rfl
    rw [show (x :: t).length + f = (t.length + f) + 1 by rw [List.length_cons]; omega]
    rw [goW, hr]
    dsimp only
    unfold stepW
    rw [hx x (by simp)]
    dsimp only
    rw [if_pos rfl, if_neg (Nat.lt_irrefl _)]
    dsimp only
    rw [e]
    rw [List.length_append, List.length_singleton] at ih
    rw [show a + (ps.length : Int) + 1 = a + ((ps.length + 1 : Nat) : Int) by omega, ih]
    simp only [List.flatMap_cons, List.append_assoc, List.length_cons]
    congr 1
    omega
/-- Files that hold whole records, and a last one that may be torn. -/
theorem openW_lgt {D : Bool} {a : Int} {X : Fs} {xs : List (List Int × List Rc)} {z : List Int} {rs : List Rc} {e : Nat} (h0 : 0 ≤ a) (h1 : a + xs.length + 1 ≤ 99999999) (hx : ∀ x ∈ xs, recsW D x.1 = some (x.2, x.1.length)) (hz : recsW D z = some (rs, e)) :
    openW D (lgC a (xs.map (·.1) ++ [z]) X) a = some ⟨xs.flatMap (·.2) ++ rs, if e < z.length then (e : Int) else -1, a + xs.length, true⟩ := by
  obtain ⟨la, tb, h⟩ := goW_pre (D := D) (a := a) (X := X) [z] ((100000000 - a).toNat - xs.length - 2 + 1 + 1) xs [] [] a false h0 (by simp; omega) hx
  simp only [List.nil_append, List.length_nil, Int.natCast_zero, Int.add_zero] at h
  unfold openW ow0
  rw [show (100000000 - a).toNat = xs.length + ((100000000 - a).toNat - xs.length - 2 + 1 + 1) by omega, h]
  have e0 : readF (lgC a (xs.map (·.1) ++ [z]) X) (nmW (a + xs.length)) = some z := by
    have := read_last (a := a) (cs := xs.map (·.1)) (z := z) (X := X) h0 (by rw [List.length_map]; omega)
    rwa [List.length_map] at this
  have e1 : readF (lgC a (xs.map (·.1) ++ [z]) X) (nmW (a + xs.length + 1)) = none := by
    have := read_past (a := a) (bs := xs.map (·.1) ++ [z]) (X := X) h0 (by rw [List.length_append, List.length_map, List.length_singleton]; omega)
    rw [List.length_append, List.length_map, List.length_singleton] at this
    rwa [show a + ((xs.length + 1 : Nat) : Int) = a + xs.length + 1 by omega] at this
  rw [goW, e0]
  dsimp only
  unfold stepW
  rw [hz]
  dsimp only
  rw [if_pos rfl]
  dsimp only
  rw [goW, e1]

/-! ### files of records -/
/-- A record as the laws make it. -/
structure GoodR (r : Rc) : Prop where
  ok : OkRc r
  wr : ∃ s l a sk, r = ⟨s, .write l a sk⟩
  lo : 1 ≤ (putRc r).length
  hi : (putRc r).length ≤ 101000
  by8 : Bytes8 (putRc r)
theorem goodR_of {s a : Int} {l : List Lb} {sk : Sp} (hs : I64 s) (ha : I64 a) (hl : chkL l = true) (hk : Ok sk) : GoodR ⟨s, .write l a sk⟩ := by
  obtain ⟨_, c2, c3⟩ := chkL_parts hl
  have h0 := putS_len (zig s)
  have h1 := putS_len 1
  have h2 := putL_fit (smL_of hl)
  have h3 := putS_len (zig a)
  have h4 := putP_len hk
  have e : putRc ⟨s, .write l a sk⟩ = putS (zig s) ++ (putS 1 ++ (putL l ++ (putS (zig a) ++ putP sk))) := rfl
  refine ⟨⟨hs, ⟨hl, c2, fun y hy => ⟨?_, (c3 y hy).2.2⟩⟩, ha, hk⟩, ⟨s, l, a, sk, rfl⟩, ?_, ?_, ?_⟩
  · have e1 := (c3 y hy).1
    unfold nameB at e1
    simp only [Bool.and_eq_true, decide_eq_true_eq] at e1
    omega
  · rw [e]; simp only [List.length_append]; omega
  · rw [e]; simp only [List.length_append]; omega
  · rw [e]
    exact Bytes8.append (putS_byte (zig_word hs.1 hs.2)) (Bytes8.append (putS_byte w64_sm) (Bytes8.append h2.2.2 (Bytes8.append (putS_byte (zig_word ha.1 ha.2)) (putP_byte hk))))
theorem goodN {seq at' : Int} (hs : I64 seq) (ha : I64 at') : GoodR (rcN seq at') := goodR_of hs ha (setN_chk at') (skN_ok at')
theorem GoodR.back {r : Rc} (h : GoodR r) : getRc false (putRc r) = some r := getRc_back h.ok
theorem GoodR.grt {r : Rc} (h : GoodR r) : GrT (putRc r) := by
  obtain ⟨s, l, a, sk, e⟩ := h.wr
  have := h.back
  rw [e] at this ⊢
  exact getRec_one this
/-- A file's bytes. -/
def fileR (l : List Rc) : List Int := laidS (l.map putRc)
theorem fileR_snoc (l : List Rc) (r : Rc) : fileR (l ++ [r]) = fileR l ++ frameS (putRc r) := by
  unfold fileR
  rw [List.map_append, laidS_append, List.map_singleton]
  simp [laidS]
theorem fileR_fr {l : List Rc} (h : ∀ r ∈ l, GoodR r) : GoodFr (l.map putRc) := fun s hs => by
  obtain ⟨r, hr, rfl⟩ := List.mem_map.1 hs
  have := h r hr
  exact ⟨this.lo, by have := this.hi; omega, this.by8⟩
theorem fileR_get {l : List Rc} (h : ∀ r ∈ l, GoodR r) : (l.map putRc).map (getRc false) = l.map some := by
  rw [List.map_map]
  exact List.map_congr_left fun r hr => (h r hr).back
theorem recsW_fileR {l : List Rc} (h : ∀ r ∈ l, GoodR r) : recsW false (fileR l) = some (l, (fileR l).length) := recsW_all (fileR_fr h) (fileR_get h)
theorem reach_laid {gs : List (List Int)} (hg : GoodFr gs) {ys : List Int} (hno : findS (laidS gs ++ ys) ((laidS gs).length : Int) = none) {k : Nat} (h : ReachF (laidS gs ++ ys) k) : ∃ j, j ≤ gs.length ∧ k = (laidS (gs.take j)).length := by
  induction h with
  | zero => exact ⟨0, Nat.zero_le _, rfl⟩
  | @next k st v h f ih =>
    obtain ⟨j, hj, rfl⟩ := ih
    by_cases e : j = gs.length
    · subst e
      rw [List.take_length, hno] at f
      cases f
    · have hlt : j < gs.length := by omega
      have hs := hg gs[j] (List.getElem_mem hlt)
      have e1 := findS_at hs.1 hs.2.1 (laidS (gs.take j)) (laidS (gs.drop (j + 1)) ++ ys)
      have e2 : laidS (gs.take j) ++ (frameS gs[j] ++ (laidS (gs.drop (j + 1)) ++ ys)) = laidS gs ++ ys := by
        rw [← List.append_assoc, ← List.append_assoc]
        congr 1
        rw [List.append_assoc, ← laidS_cons, ← laidS_append, ← List.drop_eq_getElem_cons hlt, List.take_append_drop]
      rw [e2] at e1
      have e3 := f.symm.trans e1
      simp only [Option.some.injEq, Prod.mk.injEq] at e3
      refine ⟨j + 1, hlt, ?_⟩
      rw [List.take_succ_eq_append_getElem hlt, laidS_append, List.length_append]
      have e4 : laidS [gs[j]] = frameS gs[j] := by simp [laidS]
      rw [e4, frameS_len]
      omega
theorem grF_laid {gs : List (List Int)} (hg : GoodFr gs) (hT : ∀ g ∈ gs, GrT g) {ys : List Int} (hno : findS (laidS gs ++ ys) ((laidS gs).length : Int) = none) : GrF (laidS gs ++ ys) := by
  intro k st v hk f
  obtain ⟨j, hj, rfl⟩ := reach_laid hg hno hk
  by_cases e : j = gs.length
  · subst e
    rw [List.take_length, hno] at f
    cases f
  · have hlt : j < gs.length := by omega
    have hs := hg gs[j] (List.getElem_mem hlt)
    have e1 := findS_at hs.1 hs.2.1 (laidS (gs.take j)) (laidS (gs.drop (j + 1)) ++ ys)
    have e2 : laidS (gs.take j) ++ (frameS gs[j] ++ (laidS (gs.drop (j + 1)) ++ ys)) = laidS gs ++ ys := by
      rw [← List.append_assoc, ← List.append_assoc]
      congr 1
      rw [List.append_assoc, ← laidS_cons, ← laidS_append, ← List.drop_eq_getElem_cons hlt, List.take_append_drop]
    rw [e2] at e1
    have e3 := f.symm.trans e1
    simp only [Option.some.injEq, Prod.mk.injEq] at e3
    obtain ⟨rfl, rfl⟩ := e3
    have e5 : ((laidS gs ++ ys).drop ((laidS (gs.take j)).length + (putS (gs[j].length : Int)).length + 4)).take gs[j].length = gs[j] := by
      have e6 : laidS gs ++ ys = (laidS (gs.take j) ++ putS (gs[j].length : Int) ++ sumB gs[j]) ++ (gs[j] ++ (laidS (gs.drop (j + 1)) ++ ys)) := by
        rw [← e2]
        unfold frameS
        simp only [List.append_assoc]
      have e7 : (laidS (gs.take j)).length + (putS (gs[j].length : Int)).length + 4 = (laidS (gs.take j) ++ putS (gs[j].length : Int) ++ sumB gs[j]).length := by
        simp only [List.length_append, sumB_len]
      rw [e6, e7, List.drop_left, List.take_left]
    rw [e5]
    exact hT _ (List.getElem_mem hlt)
/-- A file of records, and behind them what is no frame. -/
theorem grF_fileR {l : List Rc} (h : ∀ r ∈ l, GoodR r) {ys : List Int} (hno : findS (fileR l ++ ys) ((fileR l).length : Int) = none) : GrF (fileR l ++ ys) :=
  grF_laid (fileR_fr h) (fun g hg => by
    obtain ⟨r, hr, rfl⟩ := List.mem_map.1 hg
    exact (h r hr).grt) hno
theorem grF_all {l : List Rc} (h : ∀ r ∈ l, GoodR r) : GrF (fileR l) := by
  have := grF_fileR h (ys := []) (by rw [List.append_nil]; exact findS_end _)
  rwa [List.append_nil] at this
/-- A log of whole files and a last one, that may be torn. -/
def lgR (a : Int) (cs : List (List Rc)) (z : List Int) (X : Fs) : Fs := lgC a (cs.map fileR ++ [z]) X
theorem openR {a : Int} {cs : List (List Rc)} {z : List Int} {X : Fs} {rs : List Rc} {e : Nat} (h0 : 0 ≤ a) (h1 : a + cs.length + 1 ≤ 99999999) (hc : ∀ l ∈ cs, ∀ r ∈ l, GoodR r) (hz : recsW false z = some (rs, e)) :
    openW false (lgR a cs z X) a = some ⟨cs.flatten ++ rs, if e < z.length then (e : Int) else -1, a + cs.length, true⟩ := by
  have h := openW_lgt (D := false) (a := a) (X := X) (xs := cs.map fun l => (fileR l, l)) (z := z) (rs := rs) (e := e) h0 (by rw [List.length_map]; omega) (fun x hx => by
    obtain ⟨l, hl, rfl⟩ := List.mem_map.1 hx
    exact recsW_fileR (hc l hl)) hz
  rw [List.map_map, List.length_map, List.flatMap_map] at h
  unfold lgR
  rw [show ((fun x : List Int × List Rc => x.1) ∘ fun l : List Rc => (fileR l, l)) = fileR from rfl, show cs.flatMap (fun l : List Rc => ((fileR l, l) : List Int × List Rc).2) = cs.flatten from List.flatMap_id] at h
  exact h
theorem openR_all {a : Int} {cs : List (List Rc)} {l : List Rc} {X : Fs} (h0 : 0 ≤ a) (h1 : a + cs.length + 1 ≤ 99999999) (hc : ∀ l ∈ cs, ∀ r ∈ l, GoodR r) (hl : ∀ r ∈ l, GoodR r) :
    openW false (lgR a cs (fileR l) X) a = some ⟨cs.flatten ++ l, -1, a + cs.length, true⟩ := by
  rw [openR h0 h1 hc (recsW_fileR hl), if_neg (Nat.lt_irrefl _)]
theorem lgR_grF {a : Int} {cs : List (List Rc)} {z : List Int} {X : Fs} (hc : ∀ l ∈ cs, ∀ r ∈ l, GoodR r) (hz : GrF z) (n : Int) (bs : List Int) (h : readF (lgR a cs z X) (nmW n) = some bs) : GrF bs := by
  obtain ⟨j, h1, -, rfl⟩ := read_lgany h
  rw [List.getD_eq_getElem?_getD]
  by_cases e : j < cs.length
  · rw [List.getElem?_append_left (by rw [List.length_map]; exact e), List.getElem?_map, List.getElem?_eq_getElem e]
    exact grF_all (hc _ (List.getElem_mem e))
  · rw [List.length_append, List.length_map, List.length_singleton] at h1
    rw [List.getElem?_append_right (by rw [List.length_map]; omega), List.length_map, show j - cs.length = 0 by omega]
    exact hz
theorem lgR_few {a : Int} {cs : List (List Rc)} {z : List Int} {X : Fs} (h0 : 0 ≤ a) (h1 : a + cs.length + 1 ≤ 99999999) (h2 : cs.length < 4096) : FewF (lgR a cs z X) a := by
  refine few_until (cs.length + 1) (by omega) ?_
  have := read_past (a := a) (bs := cs.map fileR ++ [z]) (X := X) h0 (by rw [List.length_append, List.length_map, List.length_singleton]; omega)
  rwa [List.length_append, List.length_map, List.length_singleton] at this
/-- Within limits. -/
theorem lgU_lim {a : Int} {k m : Nat} {fs : List Fi} {ts : List Tn} {X : Fs} (h1 : fs.length ≤ m) (h2 : k + ts.length ≤ m) (h3 : ∀ x ∈ fs, x.sure.length + x.us.length ≤ m) (h4 : 0 ≤ X.n ∧ X.n ≤ m) : LimB m (lgU a k fs ts X) :=
  ⟨h1, by show (sureW a k).length + ts.length ≤ m; rw [sureW_len]; exact h2, h3, h4⟩
theorem lgR_lim {a : Int} {m : Nat} {cs : List (List Rc)} {z : List Int} {X : Fs} (h1 : cs.length + 1 ≤ m) (h3 : ∀ l ∈ cs, (fileR l).length ≤ m) (hz : z.length ≤ m) (h4 : 0 ≤ X.n ∧ X.n ≤ m) : LimB m (lgR a cs z X) := by
  unfold lgR lgC
  refine lgU_lim (by rw [cleanW_len, List.length_append, List.length_map, List.length_singleton]; exact h1) (by rw [List.length_append, List.length_map, List.length_singleton]; exact h1) (fun x hx => ?_) h4
  unfold cleanW at hx
  obtain ⟨b, hb, rfl⟩ := List.mem_map.1 hx
  rcases List.mem_append.1 hb with q | q
  · obtain ⟨l, hl, rfl⟩ := List.mem_map.1 q
    exact h3 l hl
  · obtain rfl := List.mem_singleton.1 q
    exact hz
end Go.Proofs.YtknghoecjobkiabGreatDoor

namespace Go.Proofs.YtknghoecjobkiabGreatDoor
open Go.RowKit
set_option maxRecDepth 20000
set_option linter.unusedVariables false

/-- Nothing armed. -/
def clX (n : Int) : Fs := { fs0 with n := n }
/-- The power goes behind so many calls. -/
def pwX (n : Int) (j : Nat) : Fs := { fs0 with n := n, armed := true, after := j }
/-- Without power. -/
def dkX (n : Int) : Fs := { fs0 with n := n, dark := true }
theorem call_cl (n : Int) : callF (clX n) = (clX (n + 1), none) := rfl
theorem call_pw (n : Int) (j : Nat) : callF (pwX n (j + 1)) = (pwX (n + 1) j, none) := by
  unfold callF pwX fs0
  dsimp only
  rw [if_neg (by decide), if_neg (by decide), if_pos (by omega), show (((j + 1 : Nat) : Int) - 1) = (j : Int) by omega]
theorem call_pw0 (n : Int) : callF (pwX n 0) = (dkX (n + 1), some 15) := by
  unfold callF pwX dkX fs0
  dsimp only
  rw [if_neg (by decide), if_neg (by decide), if_neg (by decide), if_pos rfl]
  rfl
/-! ### a crash -/
theorem filter_sure (a : Int) (j : Nat) : ∀ k, (sureW a k).filter (fun x => decide (x.f = j)) = if j < k then [⟨nmW (a + j), j⟩] else []
  | 0 => by simp [sureW]
  | k + 1 => by
    rw [sureW_succ, List.filter_append, filter_sure a j k]
    by_cases h : j < k
    · rw [if_pos h, if_pos (by omega), List.filter_cons_of_neg (by simp; omega)]
      rfl
    · rw [if_neg h]
      by_cases e : k = j
      · subst e
        rw [if_pos (by omega), List.filter_cons_of_pos (by simp)]
        rfl
      · rw [if_neg (by omega), List.filter_cons_of_neg (by simp; omega)]
        rfl
theorem kept_sure (a : Int) (k : Nat) : ∀ m, keptF (sureW a k) m = sureW a (min m k)
  | 0 => by simp [keptF, sureW]
  | m + 1 => by
    have ih := kept_sure a k m
    unfold keptF at ih ⊢
    rw [List.range_succ, List.flatMap_append, ih, List.flatMap_singleton, filter_sure]
    by_cases h : m < k
    · rw [if_pos h, show min m k = m by omega, show min (m + 1) k = m + 1 by omega, sureW_succ]
    · rw [if_neg h, show min m k = k by omega, show min (m + 1) k = k by omega, List.append_nil]
theorem crashF_w (F : Fs) (ops : Int) (ps : List Int) : crashF F ops ps = (fun d : List Dn => ({ fs0 with files := d.mapIdx fun i x => (⟨unsB (atF F x.f).sure ((atF F x.f).us.take (cutN (pickF ps i))), []⟩ : Fi), sure := d.mapIdx fun i x => (⟨x.nm, i⟩ : Dn) } : Fs)) (keptF (turnsD F.sure (F.turns.take (cutN ops))) F.files.length) := rfl
/-- The first k of the files, as a crash leaves them. -/
def crW (fs : List Fi) (ps : List Int) (k : Nat) : List Fi := (List.range k).map fun i => ⟨unsB (fs.getD i emF).sure ((fs.getD i emF).us.take (cutN (pickF ps i))), []⟩
theorem crash_lg {a : Int} {k k' : Nat} {fs : List Fi} {ts : List Tn} {X : Fs} {ops : Int} {ps : List Int} (ht : turnsD (sureW a k) (ts.take (cutN ops)) = sureW a k') (hk : k' ≤ fs.length) : crashF (lgU a k fs ts X) ops ps = lgU a k' (crW fs ps k') [] fs0 := by
  rw [crashF_w]
  have e : keptF (turnsD (lgU a k fs ts X).sure ((lgU a k fs ts X).turns.take (cutN ops))) (lgU a k fs ts X).files.length = sureW a k' := by
    show keptF (turnsD (sureW a k) (ts.take (cutN ops))) fs.length = _
    rw [ht, kept_sure, show min fs.length k' = k' by omega]
  rw [e]
  dsimp only
  have e1 : ((sureW a k').mapIdx fun i x => (⟨unsB (atF (lgU a k fs ts X) x.f).sure ((atF (lgU a k fs ts X) x.f).us.take (cutN (pickF ps i))), []⟩ : Fi)) = crW fs ps k' := by
    refine List.ext_getElem? fun i => ?_
    rw [List.getElem?_mapIdx]
    unfold crW
    rw [List.getElem?_map]
    by_cases h : i < k'
    · rw [sureW_at a h, List.getElem?_range h]
      rfl
    · rw [List.getElem?_eq_none (by rw [sureW_len]; omega), List.getElem?_eq_none (by rw [List.length_range]; omega)]
      rfl
  have e2 : ((sureW a k').mapIdx fun i (x : Dn) => (⟨x.nm, i⟩ : Dn)) = sureW a k' := by
    refine List.ext_getElem? fun i => ?_
    rw [List.getElem?_mapIdx]
    by_cases h : i < k'
    · rw [sureW_at a h]
      rfl
    · rw [List.getElem?_eq_none (by rw [sureW_len]; omega)]
      rfl
  rw [e1, e2]
  rfl
theorem crW_clean (bs : List (List Int)) (ps : List Int) {k : Nat} (r : List Fi) (hk : k ≤ bs.length) : crW (cleanW bs ++ r) ps k = (cleanW bs).take k := by
  refine List.ext_getElem? fun i => ?_
  unfold crW
  rw [List.getElem?_map, List.getElem?_take]
  by_cases h : i < k
  · rw [List.getElem?_range h, if_pos h]
    simp only [Option.map_some]
    rw [List.getD_eq_getElem?_getD, List.getElem?_append_left (by rw [cleanW_len]; omega)]
    unfold cleanW
    rw [List.getElem?_map, List.getElem?_eq_getElem (by omega)]
    simp only [Option.map_some, Option.getD_some, List.take_nil]
    rfl
  · rw [List.getElem?_eq_none (by rw [List.length_range]; omega), if_neg h]
    rfl
/-- All certain but for some bytes behind the last file's. -/
def tornW (a : Int) (cs : List (List Int)) (z part : List Int) (n : Int) : Fs := lgU a (cs.length + 1) (cleanW cs ++ [⟨z, moreU part⟩]) [] (dkX n)
/-- A file more, not yet certain. -/
def madeW (a : Int) (bs : List (List Int)) (n : Int) : Fs := lgU a bs.length (cleanW bs ++ [emF]) [tnW a bs.length] (dkX n)
theorem crash_calm (a : Int) (bs : List (List Int)) (X : Fs) (ops : Int) (ps : List Int) : crashF (lgC a bs X) ops ps = lgC a bs fs0 := by
  unfold lgC
  rw [crash_lg (k' := bs.length) (by rw [List.take_nil]; rfl) (by rw [cleanW_len]; exact Nat.le_refl _)]
  have e := crW_clean bs ps [] (Nat.le_refl _)
  rw [List.append_nil, List.take_of_length_le (by rw [cleanW_len]; exact Nat.le_refl _)] at e
  rw [e]

/-! ### an append, with the power armed -/
theorem append_dark (a : Int) {cs : List (List Int)} {z b : List Int} (h0 : 0 ≤ a) (h1 : a + cs.length < 100000000) (n : Int) (hz : z.length + b.length ≤ 1073741824) : appendF (lgC a (cs ++ [z]) (pwX n 0)) (nmW (a + cs.length)) b = (tornW a cs z (b.take (b.length / 2)) (n + 1), 15) := by
  unfold appendF lgC
  rw [callF_lge (call_pw0 n)]
  dsimp only
  have hl : (cs ++ [z]).length = cs.length + 1 := by rw [List.length_append, List.length_singleton]
  rw [hl, fileF_lg h0 (by omega) (by omega)]
  dsimp only
  have e : atF (lgU a (cs.length + 1) (cleanW (cs ++ [z])) [] (dkX (n + 1))) cs.length = ⟨z, []⟩ := by
    show (cleanW (cs ++ [z])).getD cs.length emF = _
    rw [cleanW_app, List.getD_eq_getElem?_getD, List.getElem?_append_right (by rw [cleanW_len]; exact Nat.le_refl _), cleanW_len, Nat.sub_self]
    rfl
  rw [e, if_pos ⟨rfl, by show List.length z + _ ≤ _; omega⟩]
  unfold moreF
  rw [e]
  unfold tornW
  have e2 : (lgU a (cs.length + 1) (cleanW (cs ++ [z])) [] (dkX (n + 1))).files.set cs.length ⟨z, [] ++ moreU (b.take (b.length / 2))⟩ = cleanW cs ++ [⟨z, moreU (b.take (b.length / 2))⟩] := by
    show (cleanW (cs ++ [z])).set cs.length _ = _
    rw [cleanW_app, List.set_append_right _ _ (by rw [cleanW_len]; exact Nat.le_refl _), cleanW_len, Nat.sub_self]
    rfl
  rw [e2]
  rfl
theorem append_pend (a : Int) {cs : List (List Int)} {z b : List Int} (h0 : 0 ≤ a) (h1 : a + cs.length < 100000000) {X Y : Fs} (hX : callF X = (Y, none)) (hz : z.length + b.length ≤ 1073741824) : appendF (lgC a (cs ++ [z]) X) (nmW (a + cs.length)) b = (lgU a (cs.length + 1) (cleanW cs ++ [⟨z, moreU b⟩]) [] Y, 0) := by
  have e2 : (cleanW cs).length + 1 = (cs ++ [z]).length := by rw [cleanW_len, List.length_append, List.length_singleton]
  have hl : (cs ++ [z]).length = cs.length + 1 := by rw [List.length_append, List.length_singleton]
  have e3 := append_lg (X := X) (Y := Y) (a := a) (k := (cs ++ [z]).length) h0 (by rw [hl]; omega) hX (cs := cleanW cs) (z := z) (b := b) e2 hz
  rw [cleanW_len] at e3
  unfold lgC
  rw [cleanW_app, show cleanW [z] = [(⟨z, []⟩ : Fi)] from rfl, e3, hl]
theorem sync_dark (a : Int) {k : Nat} {fs : List Fi} (n : Int) (s : ByteArray) : syncF (lgU a k fs [] (pwX n 0)) s = (lgU a k fs [] (dkX (n + 1)), 15) := by
  unfold syncF
  rw [callF_lge (call_pw0 n)]
theorem create_dark (a : Int) {k : Nat} {fs : List Fi} (n : Int) (s : ByteArray) : createF (lgU a k fs [] (pwX n 0)) s = (lgU a k fs [] (dkX (n + 1)), 15) := by
  unfold createF
  rw [callF_lge (call_pw0 n)]
theorem syncdir_dark (a : Int) {k : Nat} {fs : List Fi} {ts : List Tn} (n : Int) : syncdirF (lgU a k fs ts (pwX n 0)) = (lgU a k fs ts (dkX (n + 1)), 15) := by
  unfold syncdirF
  rw [callF_lge (call_pw0 n)]
/-- To write into a file with room: all of it is certain, or the power went. -/
theorem write_pw (a : Int) {cs : List (List Int)} {z body : List Int} (h0 : 0 ≤ a) (h1 : a + cs.length < 100000000) (n : Int) (j : Nat) (hz : z.length ≤ 200000) (hb : body.length ≤ 1048576) (G : Fs) (hG : G = lgC a (cs ++ [z]) (pwX n j)) :
    ∃ x : Fs × Int, x = (if (appendF G (nmW (a + cs.length)) (frameS body)).2 = 0 then ((syncF (appendF G (nmW (a + cs.length)) (frameS body)).1 (nmW (a + cs.length))).1, (syncF (appendF G (nmW (a + cs.length)) (frameS body)).1 (nmW (a + cs.length))).2) else ((appendF G (nmW (a + cs.length)) (frameS body)).1, (appendF G (nmW (a + cs.length)) (frameS body)).2)) ∧
      ((∃ j', x = (lgC a (cs ++ [z ++ frameS body]) (pwX (n + 2) j'), 0)) ∨ ∃ t n', n' ≤ n + 2 ∧ n ≤ n' ∧ x = (tornW a cs z ((frameS body).take t) n', 15)) := by
  subst hG
  have hf := (frameS_long body).2
  refine ⟨_, rfl, ?_⟩
  cases j with
  | zero =>
    rw [append_dark a h0 h1 n (by omega)]
    dsimp only
    rw [if_neg (by decide)]
    exact Or.inr ⟨(frameS body).length / 2, n + 1, by omega, by omega, rfl⟩
  | succ j =>
    rw [append_pend a h0 h1 (call_pw n j) (by omega)]
    dsimp only
    rw [if_pos rfl]
    cases j with
    | zero =>
      rw [sync_dark]
      refine Or.inr ⟨(frameS body).length, n + 2, by omega, by omega, ?_⟩
      rw [List.take_length]
      unfold tornW
      rw [show n + 1 + 1 = n + 2 by omega]
    | succ j =>
      have e4 := sync_lg (X := pwX (n + 1) (j + 1)) (Y := pwX (n + 1 + 1) j) (a := a) (k := cs.length + 1) h0 (by omega) (call_pw _ _) (cs := cleanW cs) (z := z) (us := moreU (frameS body)) (by rw [cleanW_len])
      rw [cleanW_len] at e4
      rw [e4, unsB_more]
      refine Or.inl ⟨j, ?_⟩
      unfold lgC
      rw [cleanW_app, List.length_append, show n + 1 + 1 = n + 2 by omega]
      rfl
/-- What an append leaves, if the power goes in it. -/
inductive FailW (a : Int) (cs : List (List Rc)) (l : List Rc) (r : Rc) : Fs → Prop
  | here (t : Nat) (n : Int) : FailW a cs l r (tornW a (cs.map fileR) (fileR l) ((frameS (putRc r)).take t) n)
  | next (t : Nat) (n : Int) : FailW a cs l r (tornW a ((cs ++ [l]).map fileR) (fileR []) ((frameS (putRc r)).take t) n)
  | made (n : Int) : FailW a cs l r (madeW a (cs.map fileR ++ [fileR l]) n)
/-- Where the next record goes. -/
def nxC (cs : List (List Rc)) (l : List Rc) : List (List Rc) := if (fileR l).length < 4096 then cs else cs ++ [l]
def nxL (l : List Rc) (r : Rc) : List Rc := if (fileR l).length < 4096 then l ++ [r] else [r]
theorem nx_flat (cs : List (List Rc)) (l : List Rc) (r : Rc) : (nxC cs l).flatten ++ nxL l r = cs.flatten ++ l ++ [r] := by
  unfold nxC nxL
  split <;> simp
theorem nxC_len (cs : List (List Rc)) (l : List Rc) : cs.length ≤ (nxC cs l).length ∧ (nxC cs l).length ≤ cs.length + 1 := by
  unfold nxC
  split <;> simp
theorem app_of {F G : Fs} {n : Int} {body : List Int} {x : Fs × Int} (hr : roomW F n = (G, 0, n)) (hb : body.length ≤ 1048576)
    (hx : x = (if (appendF G (nmW n) (frameS body)).2 = 0 then ((syncF (appendF G (nmW n) (frameS body)).1 (nmW n)).1, (syncF (appendF G (nmW n) (frameS body)).1 (nmW n)).2) else ((appendF G (nmW n) (frameS body)).1, (appendF G (nmW n) (frameS body)).2))) : appendW F n body = (x.1, x.2, n) := by
  unfold appendW
  rw [hr]
  dsimp only
  rw [if_pos rfl, if_neg (by omega), hx]
  split <;> rfl
theorem app_of2 {F G : Fs} {n k : Int} {body : List Int} {x : Fs × Int} (hr : roomW F n = (G, 0, k)) (hb : body.length ≤ 1048576)
    (hx : x = (if (appendF G (nmW k) (frameS body)).2 = 0 then ((syncF (appendF G (nmW k) (frameS body)).1 (nmW k)).1, (syncF (appendF G (nmW k) (frameS body)).1 (nmW k)).2) else ((appendF G (nmW k) (frameS body)).1, (appendF G (nmW k) (frameS body)).2))) : appendW F n body = (x.1, x.2, k) := by
  unfold appendW
  rw [hr]
  dsimp only
  rw [if_pos rfl, if_neg (by omega), hx]
  split <;> rfl
/-- A record is appended, the power armed: it is certain, or the power went. -/
theorem append_pw {a : Int} {cs : List (List Rc)} {l : List Rc} {r : Rc} (h0 : 0 ≤ a) (h1 : a + cs.length + 2 ≤ 99999999) (h2 : cs.length + 1 < 1024) (hl : (fileR l).length ≤ 200000) (hb : (putRc r).length ≤ 1048576) (n : Int) (j : Nat) :
    (∃ n' j', n ≤ n' ∧ n' ≤ n + 4 ∧ appendW (lgR a cs (fileR l) (pwX n j)) (a + cs.length) (putRc r) = (lgR a (nxC cs l) (fileR (nxL l r)) (pwX n' j'), 0, a + (nxC cs l).length)) ∨
      ∃ F' last, FailW a cs l r F' ∧ appendW (lgR a cs (fileR l) (pwX n j)) (a + cs.length) (putRc r) = (F', 15, last) ∧ F'.n ≤ n + 4 ∧ n ≤ F'.n := by
  have hcl : ((cs.map fileR).length : Int) = cs.length := by rw [List.length_map]
  by_cases hs : (fileR l).length < 4096
  · have e1 : nxC cs l = cs := by unfold nxC; rw [if_pos hs]
    have e2 : nxL l r = l ++ [r] := by unfold nxL; rw [if_pos hs]
    rw [e1, e2, fileR_snoc]
    have hr := room_lg (a := a) (cs := cs.map fileR) (z := fileR l) (X := pwX n j) h0 (by omega) hs
    rw [hcl] at hr
    obtain ⟨x, hx, hc⟩ := write_pw a (cs := cs.map fileR) (z := fileR l) (body := putRc r) h0 (by omega) n j hl hb _ rfl
    rw [hcl] at hx
    have ha := app_of hr hb hx
    unfold lgR
    rw [ha]
    rcases hc with ⟨j', rfl⟩ | ⟨t, n', q1, q2, rfl⟩
    · exact Or.inl ⟨n + 2, j', by omega, by omega, rfl⟩
    · exact Or.inr ⟨_, _, FailW.here t n', rfl, by show n' ≤ _; omega, q2⟩
  · have e1 : nxC cs l = cs ++ [l] := by unfold nxC; rw [if_neg hs]
    have e2 : nxL l r = [r] := by unfold nxL; rw [if_neg hs]
    rw [e1, e2]
    have hroom : roomW (lgR a cs (fileR l) (pwX n j)) (a + cs.length) = turnW (lgR a cs (fileR l) (pwX n j)) (a + cs.length) := by
      have := read_last (a := a) (cs := cs.map fileR) (z := fileR l) (X := pwX n j) h0 (by omega)
      rw [hcl] at this
      unfold roomW lgR
      rw [this, if_neg (by simpa using hs)]
    have hbl : (cs.map fileR ++ [fileR l]).length = cs.length + 1 := by rw [List.length_append, List.length_map, List.length_singleton]
    have hne : ¬ nmW (a + cs.length + 1) = ByteArray.empty := by rw [nmW_empty]; omega
    have hk : a + (cs.length : Int) + 1 = a + ((cs.map fileR ++ [fileR l]).length : Int) := by rw [hbl]; omega
    cases j with
    | zero =>
      refine Or.inr ⟨_, a + cs.length, FailW.here 0 (n + 1), ?_, by show n + 1 ≤ _; omega, by show n ≤ n + 1; omega⟩
      have e : appendW (lgR a cs (fileR l) (pwX n 0)) (a + cs.length) (putRc r) = roomW (lgR a cs (fileR l) (pwX n 0)) (a + cs.length) := by
        unfold appendW
        rw [hroom]
        unfold turnW
        rw [if_neg hne]
        unfold lgR lgC
        rw [create_dark]
        simp only [if_neg (show ¬ (15 : Int) = 0 by decide)]
      rw [e, hroom]
      unfold turnW
      rw [if_neg hne]
      unfold lgR lgC
      rw [create_dark]
      dsimp only
      rw [if_neg (by decide)]
      unfold tornW
      rw [List.take_zero, cleanW_app, hbl, List.length_map]
      rfl
    | succ j =>
      have hcr := create_lg (a := a) (k := (cs.map fileR ++ [fileR l]).length) (fs := cleanW (cs.map fileR ++ [fileR l])) (X := pwX n (j + 1)) (Y := pwX (n + 1) j) h0 (by rw [hbl]; omega) (by rw [hbl]; omega) (call_pw n j)
      cases j with
      | zero =>
        refine Or.inr ⟨_, a + cs.length, FailW.made (n + 2), ?_, by show n + 2 ≤ _; omega, by show n ≤ n + 2; omega⟩
        have et : turnW (lgR a cs (fileR l) (pwX n 1)) (a + cs.length) = (madeW a (cs.map fileR ++ [fileR l]) (n + 2), 15, a + cs.length) := by
          unfold turnW
          rw [if_neg hne, hk]
          unfold lgR lgC
          rw [hcr]
          dsimp only
          rw [if_pos rfl, syncdir_dark]
          dsimp only
          rw [if_neg (by decide), cleanW_len]
          unfold madeW
          rw [show n + 1 + 1 = n + 2 by omega]
          rfl
        unfold appendW
        rw [hroom, et]
        dsimp only
        rw [if_neg (by decide)]
      | succ j =>
        have ht := turn_lg (a := a) (bs := cs.map fileR ++ [fileR l]) (X := pwX n (j + 1 + 1)) (Y := pwX (n + 1) (j + 1)) (Z := pwX (n + 1 + 1) j) h0 (by rw [hbl]; omega) (by rw [hbl]; omega) (call_pw _ _) (call_pw _ _) (n := a + cs.length) hk
        have hr : roomW (lgR a cs (fileR l) (pwX n (j + 1 + 1))) (a + cs.length) = (lgC a (cs.map fileR ++ [fileR l] ++ [[]]) (pwX (n + 1 + 1) j), 0, a + cs.length + 1) := by rw [hroom]; exact ht
        obtain ⟨x, hx, hc⟩ := write_pw a (cs := cs.map fileR ++ [fileR l]) (z := []) (body := putRc r) h0 (by rw [hbl]; omega) (n + 1 + 1) j (by simp) hb _ rfl
        rw [← hk] at hx
        have ha := app_of2 hr hb hx
        rw [ha]
        have em : (cs ++ [l]).map fileR = cs.map fileR ++ [fileR l] := by rw [List.map_append, List.map_singleton]
        rcases hc with ⟨j', rfl⟩ | ⟨t, n', q1, q2, rfl⟩
        · refine Or.inl ⟨n + 1 + 1 + 2, j', by omega, by omega, ?_⟩
          unfold lgR
          rw [em, List.length_append, List.length_singleton, show fileR [r] = [] ++ frameS (putRc r) by simp [fileR, laidS]]
          dsimp only
          rw [show a + (cs.length : Int) + 1 = a + ((cs.length + 1 : Nat) : Int) by omega]
        · refine Or.inr ⟨_, a + cs.length + 1, FailW.next t n', ?_, by show n' ≤ _; omega, by show n ≤ n'; omega⟩
          rw [em]
          rfl
/-- The same with nothing armed. -/
theorem append_cl {a : Int} {cs : List (List Rc)} {l : List Rc} {r : Rc} (h0 : 0 ≤ a) (h1 : a + cs.length + 2 ≤ 99999999) (h2 : cs.length + 1 < 1024) (hb : (putRc r).length ≤ 1048576) (n : Int) :
    ∃ n', n ≤ n' ∧ n' ≤ n + 4 ∧ appendW (lgR a cs (fileR l) (clX n)) (a + cs.length) (putRc r) = (lgR a (nxC cs l) (fileR (nxL l r)) (clX n'), 0, a + (nxC cs l).length) := by
  have hcl : ((cs.map fileR).length : Int) = cs.length := by rw [List.length_map]
  by_cases hs : (fileR l).length < 4096
  · have e1 : nxC cs l = cs := by unfold nxC; rw [if_pos hs]
    have e2 : nxL l r = l ++ [r] := by unfold nxL; rw [if_pos hs]
    rw [e1, e2, fileR_snoc]
    have h := append_lgc (a := a) (cs := cs.map fileR) (z := fileR l) h0 (by omega) hs hb (call_cl n) (call_cl (n + 1))
    rw [hcl] at h
    exact ⟨n + 1 + 1, by omega, by omega, h⟩
  · have e1 : nxC cs l = cs ++ [l] := by unfold nxC; rw [if_neg hs]
    have e2 : nxL l r = [r] := by unfold nxL; rw [if_neg hs]
    rw [e1, e2]
    have hbl : (cs.map fileR ++ [fileR l]).length = cs.length + 1 := by rw [List.length_append, List.length_map, List.length_singleton]
    have hk : a + (cs.length : Int) + 1 = a + ((cs.map fileR ++ [fileR l]).length : Int) := by rw [hbl]; omega
    have hroom : roomW (lgR a cs (fileR l) (clX n)) (a + cs.length) = turnW (lgR a cs (fileR l) (clX n)) (a + cs.length) := by
      have := read_last (a := a) (cs := cs.map fileR) (z := fileR l) (X := clX n) h0 (by omega)
      rw [hcl] at this
      unfold roomW lgR
      rw [this, if_neg (by simpa using hs)]
    have ht := turn_lg (a := a) (bs := cs.map fileR ++ [fileR l]) h0 (by rw [hbl]; omega) (by rw [hbl]; omega) (call_cl n) (call_cl (n + 1)) (n := a + cs.length) hk
    have h := append_lgc (a := a) (cs := cs.map fileR ++ [fileR l]) (z := []) h0 (by rw [hbl]; omega) (by simp) hb (call_cl (n + 1 + 1)) (call_cl (n + 1 + 1 + 1))
    have hrm := room_lg (a := a) (cs := cs.map fileR ++ [fileR l]) (z := []) (X := clX (n + 1 + 1)) h0 (by rw [hbl]; omega) (by simp)
    refine ⟨n + 1 + 1 + 1 + 1, by omega, by omega, ?_⟩
    have em : (cs ++ [l]).map fileR = cs.map fileR ++ [fileR l] := by rw [List.map_append, List.map_singleton]
    have e3 : appendW (lgR a cs (fileR l) (clX n)) (a + cs.length) (putRc r) = appendW (lgC a (cs.map fileR ++ [fileR l] ++ [[]]) (clX (n + 1 + 1))) (a + ((cs.map fileR ++ [fileR l]).length : Int)) (putRc r) := by
      unfold appendW
      rw [hroom, hrm]
      unfold lgR
      rw [ht, ← hk]
    rw [e3, h]
    unfold lgR
    rw [em, show fileR [r] = [] ++ frameS (putRc r) by simp [fileR, laidS], hbl, List.length_append, List.length_singleton]
/-! ### opened, and made ready -/
/-- Bytes of a frame behind whole ones: none, unless all of them. -/
theorem recs_torn {l : List Rc} {r : Rc} (hl : ∀ x ∈ l, GoodR x) (hr : GoodR r) (t : Nat) :
    ((frameS (putRc r)).length ≤ t ∧ fileR l ++ (frameS (putRc r)).take t = fileR (l ++ [r])) ∨ (findS (fileR l ++ (frameS (putRc r)).take t) ((fileR l).length : Int) = none ∧ recsW false (fileR l ++ (frameS (putRc r)).take t) = some (l, (fileR l).length)) := by
  by_cases h : (frameS (putRc r)).length ≤ t
  · refine Or.inl ⟨h, ?_⟩
    rw [List.take_of_length_le h, fileR_snoc]
  · have hc := findS_cut (body := putRc r) (by have := hr.hi; omega) hr.by8 (laidS_byte (fileR_fr hl)) (j := t) (by omega)
    exact Or.inr ⟨hc, recsW_laid (fileR_fr hl) (fileR_get hl) _ hc⟩
theorem cut_lg {a : Int} {cs : List (List Int)} {z : List Int} {e : Nat} (h0 : 0 ≤ a) (h1 : a + cs.length < 100000000) (he : e ≤ z.length) {X Y : Fs} (hX : callF X = (Y, none)) : cutF (lgC a (cs ++ [z]) X) (nmW (a + cs.length)) e = (lgU a (cs.length + 1) (cleanW cs ++ [⟨z, [⟨0, true, e⟩]⟩]) [] Y, 0) := by
  unfold cutF lgC
  have hl : (cs ++ [z]).length = cs.length + 1 := by rw [List.length_append, List.length_singleton]
  rw [callF_lgo hX]
  dsimp only
  rw [hl, if_neg (by rw [mayW h0 (by omega)]; decide), fileF_lg h0 (by omega) (by omega)]
  dsimp only
  have e0 : atF (lgU a (cs.length + 1) (cleanW (cs ++ [z])) [] Y) cs.length = ⟨z, []⟩ := by
    show (cleanW (cs ++ [z])).getD cs.length emF = _
    rw [cleanW_app, List.getD_eq_getElem?_getD, List.getElem?_append_right (by rw [cleanW_len]; exact Nat.le_refl _), cleanW_len, Nat.sub_self]
    rfl
  rw [e0, if_neg (by show ¬ (_ ∨ ((z.length : Nat) : Int) < _); omega)]
  unfold moreF
  rw [e0]
  have e2 : (lgU a (cs.length + 1) (cleanW (cs ++ [z])) [] Y).files.set cs.length ⟨z, [] ++ [⟨0, true, e⟩]⟩ = cleanW cs ++ [⟨z, [⟨0, true, e⟩]⟩] := by
    show (cleanW (cs ++ [z])).set cs.length _ = _
    rw [cleanW_app, List.set_append_right _ _ (by rw [cleanW_len]; exact Nat.le_refl _), cleanW_len, Nat.sub_self]
    rfl
  rw [e2]
  rfl
/-- Made ready: the last file ends where its frames end. -/
theorem ready_lg {a : Int} {cs : List (List Int)} {z : List Int} {e : Nat} (h0 : 0 ≤ a) (h1 : a + cs.length < 100000000) (he : e ≤ z.length) (n : Int) :
    ∃ n', n ≤ n' ∧ n' ≤ n + 3 ∧ readyG (lgC a (cs ++ [z]) (clX n)) ⟨a + cs.length, a + cs.length, if e < z.length then (e : Int) else -1, false⟩ = (lgC a (cs ++ [z.take e]) (clX n'), 0, ⟨a + cs.length, a + cs.length, -1, true⟩) := by
  have hr := read_last (a := a) (cs := cs) (z := z) (X := clX n) h0 h1
  have hl : ∀ y : List Int, (cs ++ [y]).length = cs.length + 1 := fun y => by rw [List.length_append, List.length_singleton]
  have step : ∀ (us : List Un) (m : Int), unsB z us = z.take e → (syncF (lgU a (cs.length + 1) (cleanW cs ++ [⟨z, us⟩]) [] (clX m)) (nmW (a + cs.length))) = (lgU a (cs.length + 1) (cleanW cs ++ [⟨z.take e, []⟩]) [] (clX (m + 1)), 0) := fun us m hu => by
    have e4 := sync_lg (a := a) (k := cs.length + 1) (X := clX m) (Y := clX (m + 1)) h0 (by omega) (call_cl m) (cs := cleanW cs) (z := z) (us := us) (by rw [cleanW_len])
    rw [cleanW_len, hu] at e4
    exact e4
  have fin : ∀ m : Int, syncdirF (lgU a (cs.length + 1) (cleanW cs ++ [⟨z.take e, []⟩]) [] (clX m)) = (lgC a (cs ++ [z.take e]) (clX (m + 1)), 0) := fun m => by
    rw [syncdir_lgn (call_cl m)]
    unfold lgC
    rw [hl, cleanW_app]
    rfl
  unfold readyG
  dsimp only
  rw [if_neg (by decide), hr]
  by_cases hc : e < z.length
  · rw [if_pos hc]
    have hm : mendW (lgC a (cs ++ [z]) (clX n)) (nmW (a + cs.length)) (some z).isSome e = (lgU a (cs.length + 1) (cleanW cs ++ [⟨z, [⟨0, true, e⟩]⟩]) [] (clX (n + 1)), 0) := by
      unfold mendW
      rw [if_neg (fun h => by cases h), if_neg (by omega), cut_lg h0 h1 he (call_cl n)]
    have hu : unsB z [⟨0, true, e⟩] = z.take e := by simp [unsB, unB]
    refine ⟨n + 1 + 1 + 1, by omega, by omega, ?_⟩
    rw [hm]
    dsimp only
    rw [step _ _ hu]
    dsimp only
    rw [fin]
    dsimp only
    rw [if_pos rfl, if_pos rfl, if_pos rfl]
  · rw [if_neg hc]
    have hm : mendW (lgC a (cs ++ [z]) (clX n)) (nmW (a + cs.length)) (some z).isSome (-1) = (lgU a (cs.length + 1) (cleanW cs ++ [⟨z, []⟩]) [] (clX n), 0) := by
      unfold mendW
      rw [if_neg (fun h => by cases h), if_pos rfl]
      unfold lgC
      rw [hl, cleanW_app]
      rfl
    have hu : unsB z [] = z.take e := by
      rw [List.take_of_length_le (by omega)]
      rfl
    refine ⟨n + 1 + 1, by omega, by omega, ?_⟩
    rw [hm]
    dsimp only
    rw [step _ _ hu]
    dsimp only
    rw [fin]
    dsimp only
    rw [if_pos rfl, if_pos rfl, if_pos rfl]
end Go.Proofs.YtknghoecjobkiabGreatDoor

namespace Go.Proofs.YtknghoecjobkiabGreatDoor
open Go.RowKit Go.Maps
set_option maxRecDepth 20000
set_option linter.unusedVariables false

section
variable {cs : List (List Rc)} {l : List Rc}
end
theorem lgR_lim4 {a : Int} {cs : List (List Rc)} {z : List Int} {X : Fs} (h1 : cs.length ≤ 1000) (h3 : ∀ c ∈ cs, (fileR c).length ≤ 105200) (hz : z.length ≤ 400000) (h4 : 0 ≤ X.n ∧ X.n ≤ 400000) : LimB 400000 (lgR a cs z X) :=
  lgR_lim (by omega) (fun c hc => Nat.le_trans (h3 c hc) (by omega)) hz (by omega)
/-- What an opening finds of a log. -/
structure FoundW (rs : List Rc) (cs : List (List Rc)) (z : List Int) (l : List Rc) (e : Nat) : Prop where
  recs : recsW false z = some (l, e)
  le : e ≤ z.length
  cut : z.take e = fileR l
  gr : GrF z
  size : z.length ≤ 400000
  few : cs.length ≤ 200
  each : ∀ c ∈ cs, (fileR c).length ≤ 105200
  last : (fileR l).length ≤ 210000
  flat : cs.flatten ++ l = rs
  all : ∀ r ∈ rs, GoodR r
section
variable {rs : List Rc} {cs : List (List Rc)} {z : List Int} {l : List Rc} {e : Nat}
theorem FoundW.good (h : FoundW rs cs z l e) : (∀ c ∈ cs, ∀ r ∈ c, GoodR r) ∧ ∀ r ∈ l, GoodR r :=
  ⟨fun c hc r hr => h.all r (by rw [← h.flat]; exact List.mem_append_left _ (List.mem_flatten.2 ⟨c, hc, hr⟩)), fun r hr => h.all r (by rw [← h.flat]; exact List.mem_append_right _ hr)⟩
theorem FoundW.open (h : FoundW rs cs z l e) (X : Fs) : openW false (lgR 1 cs z X) 1 = some ⟨rs, if e < z.length then (e : Int) else -1, 1 + cs.length, true⟩ := by
  have := h.few
  rw [openR (by omega) (by omega) h.good.1 h.recs, h.flat]
theorem FoundW.ready (h : FoundW rs cs z l e) : ∃ n', 0 ≤ n' ∧ n' ≤ 3 ∧ readyG (lgR 1 cs z fs0) ⟨1 + cs.length, 1 + cs.length, if e < z.length then (e : Int) else -1, false⟩ = (lgR 1 cs (fileR l) (clX n'), 0, ⟨1 + cs.length, 1 + cs.length, -1, true⟩) := by
  have := h.few
  obtain ⟨n', h1, h2, h3⟩ := ready_lg (a := 1) (cs := cs.map fileR) (z := z) (e := e) (by omega) (by rw [List.length_map]; omega) h.le 0
  rw [List.length_map, h.cut] at h3
  exact ⟨n', h1, by omega, h3⟩
/-- One more behind it. -/
theorem FoundW.more (h : FoundW rs cs z l e) {r : Rc} (hr : GoodR r) (X : Fs) :
    openW false (lgR 1 (nxC cs l) (fileR (nxL l r)) X) 1 = some ⟨rs ++ [r], -1, 1 + (nxC cs l).length, true⟩ ∧ (∀ n bs, readF (lgR 1 (nxC cs l) (fileR (nxL l r)) X) (nmW n) = some bs → GrF bs) ∧ (nxC cs l).length ≤ 201 ∧ (∀ c ∈ nxC cs l, (fileR c).length ≤ 210000) ∧ (fileR (nxL l r)).length ≤ 315000 := by
  have hf := h.few
  have hfl := nx_flat cs l r
  rw [h.flat] at hfl
  have hg2 : (∀ c ∈ nxC cs l, ∀ x ∈ c, GoodR x) ∧ ∀ x ∈ nxL l r, GoodR x := by
    have key : ∀ x ∈ rs ++ [r], GoodR x := fun x hx => by
      rcases List.mem_append.1 hx with q | q
      · exact h.all x q
      · obtain rfl := List.mem_singleton.1 q
        exact hr
    rw [← hfl] at key
    exact ⟨fun c hc x hx => key x (List.mem_append_left _ (List.mem_flatten.2 ⟨c, hc, hx⟩)), fun x hx => key x (List.mem_append_right _ hx)⟩
  have hn := nxC_len cs l
  have hl := (frameS_long (putRc r)).2
  have hi := hr.hi
  refine ⟨?_, fun n bs hb => lgR_grF hg2.1 (grF_all hg2.2) n bs hb, by omega, ?_, ?_⟩
  · rw [openR_all (by omega) (by omega) hg2.1 hg2.2, hfl]
  · intro c hc
    unfold nxC at hc
    split at hc
    · exact Nat.le_trans (h.each c hc) (by omega)
    · rcases List.mem_append.1 hc with q | q
      · exact Nat.le_trans (h.each c q) (by omega)
      · obtain rfl := List.mem_singleton.1 q
        exact h.last
  · have := h.last
    unfold nxL
    split
    · rw [fileR_snoc, List.length_append]
      omega
    · have e : fileR [r] = frameS (putRc r) := by simp [fileR, laidS]
      rw [e]
      omega
end
/-- Behind a crash. -/
def CrK (base : Nat) (w u : World) (g : Nat) (rs : List Rc) : Prop := ∃ cs z l e, FoundW rs cs z l e ∧ OnL base w u g (lgR 1 cs z fs0)
/-- Opened behind a crash. -/
def OpK (base : Nat) (w u : World) (g q : Nat) (rs : List Rc) : Prop := ∃ cs z l e, FoundW rs cs z l e ∧ OnG base w u g q (lgR 1 cs z fs0) ⟨1 + cs.length, 1 + cs.length, if e < z.length then (e : Int) else -1, false⟩
theorem cr_open {base : Nat} {w u : World} {g : Nat} {rs : List Rc} (h : CrK base w u g rs) (hT : TbP w) (hb : w.heap.size ≤ base) :
    Calls Tryz.prog 6 #[.pointer (some ⟨g, 0, none⟩), .int .i64 1] u fun e u' => ∃ q a c, e = .returned (.tuple #[.pointer (some ⟨q, 0, none⟩), .slice a rs.length c, .int .i64 0]) ∧ OpK base w u' g q rs ∧ RecsAt u' u.heap.size a rs.length c rs := by
  obtain ⟨cs, z, l, e, hf, ho⟩ := h
  have hfe := hf.few
  have hL : LimB 400000 (lgR 1 cs z fs0) := lgR_lim4 (by omega) hf.each hf.size (by decide)
  refine (on_open_of ho (fun n bs hb => lgR_grF hf.good.1 hf.gr n bs hb) hT hb hL (by omega) 1 (by decide) (lgR_few (by omega) (by omega) (by omega))).mono ?_
  intro x u' h
  obtain ⟨q, a, c, he, hG, hR⟩ := onOpen_ok h nm1_ne (hf.open fs0)
  dsimp only at he hG hR
  exact ⟨q, a, c, he, ⟨cs, z, l, e, hf, hG⟩, hR⟩
/-- Ready behind a crash. -/
def RdK (base : Nat) (w u : World) (g q : Nat) (rs : List Rc) : Prop := ∃ cs z l e n, FoundW rs cs z l e ∧ 0 ≤ n ∧ n ≤ 3 ∧ OnG base w u g q (lgR 1 cs (fileR l) (clX n)) ⟨1 + cs.length, 1 + cs.length, -1, true⟩
theorem op_ready {base : Nat} {w u : World} {g q : Nat} {rs : List Rc} (h : OpK base w u g q rs) : Calls Tryz.prog 7 #[.pointer (some ⟨q, 0, none⟩)] u fun e u' => e = .returned (.int .i64 0) ∧ RdK base w u' g q rs := by
  obtain ⟨cs, z, l, e, hf, hG⟩ := h
  have hfe := hf.few
  obtain ⟨n', n0, n1, hr⟩ := hf.ready
  have hL : LimB 400000 (lgR 1 cs z fs0) := lgR_lim4 (by omega) hf.each hf.size (by decide)
  have R := ong_ready hG hL (by omega)
  rw [hr] at R
  refine R.mono ?_
  rintro x u' ⟨hx, h⟩
  exact ⟨hx, cs, z, l, e, n', hf, n0, n1, h⟩
/-- With one more. -/
def MrK (base : Nat) (w u : World) (g : Nat) (rs : List Rc) (r : Rc) : Prop := ∃ F, (∀ ops ps, ∃ F', crashF F ops ps = F' ∧ (∃ last, openW false F' 1 = some ⟨rs ++ [r], -1, last, true⟩) ∧ (∀ n bs, readF F' (nmW n) = some bs → GrF bs) ∧ FewF F' 1 ∧ LimB 400000 F') ∧ LimB 400000 F ∧ OnL base w u g F
theorem rd_append {base : Nat} {w u v : World} {g q : Nat} {rs : List Rc} (h : RdK base w u g q rs) (b : Below u.heap.size u v) {s a : Int} (hs : I64 s) (ha : I64 a) {hh : RecH} (sx : SeeR (fun k => u.heap.size ≤ k) v (recN s a) hh) :
    Calls Tryz.prog 10 #[.pointer (some ⟨q, 0, none⟩), (Value.agg #[.int .i64 (RecX.seq ((recN s a))), .int .i64 (RecX.kind ((recN s a))), .slice (RecH.la hh) (RecH.ln hh) (RecH.lc hh), .int .i64 (RecX.at9 ((recN s a))), .slice (Hd.a (RecH.sk hh)) (Hd.n (RecH.sk hh)) (Hd.c (RecH.sk hh)), .slice (Hd.k (RecH.sk hh)) (Hd.m (RecH.sk hh)) (Hd.d (RecH.sk hh)), .int .u64 (Gz.n (Sp.g (RecX.sk ((recN s a))))), .int .u64 (Gz.nans (Sp.g (RecX.sk ((recN s a))))), .int .u64 (Gz.lo (Sp.g (RecX.sk ((recN s a))))), .int .u64 (Gz.hi (Sp.g (RecX.sk ((recN s a))))), .int .i64 (RecX.tseq ((recN s a))), .int .i64 (Hm.op (RecH.m hh)), .string (Hm.nm (RecH.m hh)), .string (Hm.vl (RecH.m hh)), .slice (Hm.va (RecH.m hh)) (Hm.vn (RecH.m hh)) (Hm.vc (RecH.m hh)), .slice (Hm.ka (RecH.m hh)) (Hm.kn (RecH.m hh)) (Hm.kc (RecH.m hh)), .int .i64 (RecX.frm ((recN s a))), .int .i64 (RecX.till ((recN s a)))])] v fun e v' => e = .returned (.int .i64 0) ∧ MrK base w v' g rs (rcN s a) := by
  obtain ⟨cs, z, l, e, n, hf, n0, n1, hG⟩ := h
  have hfe := hf.few
  have hgr := goodN hs ha
  have hL : LimB 400000 (lgR 1 cs (fileR l) (clX n)) := lgR_lim4 (by omega) hf.each (by have := hf.last; omega) ⟨n0, by show n ≤ _; omega⟩
  have A := ong_append_of hG b hL (by omega) sx (fun k hk => Or.inr hk) (puts_one sx rfl (setN_chk a) (skN_ok a).chk)
  obtain ⟨n', m0, m1, he⟩ := append_cl (a := 1) (cs := cs) (l := l) (r := rcN s a) (by omega) (by omega) (by omega) (by have := hgr.hi; omega) n
  rw [rcX_recN] at A
  dsimp only at A
  rw [he] at A
  refine A.mono ?_
  rintro x v' ⟨hx, hv⟩
  have hm := fun X => hf.more hgr X
  obtain ⟨_, _, c1, c2, c3⟩ := hm fs0
  have lim : ∀ X : Fs, (0 ≤ X.n ∧ X.n ≤ 1000) → LimB 400000 (lgR 1 (nxC cs l) (fileR (nxL l (rcN s a))) X) := fun X hX => lgR_lim (by omega) (fun c hc => Nat.le_trans (c2 c hc) (by omega)) (by omega) (by omega)
  refine ⟨hx, _, fun ops ps => ⟨_, crash_calm _ _ _ ops ps, ⟨_, (hm fs0).1⟩, (hm fs0).2.1, lgR_few (by omega) (by omega) (by omega), lim fs0 (by decide)⟩, lim _ ⟨by show 0 ≤ n'; omega, by show n' ≤ _; omega⟩, hv.fs⟩
theorem mr_crash {base : Nat} {w u : World} {g : Nat} {rs : List Rc} {r : Rc} (h : MrK base w u g rs r) :
    Calls Tryz.prog 19 #[.pointer (some ⟨g, 0, none⟩), .int .i64 0, .slice none 0 0] u fun e u' => ∃ g', e = .returned (.pointer (some ⟨g', 0, none⟩)) ∧ Below u.heap.size u u' ∧ ∃ F', ((∃ last, openW false F' 1 = some ⟨rs ++ [r], -1, last, true⟩) ∧ (∀ n bs, readF F' (nmW n) = some bs → GrF bs) ∧ FewF F' 1 ∧ LimB 400000 F') ∧ OnL base w u' g' F' := by
  obtain ⟨F, hc, hL, ho⟩ := h
  obtain ⟨F', e1, e2⟩ := hc 0 []
  refine (on_crash ho hL (by omega) 0 (by decide) none 0 0 [] ⟨rfl, by decide, fun z hz => by simp at hz, Or.inl rfl⟩ (by omega)).mono ?_
  rintro x u' ⟨g', hx, b, q⟩
  rw [e1] at q
  exact ⟨g', hx, b, F', e2, q⟩
theorem fin_open {base : Nat} {w u : World} {g : Nat} {rs : List Rc} {r : Rc} {F' : Fs} (h : (∃ last, openW false F' 1 = some ⟨rs ++ [r], -1, last, true⟩) ∧ (∀ n bs, readF F' (nmW n) = some bs → GrF bs) ∧ FewF F' 1 ∧ LimB 400000 F') (ho : OnL base w u g F') (hT : TbP w) (hb : w.heap.size ≤ base) :
    Calls Tryz.prog 6 #[.pointer (some ⟨g, 0, none⟩), .int .i64 1] u fun e u' => ∃ q a c, e = .returned (.tuple #[.pointer (some ⟨q, 0, none⟩), .slice a (rs.length + 1) c, .int .i64 0]) ∧ Below base w u' ∧ RecsAt u' u.heap.size a (rs.length + 1) c (rs ++ [r]) := by
  obtain ⟨⟨last, h1⟩, h2, h3, h4⟩ := h
  refine (on_open_of ho h2 hT hb h4 (by omega) 1 (by decide) h3).mono ?_
  intro x u' h
  obtain ⟨q, a, c, he, hG, hR⟩ := onOpen_ok h nm1_ne h1
  dsimp only at he hG hR
  rw [List.length_append, List.length_singleton] at he hR
  exact ⟨q, a, c, he, hG.bel, hR⟩
end Go.Proofs.YtknghoecjobkiabGreatDoor

namespace Go.Proofs.YtknghoecjobkiabGreatDoor
open Go.RowKit Go.Maps
set_option maxRecDepth 20000
set_option linter.unusedVariables false

def recsT (n : Nat) : List Rc := (List.range n).map fun i : Nat => rcN ((i : Int) + 1) i
theorem recsT_succ (n : Nat) : recsT (n + 1) = recsT n ++ [rcN ((n : Int) + 1) n] := by
  unfold recsT
  rw [List.range_succ, List.map_append]
  rfl
theorem recsT_len (n : Nat) : (recsT n).length = n := by unfold recsT; simp
theorem goodT {i : Nat} (h : i ≤ 1000) : GoodR (rcN ((i : Int) + 1) i) := goodN ⟨by omega, by omega⟩ ⟨by omega, by omega⟩
theorem recsT_good {n : Nat} (h : n ≤ 1000) : ∀ r ∈ recsT n, GoodR r := fun r hr => by
  unfold recsT at hr
  obtain ⟨i, hi, rfl⟩ := List.mem_map.1 hr
  exact goodT (by have := List.mem_range.1 hi; omega)
theorem recsT_take (n : Nat) : ∀ m, m ≤ n → ∃ l, recsT n = recsT m ++ l := fun m h => by
  refine ⟨(recsT n).drop m, ?_⟩
  have e : recsT m = (recsT n).take m := by
    unfold recsT
    rw [← List.map_take, List.take_range, Nat.min_eq_left h]
  rw [e, List.take_append_drop]
def lenT (n : Nat) : Nat := (fileR (recsT n)).length
theorem lenT_succ (n : Nat) : lenT (n + 1) = lenT n + (frameS (putRc (rcN ((n : Int) + 1) n))).length := by
  unfold lenT
  rw [recsT_succ, fileR_snoc, List.length_append]
theorem sizeT_all : ((List.range 10).all fun i : Nat => decide ((frameS (putRc (rcN ((i : Int) + 1) i))).length ≤ 400)) = true := by decide +kernel
theorem sizeT {i : Nat} (h : i < 10) : (frameS (putRc (rcN ((i : Int) + 1) i))).length ≤ 400 := by
  have := List.all_eq_true.1 sizeT_all i (List.mem_range.2 h)
  exact of_decide_eq_true this
theorem lenT_le : ∀ {n : Nat}, n ≤ 10 → lenT n ≤ 400 * n
  | 0, _ => Nat.le_refl _
  | n + 1, h => by
    have h1 := lenT_le (n := n) (by omega)
    have h2 := sizeT (i := n) (by omega)
    rw [lenT_succ]
    omega
theorem lenT_mono {n : Nat} : ∀ {m : Nat}, m ≤ n → lenT m ≤ lenT n := by
  intro m h
  obtain ⟨l, e⟩ := recsT_take n m h
  unfold lenT
  rw [e]
  unfold fileR
  rw [List.map_append, laidS_append, List.length_append]
  omega
def endsT (n : Nat) : List Int := (List.range n).map fun j : Nat => (lenT (j + 1) : Int)
theorem endsT_succ (n : Nat) : endsT (n + 1) = endsT n ++ [(lenT (n + 1) : Int)] := by
  unfold endsT
  rw [List.range_succ, List.map_append]
  rfl
theorem endsT_at {n i : Nat} (h : i < n) : (endsT n).getD i 0 = (lenT (i + 1) : Int) := by
  unfold endsT
  rw [List.getD_eq_getElem?_getD, List.getElem?_map, List.getElem?_range h]
  rfl
/-- Cut anywhere: the whole records are found. -/
theorem found_cut {n m k : Nat} (hn : n ≤ 10) (hm : m ≤ n) (hk : k ≤ lenT n) (h1 : lenT m ≤ k) (h2 : m < n → k < lenT (m + 1)) : FoundW (recsT m) [] ((fileR (recsT n)).take k) (recsT m) (lenT m) := by
  have hg := recsT_good (n := m) (by omega)
  have hl := lenT_le (n := n) hn
  have hlm := lenT_mono hm
  have hz : ((fileR (recsT n)).take k).length = k := by rw [List.length_take]; exact Nat.min_eq_left hk
  have fin : ∀ t, (fileR (recsT n)).take k = fileR (recsT m) ++ t → recsW false ((fileR (recsT n)).take k) = some (recsT m, lenT m) → GrF ((fileR (recsT n)).take k) → FoundW (recsT m) [] ((fileR (recsT n)).take k) (recsT m) (lenT m) := fun t e hw hG =>
    ⟨hw, by rw [hz]; exact h1, by rw [e]; exact List.take_left, hG, by rw [hz]; omega, by simp, fun c hc => (by cases hc), by show lenT m ≤ _; omega, rfl, hg⟩
  by_cases hmn : m < n
  · obtain ⟨l, e⟩ := recsT_take n (m + 1) hmn
    have e1 : fileR (recsT n) = fileR (recsT m) ++ (frameS (putRc (rcN ((m : Int) + 1) m)) ++ fileR l) := by
      rw [e, recsT_succ]
      unfold fileR
      rw [List.map_append, List.map_append, laidS_append, laidS_append, List.append_assoc]
      congr 2
      simp [laidS]
    have hk2 := h2 hmn
    rw [lenT_succ] at hk2
    have e2 : (fileR (recsT n)).take k = fileR (recsT m) ++ (frameS (putRc (rcN ((m : Int) + 1) m))).take (k - lenT m) := by
      rw [e1, List.take_append, List.take_of_length_le (show (fileR (recsT m)).length ≤ k from h1), show k - (fileR (recsT m)).length = k - lenT m from rfl, List.take_append_of_le_length (by omega)]
    rcases recs_torn hg (goodT (i := m) (by omega)) (k - lenT m) with ⟨q1, q2⟩ | ⟨q1, q2⟩
    · omega
    · rw [← e2] at q1 q2
      exact fin _ e2 q2 (by rw [e2]; exact grF_fileR hg (by rw [← e2]; exact q1))
  · obtain rfl : m = n := by omega
    have e2 : (fileR (recsT m)).take k = fileR (recsT m) := List.take_of_length_le (show (fileR (recsT m)).length ≤ k from h1)
    exact fin [] (by rw [e2, List.append_nil]) (by rw [e2]; exact recsW_fileR hg) (by rw [e2]; exact grF_all hg)

/-! ### in memory -/
theorem GAt.keep {g q : Nat} {S T : Nat → Prop} {w v : World} {X : Fs × Lg} (h : GAt g w q S X) (k : Ch T w v) (hn : ∀ j, S j → ¬ T j) (hg : ¬ T gPw) : GAt g v q S X := by
  obtain ⟨S0, h1, h2, h3, h4, h5, h6, h7⟩ := h
  exact ⟨S0, h1.keep k (fun j hj => hn j ((h6 j).2 (Or.inl hj))), h2.ch k (hn q ((h6 q).2 (Or.inr rfl))), h3, h4.ch k hg, h5, h6, h7⟩
/-- The log, and the list of its ends. -/
def TornE (base : Nat) (w u : World) (g q i e : Nat) (a : Option Addr) (c : Nat) : Prop := ∃ S n', GAt g u q S (lgR 1 [] (fileR (recsT i)) (clX n'), ⟨1, 1, -1, true⟩) ∧ (∀ k, S k → base ≤ k) ∧ Below base w u ∧ base ≤ u.heap.size ∧ gPw < base ∧ Own 3 .i64 u base a e c (endsT e) ∧ (∀ j, (Value.slice a e c).ownBlock = some j → ¬ S j) ∧ 0 ≤ n' ∧ n' ≤ 3 + 4 * (i : Int)
theorem torn_zero {base : Nat} {w u : World} {g q : Nat} (h : OnG base w u g q (lgR 1 [] (fileR []) (clX 3)) ⟨1, 1, -1, true⟩) (hp : gPw < base) : TornE base w u g q 0 0 none 0 := by
  obtain ⟨S, h1, h2, h3, h4⟩ := h
  exact ⟨S, 3, h1, h2, h3, h4, hp, World.ownsRow_nil _ _ _ _, fun j hj => by simp [Value.ownBlock] at hj, by omega, by omega⟩
section
variable {base : Nat} {w u v : World} {g q i e c : Nat} {a : Option Addr}
theorem TornE.bel (h : TornE base w u g q i e a c) : Below base w u := by
  obtain ⟨S, n, _, _, h3, _⟩ := h
  exact h3
theorem TornE.sz (h : TornE base w u g q i e a c) : base ≤ u.heap.size := by
  obtain ⟨S, n, _, _, _, h3, _⟩ := h
  exact h3
theorem TornE.own (h : TornE base w u g q i e a c) : Own 3 .i64 u base a e c (endsT e) := by
  obtain ⟨S, n, _, _, _, _, _, h, _⟩ := h
  exact h
theorem TornE.below (h : TornE base w u g q i e a c) (b : Below u.heap.size u v) : TornE base w v g q i e a c := by
  obtain ⟨S, n, h1, h2, h3, h4, h5, h6, h7, h8⟩ := h
  exact ⟨S, n, h1.below b, h2, h3.trans (b.mono h4), Nat.le_trans h4 b.size, h5, row_ch h6 (Ch.of_below b) (fun j hj hk => by
    have h9 := (row_cells h6 hj).1.lt
    omega), h7, h8⟩
theorem TornE.tab (h : TornE base w u g q i e a c) : TbP u := by
  obtain ⟨S, n, ⟨_, _, _, _, t, _⟩, _⟩ := h
  exact t
theorem TornE.fs (h : TornE base w u g q i e a c) (hi : i ≤ 10) : ∃ F, OnL base w u g F ∧ LimB 400000 F ∧ readF F (nmW 1) = some (fileR (recsT i)) := by
  obtain ⟨S, n, ⟨S0, h1, _, _, _, _, h6, _⟩, h2, h3, h4, h5, _, _, n0, n1⟩ := h
  have hl := lenT_le (n := i) hi
  unfold lenT at hl
  refine ⟨_, ⟨S0, h1, fun k hk => h2 k ((h6 k).2 (Or.inl hk)), h3, h4⟩, lgR_lim4 (by simp) (fun c hc => by cases hc) (by omega) ⟨n0, by show n ≤ _; omega⟩, ?_⟩
  have := read_last (a := 1) (cs := []) (z := fileR (recsT i)) (X := clX n) (by omega) (by simp)
  simpa [lgR] using this
theorem torn_append (h : TornE base w u g q i e a c) (hi : i < 10) (b : Below u.heap.size u v) {hh : RecH} (sx : SeeR (fun k => u.heap.size ≤ k) v (recN ((i : Int) + 1) i) hh) :
    Calls Tryz.prog 10 #[.pointer (some ⟨q, 0, none⟩), (Value.agg #[.int .i64 (RecX.seq ((recN ((i : Int) + 1) i))), .int .i64 (RecX.kind ((recN ((i : Int) + 1) i))), .slice (RecH.la hh) (RecH.ln hh) (RecH.lc hh), .int .i64 (RecX.at9 ((recN ((i : Int) + 1) i))), .slice (Hd.a (RecH.sk hh)) (Hd.n (RecH.sk hh)) (Hd.c (RecH.sk hh)), .slice (Hd.k (RecH.sk hh)) (Hd.m (RecH.sk hh)) (Hd.d (RecH.sk hh)), .int .u64 (Gz.n (Sp.g (RecX.sk ((recN ((i : Int) + 1) i))))), .int .u64 (Gz.nans (Sp.g (RecX.sk ((recN ((i : Int) + 1) i))))), .int .u64 (Gz.lo (Sp.g (RecX.sk ((recN ((i : Int) + 1) i))))), .int .u64 (Gz.hi (Sp.g (RecX.sk ((recN ((i : Int) + 1) i))))), .int .i64 (RecX.tseq ((recN ((i : Int) + 1) i))), .int .i64 (Hm.op (RecH.m hh)), .string (Hm.nm (RecH.m hh)), .string (Hm.vl (RecH.m hh)), .slice (Hm.va (RecH.m hh)) (Hm.vn (RecH.m hh)) (Hm.vc (RecH.m hh)), .slice (Hm.ka (RecH.m hh)) (Hm.kn (RecH.m hh)) (Hm.kc (RecH.m hh)), .int .i64 (RecX.frm ((recN ((i : Int) + 1) i))), .int .i64 (RecX.till ((recN ((i : Int) + 1) i)))])] v fun x v' => x = .returned (.int .i64 0) ∧ TornE base w v' g q (i + 1) e a c := by
  obtain ⟨S, n, h1, h2, h3, h4, h5, h6, h7, n0, n1⟩ := h
  have hs := sizeT hi
  have hl := lenT_le (n := i) (by omega)
  have hgr := goodT (i := i) (by omega)
  have hL : LimB 400000 (lgR 1 [] (fileR (recsT i)) (clX n)) := lgR_lim4 (by simp) (fun c hc => by cases hc) (by unfold lenT at hl; omega) ⟨n0, by show n ≤ _; omega⟩
  have A := wappend_of g q S (fun k => u.heap.size ≤ k) v _ _ 400000 _ hh (h1.below b) hL (by omega) sx (fun k hk e => by have := h1.lt k e; omega) (puts_one sx rfl (setN_chk i) (skN_ok i).chk)
  have hsm : (fileR (recsT i)).length < 4096 := by unfold lenT at hl; omega
  have ee := append_lgc (a := 1) (cs := []) (z := fileR (recsT i)) (X := clX n) (by omega) (by simp) hsm (body := putRc (rcN ((i : Int) + 1) i)) (by have := hgr.hi; omega) (call_cl n) (call_cl (n + 1))
  rw [List.length_nil, Int.natCast_zero, Int.add_zero] at ee
  rw [rcX_recN] at A
  dsimp only at A
  unfold lgR at A
  rw [List.map_nil, ee] at A
  refine A.mono ?_
  rintro x v' ⟨hx, S1, k1, k2, k3⟩
  refine ⟨hx, S1, n + 1 + 1, ?_, fun k hk => ?_, ?_, ?_, h5, ?_, fun j hj hk => ?_, by omega, by omega⟩
  · unfold lgR
    rw [recsT_succ, fileR_snoc]
    exact k1
  · rcases k2 k hk with q1 | q1
    · exact h2 k q1
    · exact Nat.le_trans h4 (Nat.le_trans b.size q1)
  · exact (h3.trans (b.mono h4)).trans (k3.below (Nat.le_trans h4 b.size) (fun k hk e => by have := h2 k e; omega))
  · exact Nat.le_trans h4 (Nat.le_trans b.size k3.size)
  · exact row_ch (row_ch h6 (Ch.of_below b) (fun j hj hk => by have h9 := (row_cells h6 hj).1.lt; omega)) k3 (fun j hj => h7 j hj)
  · have h9 := (row_cells h6 hj).1.lt
    rcases k2 j hk with q1 | q1
    · exact h7 j hj q1
    · have := b.size
      omega
/-- The list grown by one. -/
theorem TornE.push (h : TornE base w u g q i e a c) {a' : Option Addr} {c' : Nat} (o : Own 3 .i64 v base a' (e + 1) c' (endsT (e + 1))) (gr : u.grownBy v (Value.slice a e c).ownBlock) (hl : ∀ j, (Value.slice a' (e + 1) c').ownBlock = some j → (Value.slice a e c).ownBlock = some j ∨ u.heap.size ≤ j) : TornE base w v g q i (e + 1) a' c' := by
  obtain ⟨S, n, h1, h2, h3, h4, h5, h6, h7, h8⟩ := h
  have k := Ch.grown gr
  refine ⟨S, n, h1.keep k (fun j hj hk => h7 j hk hj) (fun hk => ?_), h2, h3.trans (k.below h4 (fun j hj e => by have := (row_cells h6 e).2; omega)), Nat.le_trans h4 k.size, h5, o, fun j hj hk => ?_, h8⟩
  · have := (row_cells h6 hk).2
    omega
  · rcases hl j hj with q1 | q1
    · exact h7 j q1 hk
    · have := h1.lt j hk
      omega
end
end Go.Proofs.YtknghoecjobkiabGreatDoor

namespace Go.Proofs.YtknghoecjobkiabGreatDoor
open Go.RowKit Go.Maps
set_option maxRecDepth 20000
set_option linter.unusedVariables false

theorem Tryz.infoWt : (Tryz.prog.info? 3).map (fun i => (i.zero, i.size, i.bytes)) = some (some (.int .i64 0), 1, 8) := by kernel_rfl
theorem exW1_lgT : exW1 = lgR 1 [] (fileR []) (clX 3) := by kernel_rfl
theorem endsT_wf (n : Nat) (h : n ≤ 10) : ∀ z ∈ endsT n, (Lit.int .i64 z).wf = true := fun z hz => by
  unfold endsT at hz
  obtain ⟨j, hj, rfl⟩ := List.mem_map.1 hz
  have hj := List.mem_range.1 hj
  have := lenT_le (n := j + 1) (by omega)
  simp [Lit.wf, IntKind.min, IntKind.max, IntKind.signed, IntKind.bits]
  omega

theorem one_nameT (v : World) (s : ByteArray) (e : TypeId) : RowX (v.alloc (.cells #[.string s] e)) (some ⟨v.heap.size, 0, none⟩) 1 [s] :=
  ⟨rfl, by decide, Or.inr ⟨v.heap.size, 0, rfl, fun i hi => by
    obtain rfl : i = 0 := by omega
    rw [World.cell?_alloc_mark]; rfl⟩⟩
theorem one_dataT (v : World) (x : H3) (d : List Int) (e : TypeId) (hr : Row .u8 v x.1 x.2.1 d) (h1 : x.2.1 ≤ x.2.2) (h2 : x.1 = none → x.2.2 = 0) : RowBB (v.alloc (.cells #[.slice x.1 x.2.1 x.2.2] e)) (some ⟨v.heap.size, 0, none⟩) 1 [x] [d] :=
  ⟨rfl, rfl, Or.inr ⟨v.heap.size, 0, rfl, fun i h hi => by
    match i, hi with
    | 0, hi =>
      obtain rfl := Option.some.inj hi
      rw [World.cell?_alloc_mark]; rfl
    | i + 1, hi => simp at hi⟩, fun i h z hi hz => by
    match i, hi, hz with
    | 0, hi, hz =>
      obtain rfl := Option.some.inj hi
      obtain rfl := Option.some.inj hz
      exact ⟨hr.alloc _, h1, h2⟩
    | i + 1, hi, hz => simp at hi⟩
theorem laidF_one {z : List Int} (h : z.length ≤ 1073741824) : laidF [nmW 1] [z] = (some (lgR 1 [] z fs0), 0) := by
  unfold laidF
  rw [if_neg (by simp), if_neg ?_, if_neg ?_]
  · rfl
  · rintro (h1 | ⟨b, hb, h1⟩)
    · exact absurd h1 (by decide)
    · obtain rfl := List.mem_singleton.1 hb
      omega
  · intro h1
    apply h1
    refine ⟨fun s hs => ?_, by simp⟩
    obtain rfl := List.mem_singleton.1 hs
    exact nmW_may (by omega) (by omega)
/-- One file laid, and its log found. -/
theorem laid_cr {w0 w : World} {a b : Option Addr} {x : H3} {z : List Int} {rs l : List Rc} {e : Nat} (hr : RowX w a 1 [nmW 1]) (hd : RowBB w b 1 [x] [z]) (hf : FoundW rs [] z l e) (bl : Below w0.heap.size w0 w) :
    Calls Tryz.prog 17 #[.slice a 1 1, .slice b 1 1] w fun e w' => ∃ g, e = .returned (.tuple #[.pointer (some ⟨g, 0, none⟩), .int .i64 0]) ∧ CrK w0.heap.size w0 w' g rs := by
  refine (llaid_any a 1 1 [nmW 1] b 1 1 [x] [z] w hr (fun s hs => by obtain rfl := List.mem_singleton.1 hs; exact Nat.le_trans (nmW_size 1) (by decide)) hd (by omega) (by omega)).mono ?_
  intro y w' h
  rw [laidF_one (by have := hf.size; omega)] at h
  obtain ⟨_, g, he, hm⟩ := h
  exact ⟨g, he, [], z, l, e, hf, onL_from' bl hm⟩

set_option maxHeartbeats 64000000 in
theorem torn_walk (n at' : Int) (w : World) (tb : TbP w) (hn : (Lit.int .i64 n).wf = true) (hat : (Lit.int .i64 at').wf = true) :
    Calls Tryz.prog 4 #[.int .i64 n, .int .i64 at'] w fun e w' => e = .returned (.bool true) ∧ Below w.heap.size w w' := by
  have HT := hide tb
  obtain ⟨i1, hi1, hz10, hz11, hz12⟩ := info_parts Tryz.infoWt
  obtain ⟨N, hN, hN10⟩ : ∃ N : Nat, n % 10 = (N : Int) ∧ N < 10 := by
    have q1 := Int.emod_nonneg n (show (10 : Int) ≠ 0 by omega)
    have q2 := Int.emod_lt_of_pos n (show (0 : Int) < 10 by omega)
    exact ⟨(n % 10).toNat, by omega, by omega⟩
  have P2 := hide (fun u => place_any n 10 (by omega) (by omega) u)
  rw [hN] at P2
  have LN := lenT_le (n := N) (by omega)
  obtain ⟨K, hK, hKL⟩ : ∃ K : Nat, at' % ((lenT N : Int) + 1) = (K : Int) ∧ K ≤ lenT N := by
    have q1 := Int.emod_nonneg at' (show ((lenT N : Int) + 1) ≠ 0 by omega)
    have q2 := Int.emod_lt_of_pos at' (show (0 : Int) < (lenT N : Int) + 1 by omega)
    exact ⟨(at' % ((lenT N : Int) + 1)).toNat, by omega, by omega⟩
  have P3 := hide (fun u => place_any at' ((lenT N : Int) + 1) (by omega) (by omega) u)
  rw [hK] at P3
  have hg1 : gPw < w.heap.size := tb.lt
  clear hN tb hn hat hK
  go_enter Tryz.func4, Tryz.ntmps4
  go_wp2_with fail
  with_reducible refine (P2.out _).mono ?_
  rintro e u ⟨rfl, hu⟩
  rw [hu]
  clear hu P2
  go_wp2_with fail
  with_reducible refine (lnew_any _).mono ?_
  rintro e u0 ⟨g, rfl, hm⟩
  have O0 := hide (on_open_of (onL_made hm) (fun n bs h => by rw [exW_read0] at h; cases h) HT.out (Nat.le_refl _) limB0 (by omega) 1 (by decide) (few_until 0 (by omega) (exW_read0 _)))
  clear hm
  go_wp2_with fail
  with_reducible refine O0.out.mono ?_
  rintro e u1 h1
  obtain ⟨q, a1, c1, rfl, hG1, hR1⟩ := onOpen_ok h1 nm1_ne exW_open0
  have R1 := hide (ong_ready hG1 limB0 (by omega))
  rw [show readyG fs0 ⟨(ow0 1).last, (ow0 1).last, (ow0 1).cut, false⟩ = (exW1, 0, ⟨1, 1, -1, true⟩) from exW_ready] at R1
  dsimp only [ow0, List.length_nil]
  clear h1 hG1 hR1 O0
  go_wp2_with fail
  with_reducible refine R1.out.mono ?_
  rintro e u2 ⟨rfl, hG2⟩
  rw [exW1_lgT] at hG2
  have G3 := hide (torn_zero hG2 hg1)
  clear hG2 R1
  go_wp2
  go_loopw [9, 10] (fun x y wr => ∃ (i : Nat) (ae : Option Addr) (ce : Nat), i ≤ N ∧ x = .slice ae i ce ∧ y = .int .i64 (i : Int) ∧ Hid (TornE w.heap.size w wr g q i i ae ce)) (fun _ y _ => 30 - (intOf y).toNat)
  case atStart => exact ⟨0, none, 0, by omega, rfl, rfl, G3.out⟩
  case round =>
    clear G3
    obtain ⟨i, ae, ce, hi, rfl, rfl, HG⟩ := hrel
    obtain ⟨v, rfl⟩ : ∃ v, v = wr := ⟨wr, rfl⟩
    by_cases hlt : i < N
    · have i0 : (0 : Int) ≤ (i : Int) := by omega
      have j1 : (i : Int) < (N : Int) := by omega
      have wi : IntKind.i64.wrap ((i : Int) + 1) = (i : Int) + 1 := by rw [IntKind.wrap_i64]; omega
      have RC := hide (rec_any ((i : Int) + 1) i (by simp [Lit.wf, IntKind.min, IntKind.max, IntKind.signed, IntKind.bits]; omega) (by simp [Lit.wf, IntKind.min, IntKind.max, IntKind.signed, IntKind.bits]; omega) v)
      have LE := lenT_le (n := i + 1) (by omega)
      go_wp2_with fail
      with_reducible refine RC.out.mono ?_
      rintro e v2 ⟨hh, rfl, s2, b2⟩
      have A := hide (torn_append HG.out (by omega) b2 s2)
      clear s2 b2 RC HG
      go_wp2_with fail
      with_reducible refine A.out.mono ?_
      rintro e v3 ⟨rfl, h3⟩
      have H3 := hide h3
      have NM := hide (wname_any 1 v3 (by decide) h3.tab)
      clear h3 A
      go_wp2_with fail
      with_reducible refine NM.out.mono ?_
      rintro e v4 ⟨rfl, b4⟩
      have H4 := hide (H3.out.below b4)
      obtain ⟨F4, o4, l4, r4⟩ := H4.out.fs (by omega)
      have RD := hide (on_read o4 l4 (by omega) (nmW 1) (Nat.le_trans (nmW_size 1) (by decide)))
      rw [r4] at RD
      clear b4 NM H3 o4 l4 r4
      go_wp2_with fail
      with_reducible refine RD.out.mono ?_
      rintro e v5 ⟨b5, ar, cr, rfl, or⟩
      have H5 := hide (H4.out.below b5)
      have OW := hide H5.out.own
      have SZ := hide H5.out.sz
      rw [show (fileR (recsT (i + 1))).length = lenT (i + 1) from rfl]
      clear or b5 RD H4
      generalize hL1 : lenT (i + 1) = L1 at *
      go_wp2_with (at_builtin; refine wpList_push _ rfl _ _ 56 rfl w.heap.size 3 i1 (.int .i64 0) 8 Tryz.underlying56 hi1 hz10 hz11 hz12 rfl ae i ce _ rfl (Own.alloc OW.out _) ⟨v5.heap.size, 0, none⟩ 1 (.int .i64 (L1 : Int)) rfl (one_intcell v5 (L1 : Int) _) rfl (by unfold maxLen; omega) (by omega) (by have := SZ.out; simp; omega) ?_)
      intro gg cc w2 o2 g2 l2
      have O2 : Hid (Own 3 .i64 w2 w.heap.size (some ⟨gg, 0, none⟩) (i + 1) cc (endsT (i + 1))) := by
        show w2.ownsRow _ _ _ _ _ _
        rw [endsT_succ, hL1, List.map_append]; exact o2
      have BA : Hid (Below v5.heap.size v5 (v5.alloc (.cells #[.int .i64 (L1 : Int)] 3))) := (Below.refl _ _).alloc (Nat.le_refl _) _
      have H6 := hide ((H5.out.below BA.out).push O2.out g2 (fun j hj => by
        rcases l2 with q1 | q1
        · left
          rw [← hj]
          exact q1
        · right
          have e1 : some gg = some j := hj
          rw [← Option.some.inj e1, size_al]
          exact q1))
      clear o2 g2 l2 BA O2 OW SZ H5
      go_wp2
      go_roundw
      case rel => exact ⟨i + 1, _, cc, by omega, rfl, by go_num, H6⟩
      case measure => simp [intOf]; omega
    · obtain rfl : i = N := by omega
      have j1 : ¬ (i : Int) < (i : Int) := by omega
      have NM := hide (wname_any 1 v (by decide) HG.out.tab)
      go_wp2_with fail
      with_reducible refine NM.out.mono ?_
      rintro e v4 ⟨rfl, b4⟩
      have H4 := hide (HG.out.below b4)
      obtain ⟨F4, o4, l4, r4⟩ := H4.out.fs (by omega)
      have RD := hide (on_read o4 l4 (by omega) (nmW 1) (Nat.le_trans (nmW_size 1) (by decide)))
      rw [r4] at RD
      clear b4 NM HG o4 l4 r4
      go_wp2_with fail
      with_reducible refine RD.out.mono ?_
      rintro e v5 ⟨b5, ar, cr, rfl, or⟩
      have H5 := hide (H4.out.below b5)
      have RB5 := hide (ownB_row or (by unfold lenT at LN; omega) (fun z hz => laidS_byte (fileR_fr (recsT_good (n := i) (by omega))) z hz))
      have RC5 := hide or.capped
      rw [show (fileR (recsT i)).length = lenT i from rfl] at RB5 RC5 ⊢
      have RI5 := hide (Own.row H5.out.own (by omega) (endsT_wf i (by omega)))
      have wl : IntKind.i64.wrap ((lenT i : Int) + 1) = (lenT i : Int) + 1 := by rw [IntKind.wrap_i64]; omega
      have B5 := hide H5.out.bel
      have TB5 := hide H5.out.tab
      clear or b5 RD H4 H5
      go_wp2_with fail
      with_reducible refine (P3.out _).mono ?_
      rintro e u ⟨rfl, hu⟩
      rw [hu]
      clear hu P3
      go_upto_block 2 with fail
      go_cut [16] from 74 to 86 (fun x wx => ∃ m : Nat, x = .int .i64 (m : Int) ∧ m ≤ i ∧ lenT m ≤ K ∧ (m < i → K < lenT (m + 1)) ∧ wx = v5)
      case first =>
        go_wp2_with fail
        go_loopw [16] (fun x wr => ∃ m : Nat, m ≤ i ∧ x = .int .i64 (m : Int) ∧ lenT m ≤ K ∧ Hid (wr = v5)) (fun x _ => 30 - (intOf x).toNat)
        case atStart => exact ⟨0, by omega, rfl, Nat.zero_le _, rfl⟩
        case round =>
          obtain ⟨m, hm, rfl, hmk, HW⟩ := hrel
          have hW := HW.out
          subst hW
          clear HW
          by_cases hlt2 : m < i
          · obtain ⟨-, -, -, h0 | ⟨b9, off9, rfl, hc⟩⟩ := RI5.out
            · omega
            have c9 := hc m hlt2
            rw [endsT_at hlt2] at c9
            have i0 : (0 : Int) ≤ (m : Int) := by omega
            have i2 : (m : Int) < (i : Int) := by omega
            clear hc
            by_cases hle : lenT (m + 1) ≤ K
            · have i3 : (lenT (m + 1) : Int) ≤ (K : Int) := by omega
              go_wp2
              go_roundw
              case rel => exact ⟨m + 1, by omega, by go_num, hle, trivial⟩
              case measure => simp [intOf]; omega
            · have i3 : ¬ (lenT (m + 1) : Int) ≤ (K : Int) := by omega
              go_wp2
              go_meet
              case rel => exact ⟨m, rfl, hm, hmk, fun _ => by omega, rfl⟩
          · have i2 : ¬ (m : Int) < (i : Int) := by omega
            go_wp2
            go_meet
            case rel => exact ⟨m, rfl, hm, hmk, fun h => by omega, rfl⟩
      case rest =>
        obtain ⟨m, rfl, hm, hmk, hmn, hwc⟩ := hcut
        subst hwc
        obtain ⟨vA, hvA⟩ : ∃ v, v = wc := ⟨wc, rfl⟩
        rw [← hvA] at RB5 B5 TB5 ⊢
        clear hvA
        have FW := hide (found_cut (n := i) (m := m) (k := K) (by omega) hm hKL hmk hmn)
        clear RI5 hmn
        go_upto_region 19 with fail
        go_cut [17, 8] from 87 to 97 (fun x y wx => ∃ g2 : Nat, x = .pointer (some ⟨g2, 0, none⟩) ∧ y = .int .i64 0 ∧ Hid (CrK w.heap.size w wx g2 (recsT m)))
        case first =>
          have hcr := RC5.out
          have NM := hide (fun u (b : Below vA.heap.size vA u) => wname_any 1 u (by decide) (TB5.out.bel b))
          have sl := fun u => slice_to16 ar (lenT i) cr K (by omega) u
          have BY := hide (fun u (b : Below vA.heap.size vA u) => bytes8_any ar K cr ((fileR (recsT i)).take K) u ((RB5.out.to K (by omega)).below b (Nat.le_refl _)) (fun e => (hcr.2 e).2) (by omega))
          have NW : Hid ((nmW 1).size ≤ maxLen) := Nat.le_trans (nmW_size 1) (by decide)
          clear RC5 hmk
          refine wp_region_held_drew (S := fun _ => True) (by kernel_rfl) trivial (fun hHeld => ?_)
          refine held_tk 2 (some 90) rfl rfl ?_
          refine held_tk 3 (some 91) rfl rfl ?_
          refine held_tk 4 (some 92) rfl rfl ?_
          refine held_next (i := 0) (by kernel_rfl) rfl (by rfl) (fun K1 hK1 => ?_)
          go_simp
          with_reducible refine (NM.out _ (Below.refl _ _).drew).mono ?_
          rintro e w1 ⟨rfl, b1⟩
          have B1 : Hid (Below vA.heap.size vA w1) := bel_to (Below.refl _ _).drew (Nat.le_refl _) b1
          clear b1 NM
          go_wp2_with fail
          refine hK1.out _ _ trivial ?_
          clear hK1
          refine held_pair (i := 1) (j := 5) (by kernel_rfl) rfl (by rfl) rfl (by rfl) (fun K1 hK1 => ?_) (fun K1 hK1 => ?_)
          · go_simp
            obtain ⟨w2, hw2⟩ : ∃ v, Hid (w1.alloc (.cells #[.string (nmW 1)] 9) = v) := ⟨_, rfl⟩
            have RX : Hid (RowX w2 (some ⟨w1.heap.size, 0, none⟩) 1 [nmW 1]) := by rw [← hw2.out]; exact one_nameT _ _ _
            have BX : Hid (Below w1.heap.size w1 w2) := by rw [← hw2.out]; exact (Below.refl _ _).alloc (Nat.le_refl _) _
            rw [hw2.out]
            refine hK1.out _ _ trivial ?_
            clear hK1
            refine held_next (i := 5) (by kernel_rfl) rfl (by rfl) (fun K1 hK1 => ?_)
            go_simp
            with_reducible refine (BY.out _ (bel_to B1.out (Nat.le_refl _) BX.out)).mono ?_
            rintro e w3 ⟨xa, xc, rfl, ox, bx⟩
            have OX : Hid (Row .u8 w3 xa K ((fileR (recsT i)).take K)) := ownB_row ox (by omega) (fun z hz => RB5.out.bytes z (List.mem_of_mem_take hz))
            have CX := hide (OwnG.capped ox)
            have BY2 := hide bx
            clear ox bx BY
            go_wp2_with fail
            refine hK1.out _ _ trivial ?_
            clear hK1
            refine held_next (i := 6) (by kernel_rfl) rfl (by rfl) (fun K1 hK1 => ?_)
            go_simp
            obtain ⟨w4, hw4⟩ : ∃ v, Hid (w3.alloc (.cells #[.slice xa K xc] 57) = v) := ⟨_, rfl⟩
            have RD : Hid (RowBB w4 (some ⟨w3.heap.size, 0, none⟩) 1 [(xa, K, xc)] [(fileR (recsT i)).take K]) := by rw [← hw4.out]; exact one_dataT _ (xa, K, xc) _ _ OX.out CX.out.1 (fun e => (CX.out.2 e).2)
            have BD : Hid (Below w3.heap.size w3 w4) := by rw [← hw4.out]; exact (Below.refl _ _).alloc (Nat.le_refl _) _
            rw [hw4.out]
            refine hK1.out _ _ trivial ?_
            clear hK1
            have B4 := hide (B5.out.trans ((bel_to (bel_to (bel_to B1.out (Nat.le_refl _) BX.out) (Nat.le_refl _) BY2.out) (Nat.le_refl _) BD.out).mono B5.out.size))
            have RX4 := hide ((RX.out.below BY2.out (Nat.le_refl _)).below BD.out (Nat.le_refl _))
            have LC := hide (laid_cr RX4.out RD.out FW.out B4.out)
            refine held_next (i := 7) (by kernel_rfl) rfl (by rfl) (fun K1 hK1 => ?_)
            go_simp
            with_reducible refine LC.out.mono ?_
            rintro e w9 ⟨g2, rfl, hc⟩
            have HC := hide hc
            clear hc LC
            go_wp2_with fail
            refine hK1.out _ _ trivial ?_
            clear hK1
            refine held_tk 8 (some 87) rfl rfl ?_
            refine held_tk 9 (some 96) rfl rfl ?_
            refine held_tk 10 (some 97) rfl rfl ?_
            refine held_tk 11 (some 17) rfl rfl ?_
            refine held_tk 12 (some 8) rfl rfl ?_
            refine wpAnyH_done (by kernel_rfl) ?_ _
            go_wp2_with fail
            go_meet
            case rel => exact ⟨g2, rfl, rfl, HC⟩
          · go_simp
            with_reducible refine (BY.out _ B1.out).mono ?_
            rintro e w2 ⟨xa, xc, rfl, ox, bx⟩
            have OX : Hid (Row .u8 w2 xa K ((fileR (recsT i)).take K)) := ownB_row ox (by omega) (fun z hz => RB5.out.bytes z (List.mem_of_mem_take hz))
            have CX := hide (OwnG.capped ox)
            have BY2 := hide bx
            clear ox bx BY
            go_wp2_with fail
            refine hK1.out _ _ trivial ?_
            clear hK1
            refine held_pair (i := 1) (j := 6) (by kernel_rfl) rfl (by rfl) rfl (by rfl) (fun K1 hK1 => ?_) (fun K1 hK1 => ?_)
            · go_simp
              obtain ⟨w3, hw3⟩ : ∃ v, Hid (w2.alloc (.cells #[.string (nmW 1)] 9) = v) := ⟨_, rfl⟩
              have RX : Hid (RowX w3 (some ⟨w2.heap.size, 0, none⟩) 1 [nmW 1]) := by rw [← hw3.out]; exact one_nameT _ _ _
              have BX : Hid (Below w2.heap.size w2 w3) := by rw [← hw3.out]; exact (Below.refl _ _).alloc (Nat.le_refl _) _
              rw [hw3.out]
              refine hK1.out _ _ trivial ?_
              clear hK1
              have OX3 := hide (OX.out.below BX.out (Nat.le_refl _))
              clear OX
              have OX := OX3
              refine held_next (i := 6) (by kernel_rfl) rfl (by rfl) (fun K1 hK1 => ?_)
              go_simp
              obtain ⟨w4, hw4⟩ : ∃ v, Hid (w3.alloc (.cells #[.slice xa K xc] 57) = v) := ⟨_, rfl⟩
              have RD : Hid (RowBB w4 (some ⟨w3.heap.size, 0, none⟩) 1 [(xa, K, xc)] [(fileR (recsT i)).take K]) := by rw [← hw4.out]; exact one_dataT _ (xa, K, xc) _ _ OX.out CX.out.1 (fun e => (CX.out.2 e).2)
              have BD : Hid (Below w3.heap.size w3 w4) := by rw [← hw4.out]; exact (Below.refl _ _).alloc (Nat.le_refl _) _
              rw [hw4.out]
              refine hK1.out _ _ trivial ?_
              clear hK1
              have B4 := hide (B5.out.trans ((bel_to (bel_to (bel_to B1.out (Nat.le_refl _) BY2.out) (Nat.le_refl _) BX.out) (Nat.le_refl _) BD.out).mono B5.out.size))
              have RX4 := hide (RX.out.below BD.out (Nat.le_refl _))
              have LC := hide (laid_cr RX4.out RD.out FW.out B4.out)
              refine held_next (i := 7) (by kernel_rfl) rfl (by rfl) (fun K1 hK1 => ?_)
              go_simp
              with_reducible refine LC.out.mono ?_
              rintro e w9 ⟨g2, rfl, hc⟩
              have HC := hide hc
              clear hc LC
              go_wp2_with fail
              refine hK1.out _ _ trivial ?_
              clear hK1
              refine held_tk 8 (some 87) rfl rfl ?_
              refine held_tk 9 (some 96) rfl rfl ?_
              refine held_tk 10 (some 97) rfl rfl ?_
              refine held_tk 11 (some 17) rfl rfl ?_
              refine held_tk 12 (some 8) rfl rfl ?_
              refine wpAnyH_done (by kernel_rfl) ?_ _
              go_wp2_with fail
              go_meet
              case rel => exact ⟨g2, rfl, rfl, HC⟩
            · go_simp
              obtain ⟨w3, hw3⟩ : ∃ v, Hid (w2.alloc (.cells #[.slice xa K xc] 57) = v) := ⟨_, rfl⟩
              have RD : Hid (RowBB w3 (some ⟨w2.heap.size, 0, none⟩) 1 [(xa, K, xc)] [(fileR (recsT i)).take K]) := by rw [← hw3.out]; exact one_dataT _ (xa, K, xc) _ _ OX.out CX.out.1 (fun e => (CX.out.2 e).2)
              have BD : Hid (Below w2.heap.size w2 w3) := by rw [← hw3.out]; exact (Below.refl _ _).alloc (Nat.le_refl _) _
              rw [hw3.out]
              refine hK1.out _ _ trivial ?_
              clear hK1
              refine held_next (i := 1) (by kernel_rfl) rfl (by rfl) (fun K1 hK1 => ?_)
              go_simp
              obtain ⟨w4, hw4⟩ : ∃ v, Hid (w3.alloc (.cells #[.string (nmW 1)] 9) = v) := ⟨_, rfl⟩
              have RX : Hid (RowX w4 (some ⟨w3.heap.size, 0, none⟩) 1 [nmW 1]) := by rw [← hw4.out]; exact one_nameT _ _ _
              have BX : Hid (Below w3.heap.size w3 w4) := by rw [← hw4.out]; exact (Below.refl _ _).alloc (Nat.le_refl _) _
              rw [hw4.out]
              refine hK1.out _ _ trivial ?_
              clear hK1
              have B4 := hide (B5.out.trans ((bel_to (bel_to (bel_to B1.out (Nat.le_refl _) BY2.out) (Nat.le_refl _) BD.out) (Nat.le_refl _) BX.out).mono B5.out.size))
              have RD4 := hide (RD.out.below BX.out (Nat.le_refl _))
              have LC := hide (laid_cr RX.out RD4.out FW.out B4.out)
              refine held_next (i := 7) (by kernel_rfl) rfl (by rfl) (fun K1 hK1 => ?_)
              go_simp
              with_reducible refine LC.out.mono ?_
              rintro e w9 ⟨g2, rfl, hc⟩
              have HC := hide hc
              clear hc LC
              go_wp2_with fail
              refine hK1.out _ _ trivial ?_
              clear hK1
              refine held_tk 8 (some 87) rfl rfl ?_
              refine held_tk 9 (some 96) rfl rfl ?_
              refine held_tk 10 (some 97) rfl rfl ?_
              refine held_tk 11 (some 17) rfl rfl ?_
              refine held_tk 12 (some 8) rfl rfl ?_
              refine wpAnyH_done (by kernel_rfl) ?_ _
              go_wp2_with fail
              go_meet
              case rel => exact ⟨g2, rfl, rfl, HC⟩
        case rest =>
          obtain ⟨g2, rfl, rfl, HC⟩ := hcut
          obtain ⟨v, rfl⟩ : ∃ v, v = wc := ⟨wc, rfl⟩
          have O9 := hide (cr_open HC.out HT.out (Nat.le_refl _))
          rw [recsT_len] at O9
          clear HC RB5 RC5 B5 TB5 FW
          go_wp2_with fail
          with_reducible refine O9.out.mono ?_
          rintro e u10 ⟨q2, a9, c9, rfl, ho10, hr10⟩
          have R11 := hide (op_ready ho10)
          clear ho10 hr10 O9
          go_wp2_with fail
          with_reducible refine R11.out.mono ?_
          rintro e u11 ⟨rfl, h11⟩
          have H11 := hide h11
          have RC := hide (rec_any 50 50 (by decide) (by decide) u11)
          clear h11 R11
          go_wp2_with fail
          with_reducible refine RC.out.mono ?_
          rintro e u12 ⟨hh, rfl, s12, b12⟩
          have A13 := hide (rd_append H11.out b12 (s := 50) (a := 50) (by unfold I64; omega) (by unfold I64; omega) s12)
          clear s12 b12 RC H11
          go_wp2_with fail
          with_reducible refine A13.out.mono ?_
          rintro e u13 ⟨rfl, h13⟩
          have C14 := hide (mr_crash h13)
          clear h13 A13
          go_wp2_with fail
          with_reducible refine C14.out.mono ?_
          rintro e u14 ⟨g4, rfl, b14, F4, hF4, o14⟩
          have O15 := hide (fin_open hF4 o14 HT.out (Nat.le_refl _))
          rw [recsT_len] at O15
          clear hF4 o14 C14 b14
          go_wp2_with fail
          with_reducible refine O15.out.mono ?_
          rintro e u15 ⟨q4, a4, c4, rfl, b15, hr15⟩
          obtain ⟨g9, rfl, l5, l6, d0, -, -⟩ := hr15.cell (i := m) (r := rcN 50 50) (by rw [List.getElem?_append_right (by rw [recsT_len]; exact Nat.le_refl _), recsT_len, Nat.sub_self]; rfl)
          have D0 : u15.cell? ⟨g9, m * 18, none⟩ = some (.int .i64 50) := d0
          have B15 := hide b15
          have AW := hide (awakeW_any u15 (HT.out.to b15 (Nat.le_refl _)))
          have wi : IntKind.i64.wrap ((m : Int) + 1) = (m : Int) + 1 := by rw [IntKind.wrap_i64]; omega
          have i0 : (0 : Int) ≤ (m : Int) := by omega
          have i2 : (m : Int) < ((m + 1 : Nat) : Int) := by omega
          have i3 : (((m + 1 : Nat) : Int) == (m : Int) + 1) = true := by simp
          clear d0 hr15 b15 O15
          go_wp2_with fail
          with_reducible refine AW.out.mono ?_
          rintro e u16 ⟨rfl, b16⟩
          have B16 := hide (bel_to B15.out (Nat.le_refl _) b16)
          clear b16 AW
          go_wp2
          go_ret
          exact ⟨rfl, B16.out⟩
end Go.Proofs.YtknghoecjobkiabGreatDoor

namespace Go.Proofs.YtknghoecjobkiabGreatDoor
open Go.RowKit Go.ChangeShapes Go.WideShapes Go.Joins
set_option maxRecDepth 20000

/-- What the rows list. -/
def laidW3 : List (String × DataW Unit) := [("math/bits.deBruijn32tab", Rows.laid_math_bits_deBruijn32tab), ("math/bits.deBruijn64tab", Rows.laid_math_bits_deBruijn64tab), ("internal/strconv.uint64pow10", Rows.laid_internal_strconv_uint64pow10)]
theorem tPow : (Tryz.prog.globals[0]?).map (·.type) = some 253 := by kernel_rfl
theorem wU64_cells : Tryz.prog.cellsOf 36 = 1 := by kernel_rfl
theorem pow_cells : Tryz.prog.cellsOf 253 = 20 := by kernel_rfl
/-- The door's own heap meets the condition. -/
theorem doorW3_met (os : Os) (args : Array Value) : laidMetH Tryz.prog laidW3 ((World.doorLaid Tryz.prog 400 os).forCall (fun _ _ => 0) ⟨#[], args, []⟩).memory :=
  laidMetH_of_parts3 (fuel := 8) (laidMet_of_run' 8 (by kernel_rfl) (by kernel_rfl)) (by kernel_rfl) (by kernel_rfl)
theorem tab_laid {r : List (String × DataW Unit)} {W : World} (h : laidMet Tryz.prog (("internal/strconv.uint64pow10", Rows.laid_internal_strconv_uint64pow10) :: r) W) : TbP W :=
  Lib.tabIs_of_head gPow tPow Tryz.underlying253 Tryz.underlying36 wU64_cells pow_cells h
theorem tab_of3 {W : World} (h : laidMetH Tryz.prog laidW3 W) : TbP W := by
  rw [MakeChecks.laidMetH_plain _ _ _ (by kernel_rfl)] at h
  exact tab_laid h.tail.tail
end Go.Proofs.YtknghoecjobkiabGreatDoor
