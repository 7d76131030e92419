/-
  A log in plain words, further: records laid one behind the other are found; the laws' own records; the document's example. No function is named. The document's example holds (awake of the laws of layer 17): a contract, for every world. A log in plain words, as the laws make it: files one behind the other, all of them certain; what a turn, an append, an opening make of it. No function is named. A log in plain words: a crash, wherever the power goes while a record is appended; made ready behind it. No function is named. A log that is found: opened, made ready, gone on with, and found again behind a crash: contracts, for every world. Records of some size: many hashes, made by a loop; such a record in plain words: a contract, for every world. VfsSure: a copy of numbers (a contract, for every world); the calls in plain words. P17.5 (the walk): wherever the power goes: all records that were answered with OK are told, and at most one more. The call returns true, and its arguments read as they did.
  Conditions: as each theorem says.
-/
import Derived.Test.YtknghoecjobkiaaGreatDoorZkh
import Derived.Test.YtknghoecjobkiaaGreatDoorZkl
import Derived.Test.YtknghoecjobkiaaGreatDoorZkj
import Derived.Test.YtknghoecjobkiaaGreatDoorZkk
import Derived.Test.YtknghoecjobkiaaGreatDoorZke
import Derived.Test.YtknghoecjobkiaaGreatDoorZkc
import Derived.Deep.CutBlock
import Derived.Deep.CutRange
namespace Go.Proofs.YtknghoecjobkiaaGreatDoor
open Go.RowKit
set_option maxRecDepth 20000
set_option linter.unusedVariables false

/-- Records laid one behind the other are found, in their order. -/
theorem recsF_laid {D : Bool} : ∀ (gs : List (List Int)) (rs : List Rc), GoodFr gs → gs.map (getRc D) = rs.map some → ∀ (xs ys : List Int) (f : Nat), gs.length < f → findS (xs ++ (laidS gs ++ ys)) ((xs.length + (laidS gs).length : Nat) : Int) = none →
    recsF D (xs ++ (laidS gs ++ ys)) f xs.length = some (rs, xs.length + (laidS gs).length)
  | [], rs, hg, hr, xs, ys, f, hf, hno => by
    obtain rfl : rs = [] := by simpa using hr.symm
    obtain ⟨f, rfl⟩ : ∃ k, f = k + 1 := ⟨f - 1, by simp at hf; omega⟩
    unfold recsF
    have e : (laidS ([] : List (List Int))).length = 0 := rfl
    rw [e, Nat.add_zero] at hno ⊢
    rw [hno]
  | s :: t, rs, hg, hr, xs, ys, f, hf, hno => by
    cases rs with
    | nil => simp at hr
    | cons r rt =>
      simp only [List.map_cons, List.cons.injEq] at hr
      obtain ⟨hr1, hr2⟩ := hr
      have hs := hg s (by simp)
      obtain ⟨f, rfl⟩ : ∃ k, f = k + 1 := ⟨f - 1, by simp at hf; omega⟩
      have e0 : xs ++ (laidS (s :: t) ++ ys) = xs ++ (frameS s ++ (laidS t ++ ys)) := by rw [laidS_cons, List.append_assoc]
      have h1 := findS_at hs.1 hs.2.1 xs (laidS t ++ ys)
      rw [e0] at hno ⊢
      unfold recsF
      rw [h1]
      dsimp only
      have e2 : ((xs ++ (frameS s ++ (laidS t ++ ys))).drop (xs.length + (putS (s.length : Int)).length + 4)).take s.length = s := by
        have e3 : xs ++ (frameS s ++ (laidS t ++ ys)) = (xs ++ putS (s.length : Int) ++ sumB s) ++ (s ++ (laidS t ++ ys)) := by
          unfold frameS
          simp only [List.append_assoc]
        have e4 : xs.length + (putS (s.length : Int)).length + 4 = (xs ++ putS (s.length : Int) ++ sumB s).length := by
          simp only [List.length_append, sumB_len]
        rw [e3, e4, List.drop_left, List.take_left]
      rw [e2, hr1]
      dsimp only
      have e5 : xs.length + (putS (s.length : Int)).length + 4 + s.length = (xs ++ frameS s).length := by
        rw [List.length_append, frameS_len]
        omega
      have e6 : xs ++ (frameS s ++ (laidS t ++ ys)) = (xs ++ frameS s) ++ (laidS t ++ ys) := by rw [List.append_assoc]
      have e7 : (xs ++ frameS s).length + (laidS t).length = xs.length + (laidS (s :: t)).length := by
        rw [laidS_cons, List.length_append, List.length_append]
        omega
      rw [e5, e6, recsF_laid t rt hg.tail hr2 (xs ++ frameS s) ys f (by simp at hf; omega) (by rw [← e6, e7]; exact hno), e7]
      rfl
theorem recsW_laid {D : Bool} {gs : List (List Int)} {rs : List Rc} (hg : GoodFr gs) (hr : gs.map (getRc D) = rs.map some) (ys : List Int) (hno : findS (laidS gs ++ ys) ((laidS gs).length : Int) = none) : recsW D (laidS gs ++ ys) = some (rs, (laidS gs).length) := by
  have h := recsF_laid gs rs hg hr [] ys ((laidS gs ++ ys).length + 1) (by have := laidS_long gs; rw [List.length_append]; omega) (by simpa using hno)
  simpa [recsW] using h
theorem recsW_all {D : Bool} {gs : List (List Int)} {rs : List Rc} (hg : GoodFr gs) (hr : gs.map (getRc D) = rs.map some) : recsW D (laidS gs) = some (rs, (laidS gs).length) := by
  have h := recsW_laid hg hr [] (by rw [List.append_nil]; exact findS_end _)
  rwa [List.append_nil] at h

/-! ### the laws' own records -/
def rcN (seq at' : Int) : Rc := ⟨seq, .write (setN at') at' (skN at')⟩
theorem rcX_recN (seq at' : Int) : rcX (recN seq at') = rcN seq at' := rfl
def bodyN (seq at' : Int) : List Int := putRc (rcN seq at')
def I64 (z : Int) : Prop := -9223372036854775808 ≤ z ∧ z ≤ 9223372036854775807
theorem okN {seq at' : Int} (hs : I64 seq) (ha : I64 at') : OkRc (rcN seq at') := by
  obtain ⟨_, c2, c3⟩ := chkL_parts (setN_chk at')
  refine ⟨hs, ⟨setN_chk at', c2, fun y hy => ⟨?_, (c3 y hy).2.2⟩⟩, ha, skN_ok at'⟩
  have e1 := (c3 y hy).1
  unfold nameB at e1
  simp only [Bool.and_eq_true, decide_eq_true_eq] at e1
  omega
theorem backN' {seq at' : Int} (hs : I64 seq) (ha : I64 at') : getRc false (bodyN seq at') = some (rcN seq at') := getRc_back (okN hs ha)
theorem bodyN_fit {seq at' : Int} (hs : I64 seq) (ha : I64 at') : 1 ≤ (bodyN seq at').length ∧ (bodyN seq at').length ≤ 101000 ∧ Bytes8 (bodyN seq at') := by
  have h0 := putS_len (zig seq)
  have h1 := putS_len 1
  have h2 := putL_fit (smL_of (setN_chk at'))
  have h3 := putS_len (zig at')
  have h4 := putP_len (skN_ok at')
  have e : bodyN seq at' = putS (zig seq) ++ (putS 1 ++ (putL (setN at') ++ (putS (zig at') ++ putP (skN at')))) := rfl
  rw [e]
  refine ⟨by simp only [List.length_append]; omega, by simp only [List.length_append]; omega, ?_⟩
  exact Bytes8.append (putS_byte (zig_word hs.1 hs.2)) (Bytes8.append (putS_byte w64_sm) (Bytes8.append h2.2.2 (Bytes8.append (putS_byte (zig_word ha.1 ha.2)) (putP_byte (skN_ok at')))))

/-! ### the document's example -/
def exW1 : Fs := { fs0 with files := [⟨[], []⟩], sure := [⟨nmW 1, 0⟩], n := 3 }
def exW2 (b : List Int) : Fs := { fs0 with files := [⟨b, []⟩], sure := [⟨nmW 1, 0⟩], n := 5 }
theorem exW_ready : readyG fs0 ⟨1, 1, -1, false⟩ = (exW1, 0, ⟨1, 1, -1, true⟩) := by kernel_rfl
theorem exW_room : roomW exW1 1 = (exW1, 0, 1) := by kernel_rfl
theorem exW_append {b : List Int} (hb : b.length ≤ 1073741824) : appendF exW1 (nmW 1) b = ({ exW1 with files := [⟨[], moreU b⟩], n := 4 }, 0) := by
  have e1 : callF exW1 = ({ exW1 with n := 4 }, none) := by kernel_rfl
  have e2 : mayN (nmW 1) = true := by kernel_rfl
  have e3 : fileF { exW1 with n := 4 } (nmW 1) = some 0 := by kernel_rfl
  unfold appendF
  rw [e1]
  dsimp only
  rw [if_neg (by rw [e2]; decide), e3]
  dsimp only
  have e4 : (bytF (atF { exW1 with n := 4 } 0)).length = 0 := by kernel_rfl
  rw [e4, if_neg (by omega)]
  rfl
theorem exW_sync (b : List Int) : syncF { exW1 with files := [⟨[], moreU b⟩], n := 4 } (nmW 1) = (exW2 b, 0) := by
  have e1 : callF { exW1 with files := [⟨[], moreU b⟩], n := 4 } = ({ exW1 with files := [⟨[], moreU b⟩], n := 5 }, none) := by kernel_rfl
  have e2 : mayN (nmW 1) = true := by kernel_rfl
  have e3 : fileF { exW1 with files := [⟨[], moreU b⟩], n := 5 } (nmW 1) = some 0 := by kernel_rfl
  unfold syncF
  rw [e1]
  dsimp only
  rw [if_neg (by rw [e2]; decide), e3]
  dsimp only
  have e4 : bytF (atF { exW1 with files := [⟨[], moreU b⟩], n := 5 } 0) = b := by
    show unsB [] (moreU b) = b
    rw [unsB_more]
    rfl
  rw [e4]
  rfl
theorem exW_more {b : List Int} (h1 : b.length ≤ 1048576) : appendW exW1 1 b = (exW2 (frameS b), 0, 1) := by
  have hf : (frameS b).length ≤ 1073741824 := by have := (frameS_long b).2; omega
  unfold appendW
  rw [exW_room]
  dsimp only
  rw [if_pos rfl, if_neg (by omega), exW_append hf]
  dsimp only
  rw [if_pos rfl, exW_sync]
theorem exW_read (b : List Int) : readF (exW2 b) (nmW 1) = some b := by kernel_rfl
theorem exW_read2 (b : List Int) : readF (exW2 b) (nmW 2) = none := by kernel_rfl
theorem exW_read0 (s : ByteArray) : readF fs0 s = none := by
  have e : dirF fs0 = [] := by kernel_rfl
  unfold readF fileF
  rw [e]
  rfl
theorem exW_lim1 : LimB 3 exW1 := ⟨by decide, by decide, fun x hx => by
  obtain rfl := List.mem_singleton.1 hx
  decide, by decide⟩
theorem exW_lim2 {b : List Int} (h : b.length ≤ 200000) : LimB 200005 (exW2 b) := ⟨by show 1 ≤ 200005; decide, by show 1 + 0 ≤ 200005; decide, fun x hx => by
  obtain rfl := List.mem_singleton.1 hx
  show b.length + 0 ≤ 200005
  omega, by show (0 : Int) ≤ 5 ∧ (5 : Int) ≤ (200005 : Nat); decide⟩
end Go.Proofs.YtknghoecjobkiaaGreatDoor

namespace Go.Proofs.YtknghoecjobkiaaGreatDoor
open Go.RowKit Go.Maps
set_option maxRecDepth 20000
set_option linter.unusedVariables false

theorem onOpen_ok {base : Nat} {w u u' : World} {g : Nat} {F : Fs} {frm : Int} {e : Ending} {s : Ow} (h : OnOpen base w g F frm u e u') (h0 : ¬ nmW frm = ByteArray.empty) (ho : openW false F frm = some s) :
    ∃ q a c, e = .returned (.tuple #[.pointer (some ⟨q, 0, none⟩), .slice a s.recs.length c, .int .i64 0]) ∧ OnG base w u' g q F ⟨s.last, s.last, s.cut, false⟩ ∧ RecsAt u' u.heap.size a s.recs.length c s.recs := by
  unfold OnOpen at h
  rw [if_neg h0, ho] at h
  exact h
theorem RecsAt.cell {w : World} {base n c i : Nat} {a : Option Addr} {rs : List Rc} {r : Rc} (h : RecsAt w base a n c rs) (hi : rs[i]? = some r) :
    ∃ g, a = some ⟨g, 0, none⟩ ∧ i < n ∧ n ≤ c ∧ w.cell? ⟨g, i * 18, none⟩ = some (.int .i64 (ofRc r).seq) ∧ w.cell? ⟨g, i * 18 + 1, none⟩ = some (.int .i64 (ofRc r).kind) ∧ w.cell? ⟨g, i * 18 + 3, none⟩ = some (.int .i64 (ofRc r).at9) := by
  obtain ⟨l, h1, _, h3, _⟩ := h
  have e := congrArg (fun l => l[i]?) h3
  simp only [List.getElem?_map, hi, Option.map_some] at e
  cases hl : l[i]? with
  | none => rw [hl] at e; cases e
  | some p =>
    rw [hl] at e
    have e2 : p.1 = ofRc r := by simpa using e
    obtain ⟨g, q1, q2, q3, q4⟩ := OwnG.at recV_len (by decide) h1 hl
    rw [← e2]
    exact ⟨g, q1, q2, q3, q4 0 _ rfl, q4 1 _ rfl, q4 3 _ rfl⟩
theorem few_until {F : Fs} {frm : Int} (k : Nat) (hk : k ≤ 4096) (h : readF F (nmW (frm + k)) = none) : FewF F frm := fun j hj => by
  by_cases e : k < j
  · have := hj k e
    rw [h] at this
    cases this
  · omega
theorem nm1_ne : ¬ nmW 1 = ByteArray.empty := by
  rw [nmW_empty]
  omega
theorem exW_open0 : openW false fs0 1 = some (ow0 1) := goW_none (exW_read0 _) _
theorem exW_open2 {body : List Int} {r : Rc} (h1 : 1 ≤ body.length) (h2 : body.length ≤ 1048576) (hb : Bytes8 body) (hr : getRc false body = some r) : openW false (exW2 (frameS body)) 1 = some ⟨[r], -1, 1, true⟩ := by
  have e0 : laidS [body] = frameS body := by simp [laidS]
  have hw : recsW false (frameS body) = some ([r], (frameS body).length) := by
    have := recsW_all (D := false) (gs := [body]) (rs := [r]) (fun s hs => by obtain rfl := List.mem_singleton.1 hs; exact ⟨h1, h2, hb⟩) (by simp [hr])
    rwa [e0] at this
  unfold openW
  rw [goW_more (by omega) (by omega) (exW_read _)]
  have hst : stepW false (ow0 1) 1 (frameS body) = some ⟨[r], -1, 1, true⟩ := by
    unfold stepW
    rw [hw]
    dsimp only
    rw [if_pos (show (ow0 1).cut = -1 from rfl), if_neg (Nat.lt_irrefl _)]
    rfl
  rw [hst]
  exact goW_none (exW_read2 _) _

/-- The frame of a body that GetRec answers of: a walk over it comes by that body alone. -/
theorem reach_frame {b : List Int} (h1 : 1 ≤ b.length) (h2 : b.length ≤ 1048576) : ∀ {k : Nat}, ReachF (frameS b) k → k = 0 ∨ k = (frameS b).length := by
  intro k h
  induction h with
  | zero => exact Or.inl rfl
  | @next k st v h f ih =>
    have e0 := findS_at h1 h2 [] []
    simp only [List.nil_append, List.append_nil, List.length_nil, Nat.zero_add] at e0
    rcases ih with rfl | rfl
    · have e1 := f.symm.trans e0
      simp only [Option.some.injEq, Prod.mk.injEq] at e1
      refine Or.inr ?_
      rw [frameS_len]
      omega
    · rw [findS_end] at f
      cases f
theorem grF_frame {b : List Int} (h1 : 1 ≤ b.length) (h2 : b.length ≤ 1048576) (hT : GrT b) : GrF (frameS b) := by
  intro k st v hk f
  have e0 := findS_at h1 h2 [] []
  simp only [List.nil_append, List.append_nil, List.length_nil, Nat.zero_add] at e0
  rcases reach_frame h1 h2 hk with rfl | rfl
  · have e1 := f.symm.trans e0
    simp only [Option.some.injEq, Prod.mk.injEq] at e1
    obtain ⟨rfl, rfl⟩ := e1
    have e2 : ((frameS b).drop ((putS (b.length : Int)).length + 4)).take b.length = b := by
      have e3 : frameS b = (putS (b.length : Int) ++ sumB b) ++ b := by unfold frameS; simp only [List.append_assoc]
      have e4 : (putS (b.length : Int)).length + 4 = (putS (b.length : Int) ++ sumB b).length := by simp only [List.length_append, sumB_len]
      rw [e3, e4, List.drop_left, List.take_length]
    rw [e2]
    exact hT
  · rw [findS_end] at f
    cases f
theorem exW_file {b bs : List Int} {s : ByteArray} (h : readF (exW2 b) s = some bs) : bs = b := by
  have e : dirF (exW2 b) = [⟨nmW 1, 0⟩] := by kernel_rfl
  unfold readF fileF at h
  rw [e] at h
  cases hf : fileD [(⟨nmW 1, 0⟩ : Dn)] s with
  | none => rw [hf] at h; cases h
  | some k =>
    have hk : k = 0 := by
      unfold fileD at hf
      cases hj : findD [(⟨nmW 1, 0⟩ : Dn)] s with
      | none => rw [hj] at hf; cases hf
      | some j =>
        rw [hj] at hf
        cases j with
        | zero => exact (Option.some.inj hf).symm
        | succ j => cases hf
    rw [hf, hk] at h
    exact (Option.some.inj h).symm

set_option maxHeartbeats 16000000 in
theorem awakeW_any (w : World) (hT : TbP w) : Calls Tryz.prog 18 #[] w fun e w' => e = .returned (.bool true) ∧ Below w.heap.size w w' := by
  have HT := hide hT
  have BF := hide (bodyN_fit (seq := 1) (at' := 5) (by unfold I64; omega) (by unfold I64; omega))
  have BK := hide (backN' (seq := 1) (at' := 5) (by unfold I64; omega) (by unfold I64; omega))
  have LF : Hid ((frameS (bodyN 1 5)).length ≤ 200000) := by have := (frameS_long (bodyN 1 5)).2; have := BF.out.2.1; show _ ≤ _; omega
  have GF : Hid (∀ (n : Int) (bs : List Int), readF (exW2 (frameS (bodyN 1 5))) (nmW n) = some bs → GrF bs) := fun n bs h => by
    rw [exW_file h]
    exact grF_frame BF.out.1 (by have := BF.out.2.1; omega) (getRec_one BK.out)
  clear hT
  go_enter Tryz.func18, Tryz.ntmps18
  go_wp2_with fail
  with_reducible refine (lnew_any _).mono ?_
  rintro e u0 ⟨g, rfl, hm⟩
  have O0 := hide (on_open_of (onL_made hm) (fun n bs h => by rw [exW_read0] at h; cases h) HT.out (Nat.le_refl _) limB0 (by omega) 1 (by decide) (few_until 0 (by omega) (exW_read0 _)))
  clear hm
  go_wp2_with fail
  with_reducible refine O0.out.mono ?_
  rintro e u1 h1
  obtain ⟨q, a1, c1, rfl, hG1, hR1⟩ := onOpen_ok h1 nm1_ne exW_open0
  have R1 := hide (ong_ready hG1 limB0 (by omega))
  rw [show readyG fs0 ⟨(ow0 1).last, (ow0 1).last, (ow0 1).cut, false⟩ = (exW1, 0, ⟨1, 1, -1, true⟩) from exW_ready] at R1
  dsimp only [ow0, List.length_nil]
  clear h1 hG1 hR1 O0
  go_wp2_with fail
  with_reducible refine R1.out.mono ?_
  rintro e u2 ⟨rfl, hG2⟩
  have RC := hide (rec_any 1 5 (by decide) (by decide) u2)
  have G2 := hide hG2
  clear hG2 R1
  go_wp2_with fail
  with_reducible refine RC.out.mono ?_
  rintro e u3 ⟨hh, rfl, s3, b3⟩
  have A3 := hide (ong_append_of G2.out b3 exW_lim1 (by omega) s3 (fun k hk => Or.inr hk) (puts_one s3 rfl (setN_chk 5) (skN_ok 5).chk))
  rw [show appendW exW1 (Lg.mk 1 1 (-1) true).last (putRc (rcX (recN 1 5))) = (exW2 (frameS (bodyN 1 5)), 0, 1) from exW_more (b := bodyN 1 5) (by have := BF.out.2.1; omega)] at A3
  clear s3 b3 G2 RC
  go_wp2_with fail
  with_reducible refine A3.out.mono ?_
  rintro e u4 ⟨rfl, hG4⟩
  have O4 := hide (on_open_of hG4.fs GF.out HT.out (Nat.le_refl _) ((exW_lim2 LF.out)) (by omega) 1 (by decide) (few_until 1 (by omega) (exW_read2 _)))
  clear hG4 A3
  go_wp2_with fail
  with_reducible refine O4.out.mono ?_
  rintro e u5 h5
  obtain ⟨q5, a5, c5, rfl, hG5, hR5⟩ := onOpen_ok h5 nm1_ne (exW_open2 BF.out.1 (by have := BF.out.2.1; omega) BF.out.2.2 BK.out)
  obtain ⟨g5, e5, l5, l6, d0, _, d3⟩ := hR5.cell (i := 0) rfl
  have N5 := hide (wname_any 7 u5 (by decide) hG5.tab)
  rw [show nmW 7 = ⟨#[108, 111, 103, 45, 48, 48, 48, 48, 48, 48, 48, 55]⟩ by kernel_rfl] at N5
  have B5 := hide hG5.bel
  clear h5 hG5 hR5 O4
  subst e5
  dsimp only [List.length_cons, List.length_nil]
  go_wp2_with fail
  with_reducible refine N5.out.mono ?_
  rintro e u6 ⟨rfl, b6⟩
  have B6 : Hid (Below w.heap.size w u6) := B5.out.trans (b6.mono B5.out.size)
  clear b6 N5 B5
  go_wp2
  go_ret
  exact ⟨rfl, B6.out⟩
end Go.Proofs.YtknghoecjobkiaaGreatDoor

namespace Go.Proofs.YtknghoecjobkiaaGreatDoor
open Go.RowKit
set_option maxRecDepth 20000
set_option linter.unusedVariables false

/-- The first names from a number on. -/
def sureW (a : Int) (k : Nat) : List Dn := (List.range k).map fun i : Nat => ⟨nmW (a + i), i⟩
/-- Files from a number on; the first k names are certain. -/
def lgU (a : Int) (k : Nat) (fs : List Fi) (ts : List Tn) (X : Fs) : Fs := { X with files := fs, sure := sureW a k, turns := ts }
def cleanW (bs : List (List Int)) : List Fi := bs.map fun b => ⟨b, []⟩
/-- All of it certain. -/
def lgC (a : Int) (bs : List (List Int)) (X : Fs) : Fs := lgU a bs.length (cleanW bs) [] X
theorem sureW_len (a : Int) (k : Nat) : (sureW a k).length = k := by unfold sureW; simp
theorem sureW_at (a : Int) {k j : Nat} (h : j < k) : (sureW a k)[j]? = some ⟨nmW (a + j), j⟩ := by
  unfold sureW
  rw [List.getElem?_map, List.getElem?_range h]
  rfl
theorem sureW_succ (a : Int) (k : Nat) : sureW a (k + 1) = sureW a k ++ [⟨nmW (a + k), k⟩] := by
  unfold sureW
  rw [List.range_succ, List.map_append]
  rfl
theorem sureW_mem {a : Int} {k : Nat} {d : Dn} (h : d ∈ sureW a k) : ∃ j : Nat, j < k ∧ d = ⟨nmW (a + j), j⟩ := by
  unfold sureW at h
  obtain ⟨j, hj, rfl⟩ := List.mem_map.1 h
  exact ⟨j, List.mem_range.1 hj, rfl⟩
theorem sureW_nm {a : Int} {k : Nat} (h0 : 0 ≤ a) (h1 : a + k ≤ 100000000) {n : Int} (hn : n < a ∨ a + k ≤ n) (hm : 0 ≤ n ∧ n ≤ 99999999) : ∀ d ∈ sureW a k, ¬ d.nm = nmW n := fun d hd e => by
  obtain ⟨j, hj, rfl⟩ := sureW_mem hd
  have := nmW_inj (by omega) hm (show nmW (a + j) = nmW n from e)
  omega
theorem findD_sure {a : Int} {k : Nat} (h0 : 0 ≤ a) (h1 : a + k ≤ 100000000) {j : Nat} (hj : j < k) : findD (sureW a k) (nmW (a + j)) = some j :=
  findD_at (sureW_at a hj) rfl fun i x hi hx e => by
    rw [sureW_at a (by omega)] at hx
    obtain rfl := Option.some.inj hx
    have := nmW_inj (by omega) (by omega) (show nmW (a + i) = nmW (a + j) from e)
    omega
theorem fileD_sure {a : Int} {k : Nat} (h0 : 0 ≤ a) (h1 : a + k ≤ 100000000) {j : Nat} (hj : j < k) : fileD (sureW a k) (nmW (a + j)) = some j := by
  unfold fileD
  rw [findD_sure h0 h1 hj]
  show Option.map _ _ = _
  rw [sureW_at a hj]
  rfl
theorem findD_past {a : Int} {k : Nat} (h0 : 0 ≤ a) (h1 : a + k ≤ 99999999) : findD (sureW a k) (nmW (a + k)) = none :=
  findD_none (sureW_nm h0 (by omega) (Or.inr (Int.le_refl _)) (by omega))
theorem fileD_past {a : Int} {k : Nat} (h0 : 0 ≤ a) (h1 : a + k ≤ 99999999) : fileD (sureW a k) (nmW (a + k)) = none := by
  unfold fileD
  rw [findD_past h0 h1]
  rfl
theorem wout_past {a : Int} {k : Nat} (h0 : 0 ≤ a) (h1 : a + k ≤ 99999999) : wout (sureW a k) (nmW (a + k)) = sureW a k := by
  unfold wout
  rw [List.filter_eq_self]
  intro d hd
  have := sureW_nm h0 (by omega) (Or.inr (Int.le_refl _)) (by omega) d hd
  simp [this]
/-- The name behind the last one, made. -/
def tnW (a : Int) (k : Nat) : Tn := ⟨0, nmW (a + k), ByteArray.empty, k⟩
theorem turnsD_sure {a : Int} {k : Nat} (h0 : 0 ≤ a) (h1 : a + k ≤ 99999999) : turnsD (sureW a k) [tnW a k] = sureW a (k + 1) := by
  show turnD (sureW a k) (tnW a k) = sureW a (k + 1)
  unfold turnD tnW
  dsimp only
  rw [if_pos rfl, wout_past h0 h1, sureW_succ]
theorem callF_lg (a : Int) (k : Nat) (fs : List Fi) (ts : List Tn) (X : Fs) : callF (lgU a k fs ts X) = (lgU a k fs ts (callF X).1, (callF X).2) := by
  unfold callF lgU
  dsimp only
  split
  · rfl
  · split
    · rfl
    · split
      · rfl
      · split <;> rfl
theorem callF_lgo {X Y : Fs} (h : callF X = (Y, none)) (a : Int) (k : Nat) (fs : List Fi) (ts : List Tn) : callF (lgU a k fs ts X) = (lgU a k fs ts Y, none) := by rw [callF_lg, h]
theorem callF_lge {X Y : Fs} {e : Int} (h : callF X = (Y, some e)) (a : Int) (k : Nat) (fs : List Fi) (ts : List Tn) : callF (lgU a k fs ts X) = (lgU a k fs ts Y, some e) := by rw [callF_lg, h]
theorem mayW {a : Int} {j : Nat} (h0 : 0 ≤ a) (h1 : a + j ≤ 99999999) : mayN (nmW (a + j)) = true := nmW_may (by omega) h1
section
variable {a : Int} {k : Nat} {fs : List Fi} {X Y Z : Fs}
theorem fileF_lg (h0 : 0 ≤ a) (h1 : a + k ≤ 100000000) {j : Nat} (hj : j < k) : fileF (lgU a k fs [] X) (nmW (a + j)) = some j := fileD_sure h0 h1 hj
theorem fileF_past (h0 : 0 ≤ a) (h1 : a + k ≤ 99999999) : fileF (lgU a k fs [] X) (nmW (a + k)) = none := fileD_past h0 h1
theorem readF_lg (h0 : 0 ≤ a) (h1 : a + k ≤ 100000000) {j : Nat} (hj : j < k) : readF (lgU a k fs [] X) (nmW (a + j)) = some (bytF (fs.getD j emF)) := by
  unfold readF
  rw [fileF_lg h0 h1 hj]
  rfl
theorem readF_lgj (h0 : 0 ≤ a) {j : Nat} (hj : j < k) (h1 : a + j ≤ 99999999) : readF (lgU a k fs [] X) (nmW (a + j)) = some (bytF (fs.getD j emF)) := by
  have e : findD (sureW a k) (nmW (a + j)) = some j := findD_at (sureW_at a hj) rfl fun i x hi hx e => by
    rw [sureW_at a (by omega)] at hx
    obtain rfl := Option.some.inj hx
    have := nmW_inj (by omega) (by omega) (show nmW (a + i) = nmW (a + j) from e)
    omega
  have e2 : fileF (lgU a k fs [] X) (nmW (a + j)) = some j := by
    show fileD (sureW a k) (nmW (a + j)) = some j
    unfold fileD
    rw [e]
    show Option.map _ _ = _
    rw [sureW_at a hj]
    rfl
  unfold readF
  rw [e2]
  rfl
theorem readF_past (h0 : 0 ≤ a) (h1 : a + k ≤ 99999999) : readF (lgU a k fs [] X) (nmW (a + k)) = none := by
  unfold readF
  rw [fileF_past h0 h1]
  rfl
theorem readF_any {s : ByteArray} {zs : List Int} (h : readF (lgU a k fs [] X) s = some zs) : ∃ j : Nat, j < k ∧ s = nmW (a + j) ∧ zs = bytF (fs.getD j emF) := by
  unfold readF fileF at h
  rw [Option.map_eq_some_iff] at h
  obtain ⟨j, hj, rfl⟩ := h
  have hj : fileD (sureW a k) s = some j := hj
  unfold fileD at hj
  rw [Option.bind_eq_some_iff] at hj
  obtain ⟨i, hi, e⟩ := hj
  obtain ⟨d, d1, d2, d3⟩ := findD_some hi
  rw [sureW_len] at d3
  rw [sureW_at a d3] at d1 e
  obtain rfl := Option.some.inj d1
  obtain rfl : i = j := Option.some.inj e
  exact ⟨i, d3, d2.symm, rfl⟩
/-- To create the next file. -/
theorem create_lg (h0 : 0 ≤ a) (h1 : a + k ≤ 99999999) (hk : k < 1024) (hX : callF X = (Y, none)) : createF (lgU a k fs [] X) (nmW (a + k)) = (lgU a k (fs ++ [emF]) [⟨0, nmW (a + k), ByteArray.empty, fs.length⟩] Y, 0) := by
  unfold createF
  rw [callF_lgo hX]
  dsimp only
  rw [if_neg (by rw [mayW h0 h1]; decide), if_neg ?_]
  · rfl
  · rintro ⟨-, c⟩
    have c : 1024 ≤ (sureW a k).length := c
    rw [sureW_len] at c
    omega
theorem syncdir_lg (h0 : 0 ≤ a) (h1 : a + k ≤ 99999999) (hX : callF X = (Y, none)) : syncdirF (lgU a k fs [tnW a k] X) = (lgU a (k + 1) fs [] Y, 0) := by
  unfold syncdirF
  rw [callF_lgo hX]
  dsimp only
  unfold dirF lgU
  dsimp only
  rw [turnsD_sure h0 h1]
theorem syncdir_lgn (hX : callF X = (Y, none)) : syncdirF (lgU a k fs [] X) = (lgU a k fs [] Y, 0) := by
  unfold syncdirF
  rw [callF_lgo hX]
  rfl
theorem append_lg (h0 : 0 ≤ a) (h1 : a + k ≤ 100000000) (hX : callF X = (Y, none)) {cs : List Fi} {z b : List Int} (hk : cs.length + 1 = k) (hz : z.length + b.length ≤ 1073741824) : appendF (lgU a k (cs ++ [⟨z, []⟩]) [] X) (nmW (a + cs.length)) b = (lgU a k (cs ++ [⟨z, moreU b⟩]) [] Y, 0) := by
  unfold appendF
  rw [callF_lgo hX]
  dsimp only
  rw [if_neg (by rw [mayW h0 (by omega)]; decide), fileF_lg h0 h1 (by omega)]
  dsimp only
  have e : atF (lgU a k (cs ++ [⟨z, []⟩]) [] Y) cs.length = ⟨z, []⟩ := by
    show List.getD (cs ++ [(⟨z, []⟩ : Fi)]) cs.length emF = _
    rw [List.getD_eq_getElem?_getD, List.getElem?_append_right (Nat.le_refl _), Nat.sub_self]
    rfl
  unfold moreF
  rw [e]
  dsimp only
  rw [if_neg (by show ¬ _ < (List.length z) + _; omega)]
  have e2 : (lgU a k (cs ++ [⟨z, []⟩]) [] Y).files.set cs.length ⟨z, [] ++ moreU b⟩ = cs ++ [⟨z, moreU b⟩] := by
    show List.set (cs ++ [(⟨z, []⟩ : Fi)]) cs.length _ = _
    rw [List.set_append_right _ _ (Nat.le_refl _), Nat.sub_self]
    rfl
  rw [e2]
  rfl
theorem sync_lg (h0 : 0 ≤ a) (h1 : a + k ≤ 100000000) (hX : callF X = (Y, none)) {cs : List Fi} {z : List Int} {us : List Un} (hk : cs.length + 1 = k) : syncF (lgU a k (cs ++ [⟨z, us⟩]) [] X) (nmW (a + cs.length)) = (lgU a k (cs ++ [⟨unsB z us, []⟩]) [] Y, 0) := by
  unfold syncF
  rw [callF_lgo hX]
  dsimp only
  rw [if_neg (by rw [mayW h0 (by omega)]; decide), fileF_lg h0 h1 (by omega)]
  dsimp only
  have e : atF (lgU a k (cs ++ [⟨z, us⟩]) [] Y) cs.length = ⟨z, us⟩ := by
    show List.getD (cs ++ [(⟨z, us⟩ : Fi)]) cs.length emF = _
    rw [List.getD_eq_getElem?_getD, List.getElem?_append_right (Nat.le_refl _), Nat.sub_self]
    rfl
  rw [e]
  have e2 : (lgU a k (cs ++ [⟨z, us⟩]) [] Y).files.set cs.length ⟨bytF ⟨z, us⟩, []⟩ = cs ++ [⟨unsB z us, []⟩] := by
    show List.set (cs ++ [(⟨z, us⟩ : Fi)]) cs.length _ = _
    rw [List.set_append_right _ _ (Nat.le_refl _), Nat.sub_self]
    rfl
  rw [e2]
  rfl
end
theorem cleanW_len (bs : List (List Int)) : (cleanW bs).length = bs.length := by unfold cleanW; simp
theorem cleanW_app (bs cs : List (List Int)) : cleanW (bs ++ cs) = cleanW bs ++ cleanW cs := by unfold cleanW; simp
theorem cleanW_at (bs : List (List Int)) (j : Nat) : bytF ((cleanW bs).getD j emF) = bs.getD j [] := by
  unfold cleanW
  rw [List.getD_eq_getElem?_getD, List.getElem?_map, List.getD_eq_getElem?_getD]
  cases bs[j]? <;> rfl
section
variable {a : Int} {bs cs : List (List Int)} {z : List Int} {X Y Z : Fs}
theorem read_lgc (h0 : 0 ≤ a) (h1 : a + bs.length ≤ 100000000) {j : Nat} (hj : j < bs.length) : readF (lgC a bs X) (nmW (a + j)) = some (bs.getD j []) := by
  unfold lgC
  rw [readF_lg h0 h1 hj, cleanW_at]
theorem read_last (h0 : 0 ≤ a) (h1 : a + cs.length < 100000000) : readF (lgC a (cs ++ [z]) X) (nmW (a + cs.length)) = some z := by
  rw [read_lgc h0 (by rw [List.length_append, List.length_singleton]; omega) (by rw [List.length_append, List.length_singleton]; omega)]
  rw [List.getD_eq_getElem?_getD, List.getElem?_append_right (Nat.le_refl _), Nat.sub_self]
  rfl
theorem read_past (h0 : 0 ≤ a) (h1 : a + bs.length ≤ 99999999) : readF (lgC a bs X) (nmW (a + bs.length)) = none := readF_past h0 h1
theorem read_lgany {s : ByteArray} {zs : List Int} (h : readF (lgC a bs X) s = some zs) : ∃ j : Nat, j < bs.length ∧ s = nmW (a + j) ∧ zs = bs.getD j [] := by
  obtain ⟨j, h1, h2, h3⟩ := readF_any h
  exact ⟨j, h1, h2, by rw [h3, cleanW_at]⟩
/-- A turn. -/
theorem turn_lg (h0 : 0 ≤ a) (h1 : a + bs.length ≤ 99999999) (hk : bs.length < 1024) (hX : callF X = (Y, none)) (hY : callF Y = (Z, none)) {n : Int} (hn : n + 1 = a + bs.length) : turnW (lgC a bs X) n = (lgC a (bs ++ [[]]) Z, 0, n + 1) := by
  have e1 : ¬ nmW (n + 1) = ByteArray.empty := by rw [nmW_empty]; omega
  unfold turnW
  rw [if_neg e1, hn]
  unfold lgC
  rw [create_lg h0 h1 hk hX]
  dsimp only
  rw [if_pos rfl, cleanW_len, show (⟨0, nmW (a + bs.length), ByteArray.empty, bs.length⟩ : Tn) = tnW a bs.length from rfl, syncdir_lg h0 h1 hY]
  dsimp only
  rw [if_pos rfl, List.length_append, cleanW_app]
  rfl
theorem room_lg (h0 : 0 ≤ a) (h1 : a + cs.length < 100000000) (hz : z.length < 4096) : roomW (lgC a (cs ++ [z]) X) (a + cs.length) = (lgC a (cs ++ [z]) X, 0, a + cs.length) := by
  unfold roomW
  rw [read_last h0 h1, if_pos (by simpa using hz)]
/-- A body behind the last file's. -/
theorem append_lgc (h0 : 0 ≤ a) (h1 : a + cs.length < 100000000) (hz : z.length < 4096) {body : List Int} (hb : body.length ≤ 1048576) (hX : callF X = (Y, none)) (hY : callF Y = (Z, none)) : appendW (lgC a (cs ++ [z]) X) (a + cs.length) body = (lgC a (cs ++ [z ++ frameS body]) Z, 0, a + cs.length) := by
  have hf := (frameS_long body).2
  unfold appendW
  rw [room_lg h0 h1 hz]
  dsimp only
  rw [if_pos rfl, if_neg (by omega)]
  unfold lgC
  rw [cleanW_app]
  have e1 : a + ((cs ++ [z]).length : Int) ≤ 100000000 := by rw [List.length_append, List.length_singleton]; omega
  have e2 : (cleanW cs).length + 1 = (cs ++ [z]).length := by rw [cleanW_len, List.length_append, List.length_singleton]
  have e3 := append_lg (X := X) (Y := Y) h0 e1 hX (cs := cleanW cs) (z := z) (b := frameS body) e2 (by omega)
  have e4 := sync_lg (X := Y) (Y := Z) h0 e1 hY (cs := cleanW cs) (z := z) (us := moreU (frameS body)) e2
  rw [cleanW_len] at e3 e4
  rw [show cleanW [z] = [(⟨z, []⟩ : Fi)] from rfl, e3]
  dsimp only
  rw [if_pos rfl, e4, unsB_more, cleanW_app, List.length_append, List.length_append]
  rfl
end
/-! ### what an opening finds -/
theorem goW_pre {D : Bool} {a : Int} {X : Fs} (qs : List (List Int)) (f : Nat) : ∀ (xs : List (List Int × List Rc)) (ps : List (List Int)) (rs : List Rc) (last : Int) (th : Bool), 0 ≤ a → a + (ps.length + xs.length) ≤ 99999999 → (∀ x ∈ xs, recsW D x.1 = some (x.2, x.1.length)) →
    ∃ last' th', goW D (lgC a (ps ++ (xs.map (·.1) ++ qs)) X) (xs.length + f) (a + ps.length) ⟨rs, -1, last, th⟩ = goW D (lgC a (ps ++ (xs.map (·.1) ++ qs)) X) f (a + ps.length + xs.length) ⟨rs ++ xs.flatMap (·.2), -1, last', th'⟩
  | [], ps, rs, last, th, h0, h1, hx => ⟨last, th, by simp⟩
  | x :: t, ps, rs, last, th, h0, h1, hx => by
    rw [List.length_cons] at h1
    have e : ps ++ ((x :: t).map (·.1) ++ qs) = (ps ++ [x.1]) ++ (t.map (·.1) ++ qs) := by simp
    obtain ⟨la, tb, ih⟩ := goW_pre (D := D) (a := a) (X := X) qs f t (ps ++ [x.1]) (rs ++ x.2) (a + ps.length) true h0 (by rw [List.length_append, List.length_singleton]; omega) (fun y hy => hx y (by simp [hy]))
    refine ⟨la, tb, ?_⟩
    have hr : readF (lgC a (ps ++ ((x :: t).map (·.1) ++ qs)) X) (nmW (a + ps.length)) = some x.1 := by
      unfold lgC
      rw [readF_lgj h0 (by simp) (by omega), cleanW_at, List.getD_eq_getElem?_getD, List.getElem?_append_right (Nat.le_refl _), Nat.sub_self]
      rfl
    rw [show (x :: t).length + f = (t.length + f) + 1 by rw [List.length_cons]; omega]
    rw [goW, hr]
    dsimp only
    unfold stepW
    rw [hx x (by simp)]
    dsimp only
    rw [if_pos rfl, if_neg (Nat.lt_irrefl _)]
    dsimp only
    rw [e]
    rw [List.length_append, List.length_singleton] at ih
    rw [show a + (ps.length : Int) + 1 = a + ((ps.length + 1 : Nat) : Int) by omega, ih]
    simp only [List.flatMap_cons, List.append_assoc, List.length_cons]
    congr 1
    omega
/-- Files that hold whole records, and a last one that may be torn. -/
theorem openW_lgt {D : Bool} {a : Int} {X : Fs} {xs : List (List Int × List Rc)} {z : List Int} {rs : List Rc} {e : Nat} (h0 : 0 ≤ a) (h1 : a + xs.length + 1 ≤ 99999999) (hx : ∀ x ∈ xs, recsW D x.1 = some (x.2, x.1.length)) (hz : recsW D z = some (rs, e)) :
    openW D (lgC a (xs.map (·.1) ++ [z]) X) a = some ⟨xs.flatMap (·.2) ++ rs, if e < z.length then (e : Int) else -1, a + xs.length, true⟩ := by
  obtain ⟨la, tb, h⟩ := goW_pre (D := D) (a := a) (X := X) [z] ((100000000 - a).toNat - xs.length - 2 + 1 + 1) xs [] [] a false h0 (by simp; omega) hx
  simp only [List.nil_append, List.length_nil, Int.natCast_zero, Int.add_zero] at h
  unfold openW ow0
  rw [show (100000000 - a).toNat = xs.length + ((100000000 - a).toNat - xs.length - 2 + 1 + 1) by omega, h]
  have e0 : readF (lgC a (xs.map (·.1) ++ [z]) X) (nmW (a + xs.length)) = some z := by
    have := read_last (a := a) (cs := xs.map (·.1)) (z := z) (X := X) h0 (by rw [List.length_map]; omega)
    rwa [List.length_map] at this
  have e1 : readF (lgC a (xs.map (·.1) ++ [z]) X) (nmW (a + xs.length + 1)) = none := by
    have := read_past (a := a) (bs := xs.map (·.1) ++ [z]) (X := X) h0 (by rw [List.length_append, List.length_map, List.length_singleton]; omega)
    rw [List.length_append, List.length_map, List.length_singleton] at this
    rwa [show a + ((xs.length + 1 : Nat) : Int) = a + xs.length + 1 by omega] at this
  rw [goW, e0]
  dsimp only
  unfold stepW
  rw [hz]
  dsimp only
  rw [if_pos rfl]
  dsimp only
  rw [goW, e1]

/-! ### files of records -/
/-- A record as the laws make it. -/
structure GoodR (r : Rc) : Prop where
  ok : OkRc r
  wr : ∃ s l a sk, r = ⟨s, .write l a sk⟩
  lo : 1 ≤ (putRc r).length
  hi : (putRc r).length ≤ 101000
  by8 : Bytes8 (putRc r)
theorem goodR_of {s a : Int} {l : List Lb} {sk : Sp} (hs : I64 s) (ha : I64 a) (hl : chkL l = true) (hk : Ok sk) : GoodR ⟨s, .write l a sk⟩ := by
  obtain ⟨_, c2, c3⟩ := chkL_parts hl
  have h0 := putS_len (zig s)
  have h1 := putS_len 1
  have h2 := putL_fit (smL_of hl)
  have h3 := putS_len (zig a)
  have h4 := putP_len hk
  have e : putRc ⟨s, .write l a sk⟩ = putS (zig s) ++ (putS 1 ++ (putL l ++ (putS (zig a) ++ putP sk))) := rfl
  refine ⟨⟨hs, ⟨hl, c2, fun y hy => ⟨?_, (c3 y hy).2.2⟩⟩, ha, hk⟩, ⟨s, l, a, sk, rfl⟩, ?_, ?_, ?_⟩
  · have e1 := (c3 y hy).1
    unfold nameB at e1
    simp only [Bool.and_eq_true, decide_eq_true_eq] at e1
    omega
  · rw [e]; simp only [List.length_append]; omega
  · rw [e]; simp only [List.length_append]; omega
  · rw [e]
    exact Bytes8.append (putS_byte (zig_word hs.1 hs.2)) (Bytes8.append (putS_byte w64_sm) (Bytes8.append h2.2.2 (Bytes8.append (putS_byte (zig_word ha.1 ha.2)) (putP_byte hk))))
theorem goodN {seq at' : Int} (hs : I64 seq) (ha : I64 at') : GoodR (rcN seq at') := goodR_of hs ha (setN_chk at') (skN_ok at')
theorem GoodR.back {r : Rc} (h : GoodR r) : getRc false (putRc r) = some r := getRc_back h.ok
theorem GoodR.grt {r : Rc} (h : GoodR r) : GrT (putRc r) := by
  obtain ⟨s, l, a, sk, e⟩ := h.wr
  have := h.back
  rw [e] at this ⊢
  exact getRec_one this
/-- A file's bytes. -/
def fileR (l : List Rc) : List Int := laidS (l.map putRc)
theorem fileR_snoc (l : List Rc) (r : Rc) : fileR (l ++ [r]) = fileR l ++ frameS (putRc r) := by
  unfold fileR
  rw [List.map_append, laidS_append, List.map_singleton]
  simp [laidS]
theorem fileR_fr {l : List Rc} (h : ∀ r ∈ l, GoodR r) : GoodFr (l.map putRc) := fun s hs => by
  obtain ⟨r, hr, rfl⟩ := List.mem_map.1 hs
  have := h r hr
  exact ⟨this.lo, by have := this.hi; omega, this.by8⟩
theorem fileR_get {l : List Rc} (h : ∀ r ∈ l, GoodR r) : (l.map putRc).map (getRc false) = l.map some := by
  rw [List.map_map]
  exact List.map_congr_left fun r hr => (h r hr).back
theorem recsW_fileR {l : List Rc} (h : ∀ r ∈ l, GoodR r) : recsW false (fileR l) = some (l, (fileR l).length) := recsW_all (fileR_fr h) (fileR_get h)
theorem reach_laid {gs : List (List Int)} (hg : GoodFr gs) {ys : List Int} (hno : findS (laidS gs ++ ys) ((laidS gs).length : Int) = none) {k : Nat} (h : ReachF (laidS gs ++ ys) k) : ∃ j, j ≤ gs.length ∧ k = (laidS (gs.take j)).length := by
  induction h with
  | zero => exact ⟨0, Nat.zero_le _, rfl⟩
  | @next k st v h f ih =>
    obtain ⟨j, hj, rfl⟩ := ih
    by_cases e : j = gs.length
    · subst e
      rw [List.take_length, hno] at f
      cases f
    · have hlt : j < gs.length := by omega
      have hs := hg gs[j] (List.getElem_mem hlt)
      have e1 := findS_at hs.1 hs.2.1 (laidS (gs.take j)) (laidS (gs.drop (j + 1)) ++ ys)
      have e2 : laidS (gs.take j) ++ (frameS gs[j] ++ (laidS (gs.drop (j + 1)) ++ ys)) = laidS gs ++ ys := by
        rw [← List.append_assoc, ← List.append_assoc]
        congr 1
        rw [List.append_assoc, ← laidS_cons, ← laidS_append, ← List.drop_eq_getElem_cons hlt, List.take_append_drop]
      rw [e2] at e1
      have e3 := f.symm.trans e1
      simp only [Option.some.injEq, Prod.mk.injEq] at e3
      refine ⟨j + 1, hlt, ?_⟩
      rw [List.take_succ_eq_append_getElem hlt, laidS_append, List.length_append]
      have e4 : laidS [gs[j]] = frameS gs[j] := by simp [laidS]
      rw [e4, frameS_len]
      omega
theorem grF_laid {gs : List (List Int)} (hg : GoodFr gs) (hT : ∀ g ∈ gs, GrT g) {ys : List Int} (hno : findS (laidS gs ++ ys) ((laidS gs).length : Int) = none) : GrF (laidS gs ++ ys) := by
  intro k st v hk f
  obtain ⟨j, hj, rfl⟩ := reach_laid hg hno hk
  by_cases e : j = gs.length
  · subst e
    rw [List.take_length, hno] at f
    cases f
  · have hlt : j < gs.length := by omega
    have hs := hg gs[j] (List.getElem_mem hlt)
    have e1 := findS_at hs.1 hs.2.1 (laidS (gs.take j)) (laidS (gs.drop (j + 1)) ++ ys)
    have e2 : laidS (gs.take j) ++ (frameS gs[j] ++ (laidS (gs.drop (j + 1)) ++ ys)) = laidS gs ++ ys := by
      rw [← List.append_assoc, ← List.append_assoc]
      congr 1
      rw [List.append_assoc, ← laidS_cons, ← laidS_append, ← List.drop_eq_getElem_cons hlt, List.take_append_drop]
    rw [e2] at e1
    have e3 := f.symm.trans e1
    simp only [Option.some.injEq, Prod.mk.injEq] at e3
    obtain ⟨rfl, rfl⟩ := e3
    have e5 : ((laidS gs ++ ys).drop ((laidS (gs.take j)).length + (putS (gs[j].length : Int)).length + 4)).take gs[j].length = gs[j] := by
      have e6 : laidS gs ++ ys = (laidS (gs.take j) ++ putS (gs[j].length : Int) ++ sumB gs[j]) ++ (gs[j] ++ (laidS (gs.drop (j + 1)) ++ ys)) := by
        rw [← e2]
        unfold frameS
        simp only [List.append_assoc]
      have e7 : (laidS (gs.take j)).length + (putS (gs[j].length : Int)).length + 4 = (laidS (gs.take j) ++ putS (gs[j].length : Int) ++ sumB gs[j]).length := by
        simp only [List.length_append, sumB_len]
      rw [e6, e7, List.drop_left, List.take_left]
    rw [e5]
    exact hT _ (List.getElem_mem hlt)
/-- A file of records, and behind them what is no frame. -/
theorem grF_fileR {l : List Rc} (h : ∀ r ∈ l, GoodR r) {ys : List Int} (hno : findS (fileR l ++ ys) ((fileR l).length : Int) = none) : GrF (fileR l ++ ys) :=
  grF_laid (fileR_fr h) (fun g hg => by
    obtain ⟨r, hr, rfl⟩ := List.mem_map.1 hg
    exact (h r hr).grt) hno
theorem grF_all {l : List Rc} (h : ∀ r ∈ l, GoodR r) : GrF (fileR l) := by
  have := grF_fileR h (ys := []) (by rw [List.append_nil]; exact findS_end _)
  rwa [List.append_nil] at this
/-- A log of whole files and a last one, that may be torn. -/
def lgR (a : Int) (cs : List (List Rc)) (z : List Int) (X : Fs) : Fs := lgC a (cs.map fileR ++ [z]) X
theorem openR {a : Int} {cs : List (List Rc)} {z : List Int} {X : Fs} {rs : List Rc} {e : Nat} (h0 : 0 ≤ a) (h1 : a + cs.length + 1 ≤ 99999999) (hc : ∀ l ∈ cs, ∀ r ∈ l, GoodR r) (hz : recsW false z = some (rs, e)) :
    openW false (lgR a cs z X) a = some ⟨cs.flatten ++ rs, if e < z.length then (e : Int) else -1, a + cs.length, true⟩ := by
  have h := openW_lgt (D := false) (a := a) (X := X) (xs := cs.map fun l => (fileR l, l)) (z := z) (rs := rs) (e := e) h0 (by rw [List.length_map]; omega) (fun x hx => by
    obtain ⟨l, hl, rfl⟩ := List.mem_map.1 hx
    exact recsW_fileR (hc l hl)) hz
  rw [List.map_map, List.length_map, List.flatMap_map] at h
  unfold lgR
  rw [show ((fun x : List Int × List Rc => x.1) ∘ fun l : List Rc => (fileR l, l)) = fileR from rfl, show cs.flatMap (fun l : List Rc => ((fileR l, l) : List Int × List Rc).2) = cs.flatten from List.flatMap_id] at h
  exact h
theorem openR_all {a : Int} {cs : List (List Rc)} {l : List Rc} {X : Fs} (h0 : 0 ≤ a) (h1 : a + cs.length + 1 ≤ 99999999) (hc : ∀ l ∈ cs, ∀ r ∈ l, GoodR r) (hl : ∀ r ∈ l, GoodR r) :
    openW false (lgR a cs (fileR l) X) a = some ⟨cs.flatten ++ l, -1, a + cs.length, true⟩ := by
  rw [openR h0 h1 hc (recsW_fileR hl), if_neg (Nat.lt_irrefl _)]
theorem lgR_grF {a : Int} {cs : List (List Rc)} {z : List Int} {X : Fs} (hc : ∀ l ∈ cs, ∀ r ∈ l, GoodR r) (hz : GrF z) (n : Int) (bs : List Int) (h : readF (lgR a cs z X) (nmW n) = some bs) : GrF bs := by
  obtain ⟨j, h1, -, rfl⟩ := read_lgany h
  rw [List.getD_eq_getElem?_getD]
  by_cases e : j < cs.length
  · rw [List.getElem?_append_left (by rw [List.length_map]; exact e), List.getElem?_map, List.getElem?_eq_getElem e]
    exact grF_all (hc _ (List.getElem_mem e))
  · rw [List.length_append, List.length_map, List.length_singleton] at h1
    rw [List.getElem?_append_right (by rw [List.length_map]; omega), List.length_map, show j - cs.length = 0 by omega]
    exact hz
theorem lgR_few {a : Int} {cs : List (List Rc)} {z : List Int} {X : Fs} (h0 : 0 ≤ a) (h1 : a + cs.length + 1 ≤ 99999999) (h2 : cs.length < 4096) : FewF (lgR a cs z X) a := by
  refine few_until (cs.length + 1) (by omega) ?_
  have := read_past (a := a) (bs := cs.map fileR ++ [z]) (X := X) h0 (by rw [List.length_append, List.length_map, List.length_singleton]; omega)
  rwa [List.length_append, List.length_map, List.length_singleton] at this
/-- Within limits. -/
theorem lgU_lim {a : Int} {k m : Nat} {fs : List Fi} {ts : List Tn} {X : Fs} (h1 : fs.length ≤ m) (h2 : k + ts.length ≤ m) (h3 : ∀ x ∈ fs, x.sure.length + x.us.length ≤ m) (h4 : 0 ≤ X.n ∧ X.n ≤ m) : LimB m (lgU a k fs ts X) :=
  ⟨h1, by show (sureW a k).length + ts.length ≤ m; rw [sureW_len]; exact h2, h3, h4⟩
theorem lgR_lim {a : Int} {m : Nat} {cs : List (List Rc)} {z : List Int} {X : Fs} (h1 : cs.length + 1 ≤ m) (h3 : ∀ l ∈ cs, (fileR l).length ≤ m) (hz : z.length ≤ m) (h4 : 0 ≤ X.n ∧ X.n ≤ m) : LimB m (lgR a cs z X) := by
  unfold lgR lgC
  refine lgU_lim (by rw [cleanW_len, List.length_append, List.length_map, List.length_singleton]; exact h1) (by rw [List.length_append, List.length_map, List.length_singleton]; exact h1) (fun x hx => ?_) h4
  unfold cleanW at hx
  obtain ⟨b, hb, rfl⟩ := List.mem_map.1 hx
  rcases List.mem_append.1 hb with q | q
  · obtain ⟨l, hl, rfl⟩ := List.mem_map.1 q
    exact h3 l hl
  · obtain rfl := List.mem_singleton.1 q
    exact hz
end Go.Proofs.YtknghoecjobkiaaGreatDoor

namespace Go.Proofs.YtknghoecjobkiaaGreatDoor
open Go.RowKit
set_option maxRecDepth 20000
set_option linter.unusedVariables false

/-- Nothing armed. -/
def clX (n : Int) : Fs := { fs0 with n := n }
/-- The power goes behind so many calls. -/
def pwX (n : Int) (j : Nat) : Fs := { fs0 with n := n, armed := true, after := j }
/-- Without power. -/
def dkX (n : Int) : Fs := { fs0 with n := n, dark := true }
theorem call_cl (n : Int) : callF (clX n) = (clX (n + 1), none) := rfl
theorem call_pw (n : Int) (j : Nat) : callF (pwX n (j + 1)) = (pwX (n + 1) j, none) := by
  unfold callF pwX fs0
  dsimp only
  rw [if_neg (by decide), if_neg (by decide), if_pos (by omega), show (((j + 1 : Nat) : Int) - 1) = (j : Int) by omega]
theorem call_pw0 (n : Int) : callF (pwX n 0) = (dkX (n + 1), some 15) := by
  unfold callF pwX dkX fs0
  dsimp only
  rw [if_neg (by decide), if_neg (by decide), if_neg (by decide), if_pos rfl]
  rfl
theorem arm_pw (a : Int) (k : Nat) (fs : List Fi) (n : Int) (p : Nat) : armF (lgU a k fs [] (clX n)) 0 (p : Int) = (lgU a k fs [] (pwX n p), 0) := by
  unfold armF
  rw [if_neg (by omega)]
  rfl

/-! ### a crash -/
theorem filter_sure (a : Int) (j : Nat) : ∀ k, (sureW a k).filter (fun x => decide (x.f = j)) = if j < k then [⟨nmW (a + j), j⟩] else []
  | 0 => by simp [sureW]
  | k + 1 => by
    rw [sureW_succ, List.filter_append, filter_sure a j k]
    by_cases h : j < k
    · rw [if_pos h, if_pos (by omega), List.filter_cons_of_neg (by simp; omega)]
      rfl
    · rw [if_neg h]
      by_cases e : k = j
      · subst e
        rw [if_pos (by omega), List.filter_cons_of_pos (by simp)]
        rfl
      · rw [if_neg (by omega), List.filter_cons_of_neg (by simp; omega)]
        rfl
theorem kept_sure (a : Int) (k : Nat) : ∀ m, keptF (sureW a k) m = sureW a (min m k)
  | 0 => by simp [keptF, sureW]
  | m + 1 => by
    have ih := kept_sure a k m
    unfold keptF at ih ⊢
    rw [List.range_succ, List.flatMap_append, ih, List.flatMap_singleton, filter_sure]
    by_cases h : m < k
    · rw [if_pos h, show min m k = m by omega, show min (m + 1) k = m + 1 by omega, sureW_succ]
    · rw [if_neg h, show min m k = k by omega, show min (m + 1) k = k by omega, List.append_nil]
theorem crashF_w (F : Fs) (ops : Int) (ps : List Int) : crashF F ops ps = (fun d : List Dn => ({ fs0 with files := d.mapIdx fun i x => (⟨unsB (atF F x.f).sure ((atF F x.f).us.take (cutN (pickF ps i))), []⟩ : Fi), sure := d.mapIdx fun i x => (⟨x.nm, i⟩ : Dn) } : Fs)) (keptF (turnsD F.sure (F.turns.take (cutN ops))) F.files.length) := rfl
/-- The first k of the files, as a crash leaves them. -/
def crW (fs : List Fi) (ps : List Int) (k : Nat) : List Fi := (List.range k).map fun i => ⟨unsB (fs.getD i emF).sure ((fs.getD i emF).us.take (cutN (pickF ps i))), []⟩
theorem crash_lg {a : Int} {k k' : Nat} {fs : List Fi} {ts : List Tn} {X : Fs} {ops : Int} {ps : List Int} (ht : turnsD (sureW a k) (ts.take (cutN ops)) = sureW a k') (hk : k' ≤ fs.length) : crashF (lgU a k fs ts X) ops ps = lgU a k' (crW fs ps k') [] fs0 := by
  rw [crashF_w]
  have e : keptF (turnsD (lgU a k fs ts X).sure ((lgU a k fs ts X).turns.take (cutN ops))) (lgU a k fs ts X).files.length = sureW a k' := by
    show keptF (turnsD (sureW a k) (ts.take (cutN ops))) fs.length = _
    rw [ht, kept_sure, show min fs.length k' = k' by omega]
  rw [e]
  dsimp only
  have e1 : ((sureW a k').mapIdx fun i x => (⟨unsB (atF (lgU a k fs ts X) x.f).sure ((atF (lgU a k fs ts X) x.f).us.take (cutN (pickF ps i))), []⟩ : Fi)) = crW fs ps k' := by
    refine List.ext_getElem? fun i => ?_
    rw [List.getElem?_mapIdx]
    unfold crW
    rw [List.getElem?_map]
    by_cases h : i < k'
    · rw [sureW_at a h, List.getElem?_range h]
      rfl
    · rw [List.getElem?_eq_none (by rw [sureW_len]; omega), List.getElem?_eq_none (by rw [List.length_range]; omega)]
      rfl
  have e2 : ((sureW a k').mapIdx fun i (x : Dn) => (⟨x.nm, i⟩ : Dn)) = sureW a k' := by
    refine List.ext_getElem? fun i => ?_
    rw [List.getElem?_mapIdx]
    by_cases h : i < k'
    · rw [sureW_at a h]
      rfl
    · rw [List.getElem?_eq_none (by rw [sureW_len]; omega)]
      rfl
  rw [e1, e2]
  rfl
theorem crW_clean (bs : List (List Int)) (ps : List Int) {k : Nat} (r : List Fi) (hk : k ≤ bs.length) : crW (cleanW bs ++ r) ps k = (cleanW bs).take k := by
  refine List.ext_getElem? fun i => ?_
  unfold crW
  rw [List.getElem?_map, List.getElem?_take]
  by_cases h : i < k
  · rw [List.getElem?_range h, if_pos h]
    simp only [Option.map_some]
    rw [List.getD_eq_getElem?_getD, List.getElem?_append_left (by rw [cleanW_len]; omega)]
    unfold cleanW
    rw [List.getElem?_map, List.getElem?_eq_getElem (by omega)]
    simp only [Option.map_some, Option.getD_some, List.take_nil]
    rfl
  · rw [List.getElem?_eq_none (by rw [List.length_range]; omega), if_neg h]
    rfl
theorem crW_last (bs : List (List Int)) (ps : List Int) (x : Fi) : crW (cleanW bs ++ [x]) ps (bs.length + 1) = cleanW bs ++ [⟨unsB x.sure (x.us.take (cutN (pickF ps bs.length))), []⟩] := by
  have e1 := crW_clean bs ps [x] (Nat.le_refl _)
  rw [List.take_of_length_le (by rw [cleanW_len]; exact Nat.le_refl _)] at e1
  conv => rhs; rw [← e1]
  unfold crW
  rw [List.range_succ, List.map_append, List.map_singleton]
  congr 2
  rw [List.getD_eq_getElem?_getD, List.getElem?_append_right (by rw [cleanW_len]; exact Nat.le_refl _), cleanW_len, Nat.sub_self]
  rfl
/-- All certain but for some bytes behind the last file's. -/
def tornW (a : Int) (cs : List (List Int)) (z part : List Int) (n : Int) : Fs := lgU a (cs.length + 1) (cleanW cs ++ [⟨z, moreU part⟩]) [] (dkX n)
/-- A file more, not yet certain. -/
def madeW (a : Int) (bs : List (List Int)) (n : Int) : Fs := lgU a bs.length (cleanW bs ++ [emF]) [tnW a bs.length] (dkX n)
theorem moreU_tk (b : List Int) (n : Nat) : (moreU b).take n = moreU (b.take n) := by
  unfold moreU
  rw [List.map_take]
theorem crash_torn (a : Int) (cs : List (List Int)) (z part : List Int) (n ops : Int) (ps : List Int) : ∃ t, crashF (tornW a cs z part n) ops ps = lgC a (cs ++ [z ++ part.take t]) fs0 := by
  refine ⟨cutN (pickF ps cs.length), ?_⟩
  unfold tornW
  rw [crash_lg (k' := cs.length + 1) (by rw [List.take_nil]; rfl) (by rw [List.length_append, cleanW_len, List.length_singleton]; omega), crW_last]
  dsimp only
  rw [moreU_tk, unsB_more]
  unfold lgC
  rw [cleanW_app, List.length_append]
  rfl
theorem crash_made {a : Int} {bs : List (List Int)} (h0 : 0 ≤ a) (h1 : a + bs.length ≤ 99999999) (n ops : Int) (ps : List Int) : crashF (madeW a bs n) ops ps = lgC a bs fs0 ∨ crashF (madeW a bs n) ops ps = lgC a (bs ++ [[]]) fs0 := by
  unfold madeW
  by_cases h : cutN ops = 0
  · refine Or.inl ?_
    rw [crash_lg (k' := bs.length) (by rw [h]; rfl) (by rw [List.length_append, cleanW_len]; omega), crW_clean _ _ _ (Nat.le_refl _), List.take_of_length_le (by rw [cleanW_len]; exact Nat.le_refl _)]
    rfl
  · refine Or.inr ?_
    rw [crash_lg (k' := bs.length + 1) (by rw [List.take_of_length_le (by show 1 ≤ _; omega)]; exact turnsD_sure h0 h1) (by rw [List.length_append, cleanW_len, List.length_singleton]; omega), crW_last]
    unfold lgC
    rw [cleanW_app, List.length_append]
    simp [emF, unsB, cleanW]
theorem crash_calm (a : Int) (bs : List (List Int)) (X : Fs) (ops : Int) (ps : List Int) : crashF (lgC a bs X) ops ps = lgC a bs fs0 := by
  unfold lgC
  rw [crash_lg (k' := bs.length) (by rw [List.take_nil]; rfl) (by rw [cleanW_len]; exact Nat.le_refl _)]
  have e := crW_clean bs ps [] (Nat.le_refl _)
  rw [List.append_nil, List.take_of_length_le (by rw [cleanW_len]; exact Nat.le_refl _)] at e
  rw [e]

/-! ### an append, with the power armed -/
theorem append_dark (a : Int) {cs : List (List Int)} {z b : List Int} (h0 : 0 ≤ a) (h1 : a + cs.length < 100000000) (n : Int) (hz : z.length + b.length ≤ 1073741824) : appendF (lgC a (cs ++ [z]) (pwX n 0)) (nmW (a + cs.length)) b = (tornW a cs z (b.take (b.length / 2)) (n + 1), 15) := by
  unfold appendF lgC
  rw [callF_lge (call_pw0 n)]
  dsimp only
  have hl : (cs ++ [z]).length = cs.length + 1 := by rw [List.length_append, List.length_singleton]
  rw [hl, fileF_lg h0 (by omega) (by omega)]
  dsimp only
  have e : atF (lgU a (cs.length + 1) (cleanW (cs ++ [z])) [] (dkX (n + 1))) cs.length = ⟨z, []⟩ := by
    show (cleanW (cs ++ [z])).getD cs.length emF = _
    rw [cleanW_app, List.getD_eq_getElem?_getD, List.getElem?_append_right (by rw [cleanW_len]; exact Nat.le_refl _), cleanW_len, Nat.sub_self]
    rfl
  rw [e, if_pos ⟨rfl, by show List.length z + _ ≤ _; omega⟩]
  unfold moreF
  rw [e]
  unfold tornW
  have e2 : (lgU a (cs.length + 1) (cleanW (cs ++ [z])) [] (dkX (n + 1))).files.set cs.length ⟨z, [] ++ moreU (b.take (b.length / 2))⟩ = cleanW cs ++ [⟨z, moreU (b.take (b.length / 2))⟩] := by
    show (cleanW (cs ++ [z])).set cs.length _ = _
    rw [cleanW_app, List.set_append_right _ _ (by rw [cleanW_len]; exact Nat.le_refl _), cleanW_len, Nat.sub_self]
    rfl
  rw [e2]
  rfl
theorem append_pend (a : Int) {cs : List (List Int)} {z b : List Int} (h0 : 0 ≤ a) (h1 : a + cs.length < 100000000) {X Y : Fs} (hX : callF X = (Y, none)) (hz : z.length + b.length ≤ 1073741824) : appendF (lgC a (cs ++ [z]) X) (nmW (a + cs.length)) b = (lgU a (cs.length + 1) (cleanW cs ++ [⟨z, moreU b⟩]) [] Y, 0) := by
  have e2 : (cleanW cs).length + 1 = (cs ++ [z]).length := by rw [cleanW_len, List.length_append, List.length_singleton]
  have hl : (cs ++ [z]).length = cs.length + 1 := by rw [List.length_append, List.length_singleton]
  have e3 := append_lg (X := X) (Y := Y) (a := a) (k := (cs ++ [z]).length) h0 (by rw [hl]; omega) hX (cs := cleanW cs) (z := z) (b := b) e2 hz
  rw [cleanW_len] at e3
  unfold lgC
  rw [cleanW_app, show cleanW [z] = [(⟨z, []⟩ : Fi)] from rfl, e3, hl]
theorem sync_dark (a : Int) {k : Nat} {fs : List Fi} (n : Int) (s : ByteArray) : syncF (lgU a k fs [] (pwX n 0)) s = (lgU a k fs [] (dkX (n + 1)), 15) := by
  unfold syncF
  rw [callF_lge (call_pw0 n)]
theorem create_dark (a : Int) {k : Nat} {fs : List Fi} (n : Int) (s : ByteArray) : createF (lgU a k fs [] (pwX n 0)) s = (lgU a k fs [] (dkX (n + 1)), 15) := by
  unfold createF
  rw [callF_lge (call_pw0 n)]
theorem syncdir_dark (a : Int) {k : Nat} {fs : List Fi} {ts : List Tn} (n : Int) : syncdirF (lgU a k fs ts (pwX n 0)) = (lgU a k fs ts (dkX (n + 1)), 15) := by
  unfold syncdirF
  rw [callF_lge (call_pw0 n)]
/-- To write into a file with room: all of it is certain, or the power went. -/
theorem write_pw (a : Int) {cs : List (List Int)} {z body : List Int} (h0 : 0 ≤ a) (h1 : a + cs.length < 100000000) (n : Int) (j : Nat) (hz : z.length ≤ 200000) (hb : body.length ≤ 1048576) (G : Fs) (hG : G = lgC a (cs ++ [z]) (pwX n j)) :
    ∃ x : Fs × Int, x = (if (appendF G (nmW (a + cs.length)) (frameS body)).2 = 0 then ((syncF (appendF G (nmW (a + cs.length)) (frameS body)).1 (nmW (a + cs.length))).1, (syncF (appendF G (nmW (a + cs.length)) (frameS body)).1 (nmW (a + cs.length))).2) else ((appendF G (nmW (a + cs.length)) (frameS body)).1, (appendF G (nmW (a + cs.length)) (frameS body)).2)) ∧
      ((∃ j', x = (lgC a (cs ++ [z ++ frameS body]) (pwX (n + 2) j'), 0)) ∨ ∃ t n', n' ≤ n + 2 ∧ n ≤ n' ∧ x = (tornW a cs z ((frameS body).take t) n', 15)) := by
  subst hG
  have hf := (frameS_long body).2
  refine ⟨_, rfl, ?_⟩
  cases j with
  | zero =>
    rw [append_dark a h0 h1 n (by omega)]
    dsimp only
    rw [if_neg (by decide)]
    exact Or.inr ⟨(frameS body).length / 2, n + 1, by omega, by omega, rfl⟩
  | succ j =>
    rw [append_pend a h0 h1 (call_pw n j) (by omega)]
    dsimp only
    rw [if_pos rfl]
    cases j with
    | zero =>
      rw [sync_dark]
      refine Or.inr ⟨(frameS body).length, n + 2, by omega, by omega, ?_⟩
      rw [List.take_length]
      unfold tornW
      rw [show n + 1 + 1 = n + 2 by omega]
    | succ j =>
      have e4 := sync_lg (X := pwX (n + 1) (j + 1)) (Y := pwX (n + 1 + 1) j) (a := a) (k := cs.length + 1) h0 (by omega) (call_pw _ _) (cs := cleanW cs) (z := z) (us := moreU (frameS body)) (by rw [cleanW_len])
      rw [cleanW_len] at e4
      rw [e4, unsB_more]
      refine Or.inl ⟨j, ?_⟩
      unfold lgC
      rw [cleanW_app, List.length_append, show n + 1 + 1 = n + 2 by omega]
      rfl
/-- What an append leaves, if the power goes in it. -/
inductive FailW (a : Int) (cs : List (List Rc)) (l : List Rc) (r : Rc) : Fs → Prop
  | here (t : Nat) (n : Int) : FailW a cs l r (tornW a (cs.map fileR) (fileR l) ((frameS (putRc r)).take t) n)
  | next (t : Nat) (n : Int) : FailW a cs l r (tornW a ((cs ++ [l]).map fileR) (fileR []) ((frameS (putRc r)).take t) n)
  | made (n : Int) : FailW a cs l r (madeW a (cs.map fileR ++ [fileR l]) n)
/-- Where the next record goes. -/
def nxC (cs : List (List Rc)) (l : List Rc) : List (List Rc) := if (fileR l).length < 4096 then cs else cs ++ [l]
def nxL (l : List Rc) (r : Rc) : List Rc := if (fileR l).length < 4096 then l ++ [r] else [r]
theorem nx_flat (cs : List (List Rc)) (l : List Rc) (r : Rc) : (nxC cs l).flatten ++ nxL l r = cs.flatten ++ l ++ [r] := by
  unfold nxC nxL
  split <;> simp
theorem nxC_len (cs : List (List Rc)) (l : List Rc) : cs.length ≤ (nxC cs l).length ∧ (nxC cs l).length ≤ cs.length + 1 := by
  unfold nxC
  split <;> simp
theorem app_of {F G : Fs} {n : Int} {body : List Int} {x : Fs × Int} (hr : roomW F n = (G, 0, n)) (hb : body.length ≤ 1048576)
    (hx : x = (if (appendF G (nmW n) (frameS body)).2 = 0 then ((syncF (appendF G (nmW n) (frameS body)).1 (nmW n)).1, (syncF (appendF G (nmW n) (frameS body)).1 (nmW n)).2) else ((appendF G (nmW n) (frameS body)).1, (appendF G (nmW n) (frameS body)).2))) : appendW F n body = (x.1, x.2, n) := by
  unfold appendW
  rw [hr]
  dsimp only
  rw [if_pos rfl, if_neg (by omega), hx]
  split <;> rfl
theorem app_of2 {F G : Fs} {n k : Int} {body : List Int} {x : Fs × Int} (hr : roomW F n = (G, 0, k)) (hb : body.length ≤ 1048576)
    (hx : x = (if (appendF G (nmW k) (frameS body)).2 = 0 then ((syncF (appendF G (nmW k) (frameS body)).1 (nmW k)).1, (syncF (appendF G (nmW k) (frameS body)).1 (nmW k)).2) else ((appendF G (nmW k) (frameS body)).1, (appendF G (nmW k) (frameS body)).2))) : appendW F n body = (x.1, x.2, k) := by
  unfold appendW
  rw [hr]
  dsimp only
  rw [if_pos rfl, if_neg (by omega), hx]
  split <;> rfl
/-- A record is appended, the power armed: it is certain, or the power went. -/
theorem append_pw {a : Int} {cs : List (List Rc)} {l : List Rc} {r : Rc} (h0 : 0 ≤ a) (h1 : a + cs.length + 2 ≤ 99999999) (h2 : cs.length + 1 < 1024) (hl : (fileR l).length ≤ 200000) (hb : (putRc r).length ≤ 1048576) (n : Int) (j : Nat) :
    (∃ n' j', n ≤ n' ∧ n' ≤ n + 4 ∧ appendW (lgR a cs (fileR l) (pwX n j)) (a + cs.length) (putRc r) = (lgR a (nxC cs l) (fileR (nxL l r)) (pwX n' j'), 0, a + (nxC cs l).length)) ∨
      ∃ F' last, FailW a cs l r F' ∧ appendW (lgR a cs (fileR l) (pwX n j)) (a + cs.length) (putRc r) = (F', 15, last) ∧ F'.n ≤ n + 4 ∧ n ≤ F'.n := by
  have hcl : ((cs.map fileR).length : Int) = cs.length := by rw [List.length_map]
  by_cases hs : (fileR l).length < 4096
  · have e1 : nxC cs l = cs := by unfold nxC; rw [if_pos hs]
    have e2 : nxL l r = l ++ [r] := by unfold nxL; rw [if_pos hs]
    rw [e1, e2, fileR_snoc]
    have hr := room_lg (a := a) (cs := cs.map fileR) (z := fileR l) (X := pwX n j) h0 (by omega) hs
    rw [hcl] at hr
    obtain ⟨x, hx, hc⟩ := write_pw a (cs := cs.map fileR) (z := fileR l) (body := putRc r) h0 (by omega) n j hl hb _ rfl
    rw [hcl] at hx
    have ha := app_of hr hb hx
    unfold lgR
    rw [ha]
    rcases hc with ⟨j', rfl⟩ | ⟨t, n', q1, q2, rfl⟩
    · exact Or.inl ⟨n + 2, j', by omega, by omega, rfl⟩
    · exact Or.inr ⟨_, _, FailW.here t n', rfl, by show n' ≤ _; omega, q2⟩
  · have e1 : nxC cs l = cs ++ [l] := by unfold nxC; rw [if_neg hs]
    have e2 : nxL l r = [r] := by unfold nxL; rw [if_neg hs]
    rw [e1, e2]
    have hroom : roomW (lgR a cs (fileR l) (pwX n j)) (a + cs.length) = turnW (lgR a cs (fileR l) (pwX n j)) (a + cs.length) := by
      have := read_last (a := a) (cs := cs.map fileR) (z := fileR l) (X := pwX n j) h0 (by omega)
      rw [hcl] at this
      unfold roomW lgR
      rw [this, if_neg (by simpa using hs)]
    have hbl : (cs.map fileR ++ [fileR l]).length = cs.length + 1 := by rw [List.length_append, List.length_map, List.length_singleton]
    have hne : ¬ nmW (a + cs.length + 1) = ByteArray.empty := by rw [nmW_empty]; omega
    have hk : a + (cs.length : Int) + 1 = a + ((cs.map fileR ++ [fileR l]).length : Int) := by rw [hbl]; omega
    cases j with
    | zero =>
      refine Or.inr ⟨_, a + cs.length, FailW.here 0 (n + 1), ?_, by show n + 1 ≤ _; omega, by show n ≤ n + 1; omega⟩
      have e : appendW (lgR a cs (fileR l) (pwX n 0)) (a + cs.length) (putRc r) = roomW (lgR a cs (fileR l) (pwX n 0)) (a + cs.length) := by
        unfold appendW
        rw [hroom]
        unfold turnW
        rw [if_neg hne]
        unfold lgR lgC
        rw [create_dark]
        simp only [if_neg (show ¬ (15 : Int) = 0 by decide)]
      rw [e, hroom]
      unfold turnW
      rw [if_neg hne]
      unfold lgR lgC
      rw [create_dark]
      dsimp only
      rw [if_neg (by decide)]
      unfold tornW
      rw [List.take_zero, cleanW_app, hbl, List.length_map]
      rfl
    | succ j =>
      have hcr := create_lg (a := a) (k := (cs.map fileR ++ [fileR l]).length) (fs := cleanW (cs.map fileR ++ [fileR l])) (X := pwX n (j + 1)) (Y := pwX (n + 1) j) h0 (by rw [hbl]; omega) (by rw [hbl]; omega) (call_pw n j)
      cases j with
      | zero =>
        refine Or.inr ⟨_, a + cs.length, FailW.made (n + 2), ?_, by show n + 2 ≤ _; omega, by show n ≤ n + 2; omega⟩
        have et : turnW (lgR a cs (fileR l) (pwX n 1)) (a + cs.length) = (madeW a (cs.map fileR ++ [fileR l]) (n + 2), 15, a + cs.length) := by
          unfold turnW
          rw [if_neg hne, hk]
          unfold lgR lgC
          rw [hcr]
          dsimp only
          rw [if_pos rfl, syncdir_dark]
          dsimp only
          rw [if_neg (by decide), cleanW_len]
          unfold madeW
          rw [show n + 1 + 1 = n + 2 by omega]
          rfl
        unfold appendW
        rw [hroom, et]
        dsimp only
        rw [if_neg (by decide)]
      | succ j =>
        have ht := turn_lg (a := a) (bs := cs.map fileR ++ [fileR l]) (X := pwX n (j + 1 + 1)) (Y := pwX (n + 1) (j + 1)) (Z := pwX (n + 1 + 1) j) h0 (by rw [hbl]; omega) (by rw [hbl]; omega) (call_pw _ _) (call_pw _ _) (n := a + cs.length) hk
        have hr : roomW (lgR a cs (fileR l) (pwX n (j + 1 + 1))) (a + cs.length) = (lgC a (cs.map fileR ++ [fileR l] ++ [[]]) (pwX (n + 1 + 1) j), 0, a + cs.length + 1) := by rw [hroom]; exact ht
        obtain ⟨x, hx, hc⟩ := write_pw a (cs := cs.map fileR ++ [fileR l]) (z := []) (body := putRc r) h0 (by rw [hbl]; omega) (n + 1 + 1) j (by simp) hb _ rfl
        rw [← hk] at hx
        have ha := app_of2 hr hb hx
        rw [ha]
        have em : (cs ++ [l]).map fileR = cs.map fileR ++ [fileR l] := by rw [List.map_append, List.map_singleton]
        rcases hc with ⟨j', rfl⟩ | ⟨t, n', q1, q2, rfl⟩
        · refine Or.inl ⟨n + 1 + 1 + 2, j', by omega, by omega, ?_⟩
          unfold lgR
          rw [em, List.length_append, List.length_singleton, show fileR [r] = [] ++ frameS (putRc r) by simp [fileR, laidS]]
          dsimp only
          rw [show a + (cs.length : Int) + 1 = a + ((cs.length + 1 : Nat) : Int) by omega]
        · refine Or.inr ⟨_, a + cs.length + 1, FailW.next t n', ?_, by show n' ≤ _; omega, by show n ≤ n'; omega⟩
          rw [em]
          rfl
/-- The same with nothing armed. -/
theorem append_cl {a : Int} {cs : List (List Rc)} {l : List Rc} {r : Rc} (h0 : 0 ≤ a) (h1 : a + cs.length + 2 ≤ 99999999) (h2 : cs.length + 1 < 1024) (hb : (putRc r).length ≤ 1048576) (n : Int) :
    ∃ n', n ≤ n' ∧ n' ≤ n + 4 ∧ appendW (lgR a cs (fileR l) (clX n)) (a + cs.length) (putRc r) = (lgR a (nxC cs l) (fileR (nxL l r)) (clX n'), 0, a + (nxC cs l).length) := by
  have hcl : ((cs.map fileR).length : Int) = cs.length := by rw [List.length_map]
  by_cases hs : (fileR l).length < 4096
  · have e1 : nxC cs l = cs := by unfold nxC; rw [if_pos hs]
    have e2 : nxL l r = l ++ [r] := by unfold nxL; rw [if_pos hs]
    rw [e1, e2, fileR_snoc]
    have h := append_lgc (a := a) (cs := cs.map fileR) (z := fileR l) h0 (by omega) hs hb (call_cl n) (call_cl (n + 1))
    rw [hcl] at h
    exact ⟨n + 1 + 1, by omega, by omega, h⟩
  · have e1 : nxC cs l = cs ++ [l] := by unfold nxC; rw [if_neg hs]
    have e2 : nxL l r = [r] := by unfold nxL; rw [if_neg hs]
    rw [e1, e2]
    have hbl : (cs.map fileR ++ [fileR l]).length = cs.length + 1 := by rw [List.length_append, List.length_map, List.length_singleton]
    have hk : a + (cs.length : Int) + 1 = a + ((cs.map fileR ++ [fileR l]).length : Int) := by rw [hbl]; omega
    have hroom : roomW (lgR a cs (fileR l) (clX n)) (a + cs.length) = turnW (lgR a cs (fileR l) (clX n)) (a + cs.length) := by
      have := read_last (a := a) (cs := cs.map fileR) (z := fileR l) (X := clX n) h0 (by omega)
      rw [hcl] at this
      unfold roomW lgR
      rw [this, if_neg (by simpa using hs)]
    have ht := turn_lg (a := a) (bs := cs.map fileR ++ [fileR l]) h0 (by rw [hbl]; omega) (by rw [hbl]; omega) (call_cl n) (call_cl (n + 1)) (n := a + cs.length) hk
    have h := append_lgc (a := a) (cs := cs.map fileR ++ [fileR l]) (z := []) h0 (by rw [hbl]; omega) (by simp) hb (call_cl (n + 1 + 1)) (call_cl (n + 1 + 1 + 1))
    have hrm := room_lg (a := a) (cs := cs.map fileR ++ [fileR l]) (z := []) (X := clX (n + 1 + 1)) h0 (by rw [hbl]; omega) (by simp)
    refine ⟨n + 1 + 1 + 1 + 1, by omega, by omega, ?_⟩
    have em : (cs ++ [l]).map fileR = cs.map fileR ++ [fileR l] := by rw [List.map_append, List.map_singleton]
    have e3 : appendW (lgR a cs (fileR l) (clX n)) (a + cs.length) (putRc r) = appendW (lgC a (cs.map fileR ++ [fileR l] ++ [[]]) (clX (n + 1 + 1))) (a + ((cs.map fileR ++ [fileR l]).length : Int)) (putRc r) := by
      unfold appendW
      rw [hroom, hrm]
      unfold lgR
      rw [ht, ← hk]
    rw [e3, h]
    unfold lgR
    rw [em, show fileR [r] = [] ++ frameS (putRc r) by simp [fileR, laidS], hbl, List.length_append, List.length_singleton]
/-- Behind a crash: all that was certain, and some bytes of the one that was under way. -/
theorem fail_crash {a : Int} {cs : List (List Rc)} {l : List Rc} {r : Rc} {F : Fs} (h0 : 0 ≤ a) (h1 : a + cs.length + 2 ≤ 99999999) (h : FailW a cs l r F) (ops : Int) (ps : List Int) :
    ∃ t, crashF F ops ps = lgR a cs (fileR l ++ (frameS (putRc r)).take t) fs0 ∨ crashF F ops ps = lgR a (cs ++ [l]) (fileR [] ++ (frameS (putRc r)).take t) fs0 := by
  cases h with
  | here t n =>
    obtain ⟨t', e⟩ := crash_torn a (cs.map fileR) (fileR l) ((frameS (putRc r)).take t) n ops ps
    rw [List.take_take] at e
    exact ⟨_, Or.inl e⟩
  | next t n =>
    obtain ⟨t', e⟩ := crash_torn a ((cs ++ [l]).map fileR) (fileR []) ((frameS (putRc r)).take t) n ops ps
    rw [List.take_take] at e
    exact ⟨_, Or.inr e⟩
  | made n =>
    have hbl : (cs.map fileR ++ [fileR l]).length = cs.length + 1 := by rw [List.length_append, List.length_map, List.length_singleton]
    refine ⟨0, ?_⟩
    rw [List.take_zero, List.append_nil, List.append_nil]
    rcases crash_made (a := a) (bs := cs.map fileR ++ [fileR l]) h0 (by rw [hbl]; omega) n ops ps with e | e
    · exact Or.inl e
    · refine Or.inr (e.trans ?_)
      unfold lgR
      rw [List.map_append, List.map_singleton]
      rfl
theorem fail_lim {a : Int} {cs : List (List Rc)} {l : List Rc} {r : Rc} {F : Fs} {m : Nat} (h : FailW a cs l r F) (h1 : cs.length + 2 ≤ m) (h2 : ∀ c ∈ cs, (fileR c).length ≤ m) (h3 : (fileR l).length + (frameS (putRc r)).length ≤ m) (h4 : 0 ≤ F.n ∧ F.n ≤ m) : LimB m F := by
  have hl := (frameS_long (putRc r)).2
  have key : ∀ x ∈ cleanW (cs.map fileR ++ [fileR l]), x.sure.length + x.us.length ≤ m := fun x hx => by
    unfold cleanW at hx
    obtain ⟨b, hb, rfl⟩ := List.mem_map.1 hx
    rcases List.mem_append.1 hb with q | q
    · obtain ⟨c, hc, rfl⟩ := List.mem_map.1 q
      exact h2 c hc
    · obtain rfl := List.mem_singleton.1 q
      show (fileR l).length + 0 ≤ m
      omega
  have ht : ∀ t, (moreU ((frameS (putRc r)).take t)).length ≤ (frameS (putRc r)).length := fun t => by
    unfold moreU
    rw [List.length_map, List.length_take]
    omega
  cases h with
  | here t n =>
    refine lgU_lim (by rw [List.length_append, cleanW_len, List.length_map, List.length_singleton]; omega) (by rw [List.length_map]; simp; omega) (fun x hx => ?_) h4
    rcases List.mem_append.1 hx with q | q
    · exact key x (by rw [cleanW_app]; exact List.mem_append_left _ q)
    · obtain rfl := List.mem_singleton.1 q
      have := ht t
      show (fileR l).length + (moreU ((frameS (putRc r)).take t)).length ≤ m
      omega
  | next t n =>
    refine lgU_lim (by rw [List.length_append, cleanW_len, List.length_map, List.length_append, List.length_singleton, List.length_singleton]; omega) (by rw [List.length_map, List.length_append, List.length_singleton]; simp; omega) (fun x hx => ?_) h4
    rcases List.mem_append.1 hx with q | q
    · rw [List.map_append, List.map_singleton] at q
      exact key x q
    · obtain rfl := List.mem_singleton.1 q
      have := ht t
      show (fileR []).length + (moreU ((frameS (putRc r)).take t)).length ≤ m
      have e : (fileR []).length = 0 := rfl
      omega
  | made n =>
    refine lgU_lim (by rw [List.length_append, cleanW_len, List.length_append, List.length_map, List.length_singleton, List.length_singleton]; omega) (by rw [List.length_append, List.length_map, List.length_singleton, List.length_singleton]; omega) (fun x hx => ?_) h4
    rcases List.mem_append.1 hx with q | q
    · exact key x q
    · obtain rfl := List.mem_singleton.1 q
      exact Nat.zero_le _

/-! ### opened, and made ready -/
/-- Bytes of a frame behind whole ones: none, unless all of them. -/
theorem recs_torn {l : List Rc} {r : Rc} (hl : ∀ x ∈ l, GoodR x) (hr : GoodR r) (t : Nat) :
    ((frameS (putRc r)).length ≤ t ∧ fileR l ++ (frameS (putRc r)).take t = fileR (l ++ [r])) ∨ (findS (fileR l ++ (frameS (putRc r)).take t) ((fileR l).length : Int) = none ∧ recsW false (fileR l ++ (frameS (putRc r)).take t) = some (l, (fileR l).length)) := by
  by_cases h : (frameS (putRc r)).length ≤ t
  · refine Or.inl ⟨h, ?_⟩
    rw [List.take_of_length_le h, fileR_snoc]
  · have hc := findS_cut (body := putRc r) (by have := hr.hi; omega) hr.by8 (laidS_byte (fileR_fr hl)) (j := t) (by omega)
    exact Or.inr ⟨hc, recsW_laid (fileR_fr hl) (fileR_get hl) _ hc⟩
theorem cut_lg {a : Int} {cs : List (List Int)} {z : List Int} {e : Nat} (h0 : 0 ≤ a) (h1 : a + cs.length < 100000000) (he : e ≤ z.length) {X Y : Fs} (hX : callF X = (Y, none)) : cutF (lgC a (cs ++ [z]) X) (nmW (a + cs.length)) e = (lgU a (cs.length + 1) (cleanW cs ++ [⟨z, [⟨0, true, e⟩]⟩]) [] Y, 0) := by
  unfold cutF lgC
  have hl : (cs ++ [z]).length = cs.length + 1 := by rw [List.length_append, List.length_singleton]
  rw [callF_lgo hX]
  dsimp only
  rw [hl, if_neg (by rw [mayW h0 (by omega)]; decide), fileF_lg h0 (by omega) (by omega)]
  dsimp only
  have e0 : atF (lgU a (cs.length + 1) (cleanW (cs ++ [z])) [] Y) cs.length = ⟨z, []⟩ := by
    show (cleanW (cs ++ [z])).getD cs.length emF = _
    rw [cleanW_app, List.getD_eq_getElem?_getD, List.getElem?_append_right (by rw [cleanW_len]; exact Nat.le_refl _), cleanW_len, Nat.sub_self]
    rfl
  rw [e0, if_neg (by show ¬ (_ ∨ ((z.length : Nat) : Int) < _); omega)]
  unfold moreF
  rw [e0]
  have e2 : (lgU a (cs.length + 1) (cleanW (cs ++ [z])) [] Y).files.set cs.length ⟨z, [] ++ [⟨0, true, e⟩]⟩ = cleanW cs ++ [⟨z, [⟨0, true, e⟩]⟩] := by
    show (cleanW (cs ++ [z])).set cs.length _ = _
    rw [cleanW_app, List.set_append_right _ _ (by rw [cleanW_len]; exact Nat.le_refl _), cleanW_len, Nat.sub_self]
    rfl
  rw [e2]
  rfl
/-- Made ready: the last file ends where its frames end. -/
theorem ready_lg {a : Int} {cs : List (List Int)} {z : List Int} {e : Nat} (h0 : 0 ≤ a) (h1 : a + cs.length < 100000000) (he : e ≤ z.length) (n : Int) :
    ∃ n', n ≤ n' ∧ n' ≤ n + 3 ∧ readyG (lgC a (cs ++ [z]) (clX n)) ⟨a + cs.length, a + cs.length, if e < z.length then (e : Int) else -1, false⟩ = (lgC a (cs ++ [z.take e]) (clX n'), 0, ⟨a + cs.length, a + cs.length, -1, true⟩) := by
  have hr := read_last (a := a) (cs := cs) (z := z) (X := clX n) h0 h1
  have hl : ∀ y : List Int, (cs ++ [y]).length = cs.length + 1 := fun y => by rw [List.length_append, List.length_singleton]
  have step : ∀ (us : List Un) (m : Int), unsB z us = z.take e → (syncF (lgU a (cs.length + 1) (cleanW cs ++ [⟨z, us⟩]) [] (clX m)) (nmW (a + cs.length))) = (lgU a (cs.length + 1) (cleanW cs ++ [⟨z.take e, []⟩]) [] (clX (m + 1)), 0) := fun us m hu => by
    have e4 := sync_lg (a := a) (k := cs.length + 1) (X := clX m) (Y := clX (m + 1)) h0 (by omega) (call_cl m) (cs := cleanW cs) (z := z) (us := us) (by rw [cleanW_len])
    rw [cleanW_len, hu] at e4
    exact e4
  have fin : ∀ m : Int, syncdirF (lgU a (cs.length + 1) (cleanW cs ++ [⟨z.take e, []⟩]) [] (clX m)) = (lgC a (cs ++ [z.take e]) (clX (m + 1)), 0) := fun m => by
    rw [syncdir_lgn (call_cl m)]
    unfold lgC
    rw [hl, cleanW_app]
    rfl
  unfold readyG
  dsimp only
  rw [if_neg (by decide), hr]
  by_cases hc : e < z.length
  · rw [if_pos hc]
    have hm : mendW (lgC a (cs ++ [z]) (clX n)) (nmW (a + cs.length)) (some z).isSome e = (lgU a (cs.length + 1) (cleanW cs ++ [⟨z, [⟨0, true, e⟩]⟩]) [] (clX (n + 1)), 0) := by
      unfold mendW
      rw [if_neg (fun h => by cases h), if_neg (by omega), cut_lg h0 h1 he (call_cl n)]
    have hu : unsB z [⟨0, true, e⟩] = z.take e := by simp [unsB, unB]
    refine ⟨n + 1 + 1 + 1, by omega, by omega, ?_⟩
    rw [hm]
    dsimp only
    rw [step _ _ hu]
    dsimp only
    rw [fin]
    dsimp only
    rw [if_pos rfl, if_pos rfl, if_pos rfl]
  · rw [if_neg hc]
    have hm : mendW (lgC a (cs ++ [z]) (clX n)) (nmW (a + cs.length)) (some z).isSome (-1) = (lgU a (cs.length + 1) (cleanW cs ++ [⟨z, []⟩]) [] (clX n), 0) := by
      unfold mendW
      rw [if_neg (fun h => by cases h), if_pos rfl]
      unfold lgC
      rw [hl, cleanW_app]
      rfl
    have hu : unsB z [] = z.take e := by
      rw [List.take_of_length_le (by omega)]
      rfl
    refine ⟨n + 1 + 1, by omega, by omega, ?_⟩
    rw [hm]
    dsimp only
    rw [step _ _ hu]
    dsimp only
    rw [fin]
    dsimp only
    rw [if_pos rfl, if_pos rfl, if_pos rfl]
end Go.Proofs.YtknghoecjobkiaaGreatDoor

namespace Go.Proofs.YtknghoecjobkiaaGreatDoor
open Go.RowKit Go.Maps
set_option maxRecDepth 20000
set_option linter.unusedVariables false

section
variable {cs : List (List Rc)} {l : List Rc}
theorem nx_size {r : Rc} (hr : GoodR r) (hc : ∀ c ∈ cs, (fileR c).length ≤ 105200) (hl : (fileR l).length ≤ 105200) : (∀ c ∈ nxC cs l, (fileR c).length ≤ 105200) ∧ (fileR (nxL l r)).length ≤ 105200 := by
  have hf := (frameS_long (putRc r)).2
  have h1 := hr.hi
  unfold nxC nxL
  by_cases h : (fileR l).length < 4096
  · rw [if_pos h, if_pos h, fileR_snoc, List.length_append]
    exact ⟨hc, by omega⟩
  · rw [if_neg h, if_neg h]
    refine ⟨fun c hm => ?_, ?_⟩
    · rcases List.mem_append.1 hm with q | q
      · exact hc c q
      · obtain rfl := List.mem_singleton.1 q
        exact hl
    · have e : fileR [r] = frameS (putRc r) := by simp [fileR, laidS]
      rw [e]
      omega
end
theorem lgR_lim4 {a : Int} {cs : List (List Rc)} {z : List Int} {X : Fs} (h1 : cs.length ≤ 1000) (h3 : ∀ c ∈ cs, (fileR c).length ≤ 105200) (hz : z.length ≤ 400000) (h4 : 0 ≤ X.n ∧ X.n ≤ 400000) : LimB 400000 (lgR a cs z X) :=
  lgR_lim (by omega) (fun c hc => Nat.le_trans (h3 c hc) (by omega)) hz (by omega)
/-- What an opening finds of a log. -/
structure FoundW (rs : List Rc) (cs : List (List Rc)) (z : List Int) (l : List Rc) (e : Nat) : Prop where
  recs : recsW false z = some (l, e)
  le : e ≤ z.length
  cut : z.take e = fileR l
  gr : GrF z
  size : z.length ≤ 400000
  few : cs.length ≤ 200
  each : ∀ c ∈ cs, (fileR c).length ≤ 105200
  last : (fileR l).length ≤ 210000
  flat : cs.flatten ++ l = rs
  all : ∀ r ∈ rs, GoodR r
section
variable {rs : List Rc} {cs : List (List Rc)} {z : List Int} {l : List Rc} {e : Nat}
theorem FoundW.good (h : FoundW rs cs z l e) : (∀ c ∈ cs, ∀ r ∈ c, GoodR r) ∧ ∀ r ∈ l, GoodR r :=
  ⟨fun c hc r hr => h.all r (by rw [← h.flat]; exact List.mem_append_left _ (List.mem_flatten.2 ⟨c, hc, hr⟩)), fun r hr => h.all r (by rw [← h.flat]; exact List.mem_append_right _ hr)⟩
theorem FoundW.open (h : FoundW rs cs z l e) (X : Fs) : openW false (lgR 1 cs z X) 1 = some ⟨rs, if e < z.length then (e : Int) else -1, 1 + cs.length, true⟩ := by
  have := h.few
  rw [openR (by omega) (by omega) h.good.1 h.recs, h.flat]
theorem FoundW.ready (h : FoundW rs cs z l e) : ∃ n', 0 ≤ n' ∧ n' ≤ 3 ∧ readyG (lgR 1 cs z fs0) ⟨1 + cs.length, 1 + cs.length, if e < z.length then (e : Int) else -1, false⟩ = (lgR 1 cs (fileR l) (clX n'), 0, ⟨1 + cs.length, 1 + cs.length, -1, true⟩) := by
  have := h.few
  obtain ⟨n', h1, h2, h3⟩ := ready_lg (a := 1) (cs := cs.map fileR) (z := z) (e := e) (by omega) (by rw [List.length_map]; omega) h.le 0
  rw [List.length_map, h.cut] at h3
  exact ⟨n', h1, by omega, h3⟩
/-- One more behind it. -/
theorem FoundW.more (h : FoundW rs cs z l e) {r : Rc} (hr : GoodR r) (X : Fs) :
    openW false (lgR 1 (nxC cs l) (fileR (nxL l r)) X) 1 = some ⟨rs ++ [r], -1, 1 + (nxC cs l).length, true⟩ ∧ (∀ n bs, readF (lgR 1 (nxC cs l) (fileR (nxL l r)) X) (nmW n) = some bs → GrF bs) ∧ (nxC cs l).length ≤ 201 ∧ (∀ c ∈ nxC cs l, (fileR c).length ≤ 210000) ∧ (fileR (nxL l r)).length ≤ 315000 := by
  have hf := h.few
  have hfl := nx_flat cs l r
  rw [h.flat] at hfl
  have hg2 : (∀ c ∈ nxC cs l, ∀ x ∈ c, GoodR x) ∧ ∀ x ∈ nxL l r, GoodR x := by
    have key : ∀ x ∈ rs ++ [r], GoodR x := fun x hx => by
      rcases List.mem_append.1 hx with q | q
      · exact h.all x q
      · obtain rfl := List.mem_singleton.1 q
        exact hr
    rw [← hfl] at key
    exact ⟨fun c hc x hx => key x (List.mem_append_left _ (List.mem_flatten.2 ⟨c, hc, hx⟩)), fun x hx => key x (List.mem_append_right _ hx)⟩
  have hn := nxC_len cs l
  have hl := (frameS_long (putRc r)).2
  have hi := hr.hi
  refine ⟨?_, fun n bs hb => lgR_grF hg2.1 (grF_all hg2.2) n bs hb, by omega, ?_, ?_⟩
  · rw [openR_all (by omega) (by omega) hg2.1 hg2.2, hfl]
  · intro c hc
    unfold nxC at hc
    split at hc
    · exact Nat.le_trans (h.each c hc) (by omega)
    · rcases List.mem_append.1 hc with q | q
      · exact Nat.le_trans (h.each c q) (by omega)
      · obtain rfl := List.mem_singleton.1 q
        exact h.last
  · have := h.last
    unfold nxL
    split
    · rw [fileR_snoc, List.length_append]
      omega
    · have e : fileR [r] = frameS (putRc r) := by simp [fileR, laidS]
      rw [e]
      omega
end
/-- Behind a crash. -/
def CrK (base : Nat) (w u : World) (g : Nat) (rs : List Rc) : Prop := ∃ cs z l e, FoundW rs cs z l e ∧ OnL base w u g (lgR 1 cs z fs0)
/-- Opened behind a crash. -/
def OpK (base : Nat) (w u : World) (g q : Nat) (rs : List Rc) : Prop := ∃ cs z l e, FoundW rs cs z l e ∧ OnG base w u g q (lgR 1 cs z fs0) ⟨1 + cs.length, 1 + cs.length, if e < z.length then (e : Int) else -1, false⟩
theorem cr_open {base : Nat} {w u : World} {g : Nat} {rs : List Rc} (h : CrK base w u g rs) (hT : TbP w) (hb : w.heap.size ≤ base) :
    Calls Tryz.prog 33 #[.pointer (some ⟨g, 0, none⟩), .int .i64 1] u fun e u' => ∃ q a c, e = .returned (.tuple #[.pointer (some ⟨q, 0, none⟩), .slice a rs.length c, .int .i64 0]) ∧ OpK base w u' g q rs ∧ RecsAt u' u.heap.size a rs.length c rs := by
  obtain ⟨cs, z, l, e, hf, ho⟩ := h
  have hfe := hf.few
  have hL : LimB 400000 (lgR 1 cs z fs0) := lgR_lim4 (by omega) hf.each hf.size (by decide)
  refine (on_open_of ho (fun n bs hb => lgR_grF hf.good.1 hf.gr n bs hb) hT hb hL (by omega) 1 (by decide) (lgR_few (by omega) (by omega) (by omega))).mono ?_
  intro x u' h
  obtain ⟨q, a, c, he, hG, hR⟩ := onOpen_ok h nm1_ne (hf.open fs0)
  dsimp only at he hG hR
  exact ⟨q, a, c, he, ⟨cs, z, l, e, hf, hG⟩, hR⟩
/-- Ready behind a crash. -/
def RdK (base : Nat) (w u : World) (g q : Nat) (rs : List Rc) : Prop := ∃ cs z l e n, FoundW rs cs z l e ∧ 0 ≤ n ∧ n ≤ 3 ∧ OnG base w u g q (lgR 1 cs (fileR l) (clX n)) ⟨1 + cs.length, 1 + cs.length, -1, true⟩
theorem op_ready {base : Nat} {w u : World} {g q : Nat} {rs : List Rc} (h : OpK base w u g q rs) : Calls Tryz.prog 25 #[.pointer (some ⟨q, 0, none⟩)] u fun e u' => e = .returned (.int .i64 0) ∧ RdK base w u' g q rs := by
  obtain ⟨cs, z, l, e, hf, hG⟩ := h
  have hfe := hf.few
  obtain ⟨n', n0, n1, hr⟩ := hf.ready
  have hL : LimB 400000 (lgR 1 cs z fs0) := lgR_lim4 (by omega) hf.each hf.size (by decide)
  have R := ong_ready hG hL (by omega)
  rw [hr] at R
  refine R.mono ?_
  rintro x u' ⟨hx, h⟩
  exact ⟨hx, cs, z, l, e, n', hf, n0, n1, h⟩
/-- With one more. -/
def MrK (base : Nat) (w u : World) (g : Nat) (rs : List Rc) (r : Rc) : Prop := ∃ F, (∀ ops ps, ∃ F', crashF F ops ps = F' ∧ (∃ last, openW false F' 1 = some ⟨rs ++ [r], -1, last, true⟩) ∧ (∀ n bs, readF F' (nmW n) = some bs → GrF bs) ∧ FewF F' 1 ∧ LimB 400000 F') ∧ LimB 400000 F ∧ OnL base w u g F
theorem rd_append {base : Nat} {w u v : World} {g q : Nat} {rs : List Rc} (h : RdK base w u g q rs) (b : Below u.heap.size u v) {s a : Int} (hs : I64 s) (ha : I64 a) {hh : RecH} (sx : SeeR (fun k => u.heap.size ≤ k) v (recN s a) hh) :
    Calls Tryz.prog 37 #[.pointer (some ⟨q, 0, none⟩), (Value.agg #[.int .i64 (RecX.seq ((recN s a))), .int .i64 (RecX.kind ((recN s a))), .slice (RecH.la hh) (RecH.ln hh) (RecH.lc hh), .int .i64 (RecX.at9 ((recN s a))), .slice (Hd.a (RecH.sk hh)) (Hd.n (RecH.sk hh)) (Hd.c (RecH.sk hh)), .slice (Hd.k (RecH.sk hh)) (Hd.m (RecH.sk hh)) (Hd.d (RecH.sk hh)), .int .u64 (Gz.n (Sp.g (RecX.sk ((recN s a))))), .int .u64 (Gz.nans (Sp.g (RecX.sk ((recN s a))))), .int .u64 (Gz.lo (Sp.g (RecX.sk ((recN s a))))), .int .u64 (Gz.hi (Sp.g (RecX.sk ((recN s a))))), .int .i64 (RecX.tseq ((recN s a))), .int .i64 (Hm.op (RecH.m hh)), .string (Hm.nm (RecH.m hh)), .string (Hm.vl (RecH.m hh)), .slice (Hm.va (RecH.m hh)) (Hm.vn (RecH.m hh)) (Hm.vc (RecH.m hh)), .slice (Hm.ka (RecH.m hh)) (Hm.kn (RecH.m hh)) (Hm.kc (RecH.m hh)), .int .i64 (RecX.frm ((recN s a))), .int .i64 (RecX.till ((recN s a)))])] v fun e v' => e = .returned (.int .i64 0) ∧ MrK base w v' g rs (rcN s a) := by
  obtain ⟨cs, z, l, e, n, hf, n0, n1, hG⟩ := h
  have hfe := hf.few
  have hgr := goodN hs ha
  have hL : LimB 400000 (lgR 1 cs (fileR l) (clX n)) := lgR_lim4 (by omega) hf.each (by have := hf.last; omega) ⟨n0, by show n ≤ _; omega⟩
  have A := ong_append_of hG b hL (by omega) sx (fun k hk => Or.inr hk) (puts_one sx rfl (setN_chk a) (skN_ok a).chk)
  obtain ⟨n', m0, m1, he⟩ := append_cl (a := 1) (cs := cs) (l := l) (r := rcN s a) (by omega) (by omega) (by omega) (by have := hgr.hi; omega) n
  rw [rcX_recN] at A
  dsimp only at A
  rw [he] at A
  refine A.mono ?_
  rintro x v' ⟨hx, hv⟩
  have hm := fun X => hf.more hgr X
  obtain ⟨_, _, c1, c2, c3⟩ := hm fs0
  have lim : ∀ X : Fs, (0 ≤ X.n ∧ X.n ≤ 1000) → LimB 400000 (lgR 1 (nxC cs l) (fileR (nxL l (rcN s a))) X) := fun X hX => lgR_lim (by omega) (fun c hc => Nat.le_trans (c2 c hc) (by omega)) (by omega) (by omega)
  refine ⟨hx, _, fun ops ps => ⟨_, crash_calm _ _ _ ops ps, ⟨_, (hm fs0).1⟩, (hm fs0).2.1, lgR_few (by omega) (by omega) (by omega), lim fs0 (by decide)⟩, lim _ ⟨by show 0 ≤ n'; omega, by show n' ≤ _; omega⟩, hv.fs⟩
theorem mr_crash {base : Nat} {w u : World} {g : Nat} {rs : List Rc} {r : Rc} (h : MrK base w u g rs r) :
    Calls Tryz.prog 38 #[.pointer (some ⟨g, 0, none⟩), .int .i64 0, .slice none 0 0] u fun e u' => ∃ g', e = .returned (.pointer (some ⟨g', 0, none⟩)) ∧ Below u.heap.size u u' ∧ ∃ F', ((∃ last, openW false F' 1 = some ⟨rs ++ [r], -1, last, true⟩) ∧ (∀ n bs, readF F' (nmW n) = some bs → GrF bs) ∧ FewF F' 1 ∧ LimB 400000 F') ∧ OnL base w u' g' F' := by
  obtain ⟨F, hc, hL, ho⟩ := h
  obtain ⟨F', e1, e2⟩ := hc 0 []
  refine (on_crash ho hL (by omega) 0 (by decide) none 0 0 [] ⟨rfl, by decide, fun z hz => by simp at hz, Or.inl rfl⟩ (by omega)).mono ?_
  rintro x u' ⟨g', hx, b, q⟩
  rw [e1] at q
  exact ⟨g', hx, b, F', e2, q⟩
theorem fin_open {base : Nat} {w u : World} {g : Nat} {rs : List Rc} {r : Rc} {F' : Fs} (h : (∃ last, openW false F' 1 = some ⟨rs ++ [r], -1, last, true⟩) ∧ (∀ n bs, readF F' (nmW n) = some bs → GrF bs) ∧ FewF F' 1 ∧ LimB 400000 F') (ho : OnL base w u g F') (hT : TbP w) (hb : w.heap.size ≤ base) :
    Calls Tryz.prog 33 #[.pointer (some ⟨g, 0, none⟩), .int .i64 1] u fun e u' => ∃ q a c, e = .returned (.tuple #[.pointer (some ⟨q, 0, none⟩), .slice a (rs.length + 1) c, .int .i64 0]) ∧ Below base w u' ∧ RecsAt u' u.heap.size a (rs.length + 1) c (rs ++ [r]) := by
  obtain ⟨⟨last, h1⟩, h2, h3, h4⟩ := h
  refine (on_open_of ho h2 hT hb h4 (by omega) 1 (by decide) h3).mono ?_
  intro x u' h
  obtain ⟨q, a, c, he, hG, hR⟩ := onOpen_ok h nm1_ne h1
  dsimp only at he hG hR
  rw [List.length_append, List.length_singleton] at he hR
  exact ⟨q, a, c, he, hG.bel, hR⟩
end Go.Proofs.YtknghoecjobkiaaGreatDoor

namespace Go.Proofs.YtknghoecjobkiaaGreatDoor
open Go.RowKit Go.Maps
set_option maxRecDepth 20000
set_option linter.unusedVariables false

theorem Tryz.infoWk : (Tryz.prog.info? 25).map (fun i => (i.zero, i.size, i.bytes)) = some (some (.int .u64 0), 1, 8) := by kernel_rfl
theorem one_wkcell (w : World) (k : Int) (e : TypeId) (j : Nat) (u : Value) (h : [Value.int .u64 k][j]? = some u) : (w.alloc (.cells #[.int .u64 k] e)).cell? ((⟨w.heap.size, 0, none⟩ : Addr).add j) = some u := by
  match j, h with
  | 0, h => simp at h; subst h; rw [Addr.add_lit, World.cell?_alloc_mark]; rfl
/-- Hashes, one behind the other. -/
def wideL (n : Nat) : List Int := (List.range n).map fun i : Nat => (i : Int) * 1000003
theorem wideL_succ (n : Nat) : wideL (n + 1) = wideL n ++ [(n : Int) * 1000003] := by
  unfold wideL
  rw [List.range_succ, List.map_append]
  rfl
theorem wideL_w64 {n : Nat} (h : n ≤ 300) : ∀ x ∈ wideL n, W64 x := fun x hx => by
  unfold wideL at hx
  obtain ⟨i, hi, rfl⟩ := List.mem_map.1 hx
  have := List.mem_range.1 hi
  exact ⟨by omega, by omega⟩
theorem wideL_chk : chkK (wideL 300) = true := by decide +kernel
/-- A sketch, by a number: at times with many hashes. -/
def skW (i : Nat) : Sp := if i % 5 = 0 then { skN i with keys := wideL 300 } else skN i
theorem skW_ok (i : Nat) : Ok (skW i) := by
  have h := skN_ok i
  unfold skW
  split
  · exact ⟨h.h, wideL_chk, wideL_w64 (Nat.le_refl _), h.g, h.c⟩
  · exact h
def recW' (i : Nat) : RecX := ⟨i + 1, 1, setN i, i, skW i, 0, mt0, 0, 0⟩
def rcW (i : Nat) : Rc := ⟨i + 1, .write (setN i) i (skW i)⟩
theorem rcX_recW (i : Nat) : rcX (recW' i) = rcW i := rfl
theorem rcW_good {i : Nat} (h : i ≤ 1000) : GoodR (rcW i) := goodR_of (s := (i : Int) + 1) (a := i) ⟨by omega, by omega⟩ ⟨by omega, by omega⟩ (setN_chk i) (skW_ok i)

set_option maxHeartbeats 4000000 in
theorem wide_any (w : World) : Calls Tryz.prog 36 #[.int .i64 300] w fun e w' => ∃ a c, e = .returned (.slice a 300 c) ∧ OwnU w' w.heap.size a 300 c (wideL 300) ∧ Below w.heap.size w w' := by
  obtain ⟨i1, hi1, hz10, hz11, hz12⟩ := info_parts Tryz.infoWk
  go_enter Tryz.func36, Tryz.ntmps36
  go_wp2
  go_loopw [3, 4] (fun x i wr => ∃ (aw : Option Addr) (k cw : Nat), x = .slice aw k cw ∧ i = .int .i64 k ∧ k ≤ 300 ∧ Hid (OwnU wr w.heap.size aw k cw (wideL k)) ∧ Hid (Below w.heap.size w wr)) (fun _ i _ => 300 - (intOf i).toNat)
  case atStart => exact ⟨none, 0, 0, rfl, rfl, by omega, World.ownsRow_nil _ _ _ _, Below.refl _ _⟩
  case round =>
    obtain ⟨aw, k, cw, rfl, rfl, hk, HW, HB⟩ := hrel
    by_cases hlt : k < 300
    · have HBW : Hid (w.heap.size ≤ wr.heap.size) := HB.out.size
      have i2 : (k : Int) < 300 := by omega
      have i3 : IntKind.u64.wrap (IntKind.u64.wrap (k : Int) * 1000003) = (k : Int) * 1000003 := by
        rw [IntKind.wrap_u64, IntKind.wrap_u64]; omega
      have i4 : IntKind.u64.wrap (k : Int) = (k : Int) := by rw [IntKind.wrap_u64]; omega
      have i5 : IntKind.u64.wrap ((k : Int) * 1000003) = (k : Int) * 1000003 := by rw [IntKind.wrap_u64]; omega
      go_wp2_with (at_builtin; refine wpList_push _ rfl _ _ 24 rfl w.heap.size 25 i1 (.int .u64 0) 8 Tryz.underlying24 hi1 hz10 hz11 hz12 rfl aw k cw _ rfl (HW.out.alloc _) ⟨wr.heap.size, 0, none⟩ 1 (.int .u64 ((k : Int) * 1000003)) rfl (one_wkcell wr ((k : Int) * 1000003) _) rfl (by unfold maxLen; omega) (by omega) (by have := HBW.out; simp; omega) ?_)
      intro gg cc w2 o2 g2 _
      have O2 : Hid (OwnU w2 w.heap.size (some ⟨gg, 0, none⟩) (k + 1) cc (wideL (k + 1))) := by
        show w2.ownsRow _ _ _ _ _ _
        rw [wideL_succ, List.map_append]; exact o2
      have K2 : Hid (Below w.heap.size w w2) := (bel_al HB.out (Nat.le_refl _) (.cells #[.int .u64 ((k : Int) * 1000003)] 25)).grown g2 (by have := HBW.out; simp; omega) (fun g hg => (row_cells HW.out hg).2)
      clear o2 g2 HW HB
      go_wp2
      go_roundw
      case rel => exact ⟨_, k + 1, cc, rfl, by go_num, by omega, O2, K2⟩
      case measure => simp [intOf]; omega
    · obtain rfl : k = 300 := by omega
      go_wp2
      go_ret
      exact ⟨_, _, rfl, HW.out, HB.out⟩

/-! ### the law's log in plain words -/
def recsK (n : Nat) : List Rc := (List.range n).map rcW
theorem recsK_succ (n : Nat) : recsK (n + 1) = recsK n ++ [rcW n] := by
  unfold recsK
  rw [List.range_succ, List.map_append]
  rfl
theorem recsK_len (n : Nat) : (recsK n).length = n := by unfold recsK; simp
theorem recsK_at {n i : Nat} (h : i < n) : (recsK n)[i]? = some (rcW i) := by
  unfold recsK
  rw [List.getElem?_map, List.getElem?_range h]
  rfl
theorem recsK_good {n : Nat} (h : n ≤ 1000) : ∀ r ∈ recsK n, GoodR r := fun r hr => by
  unfold recsK at hr
  obtain ⟨i, hi, rfl⟩ := List.mem_map.1 hr
  exact rcW_good (by have := List.mem_range.1 hi; omega)
/-- Files of the first records. -/
structure LogK (k : Nat) (cs : List (List Rc)) (l : List Rc) : Prop where
  flat : cs.flatten ++ l = recsK k
  few : cs.length ≤ k
  size : ∀ c ∈ cs, (fileR c).length ≤ 105200
  last : (fileR l).length ≤ 105200
section
variable {k : Nat} {cs : List (List Rc)} {l : List Rc}
theorem logK_zero : LogK 0 [] [] := ⟨rfl, Nat.le_refl _, fun c hc => (by cases hc), Nat.zero_le _⟩
theorem LogK.next (h : LogK k cs l) (hk : k < 1000) : LogK (k + 1) (nxC cs l) (nxL l (rcW k)) := by
  obtain ⟨a, b⟩ := nx_size (rcW_good (i := k) (by omega)) h.size h.last
  exact ⟨by rw [nx_flat, h.flat, recsK_succ], Nat.le_trans (nxC_len cs l).2 (by have := h.few; omega), a, b⟩
end
/-- What there is when the power went, or did not yet. -/
structure AfterW (k : Nat) (F : Fs) : Prop where
  lim : LimB 400000 F
  crash : ∀ ops ps, ∃ cs l t, crashF F ops ps = lgR 1 cs (fileR l ++ (frameS (putRc (rcW k))).take t) fs0 ∧ cs.flatten ++ l = recsK k ∧ cs.length ≤ k + 1 ∧ (∀ c ∈ cs, (fileR c).length ≤ 105200) ∧ (fileR l).length ≤ 105200
theorem after_calm {k : Nat} {cs : List (List Rc)} {l : List Rc} (h : LogK k cs l) (hk : k ≤ 100) {X : Fs} (hX : 0 ≤ X.n ∧ X.n ≤ 1000) : AfterW k (lgR 1 cs (fileR l) X) :=
  ⟨lgR_lim4 (by have := h.few; omega) h.size (by have := h.last; omega) (by omega), fun ops ps => ⟨cs, l, 0, by
    rw [List.take_zero, List.append_nil]
    exact crash_calm _ _ _ _ _, h.flat, by have := h.few; omega, h.size, h.last⟩⟩
theorem after_fail {k : Nat} {cs : List (List Rc)} {l : List Rc} (h : LogK k cs l) (hk : k ≤ 100) {F : Fs} (hF : FailW 1 cs l (rcW k) F) (hn : 0 ≤ F.n ∧ F.n ≤ 1000) : AfterW k F := by
  have hf := h.few
  have hl := (frameS_long (putRc (rcW k))).2
  have hi := (rcW_good (i := k) (by omega)).hi
  refine ⟨fail_lim hF (by omega) (fun c hc => Nat.le_trans (h.size c hc) (by omega)) (by have := h.last; omega) (by omega), fun ops ps => ?_⟩
  obtain ⟨t, e | e⟩ := fail_crash (by omega) (by omega) hF ops ps
  · exact ⟨cs, l, t, e, h.flat, by omega, h.size, h.last⟩
  · refine ⟨cs ++ [l], [], t, e, ?_, by rw [List.length_append, List.length_singleton]; omega, fun c hc => ?_, Nat.zero_le _⟩
    · rw [List.append_nil, List.flatten_append]
      simpa using h.flat
    · rcases List.mem_append.1 hc with q | q
      · exact h.size c q
      · obtain rfl := List.mem_singleton.1 q
        exact h.last
theorem after_crash {k : Nat} {F : Fs} (h : AfterW k F) (hk : k ≤ 100) (ops : Int) (ps : List Int) : ∃ k' cs z l e, (k' = k ∨ k' = k + 1) ∧ crashF F ops ps = lgR 1 cs z fs0 ∧ FoundW (recsK k') cs z l e := by
  obtain ⟨cs, l, t, he, hf, h1, h2, h3⟩ := h.crash ops ps
  have hl := (frameS_long (putRc (rcW k))).2
  have hi := (rcW_good (i := k) (by omega)).hi
  have hg : ∀ r ∈ l, GoodR r := fun r hr => recsK_good (n := k) (by omega) r (by rw [← hf]; exact List.mem_append_right _ hr)
  rcases recs_torn hg (rcW_good (i := k) (by omega)) t with ⟨q1, q2⟩ | ⟨q1, q2⟩
  · have hg2 : ∀ r ∈ l ++ [rcW k], GoodR r := fun r hr => by
      rcases List.mem_append.1 hr with q | q
      · exact hg r q
      · obtain rfl := List.mem_singleton.1 q
        exact rcW_good (by omega)
    have hs : (fileR (l ++ [rcW k])).length ≤ 210000 := by rw [fileR_snoc, List.length_append]; omega
    refine ⟨k + 1, cs, fileR (l ++ [rcW k]), l ++ [rcW k], _, Or.inr rfl, by rw [he, q2], recsW_fileR hg2, Nat.le_refl _, List.take_length, grF_all hg2, by omega, by omega, h2, hs, ?_, recsK_good (by omega)⟩
    rw [← List.append_assoc, hf, recsK_succ]
  · refine ⟨k, cs, _, l, _, Or.inl rfl, he, q2, by rw [List.length_append]; omega, List.take_left, grF_fileR hg q1, ?_, by omega, h2, by omega, hf, recsK_good (by omega)⟩
    rw [List.length_append, List.length_take]
    omega
end Go.Proofs.YtknghoecjobkiaaGreatDoor

namespace Go.Proofs.YtknghoecjobkiaaGreatDoor
open Go.RowKit Go.Maps
set_option maxRecDepth 20000
set_option linter.unusedVariables false

def inV (z : Int) : List Value := [.int .i64 z]
theorem inV_len (z : Int) : (inV z).length = 1 := rfl
theorem inV_one1 (z : Int) : ∀ u ∈ inV z, u.oneCell' = true := by
  intro u hu
  simp [inV] at hu
  rw [hu]; rfl
theorem flat_in (zs : List Int) : zs.flatMap inV = zs.map (Value.int .i64) := by
  induction zs with
  | nil => rfl
  | cons z t ih => rw [List.flatMap_cons, ih]; rfl
theorem Tryz.infoI16 : (Tryz.prog.info? 3).map (fun i => (i.zero, i.size, i.bytes)) = some (some (.int .i64 0), 1, 8) := by kernel_rfl
theorem ownI_row {w : World} {base n cap : Nat} {a : Option Addr} {zs : List Int} (h : OwnG 3 1 inV w base a n cap zs) (hn : n ≤ 281474976710656) (hz : ∀ z ∈ zs, (Lit.int .i64 z).wf = true) : Row .i64 w a n zs := by
  have : Own 3 .i64 w base a n cap zs := by
    unfold OwnG at h
    rw [flat_in] at h
    exact h
  exact this.row hn hz
section
variable {α : Type} {e : TypeId} {sz : Nat} {fl : α → List Value}
variable {w w' : World} {base n cap : Nat} {a : Option Addr} {l : List α}
theorem wpList_app_w {P : Program} (hf : ∀ x, (fl x).length = sz) (hsz : 0 < sz) (hone : ∀ x, ∀ u ∈ fl x, u.oneCell' = true) (w : World) {ops : Array Oper} {rest : List Oper} {o : Oper} {a : Act} {Q : Exit → Act → World → Prop} (hgd : o.guard = none) (s x : Operand) (t : TypeId)
    (ho : o.op = .call { callee := .builtin .append, args := #[s, x], argTypes := #[t, t] })
    (base : Nat) (i : TypeInfo) (z : Value) (bytes : Nat) (ht : P.underlying t = some (.slice e)) (hi : P.info? e = some i) (hz : i.zero = some z) (hsize : i.size = sz) (hby : i.bytes = bytes) (hzc : z.cells.size = sz)
    (ao : Option Addr) (n cap : Nat) (l : List α) (hs : a.eval s = .slice ao n cap) (hown : OwnG e sz fl w base ao n cap l)
    (bo : Option Addr) (m c : Nat) (news : List α) (hx : a.eval x = .slice bo m c) (hm : news.length = m) (hrow : ∀ ad, bo = some ad → ∀ j u, (news.flatMap fl)[j]? = some u → w.cell? (ad.add j) = some u) (hbo : bo = none → m = 0 ∧ c = 0)
    (h63 : n + m ≤ 281474976710656) (hbytes : (n + m) * bytes ≤ 140737488355328) (hbase : base ≤ w.heap.size)
    (h : ∀ a' cap' w', OwnG e sz fl w' base a' (n + m) cap' (l ++ news) → w.grownBy w' (Value.slice ao n cap).ownBlock → wpList P ops Q rest (a.put o.dst (.slice a' (n + m) cap')) w') : wpList P ops Q (o :: rest) a w := by
  cases bo with
  | none =>
    obtain ⟨rfl, rfl⟩ := hbo rfl
    have hz : news = [] := List.length_eq_zero_iff.1 hm
    subst hz
    refine wpList_append_own_none hgd s x t ho base e i sz ht hi _ n (l.flatMap fl) hs hown hx ?_
    exact h ao cap w (by rw [List.append_nil]; exact hown) ⟨rfl, rfl, rfl, Nat.le_refl _, fun _ _ _ => rfl⟩
  | some ad =>
    refine wpList_append_own w hgd s x t ho base e i z sz bytes ht hi hz hsize hby hzc hsz _ n (l.flatMap fl) hs hown ad m c (news.flatMap fl) hx (by rw [flatG_len hf, hm]) (hrow ad rfl) (fun u hu => by obtain ⟨y, -, hy⟩ := List.mem_flatMap.1 hu; exact hone y u hy) (by unfold maxLen; omega) hbytes hbase ?_
    intro v' w' h1 h2 _
    rw [← List.flatMap_append] at h1
    obtain ⟨a', cap', rfl, h3⟩ := ownG_form h1
    exact h a' cap' w' h3 h2
end
set_option maxHeartbeats 1000000 in
theorem ints8_any (a : Option Addr) (n cap : Nat) (zs : List Int) (w : World) (hr : Row .i64 w a n zs) (hc : a = none → cap = 0) (hn : n ≤ 17592186044416) :
    Calls Tryz.prog 39 #[.slice a n cap] w fun e w' => ∃ a' cap', e = .returned (.slice a' n cap') ∧ Row .i64 w' a' n zs ∧ Below w.heap.size w w' := by
  obtain ⟨i0, hi, hz0, hz1, hz2⟩ := info_parts Tryz.infoI16
  have hl := hr.1
  have hwf := hr.2.2.1
  cases a with
  | none =>
    obtain rfl := hc rfl
    have h0 := hr.nz rfl
    subst h0
    have hz : zs = [] := List.length_eq_zero_iff.1 hl
    subst hz
    go_enter Tryz.func39, Tryz.ntmps39
    go_wp2_with (at_builtin; refine wpList_app_g inV_len (by decide) inV_one1 _ rfl _ _ 75 rfl w.heap.size i0 (.int .i64 0) 8 Tryz.underlying75 hi hz0 hz1 hz2 rfl none 0 0 [] rfl (ownG_nil _ _) none 0 0 [] rfl rfl (fun ad' e => by cases e) (fun _ => ⟨rfl, rfl⟩) (by omega) (by omega) (Nat.le_refl _) ?_)
    intro a2 c2 w1 o1 g1
    have O1 := hide o1
    have B1 : Hid (Below w.heap.size w w1) := (Below.refl _ w).grown g1 (Nat.le_refl _) (by intro k hk; simp [Value.ownBlock] at hk)
    clear o1 g1
    go_wp2
    go_ret
    exact ⟨a2, c2, by simp, ⟨rfl, by decide, fun z hz => by simp at hz, Or.inl rfl⟩, B1.out⟩
  | some ad =>
    have HR := hide (fun j u (hj : (zs.flatMap inV)[j]? = some u) => hr.cells j u (by rw [flat_in] at hj; exact hj))
    have HW := hide hwf
    clear hr hwf
    go_enter Tryz.func39, Tryz.ntmps39
    go_wp2_with (at_builtin; refine wpList_app_w inV_len (by decide) inV_one1 _ rfl _ _ 75 rfl w.heap.size i0 (.int .i64 0) 8 Tryz.underlying75 hi hz0 hz1 hz2 rfl none 0 0 [] rfl (ownG_nil _ _) (some ad) n cap zs rfl hl (fun ad' e => by cases e; exact HR.out) (fun e => by cases e) (by omega) (by omega) (Nat.le_refl _) ?_)
    intro a2 c2 w1 o1 g1
    have o2 : OwnG 3 1 inV w1 w.heap.size a2 n c2 zs := by
      first
        | exact o1
        | (have := o1; simp only [Nat.zero_add, List.nil_append] at this; exact this)
    have O1 : Hid (Row .i64 w1 a2 n zs) := ownI_row o2 (by omega) HW.out
    have B1 : Hid (Below w.heap.size w w1) := (Below.refl _ w).grown g1 (Nat.le_refl _) (by intro k hk; simp [Value.ownBlock] at hk)
    clear o1 o2 g1 HR
    go_wp2
    go_ret
    exact ⟨a2, c2, by simp, O1.out, B1.out⟩

end Go.Proofs.YtknghoecjobkiaaGreatDoor

namespace Go.Proofs.YtknghoecjobkiaaGreatDoor
open Go.RowKit Go.Maps
set_option maxRecDepth 20000
set_option linter.unusedVariables false

theorem ong_arm {base : Nat} {w u : World} {g q : Nat} {F : Fs} {L : Lg} (h : OnG base w u g q F L) (k a : Int) (hk : (Lit.int .i64 k).wf = true) (ha : (Lit.int .i64 a).wf = true) : Calls Tryz.prog 34 #[.pointer (some ⟨g, 0, none⟩), .int .i64 k, .int .i64 a] u fun e u' => e = .returned (.int .i64 (armF F k a).2) ∧ OnG base w u' g q (armF F k a).1 L := by
  obtain ⟨S, h1, h2, h3, h4⟩ := h
  obtain ⟨S0, l, st⟩ := (rn_refl h1).split
  exact (larm_any g S0 F k a u l hk ha).mono (fun e v ⟨he, s⟩ => ⟨he, onG_rn h2 h3 h4 (st v _ s)⟩)
/-- Under way: so many records are certain, the power is armed. -/
def GoK (base : Nat) (w u : World) (g q : Nat) (i : Nat) : Prop := ∃ cs l n j, LogK i cs l ∧ 0 ≤ n ∧ n ≤ 3 + 4 * (i : Int) ∧ OnG base w u g q (lgR 1 cs (fileR l) (pwX n j)) ⟨1 + cs.length, 1, -1, true⟩
/-- Behind it. -/
def EndK (base : Nat) (w u : World) (g : Nat) (k : Nat) : Prop := ∃ F, AfterW k F ∧ OnL base w u g F
theorem go_append {base : Nat} {w u v : World} {g q i : Nat} (h : GoK base w u g q i) (hi : i ≤ 40) (b : Below u.heap.size u v) {hh : RecH} (sx : SeeR (fun k => u.heap.size ≤ k) v (recW' i) hh) :
    (Calls Tryz.prog 37 #[.pointer (some ⟨q, 0, none⟩), (Value.agg #[.int .i64 (RecX.seq ((recW' i))), .int .i64 (RecX.kind ((recW' i))), .slice (RecH.la hh) (RecH.ln hh) (RecH.lc hh), .int .i64 (RecX.at9 ((recW' i))), .slice (Hd.a (RecH.sk hh)) (Hd.n (RecH.sk hh)) (Hd.c (RecH.sk hh)), .slice (Hd.k (RecH.sk hh)) (Hd.m (RecH.sk hh)) (Hd.d (RecH.sk hh)), .int .u64 (Gz.n (Sp.g (RecX.sk ((recW' i))))), .int .u64 (Gz.nans (Sp.g (RecX.sk ((recW' i))))), .int .u64 (Gz.lo (Sp.g (RecX.sk ((recW' i))))), .int .u64 (Gz.hi (Sp.g (RecX.sk ((recW' i))))), .int .i64 (RecX.tseq ((recW' i))), .int .i64 (Hm.op (RecH.m hh)), .string (Hm.nm (RecH.m hh)), .string (Hm.vl (RecH.m hh)), .slice (Hm.va (RecH.m hh)) (Hm.vn (RecH.m hh)) (Hm.vc (RecH.m hh)), .slice (Hm.ka (RecH.m hh)) (Hm.kn (RecH.m hh)) (Hm.kc (RecH.m hh)), .int .i64 (RecX.frm ((recW' i))), .int .i64 (RecX.till ((recW' i)))])] v fun e v' => e = .returned (.int .i64 0) ∧ GoK base w v' g q (i + 1)) ∨
    Calls Tryz.prog 37 #[.pointer (some ⟨q, 0, none⟩), (Value.agg #[.int .i64 (RecX.seq ((recW' i))), .int .i64 (RecX.kind ((recW' i))), .slice (RecH.la hh) (RecH.ln hh) (RecH.lc hh), .int .i64 (RecX.at9 ((recW' i))), .slice (Hd.a (RecH.sk hh)) (Hd.n (RecH.sk hh)) (Hd.c (RecH.sk hh)), .slice (Hd.k (RecH.sk hh)) (Hd.m (RecH.sk hh)) (Hd.d (RecH.sk hh)), .int .u64 (Gz.n (Sp.g (RecX.sk ((recW' i))))), .int .u64 (Gz.nans (Sp.g (RecX.sk ((recW' i))))), .int .u64 (Gz.lo (Sp.g (RecX.sk ((recW' i))))), .int .u64 (Gz.hi (Sp.g (RecX.sk ((recW' i))))), .int .i64 (RecX.tseq ((recW' i))), .int .i64 (Hm.op (RecH.m hh)), .string (Hm.nm (RecH.m hh)), .string (Hm.vl (RecH.m hh)), .slice (Hm.va (RecH.m hh)) (Hm.vn (RecH.m hh)) (Hm.vc (RecH.m hh)), .slice (Hm.ka (RecH.m hh)) (Hm.kn (RecH.m hh)) (Hm.kc (RecH.m hh)), .int .i64 (RecX.frm ((recW' i))), .int .i64 (RecX.till ((recW' i)))])] v fun e v' => e = .returned (.int .i64 15) ∧ EndK base w v' g i := by
  obtain ⟨cs, l, n, j, hk, n0, n1, hG⟩ := h
  have hf := hk.few
  have hgr := rcW_good (i := i) (by omega)
  have hL : LimB 400000 (lgR 1 cs (fileR l) (pwX n j)) := lgR_lim4 (by omega) hk.size (by have := hk.last; omega) ⟨n0, by show n ≤ _; omega⟩
  have A := ong_append_of hG b hL (by omega) sx (fun k hk => Or.inr hk) (puts_one sx rfl (setN_chk i) (skW_ok i).chk)
  have hp := append_pw (a := 1) (cs := cs) (l := l) (r := rcW i) (by omega) (by omega) (by omega) (by have := hk.last; omega) (by have := hgr.hi; omega) n j
  rw [rcX_recW] at A
  dsimp only at A
  rcases hp with ⟨n', j', q1, q2, he⟩ | ⟨F', la, hF, he, q1, q2⟩
  · rw [he] at A
    refine Or.inl (A.mono ?_)
    rintro e v' ⟨rfl, hv⟩
    exact ⟨rfl, _, _, n', j', hk.next (by omega), by omega, by omega, hv⟩
  · rw [he] at A
    refine Or.inr (A.mono ?_)
    rintro e v' ⟨rfl, hv⟩
    exact ⟨rfl, F', after_fail hk (by omega) hF ⟨by omega, by omega⟩, hv.fs⟩
theorem go_end {base : Nat} {w u : World} {g q i : Nat} (h : GoK base w u g q i) (hi : i ≤ 40) : EndK base w u g i := by
  obtain ⟨cs, l, n, j, hk, n0, n1, hG⟩ := h
  exact ⟨_, after_calm hk (by omega) ⟨n0, by show n ≤ _; omega⟩, hG.fs⟩
theorem EndK.below {base : Nat} {w u v : World} {g k : Nat} (h : EndK base w u g k) (b : Below u.heap.size u v) : EndK base w v g k := by
  obtain ⟨F, h1, h2⟩ := h
  exact ⟨F, h1, h2.below b⟩
theorem EndK.bel {base : Nat} {w u : World} {g k : Nat} (h : EndK base w u g k) : Below base w u := by
  obtain ⟨F, h1, h2⟩ := h
  exact h2.bel
theorem end_crash {base : Nat} {w u : World} {g k : Nat} (h : EndK base w u g k) (hk : k ≤ 40) (ops : Int) (ho : (Lit.int .i64 ops).wf = true) (a : Option Addr) (n c : Nat) (ps : List Int) (hr : Row .i64 u a n ps) (hn : n ≤ 281474976710656) :
    ∃ k', (k' = k ∨ k' = k + 1) ∧ Calls Tryz.prog 38 #[.pointer (some ⟨g, 0, none⟩), .int .i64 ops, .slice a n c] u fun e u' => ∃ g', e = .returned (.pointer (some ⟨g', 0, none⟩)) ∧ CrK base w u' g' (recsK k') := by
  obtain ⟨F, h1, h2⟩ := h
  obtain ⟨k', cs, z, l, e, q1, q2, q3⟩ := after_crash h1 (by omega) ops ps
  refine ⟨k', q1, (on_crash h2 h1.lim (by omega) ops ho a n c ps hr hn).mono ?_⟩
  rintro e u' ⟨g', he, b, hc⟩
  rw [q2] at hc
  exact ⟨g', he, cs, z, l, _, q3, hc⟩
end Go.Proofs.YtknghoecjobkiaaGreatDoor
