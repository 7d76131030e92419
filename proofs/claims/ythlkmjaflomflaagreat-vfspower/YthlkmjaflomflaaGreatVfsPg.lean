/-
  Statement VfsPower: a contract, for every world; file systems where nothing is armed, or the power is gone, in plain words (written by gen/vfspg.gen.py).
  Conditions: the arguments are told.
-/
import Derived.Test.YthlkmjaflomflaaGreatVfsPf
import Derived.Test.YthlkmjaflomflaaGreatVfsLo
namespace Go.Proofs.YthlkmjaflomflaaGreat
open Go.RowKit Go.Maps
set_option maxRecDepth 20000
set_option linter.unusedVariables false

/-- Nothing is armed, the power is there. -/
def Calm (F : Fs) : Prop := F.armed = false ∧ F.dark = false
theorem calm_call {F : Fs} (h : Calm F) : callF F = ({ F with n := F.n + 1 }, none) := by
  unfold callF
  rw [if_neg (by rw [h.2]; simp), if_pos h.1]
theorem Calm.op {F : Fs} (h : Calm F) (x : CallV) (hk : x.k < 8) : Calm (opF F x).1 := by
  have hc := calm_call h
  have hG : Calm ({ F with n := F.n + 1 } : Fs) := h
  unfold opF
  split
  · unfold createF
    rw [hc]
    dsimp only
    split
    · exact hG
    · split
      · exact hG
      · exact hG
  · split
    · unfold appendF
      rw [hc]
      dsimp only
      split
      · exact hG
      · split
        · exact hG
        · split
          · exact hG
          · exact hG
    · split
      · unfold cutF
        rw [hc]
        dsimp only
        split
        · exact hG
        · split
          · exact hG
          · split
            · exact hG
            · exact hG
      · split
        · unfold syncF
          rw [hc]
          dsimp only
          split
          · exact hG
          · split
            · exact hG
            · exact hG
        · split
          · unfold renameF
            rw [hc]
            dsimp only
            split
            · exact hG
            · split
              · exact hG
              · exact hG
          · split
            · unfold removeF
              rw [hc]
              dsimp only
              split
              · exact hG
              · split
                · exact hG
                · exact hG
            · rw [if_pos (by omega)]
              unfold syncdirF
              rw [hc]
              exact hG
theorem dark_call {F : Fs} (h : F.dark = true) : callF F = ({ F with n := F.n + 1 }, some 15) := by
  unfold callF
  rw [if_pos h]
theorem dark_create {F : Fs} (h : F.dark = true) (s : ByteArray) : createF F s = ({ F with n := F.n + 1 }, 15) := by
  unfold createF
  rw [dark_call h]
theorem dark_append {F : Fs} (h : F.dark = true) (s : ByteArray) (b : List Int) : appendF F s b = ({ F with n := F.n + 1 }, 15) := by
  unfold appendF
  rw [dark_call h]
  dsimp only
  split
  · rfl
  · rw [if_neg (by rw [h]; simp)]
theorem dark_remove {F : Fs} (h : F.dark = true) (s : ByteArray) : removeF F s = ({ F with n := F.n + 1 }, 15) := by
  unfold removeF
  rw [dark_call h]
theorem dark_sync {F : Fs} (h : F.dark = true) (s : ByteArray) : syncF F s = ({ F with n := F.n + 1 }, 15) := by
  unfold syncF
  rw [dark_call h]
theorem LimB.n1 {m : Nat} {F : Fs} (h : LimB m F) : LimB (m + 1) { F with n := F.n + 1 } := ⟨by have := h.files; dsimp only; omega, by have := h.names; dsimp only; omega, fun x hx => by have := h.each x hx; omega, by have := h.n; dsimp only; omega⟩
/-- The power goes in so many calls. -/
def Pw (F : Fs) (j : Nat) : Prop := F.armed = true ∧ F.dark = false ∧ F.kind = 0 ∧ F.after = (j : Int)
theorem pw_arm {F : Fs} (h : Calm F) (p : Nat) : Pw (armF F 0 (p : Int)).1 p ∧ (armF F 0 (p : Int)).2 = 0 := by
  rw [armF_ok (Or.inl rfl) (by omega)]
  exact ⟨⟨rfl, h.2, rfl, rfl⟩, rfl⟩
theorem pw_step {F : Fs} {j : Nat} (h : Pw F (j + 1)) : Pw (syncdirF F).1 j ∧ (syncdirF F).2 = 0 := by
  obtain ⟨h1, h2, h3, h4⟩ := h
  have hc : callF F = ({ F with n := F.n + 1, after := F.after - 1 }, none) := by
    unfold callF
    rw [if_neg (by rw [h2]; simp), if_neg (by rw [h1]; simp), if_pos (by omega)]
  unfold syncdirF
  rw [hc]
  exact ⟨⟨h1, h2, h3, by show F.after - 1 = _; omega⟩, rfl⟩
theorem pw_last {F : Fs} (h : Pw F 0) : (syncdirF F).1.dark = true ∧ (syncdirF F).2 = 15 := by
  obtain ⟨h1, h2, h3, h4⟩ := h
  have hc : callF F = ({ F with n := F.n + 1, armed := false, dark := true }, some 15) := by
    unfold callF
    rw [if_neg (by rw [h2]; simp), if_neg (by rw [h1]; simp), if_neg (by omega), if_pos h3]
  unfold syncdirF
  rw [hc]
  exact ⟨rfl, rfl⟩
/-- The landed one beside one of the document's, made anew. -/
theorem two_of_on {base : Nat} {w u v : World} {g h : Nat} {F X : Fs} (o : OnL base w u g F) (m : MadeV RAt u v h X) : TwoV base w v g h F X := by
  obtain ⟨S, q1, q2, q3, q4⟩ := o
  obtain ⟨T, p1, p2, p3⟩ := m
  refine ⟨S, T, q1.below p3, p1, q2, fun k hk => Nat.le_trans q4 (p2 k hk), fun k hk ht => ?_, q3.trans (p3.mono q4), Nat.le_trans q4 p3.size⟩
  have h1 := q1.lt k hk
  have h2 := p2 k ht
  omega
theorem TwoV.on {base : Nat} {w u : World} {g h : Nat} {F G : Fs} (t : TwoV base w u g h F G) : OnL base w u g F := by
  obtain ⟨S, T, q⟩ := t
  exact ⟨S, q.l, q.ls, q.bel, q.sz⟩
/-- The file system without power, and the names that were told. -/
def PwK (base : Nat) (w u : World) (g : Nat) (a : Option Addr) (n c : Nat) (l : List ByteArray) (F : Fs) : Prop := ∃ S, LAt u g S F ∧ (∀ k, S k → base ≤ k) ∧ Below base w u ∧ base ≤ u.heap.size ∧ OwnS u base a n c l ∧ ∀ j, (Value.slice a n c).ownBlock = some j → ¬ S j
section
variable {base : Nat} {w u v : World} {g : Nat} {a : Option Addr} {n c m : Nat} {l : List ByteArray} {F G : Fs}
theorem PwK.below (h : PwK base w u g a n c l F) (b : Below u.heap.size u v) : PwK base w v g a n c l F := by
  obtain ⟨S, q1, q2, q3, q4, q5, q6⟩ := h
  exact ⟨S, q1.below b, q2, q3.trans (b.mono q4), Nat.le_trans q4 b.size, OwnG.below q5 b (Nat.le_refl _), q6⟩
theorem PwK.bel (h : PwK base w u g a n c l F) : Below base w u := by
  obtain ⟨S, q1, q2, q3, q4, q5, q6⟩ := h
  exact q3
theorem PwK.own (h : PwK base w u g a n c l F) : OwnS u base a n c l := by
  obtain ⟨S, q1, q2, q3, q4, q5, q6⟩ := h
  exact q5
theorem pwK_start (o : OnL base w u g F) (b : Below u.heap.size u v) (ol : OwnS v u.heap.size a n c l) : PwK base w v g a n c l F := by
  obtain ⟨S, q1, q2, q3, q4⟩ := o
  refine ⟨S, q1.below b, q2, q3.trans (b.mono q4), Nat.le_trans q4 b.size, OwnG.mono ol q4, fun j hj hs => ?_⟩
  have h1 := q1.lt j hs
  have h2 := (OwnG.cellsT ol j hj).2
  omega
theorem pwK_of {S : Nat → Prop} (q1 : LAt u g S F) (q : (∀ k, S k → base ≤ k) ∧ Below base w u ∧ base ≤ u.heap.size ∧ OwnS u base a n c l ∧ ∀ j, (Value.slice a n c).ownBlock = some j → ¬ S j) (st : StepV LAt u v g S G) : PwK base w v g a n c l G := by
  obtain ⟨q2, q3, q4, q5, q6⟩ := q
  obtain ⟨S', p1, p2, p3⟩ := st
  refine ⟨S', p1, fun k hk => ?_, q3.trans (p3.below q4 (fun j hj hs => by have := q2 j hs; omega)), Nat.le_trans q4 p3.size, OwnG.ch q5 p3 q6, fun j hj hs => ?_⟩
  · rcases p2 k hk with e | e
    · exact q2 k e
    · exact Nat.le_trans q4 e
  · rcases p2 j hs with e | e
    · exact q6 j hj e
    · have := (OwnG.cellsT q5 j hj).1.lt
      omega
theorem pw_create (h : PwK base w u g a n c l F) (hd : F.dark = true) (hL : LimB m F) (hm : m < 1073741824) (s : ByteArray) (hs : s.size ≤ 9223372036854775807) : Calls Tryz.prog 17 #[.pointer (some ⟨g, 0, none⟩), .string s] u fun e u' => e = .returned (.int .i64 15) ∧ PwK base w u' g a n c l { F with n := F.n + 1 } := by
  obtain ⟨S, q1, q⟩ := h
  have := lcreate_any g S F s m u q1 hL.lim hm hs
  rw [dark_create hd] at this
  exact this.mono (fun e u' ⟨he, st⟩ => ⟨he, pwK_of q1 q st⟩)
theorem pw_append (h : PwK base w u g a n c l F) (hd : F.dark = true) (hL : LimB m F) (hm : m < 1073741824) (s : ByteArray) (hs : s.size ≤ 9223372036854775807) (b : Option Addr) (k d : Nat) (zs : List Int) (hr : Row .u8 u b k zs) (hk : k ≤ 4294967296) (hkd : k ≤ d) : Calls Tryz.prog 18 #[.pointer (some ⟨g, 0, none⟩), .string s, .slice b k d] u fun e u' => e = .returned (.int .i64 15) ∧ PwK base w u' g a n c l { F with n := F.n + 1 } := by
  obtain ⟨S, q1, q⟩ := h
  have := lappend_any g S F s b k d zs m u q1 hL.lim hm hs hr hk hkd
  rw [dark_append hd] at this
  exact this.mono (fun e u' ⟨he, st⟩ => ⟨he, pwK_of q1 q st⟩)
theorem pw_remove (h : PwK base w u g a n c l F) (hd : F.dark = true) (hL : LimB m F) (hm : m < 1073741824) (s : ByteArray) (hs : s.size ≤ 9223372036854775807) : Calls Tryz.prog 20 #[.pointer (some ⟨g, 0, none⟩), .string s] u fun e u' => e = .returned (.int .i64 15) ∧ PwK base w u' g a n c l { F with n := F.n + 1 } := by
  obtain ⟨S, q1, q⟩ := h
  have := lremove_any g S F s m u q1 hL.lim hm hs
  rw [dark_remove hd] at this
  exact this.mono (fun e u' ⟨he, st⟩ => ⟨he, pwK_of q1 q st⟩)
theorem pw_sync (h : PwK base w u g a n c l F) (hd : F.dark = true) (hL : LimB m F) (hm : m < 1073741824) (s : ByteArray) (hs : s.size ≤ 9223372036854775807) : Calls Tryz.prog 21 #[.pointer (some ⟨g, 0, none⟩), .string s] u fun e u' => e = .returned (.int .i64 15) ∧ PwK base w u' g a n c l { F with n := F.n + 1 } := by
  obtain ⟨S, q1, q⟩ := h
  have := lsync_any g S F s m u q1 hL.lim hm hs
  rw [dark_sync hd] at this
  exact this.mono (fun e u' ⟨he, st⟩ => ⟨he, pwK_of q1 q st⟩)
theorem pw_list (h : PwK base w u g a n c l F) (hL : LimB m F) (hm : m < 1073741824) : Calls Tryz.prog 16 #[.pointer (some ⟨g, 0, none⟩)] u fun e u' => ∃ b d, e = .returned (.slice b (listF F).length d) ∧ OwnS u' u.heap.size b (listF F).length d (listF F) ∧ Below u.heap.size u u' := by
  obtain ⟨S, q1, q⟩ := h
  exact llist_any g S F m u q1 hL.lim (by omega)
end

set_option maxHeartbeats 16000000 in
theorem power_walk (a : Option Addr) (n c : Nat) (xs : List OpV) (after : Int) (a2 : Option Addr) (n2 c2 : Nat) (ys : List OpV) (w : World) (h1 : IsOpsV w a n c xs) (haf : (Lit.int .i64 after).wf = true) (h2 : IsOpsV w a2 n2 c2 ys) :
    Calls Tryz.prog 5 #[.slice a n c, .int .i64 after, .slice a2 n2 c2] w fun e w' => e = .returned (.bool true) ∧ Below w.heap.size w w' := by
  obtain ⟨-, -, -, hro⟩ := h1
  have RO := hide hro
  obtain ⟨-, -, -, hro2⟩ := h2
  have RO2 := hide hro2
  obtain ⟨p, hp, hp4⟩ : ∃ p : Nat, after % 4 = (p : Int) ∧ p ≤ 3 := by
    have q1 := Int.emod_nonneg after (show (4 : Int) ≠ 0 by omega)
    have q2 := Int.emod_lt_of_pos after (show (0 : Int) < 4 by omega)
    exact ⟨(after % 4).toNat, by omega, by omega⟩
  have P4 := hide (fun u => place_any after 4 (by omega) (by omega) u)
  rw [hp] at P4
  have hzz : Calm fs0 := ⟨rfl, rfl⟩
  clear hro hro2 hp
  go_enter Tryz.func5, Tryz.ntmps5
  go_wp2_with fail
  with_reducible refine (awakeV_any _).mono ?_
  rintro e u0 ⟨rfl, b0⟩
  have B0 := hide b0
  clear b0
  go_wp2_with fail
  with_reducible refine (lnew_any _).mono ?_
  rintro e u1 ⟨g, rfl, hm⟩
  have H1 := hide (onL_from' B0.out hm)
  have HC := hide hzz
  clear hm B0 hzz
  go_wp2
  go_loopw [8] (fun i wr => ∃ (k : Nat) (F : Fs), k ≤ n ∧ k ≤ 30 ∧ i = .int .i64 (k : Int) ∧ Hid (LimB (k * 502) F) ∧ Hid (Calm F) ∧ Hid (OnL w.heap.size w wr g F)) (fun i _ => 30 - (intOf i).toNat)
  case atStart => exact ⟨0, fs0, by omega, by omega, rfl, limB0, HC.out, H1.out⟩
  case round =>
    clear H1 HC
    obtain ⟨k, F, hk, hk7, rfl, HL, HC, HO⟩ := hrel
    obtain ⟨v, rfl⟩ : ∃ v, v = wr := ⟨wr, rfl⟩
    by_cases hgo : k < n ∧ k < 30
    · obtain ⟨hlt, hlt7⟩ := hgo
      obtain ⟨b, off, x, rfl, hx, hw, c0, c1, c2', c3, c4, c5⟩ := (RO.out.below HO.out.bel (Nat.le_refl _)).at' hlt
      have HW : Hid (OpW w x) := RO.out.each x (List.mem_of_getElem? hx)
      have i1 : (0 : Int) ≤ (k : Int) := by omega
      have i2 : (k : Int) < (n : Int) := by omega
      have i3 : (k : Int) < 30 := by omega
      have d1 : decide ((k : Int) < (n : Int)) = true := decide_eq_true i2
      have d2 : decide ((k : Int) < 30) = true := decide_eq_true i3
      have d3 : decide (k < n) = true := decide_eq_true hlt
      have hdl := HW.out.data.row.1
      have wk : IntKind.i64.wrap ((k : Int) + 1) = ((k + 1 : Nat) : Int) := by rw [IntKind.wrap_i64]; omega
      obtain ⟨q, hq, hq10⟩ : ∃ q : Nat, x.k % 10 = (q : Int) ∧ q < 10 := by
        have q1 := Int.emod_nonneg x.k (show (10 : Int) ≠ 0 by omega)
        have q2 := Int.emod_lt_of_pos x.k (show (0 : Int) < 10 by omega)
        exact ⟨(x.k % 10).toNat, by omega, by omega⟩
      have PL := hide (fun u => place_any x.k 10 (by omega) (by omega) u)
      rw [hq] at PL
      have HQ := hide hq
      clear hx hw hq
      by_cases hq8 : q < 8
      · have e1 : (q : Int) < 8 := by omega
        have e2 : decide ((q : Int) < 8) = true := decide_eq_true e1
        by_cases hbg : x.d.2.1 ≤ 500
        · have j1 : (x.d.2.1 : Int) ≤ 500 := by omega
          have j2 : decide ((x.d.2.1 : Int) ≤ 500) = true := decide_eq_true j1
          obtain ⟨v0, hv0⟩ : ∃ v0, Hid (v.alloc (.cells #[.slice none 0 0, .slice none 0 0, .slice none 0 0, .int .i64 0, .bool false, .int .i64 0, .int .i64 0, .bool false] 32) = v0) := ⟨_, rfl⟩
          have T0 := hide (two_of_on HO.out ((mkR_new v v0 hv0.out.symm).made good0))
          obtain ⟨h, hh⟩ : ∃ h, Hid (v.heap.size = h) := ⟨_, rfl⟩
          rw [hh.out] at T0
          have DO := hide (do_any w v0 g h F fs0 (k * 502) x T0.out HL.out (limB0.mono (by omega)) (by omega) HW.out (by omega))
          have HL2 := hide (opF_lim HL.out (callV x) (by show x.data.length ≤ 500; omega))
          have HC2 := hide (HC.out.op (callV x) (by show (x.k % 10).toNat < 8; rw [HQ.out]; omega))
          have N9 : Hid (x.k % 10 ≠ 9) := by show _ ≠ _; rw [HQ.out]; omega
          have yq : ∀ (r : Nat) (u : Value), v.cell? ⟨b, r, none⟩ = some u → (v.alloc (.cells #[.slice none 0 0, .slice none 0 0, .slice none 0 0, .int .i64 0, .bool false, .int .i64 0, .int .i64 0, .bool false] 32)).cell? ⟨b, r, none⟩ = some u := fun r u hr => (((Below.refl v.heap.size v).alloc (Nat.le_refl _) _).cell (p := ⟨b, r, none⟩) (World.block_lt_of_cell? v _ hr)).trans hr
          have y0 := yq _ _ c0
          have y1 := yq _ _ c1
          have y2 := yq _ _ c2'
          have y3 := yq _ _ c3
          have y4 := yq _ _ c4
          have y5 := yq _ _ c5
          clear HL HC HO T0 hdl yq
          go_wp2_with fail
          with_reducible refine (PL.out _).mono ?_
          rintro e u ⟨rfl, hu⟩
          rw [hu]
          clear hu
          go_wp2_with fail
          rw [hv0.out, hh.out]
          clear hv0 hh c0 c1 c2' c3 c4 c5 y0 y1 y2 y3 y4 y5
          with_reducible refine DO.out.mono ?_
          rintro e v1 ⟨g1, h1, rfl, t1, hgh⟩
          obtain ⟨rfl, rfl⟩ := hgh N9.out
          have T1 := hide t1.on
          obtain ⟨X, hX⟩ : ∃ X, (opF F (callV x)).1 = X := ⟨_, rfl⟩
          rw [hX] at T1 HL2 HC2
          have HL3 : Hid (LimB ((k + 1) * 502) X) := by
            have := HL2.out
            rwa [show k * 502 + 502 = (k + 1) * 502 by omega] at this
          clear t1 DO hX hgh HL2
          go_wp2
          go_roundw
          case rel => exact ⟨k + 1, X, by omega, by omega, by go_num, HL3, HC2, T1⟩
          case measure => simp [intOf]; omega
        · have j1 : ¬ (x.d.2.1 : Int) ≤ 500 := by omega
          have j2 : decide ((x.d.2.1 : Int) ≤ 500) = false := decide_eq_false j1
          have HL3 : Hid (LimB ((k + 1) * 502) F) := HL.out.mono (by omega)
          clear HL hdl
          go_wp2_with fail
          with_reducible refine (PL.out _).mono ?_
          rintro e u ⟨rfl, hu⟩
          rw [hu]
          clear hu
          go_wp2
          go_roundw
          case rel => exact ⟨k + 1, F, by omega, by omega, by go_num, HL3, HC, HO⟩
          case measure => simp [intOf]; omega
      · have e1 : ¬ (q : Int) < 8 := by omega
        have e2 : decide ((q : Int) < 8) = false := decide_eq_false e1
        have HL3 : Hid (LimB ((k + 1) * 502) F) := HL.out.mono (by omega)
        clear HL hdl
        go_wp2_with fail
        with_reducible refine (PL.out _).mono ?_
        rintro e u ⟨rfl, hu⟩
        rw [hu]
        clear hu
        go_wp2
        go_roundw
        case rel => exact ⟨k + 1, F, by omega, by omega, by go_num, HL3, HC, HO⟩
        case measure => simp [intOf]; omega
    · have HL3 : Hid (LimB 15060 F) := HL.out.mono (by omega)
      have NGO : Hid ((¬ (k : Int) < (n : Int)) ∨ ((k : Int) < (n : Int) ∧ k = 30)) := by
        by_cases h : k < n
        · exact Or.inr ⟨by omega, by omega⟩
        · exact Or.inl (by omega)
      have AR := hide (on_arm HO.out 0 (p : Int) (by decide) (by simp [Lit.wf, IntKind.min, IntKind.max, IntKind.signed, IntKind.bits]; omega))
      have PW := hide (pw_arm HC.out p)
      have HLA := hide (HL3.out.arm 0 (p : Int))
      rw [PW.out.2] at AR
      obtain ⟨X0, hX0⟩ : ∃ X0, (armF F 0 (p : Int)).1 = X0 := ⟨_, rfl⟩
      have PW1 := hide PW.out.1
      rw [hX0] at AR PW1 HLA
      clear HL HL3 HC HO hX0 PW
      rcases NGO.out with hno | ⟨hyes, rfl⟩
      · have d1 : decide ((k : Int) < (n : Int)) = false := decide_eq_false hno
        have d3 : decide (k < n) = false := decide_eq_false (by omega)
        clear NGO hgo
        go_wp2_with fail
        with_reducible refine (P4.out _).mono ?_
        rintro e u ⟨rfl, hu⟩
        rw [hu]
        clear hu
        go_wp2_with fail
        with_reducible refine AR.out.mono ?_
        rintro e u2 ⟨rfl, h2⟩
        have H2 := hide h2
        clear h2 AR
        go_wp2
        go_loopw [11] (fun i wr => ∃ (j : Nat) (X : Fs), j ≤ p + 1 ∧ i = .int .i64 (j : Int) ∧ Hid (LimB (15060 + j) X) ∧ Hid (j ≤ p → Pw X (p - j)) ∧ Hid (j = p + 1 → X.dark = true) ∧ Hid (OnL w.heap.size w wr g X)) (fun i _ => 5 - (intOf i).toNat)
        case atStart => exact ⟨0, X0, by omega, rfl, HLA.out, fun _ => PW1.out, fun h => by omega, H2.out⟩
        case round =>
          clear H2 HLA PW1
          obtain ⟨j, X, hj, rfl, HL, HP, HD, HO⟩ := hrel
          obtain ⟨v, rfl⟩ : ∃ v, v = wr := ⟨wr, rfl⟩
          have SD := hide (on_syncdir HO.out HL.out (by omega))
          have HLS := hide HL.out.syncdir
          have wj : IntKind.i64.wrap ((j : Int) + 1) = ((j + 1 : Nat) : Int) := by rw [IntKind.wrap_i64]; omega
          by_cases hjp : j < p
          · obtain ⟨r, hr⟩ : ∃ r, p - j = r + 1 := ⟨p - j - 1, by omega⟩
            have PS := HP.out (by omega)
            rw [hr] at PS
            have PST := hide (pw_step PS)
            rw [PST.out.2] at SD
            have PN : Hid (Pw (syncdirF X).1 (p - (j + 1))) := by
              have := PST.out.1
              rwa [show r = p - (j + 1) by omega] at this
            obtain ⟨Y, hY⟩ : ∃ Y, (syncdirF X).1 = Y := ⟨_, rfl⟩
            rw [hY] at SD PN HLS
            have i1 : (j : Int) ≤ (p : Int) := by omega
            have i2 : (j : Int) < (p : Int) := by omega
            have i3 : ((j : Int) == (p : Int)) = false := by simp; omega
            have i4 : decide ((j : Int) < (p : Int)) = true := decide_eq_true i2
            have i5 : decide (j < p) = true := decide_eq_true hjp
            have PNn : Hid (j + 1 ≤ p → Pw Y (p - (j + 1))) := fun _ => PN.out
            have PDn : Hid (j + 1 = p + 1 → Y.dark = true) := fun h => by omega
            have HLn : Hid (LimB (15060 + (j + 1)) Y) := HLS.out.mono (by omega)
            clear PS PST hY HL HP HD HO hr PN HLS
            go_wp2_with fail
            with_reducible refine SD.out.mono ?_
            rintro e u3 ⟨rfl, h3⟩
            have H3 := hide h3
            clear h3 SD
            go_wp2
            go_roundw
            case rel => exact ⟨j + 1, Y, by omega, by go_num, HLn, PNn, PDn, H3⟩
            case measure => simp [intOf]; omega
          · by_cases hje : j = p
            · subst hje
              have PS := HP.out (by omega)
              rw [Nat.sub_self] at PS
              have PST := hide (pw_last PS)
              rw [PST.out.2] at SD
              have PD := hide PST.out.1
              obtain ⟨Y, hY⟩ : ∃ Y, (syncdirF X).1 = Y := ⟨_, rfl⟩
              rw [hY] at SD PD HLS
              have i1 : (j : Int) ≤ (j : Int) := by omega
              have i2 : ¬ (j : Int) < (j : Int) := by omega
              have i3 : ((j : Int) == (j : Int)) = true := by simp
              have i4 : decide ((j : Int) < (j : Int)) = false := decide_eq_false i2
              have HLn : Hid (LimB (15060 + (j + 1)) Y) := HLS.out.mono (by omega)
              clear PS PST hY HL HP HD HO HLS
              go_wp2_with fail
              with_reducible refine SD.out.mono ?_
              rintro e u3 ⟨rfl, h3⟩
              have H3 := hide h3
              clear h3 SD
              go_wp2
              go_roundw
              case rel => exact ⟨j + 1, Y, by omega, by go_num, HLn, fun h => by omega, fun _ => PD.out, H3⟩
              case measure => simp [intOf]; omega
            · obtain rfl : j = p + 1 := by omega
              have DK := hide (HD.out rfl)
              have i1 : ¬ ((p + 1 : Nat) : Int) ≤ (p : Int) := by omega
              have i1b : ¬ (p : Int) + 1 ≤ (p : Int) := by omega
              have LI := hide (on_list HO.out HL.out (by omega))
              obtain ⟨LF, hLF⟩ : ∃ LF, listF X = LF := ⟨_, rfl⟩
              rw [hLF] at LI
              have HLF := hide hLF
              obtain ⟨NL, hNL⟩ : ∃ NL, LF.length = NL := ⟨_, rfl⟩
              rw [hNL] at LI
              have HNB : NL ≤ 1073741824 := by
                rw [← hNL, ← hLF]
                unfold listF
                rw [insN_lens]
                have h1 := turnsD_len X.turns X.sure
                have h2 := HL.out.names
                unfold dirF
                omega
              have HL4 : Hid (LimB 20000 X) := HL.out.mono (by omega)
              clear SD HLS hjp hje HP HD hLF hNL HL
              go_wp2_with fail
              with_reducible refine LI.out.mono ?_
              rintro e u4 ⟨al, cl, rfl, ol, b4⟩
              have K4 := hide (pwK_start HO.out b4 ol)
              clear ol b4 LI HO
              go_wp2
              go_loopw [14] (fun i wr => ∃ (k : Nat) (Y : Fs), k ≤ n2 ∧ k ≤ 20 ∧ i = .int .i64 (k : Int) ∧ Hid (LimB (20000 + k * 4) Y) ∧ Hid (Y.dark = true) ∧ Hid (listF Y = LF) ∧ Hid (PwK w.heap.size w wr g al NL cl LF Y)) (fun i _ => 20 - (intOf i).toNat)
              case atStart => exact ⟨0, X, by omega, by omega, rfl, HL4.out, DK.out, HLF.out, K4.out⟩
              case round =>
                clear K4 HL4 DK HLF
                obtain ⟨k, Y, hk, hk2, rfl, HL, HD, HF, HK⟩ := hrel
                obtain ⟨v, rfl⟩ : ∃ v, v = wr := ⟨wr, rfl⟩
                by_cases hgo : k < n2 ∧ k < 20
                · obtain ⟨hlt, hlt7⟩ := hgo
                  obtain ⟨b, off, x, rfl, hx, hw, c0, c1, c2', c3, c4, c5⟩ := (RO2.out.below HK.out.bel (Nat.le_refl _)).at' hlt
                  have HW : Hid (OpW w x) := RO2.out.each x (List.mem_of_getElem? hx)
                  have KX : Hid (∀ u, Below w.heap.size w u → u.cell? ⟨b, off + k * 6 + 1, none⟩ = some (.int .i64 x.a) ∧ u.cell? ⟨b, off + k * 6 + 4, none⟩ = some (.slice x.d.1 x.d.2.1 x.d.2.2)) := fun u hu => by
                    obtain ⟨bb, off', x', hb', hx', -, -, z1, -, -, z4, -⟩ := (RO2.out.below hu (Nat.le_refl _)).at' hlt
                    obtain ⟨rfl, rfl⟩ : b = bb ∧ off = off' := by simpa using hb'
                    rw [hx] at hx'
                    obtain rfl := Option.some.inj hx'
                    exact ⟨z1, z4⟩
                  have i1 : (0 : Int) ≤ (k : Int) := by omega
                  have i2 : (k : Int) < (n2 : Int) := by omega
                  have i3 : (k : Int) < 20 := by omega
                  have d1 : decide ((k : Int) < (n2 : Int)) = true := decide_eq_true i2
                  have d2 : decide ((k : Int) < 20) = true := decide_eq_true i3
                  have d3 : decide (k < n2) = true := decide_eq_true hlt
                  have hdl := HW.out.data.row.1
                  have wk : IntKind.i64.wrap ((k : Int) + 1) = ((k + 1 : Nat) : Int) := by rw [IntKind.wrap_i64]; omega
                  obtain ⟨q, hq, hq10⟩ : ∃ q : Nat, x.k % 10 = (q : Int) ∧ q < 10 := by
                    have q1 := Int.emod_nonneg x.k (show (10 : Int) ≠ 0 by omega)
                    have q2 := Int.emod_lt_of_pos x.k (show (0 : Int) < 10 by omega)
                    exact ⟨(x.k % 10).toNat, by omega, by omega⟩
                  have PL := hide (fun u => place_any x.k 10 (by omega) (by omega) u)
                  rw [hq] at PL
                  clear hx hw hq
                  have HL3 : Hid (LimB (20000 + (k + 1) * 4) Y) := HL.out.mono (by omega)
                  by_cases hq8 : q < 8
                  · have e1 : ¬ (8 : Int) ≤ (q : Int) := by omega
                    have e2 : decide ((8 : Int) ≤ (q : Int)) = false := decide_eq_false e1
                    have e3 : decide (8 ≤ q) = false := decide_eq_false (by omega)
                    by_cases hbg : 500 < x.d.2.1
                    · have j1 : (500 : Int) < (x.d.2.1 : Int) := by omega
                      have j2 : decide ((500 : Int) < (x.d.2.1 : Int)) = true := decide_eq_true j1
                      have j3 : decide (500 < x.d.2.1) = true := decide_eq_true hbg
                      clear HL hdl
                      go_wp2_with fail
                      with_reducible refine (PL.out _).mono ?_
                      rintro e u ⟨rfl, hu⟩
                      rw [hu]
                      clear hu
                      go_wp2
                      go_roundw
                      case rel => exact ⟨k + 1, Y, by omega, by omega, by go_num, HL3, HD, HF, HK⟩
                      case measure => simp [intOf]; omega
                    · have j1 : ¬ (500 : Int) < (x.d.2.1 : Int) := by omega
                      have j2 : decide ((500 : Int) < (x.d.2.1 : Int)) = false := decide_eq_false j1
                      have j3 : decide (500 < x.d.2.1) = false := decide_eq_false hbg
                      have NM := hide (fun u => name_any x.a u HW.out.a)
                      obtain ⟨s, hs⟩ : ∃ s, nmAt (x.a % 8).toNat = s := ⟨_, rfl⟩
                      have hss : s.size ≤ 70 := by rw [← hs]; exact nmAt_size _
                      rw [hs] at NM
                      have CR := hide (pw_create (HK.out.below (Below.refl _ _).drew) HD.out HL.out (by omega) ⟨#[120]⟩ (by decide))
                      have L1 := hide HL.out.n1
                      have D1 : Hid (({ Y with n := Y.n + 1 } : Fs).dark = true) := HD.out
                      have F1 : Hid (listF ({ Y with n := Y.n + 1 } : Fs) = LF) := HF.out
                      obtain ⟨Y1, hY1⟩ : ∃ Y1, ({ Y with n := Y.n + 1 } : Fs) = Y1 := ⟨_, rfl⟩
                      rw [hY1] at CR L1 D1 F1
                      obtain ⟨s1, s4⟩ := KX.out v HK.out.bel
                      clear hs hY1 HL HL3 HD HF hdl c1 c2' c3 c4 c5
                      go_wp2_with fail
                      with_reducible refine (PL.out _).mono ?_
                      rintro e u ⟨rfl, hu⟩
                      rw [hu]
                      clear hu
                      go_upto_region 25 with fail
                      refine wp_region_held_drew (S := fun u => u.cell? ⟨b, off + k * 6 + 1, none⟩ = some (.int .i64 x.a) ∧ u.cell? ⟨b, off + k * 6 + 4, none⟩ = some (.slice x.d.1 x.d.2.1 x.d.2.2)) (by kernel_rfl) ⟨s1, s4⟩ (fun hHeld => ?_)
                      refine held_take (i := 0) (d := (some 111)) (v := ?_) rfl rfl (by kernel_rfl) (by kernel_rfl) (by kernel_rfl) (fun _ _ _ h => h) (Or.inl ⟨by rfl, ?_⟩) (by first | assumption | rfl | trivial) ?_
                      rotate_left 1
                      · (intro w hSw; (try dsimp only at hSw); (try subst hSw); go_simp; try with_reducible rfl)
                      simp only [Act.put, List.setIfInBounds_toArray, List.set_cons_zero, List.set_cons_succ]
                      refine held_next (i := 1) (by kernel_rfl) rfl (by rfl) (fun K1 hK1 => ?_)
                      go_simp
                      with_reducible refine CR.out.mono ?_
                      rintro e u5 ⟨rfl, k5⟩
                      have K5 := hide k5
                      have S5 := hide (KX.out u5 k5.bel)
                      have AP := hide (pw_append k5 D1.out L1.out (by omega) s (by omega) x.d.1 x.d.2.1 x.d.2.2 x.data (HW.out.data.row.below k5.bel (Nat.le_refl _)) (by omega) HW.out.data.cap)
                      have L2 := hide L1.out.n1
                      have D2 : Hid (({ Y1 with n := Y1.n + 1 } : Fs).dark = true) := D1.out
                      have F2 : Hid (listF ({ Y1 with n := Y1.n + 1 } : Fs) = LF) := F1.out
                      obtain ⟨Y2, hY2⟩ : ∃ Y2, ({ Y1 with n := Y1.n + 1 } : Fs) = Y2 := ⟨_, rfl⟩
                      rw [hY2] at AP L2 D2 F2
                      clear k5 CR HK hY2 K5
                      go_wp2_with fail
                      refine hK1.out _ _ S5.out ?_
                      clear hK1
                      refine held_take (i := 2) (d := (some 113)) (v := ?_) rfl rfl (by kernel_rfl) (by kernel_rfl) (by kernel_rfl) (fun _ _ _ h => h) (Or.inl ⟨by rfl, ?_⟩) (by first | assumption | rfl | trivial) ?_
                      rotate_left 1
                      · (intro w hSw; (try dsimp only at hSw); (try subst hSw); go_simp; try with_reducible rfl)
                      simp only [Act.put, List.setIfInBounds_toArray, List.set_cons_zero, List.set_cons_succ]
                      refine held_take (i := 3) (d := (some 114)) (v := ?_) rfl rfl (by kernel_rfl) (by kernel_rfl) (by kernel_rfl) (fun _ _ _ h => h) (Or.inl ⟨by rfl, ?_⟩) (by first | assumption | rfl | trivial) ?_
                      rotate_left 1
                      · (intro w hSw; (try dsimp only at hSw); (try subst hSw); go_simp; try with_reducible rfl)
                      simp only [Act.put, List.setIfInBounds_toArray, List.set_cons_zero, List.set_cons_succ]
                      refine held_take (i := 4) (d := (some 115)) (v := ?_) rfl rfl (by kernel_rfl) (by kernel_rfl) (by kernel_rfl) (fun _ _ _ h => h) (Or.inl ⟨by rfl, ?_⟩) (by first | assumption | rfl | trivial) ?_
                      rotate_left 1
                      · (intro w hSw; (try dsimp only at hSw); (try subst hSw); go_simp; try with_reducible rfl)
                      simp only [Act.put, List.setIfInBounds_toArray, List.set_cons_zero, List.set_cons_succ]
                      refine held_take (i := 5) (d := (some 116)) (v := ?_) rfl rfl (by kernel_rfl) (by kernel_rfl) (by kernel_rfl) (fun _ _ _ h => h) (Or.inl ⟨by rfl, ?_⟩) (by first | assumption | rfl | trivial) ?_
                      rotate_left 1
                      · (intro w hSw; (try dsimp only at hSw); (try subst hSw); go_simp; try with_reducible rfl)
                      simp only [Act.put, List.setIfInBounds_toArray, List.set_cons_zero, List.set_cons_succ]
                      refine held_take (i := 6) (d := (some 117)) (v := ?_) rfl rfl (by kernel_rfl) (by kernel_rfl) (by kernel_rfl) (fun _ _ _ h => h) (Or.inl ⟨by rfl, ?_⟩) (by first | assumption | rfl | trivial) ?_
                      rotate_left 1
                      · (intro w hSw; (try dsimp only at hSw); (try subst hSw); go_simp; try with_reducible rfl)
                      simp only [Act.put, List.setIfInBounds_toArray, List.set_cons_zero, List.set_cons_succ]
                      refine held_take (i := 7) (d := (some 118)) (v := ?_) rfl rfl (by kernel_rfl) (by kernel_rfl) (by kernel_rfl) (fun _ _ _ h => h) (Or.inl ⟨by rfl, ?_⟩) (by first | assumption | rfl | trivial) ?_
                      rotate_left 1
                      · (intro w hSw; (try dsimp only at hSw); (try subst hSw); go_simp; try with_reducible rfl)
                      simp only [Act.put, List.setIfInBounds_toArray, List.set_cons_zero, List.set_cons_succ]
                      refine held_take (i := 8) (d := (some 119)) (v := ?_) rfl rfl (by kernel_rfl) (by kernel_rfl) (by kernel_rfl) (fun _ _ _ h => h) (Or.inl ⟨by rfl, ?_⟩) (by first | assumption | rfl | trivial) ?_
                      rotate_left 1
                      · (intro w hSw; (try dsimp only at hSw); (try subst hSw); go_simp; try with_reducible rfl)
                      simp only [Act.put, List.setIfInBounds_toArray, List.set_cons_zero, List.set_cons_succ]
                      refine held_take (i := 9) (d := (some 120)) (v := ?_) rfl rfl (by kernel_rfl) (by kernel_rfl) (by kernel_rfl) (fun _ _ _ h => h) (Or.inl ⟨by rfl, ?_⟩) (by first | assumption | rfl | trivial) ?_
                      rotate_left 1
                      · (intro w hSw; (try dsimp only at hSw); (try subst hSw); go_simp; try with_reducible rfl)
                      simp only [Act.put, List.setIfInBounds_toArray, List.set_cons_zero, List.set_cons_succ]
                      refine held_take (i := 11) (d := (some 122)) (v := ?_) rfl rfl (by kernel_rfl) (by kernel_rfl) (by kernel_rfl) (fun _ _ _ h => h) (Or.inl ⟨by rfl, ?_⟩) (by first | assumption | rfl | trivial) ?_
                      rotate_left 1
                      · (intro w hSw; (try dsimp only at hSw); (try subst hSw); go_simp; try with_reducible rfl)
                      simp only [Act.put, List.setIfInBounds_toArray, List.set_cons_zero, List.set_cons_succ]
                      refine held_take (i := 12) (d := (some 123)) (v := ?_) rfl rfl (by kernel_rfl) (by kernel_rfl) (by kernel_rfl) (fun _ _ _ h => h) (Or.inl ⟨by rfl, ?_⟩) (by first | assumption | rfl | trivial) ?_
                      rotate_left 1
                      · (intro w hSw; (try dsimp only at hSw); (try subst hSw); go_simp; try with_reducible rfl)
                      simp only [Act.put, List.setIfInBounds_toArray, List.set_cons_zero, List.set_cons_succ]
                      refine held_take (i := 13) (d := (some 124)) (v := ?_) rfl rfl (by kernel_rfl) (by kernel_rfl) (by kernel_rfl) (fun _ _ _ h => h) (Or.inl ⟨by rfl, ?_⟩) (by first | assumption | rfl | trivial) ?_
                      rotate_left 1
                      · (intro w hSw; (try dsimp only at hSw); (try subst hSw); go_simp; try with_reducible rfl)
                      simp only [Act.put, List.setIfInBounds_toArray, List.set_cons_zero, List.set_cons_succ]
                      refine held_take (i := 14) (d := (some 125)) (v := ?_) rfl rfl (by kernel_rfl) (by kernel_rfl) (by kernel_rfl) (fun _ _ _ h => h) (Or.inl ⟨by rfl, ?_⟩) (by first | assumption | rfl | trivial) ?_
                      rotate_left 1
                      · (intro w hSw; (try dsimp only at hSw); (try subst hSw); go_simp; try with_reducible rfl)
                      simp only [Act.put, List.setIfInBounds_toArray, List.set_cons_zero, List.set_cons_succ]
                      refine held_take (i := 15) (d := (some 126)) (v := ?_) rfl rfl (by kernel_rfl) (by kernel_rfl) (by kernel_rfl) (fun _ _ _ h => h) (Or.inl ⟨by rfl, ?_⟩) (by first | assumption | rfl | trivial) ?_
                      rotate_left 1
                      · (intro w hSw; (try dsimp only at hSw); (try subst hSw); go_simp; try with_reducible rfl)
                      simp only [Act.put, List.setIfInBounds_toArray, List.set_cons_zero, List.set_cons_succ]
                      refine held_next (i := 10) (by kernel_rfl) rfl (by rfl) (fun K1 hK1 => ?_)
                      go_simp
                      with_reducible refine (NM.out _).mono ?_
                      rintro e u ⟨rfl, hu⟩
                      rw [hu]
                      clear hu
                      go_wp2_with fail
                      refine hK1.out _ _ S5.out ?_
                      clear hK1
                      refine held_next (i := 16) (by kernel_rfl) rfl (by rfl) (fun K1 hK1 => ?_)
                      go_simp
                      with_reducible refine AP.out.mono ?_
                      rintro e u6 ⟨rfl, k6⟩
                      have S6 := hide (KX.out u6 k6.bel)
                      have RM := hide (pw_remove k6 D2.out L2.out (by omega) s (by omega))
                      have L3 := hide L2.out.n1
                      have D3 : Hid (({ Y2 with n := Y2.n + 1 } : Fs).dark = true) := D2.out
                      have F3 : Hid (listF ({ Y2 with n := Y2.n + 1 } : Fs) = LF) := F2.out
                      obtain ⟨Y3, hY3⟩ : ∃ Y3, ({ Y2 with n := Y2.n + 1 } : Fs) = Y3 := ⟨_, rfl⟩
                      rw [hY3] at RM L3 D3 F3
                      clear k6 AP hY3
                      go_wp2_with fail
                      refine hK1.out _ _ S6.out ?_
                      clear hK1
                      refine held_take (i := 17) (d := (some 128)) (v := ?_) rfl rfl (by kernel_rfl) (by kernel_rfl) (by kernel_rfl) (fun _ _ _ h => h) (Or.inl ⟨by rfl, ?_⟩) (by first | assumption | rfl | trivial) ?_
                      rotate_left 1
                      · (intro w hSw; (try dsimp only at hSw); (try subst hSw); go_simp; try with_reducible rfl)
                      simp only [Act.put, List.setIfInBounds_toArray, List.set_cons_zero, List.set_cons_succ]
                      refine held_take (i := 18) (d := (some 129)) (v := ?_) rfl rfl (by kernel_rfl) (by kernel_rfl) (by kernel_rfl) (fun _ _ _ h => h) (Or.inl ⟨by rfl, ?_⟩) (by first | assumption | rfl | trivial) ?_
                      rotate_left 1
                      · (intro w hSw; (try dsimp only at hSw); (try subst hSw); go_simp; try with_reducible rfl)
                      simp only [Act.put, List.setIfInBounds_toArray, List.set_cons_zero, List.set_cons_succ]
                      refine held_take (i := 19) (d := (some 130)) (v := ?_) rfl rfl (by kernel_rfl) (by kernel_rfl) (by kernel_rfl) (fun _ _ _ h => h) (Or.inl ⟨by rfl, ?_⟩) (by first | assumption | rfl | trivial) ?_
                      rotate_left 1
                      · (intro w hSw; (try dsimp only at hSw); (try subst hSw); go_simp; try with_reducible rfl)
                      simp only [Act.put, List.setIfInBounds_toArray, List.set_cons_zero, List.set_cons_succ]
                      refine held_take (i := 20) (d := (some 131)) (v := ?_) rfl rfl (by kernel_rfl) (by kernel_rfl) (by kernel_rfl) (fun _ _ _ h => h) (Or.inl ⟨by rfl, ?_⟩) (by first | assumption | rfl | trivial) ?_
                      rotate_left 1
                      · (intro w hSw; (try dsimp only at hSw); (try subst hSw); go_simp; try with_reducible rfl)
                      simp only [Act.put, List.setIfInBounds_toArray, List.set_cons_zero, List.set_cons_succ]
                      refine held_take (i := 21) (d := (some 132)) (v := ?_) rfl rfl (by kernel_rfl) (by kernel_rfl) (by kernel_rfl) (fun _ _ _ h => h) (Or.inl ⟨by rfl, ?_⟩) (by first | assumption | rfl | trivial) ?_
                      rotate_left 1
                      · (intro w hSw; (try dsimp only at hSw); (try subst hSw); go_simp; try with_reducible rfl)
                      simp only [Act.put, List.setIfInBounds_toArray, List.set_cons_zero, List.set_cons_succ]
                      refine held_take (i := 22) (d := (some 133)) (v := ?_) rfl rfl (by kernel_rfl) (by kernel_rfl) (by kernel_rfl) (fun _ _ _ h => h) (Or.inl ⟨by rfl, ?_⟩) (by first | assumption | rfl | trivial) ?_
                      rotate_left 1
                      · (intro w hSw; (try dsimp only at hSw); (try subst hSw); go_simp; try with_reducible rfl)
                      simp only [Act.put, List.setIfInBounds_toArray, List.set_cons_zero, List.set_cons_succ]
                      refine held_take (i := 23) (d := (some 134)) (v := ?_) rfl rfl (by kernel_rfl) (by kernel_rfl) (by kernel_rfl) (fun _ _ _ h => h) (Or.inl ⟨by rfl, ?_⟩) (by first | assumption | rfl | trivial) ?_
                      rotate_left 1
                      · (intro w hSw; (try dsimp only at hSw); (try subst hSw); go_simp; try with_reducible rfl)
                      simp only [Act.put, List.setIfInBounds_toArray, List.set_cons_zero, List.set_cons_succ]
                      refine held_take (i := 24) (d := (some 135)) (v := ?_) rfl rfl (by kernel_rfl) (by kernel_rfl) (by kernel_rfl) (fun _ _ _ h => h) (Or.inl ⟨by rfl, ?_⟩) (by first | assumption | rfl | trivial) ?_
                      rotate_left 1
                      · (intro w hSw; (try dsimp only at hSw); (try subst hSw); go_simp; try with_reducible rfl)
                      simp only [Act.put, List.setIfInBounds_toArray, List.set_cons_zero, List.set_cons_succ]
                      refine held_take (i := 25) (d := (some 136)) (v := ?_) rfl rfl (by kernel_rfl) (by kernel_rfl) (by kernel_rfl) (fun _ _ _ h => h) (Or.inl ⟨by rfl, ?_⟩) (by first | assumption | rfl | trivial) ?_
                      rotate_left 1
                      · (intro w hSw; (try dsimp only at hSw); (try subst hSw); go_simp; try with_reducible rfl)
                      simp only [Act.put, List.setIfInBounds_toArray, List.set_cons_zero, List.set_cons_succ]
                      refine held_next (i := 26) (by kernel_rfl) rfl (by rfl) (fun K1 hK1 => ?_)
                      go_simp
                      with_reducible refine (NM.out _).mono ?_
                      rintro e u ⟨rfl, hu⟩
                      rw [hu]
                      clear hu
                      go_wp2_with fail
                      refine hK1.out _ _ S6.out ?_
                      clear hK1
                      refine held_next (i := 27) (by kernel_rfl) rfl (by rfl) (fun K1 hK1 => ?_)
                      go_simp
                      with_reducible refine RM.out.mono ?_
                      rintro e u7 ⟨rfl, k7⟩
                      have S7 := hide (KX.out u7 k7.bel)
                      have SY := hide (pw_sync k7 D3.out L3.out (by omega) s (by omega))
                      have L4 := hide L3.out.n1
                      have D4 : Hid (({ Y3 with n := Y3.n + 1 } : Fs).dark = true) := D3.out
                      have F4 : Hid (listF ({ Y3 with n := Y3.n + 1 } : Fs) = LF) := F3.out
                      obtain ⟨Y4, hY4⟩ : ∃ Y4, ({ Y3 with n := Y3.n + 1 } : Fs) = Y4 := ⟨_, rfl⟩
                      rw [hY4] at SY L4 D4 F4
                      clear k7 RM hY4
                      go_wp2_with fail
                      refine hK1.out _ _ S7.out ?_
                      clear hK1
                      refine held_take (i := 28) (d := (some 139)) (v := ?_) rfl rfl (by kernel_rfl) (by kernel_rfl) (by kernel_rfl) (fun _ _ _ h => h) (Or.inl ⟨by rfl, ?_⟩) (by first | assumption | rfl | trivial) ?_
                      rotate_left 1
                      · (intro w hSw; (try dsimp only at hSw); (try subst hSw); go_simp; try with_reducible rfl)
                      simp only [Act.put, List.setIfInBounds_toArray, List.set_cons_zero, List.set_cons_succ]
                      refine held_take (i := 29) (d := (some 140)) (v := ?_) rfl rfl (by kernel_rfl) (by kernel_rfl) (by kernel_rfl) (fun _ _ _ h => h) (Or.inl ⟨by rfl, ?_⟩) (by first | assumption | rfl | trivial) ?_
                      rotate_left 1
                      · (intro w hSw; (try dsimp only at hSw); (try subst hSw); go_simp; try with_reducible rfl)
                      simp only [Act.put, List.setIfInBounds_toArray, List.set_cons_zero, List.set_cons_succ]
                      refine held_take (i := 30) (d := (some 141)) (v := ?_) rfl rfl (by kernel_rfl) (by kernel_rfl) (by kernel_rfl) (fun _ _ _ h => h) (Or.inl ⟨by rfl, ?_⟩) (by first | assumption | rfl | trivial) ?_
                      rotate_left 1
                      · (intro w hSw; (try dsimp only at hSw); (try subst hSw); go_simp; try with_reducible rfl)
                      simp only [Act.put, List.setIfInBounds_toArray, List.set_cons_zero, List.set_cons_succ]
                      refine held_take (i := 31) (d := (some 142)) (v := ?_) rfl rfl (by kernel_rfl) (by kernel_rfl) (by kernel_rfl) (fun _ _ _ h => h) (Or.inl ⟨by rfl, ?_⟩) (by first | assumption | rfl | trivial) ?_
                      rotate_left 1
                      · (intro w hSw; (try dsimp only at hSw); (try subst hSw); go_simp; try with_reducible rfl)
                      simp only [Act.put, List.setIfInBounds_toArray, List.set_cons_zero, List.set_cons_succ]
                      refine held_take (i := 32) (d := (some 143)) (v := ?_) rfl rfl (by kernel_rfl) (by kernel_rfl) (by kernel_rfl) (fun _ _ _ h => h) (Or.inl ⟨by rfl, ?_⟩) (by first | assumption | rfl | trivial) ?_
                      rotate_left 1
                      · (intro w hSw; (try dsimp only at hSw); (try subst hSw); go_simp; try with_reducible rfl)
                      simp only [Act.put, List.setIfInBounds_toArray, List.set_cons_zero, List.set_cons_succ]
                      refine held_take (i := 33) (d := (some 144)) (v := ?_) rfl rfl (by kernel_rfl) (by kernel_rfl) (by kernel_rfl) (fun _ _ _ h => h) (Or.inl ⟨by rfl, ?_⟩) (by first | assumption | rfl | trivial) ?_
                      rotate_left 1
                      · (intro w hSw; (try dsimp only at hSw); (try subst hSw); go_simp; try with_reducible rfl)
                      simp only [Act.put, List.setIfInBounds_toArray, List.set_cons_zero, List.set_cons_succ]
                      refine held_take (i := 34) (d := (some 145)) (v := ?_) rfl rfl (by kernel_rfl) (by kernel_rfl) (by kernel_rfl) (fun _ _ _ h => h) (Or.inl ⟨by rfl, ?_⟩) (by first | assumption | rfl | trivial) ?_
                      rotate_left 1
                      · (intro w hSw; (try dsimp only at hSw); (try subst hSw); go_simp; try with_reducible rfl)
                      simp only [Act.put, List.setIfInBounds_toArray, List.set_cons_zero, List.set_cons_succ]
                      refine held_take (i := 35) (d := (some 146)) (v := ?_) rfl rfl (by kernel_rfl) (by kernel_rfl) (by kernel_rfl) (fun _ _ _ h => h) (Or.inl ⟨by rfl, ?_⟩) (by first | assumption | rfl | trivial) ?_
                      rotate_left 1
                      · (intro w hSw; (try dsimp only at hSw); (try subst hSw); go_simp; try with_reducible rfl)
                      simp only [Act.put, List.setIfInBounds_toArray, List.set_cons_zero, List.set_cons_succ]
                      refine held_take (i := 36) (d := (some 147)) (v := ?_) rfl rfl (by kernel_rfl) (by kernel_rfl) (by kernel_rfl) (fun _ _ _ h => h) (Or.inl ⟨by rfl, ?_⟩) (by first | assumption | rfl | trivial) ?_
                      rotate_left 1
                      · (intro w hSw; (try dsimp only at hSw); (try subst hSw); go_simp; try with_reducible rfl)
                      simp only [Act.put, List.setIfInBounds_toArray, List.set_cons_zero, List.set_cons_succ]
                      refine held_next (i := 37) (by kernel_rfl) rfl (by rfl) (fun K1 hK1 => ?_)
                      go_simp
                      with_reducible refine (NM.out _).mono ?_
                      rintro e u ⟨rfl, hu⟩
                      rw [hu]
                      clear hu
                      go_wp2_with fail
                      refine hK1.out _ _ S7.out ?_
                      clear hK1
                      refine held_next (i := 38) (by kernel_rfl) rfl (by rfl) (fun K1 hK1 => ?_)
                      go_simp
                      with_reducible refine SY.out.mono ?_
                      rintro e u8 ⟨rfl, k8⟩
                      have K8 := hide k8
                      have S8 := hide (KX.out u8 k8.bel)
                      have HL8 : Hid (LimB (20000 + (k + 1) * 4) Y4) := L4.out.mono (by omega)
                      clear k8 SY
                      go_wp2_with fail
                      refine hK1.out _ _ S8.out ?_
                      clear hK1
                      refine held_take (i := 39) (d := (some 150)) (v := ?_) rfl rfl (by kernel_rfl) (by kernel_rfl) (by kernel_rfl) (fun _ _ _ h => h) (Or.inl ⟨by rfl, ?_⟩) (by first | assumption | rfl | trivial) ?_
                      rotate_left 1
                      · (intro w hSw; (try dsimp only at hSw); (try subst hSw); go_simp; try with_reducible rfl)
                      simp only [Act.put, List.setIfInBounds_toArray, List.set_cons_zero, List.set_cons_succ]
                      refine held_take (i := 40) (d := (some 151)) (v := ?_) rfl rfl (by kernel_rfl) (by kernel_rfl) (by kernel_rfl) (fun _ _ _ h => h) (Or.inl ⟨by rfl, ?_⟩) (by first | assumption | rfl | trivial) ?_
                      rotate_left 1
                      · (intro w hSw; (try dsimp only at hSw); (try subst hSw); go_simp; try with_reducible rfl)
                      simp only [Act.put, List.setIfInBounds_toArray, List.set_cons_zero, List.set_cons_succ]
                      clear hHeld
                      refine wpAnyH_done (by kernel_rfl) ?_ _
                      go_wp2
                      go_roundw
                      case rel => exact ⟨k + 1, Y4, by omega, by omega, by go_num, HL8, D4, F4, K8⟩
                      case measure => simp [intOf]; omega
                  · have e1 : (8 : Int) ≤ (q : Int) := by omega
                    have e2 : decide ((8 : Int) ≤ (q : Int)) = true := decide_eq_true e1
                    have e3 : decide (8 ≤ q) = true := decide_eq_true (by omega)
                    clear HL hdl
                    go_wp2_with fail
                    with_reducible refine (PL.out _).mono ?_
                    rintro e u ⟨rfl, hu⟩
                    rw [hu]
                    clear hu
                    go_wp2
                    go_roundw
                    case rel => exact ⟨k + 1, Y, by omega, by omega, by go_num, HL3, HD, HF, HK⟩
                    case measure => simp [intOf]; omega
                · have LI := hide (pw_list HK.out HL.out (by omega))
                  rw [HF.out] at LI
                  have HNLF : Hid (LF.length = NL) := OwnG.len stV_len (by decide) HK.out.own
                  rw [HNLF.out] at LI
                  have NGO2 : Hid ((¬ (k : Int) < (n2 : Int)) ∨ ((k : Int) < (n2 : Int) ∧ k = 20)) := by
                    by_cases h : k < n2
                    · exact Or.inr ⟨by omega, by omega⟩
                    · exact Or.inl (by omega)
                  clear HL HD HF hgo
                  rcases NGO2.out with hno2 | ⟨hyes2, rfl⟩
                  · have d1 : decide ((k : Int) < (n2 : Int)) = false := decide_eq_false hno2
                    have d3 : decide (k < n2) = false := decide_eq_false (by omega)
                    clear NGO2
                    go_wp2_with fail
                    with_reducible refine LI.out.mono ?_
                    rintro e u9 ⟨a9, c9, rfl, o9, b9⟩
                    have ST := hide (sametx_any _ w.heap.size a9 NL c9 al NL cl LF u9 o9 (HK.out.below b9).own (by omega))
                    have B9 := hide (HK.out.below b9).bel
                    clear o9 b9 LI HK
                    go_wp2_with fail
                    with_reducible refine ST.out.mono ?_
                    rintro e u10 ⟨rfl, b10⟩
                    have BE := hide (bel_to B9.out (Nat.le_refl _) b10)
                    clear b10 ST B9
                    go_wp2
                    go_ret
                    exact ⟨rfl, BE.out⟩
                  · have i3 : ((20 : Nat) : Int) < (n2 : Int) := hyes2
                    have i4 : (20 : Int) < (n2 : Int) := by omega
                    have d1 : decide ((20 : Int) < (n2 : Int)) = true := decide_eq_true i4
                    have d3 : decide (20 < n2) = true := decide_eq_true (by omega)
                    clear NGO2
                    go_wp2_with fail
                    with_reducible refine LI.out.mono ?_
                    rintro e u9 ⟨a9, c9, rfl, o9, b9⟩
                    have ST := hide (sametx_any _ w.heap.size a9 NL c9 al NL cl LF u9 o9 (HK.out.below b9).own (by omega))
                    have B9 := hide (HK.out.below b9).bel
                    clear o9 b9 LI HK
                    go_wp2_with fail
                    with_reducible refine ST.out.mono ?_
                    rintro e u10 ⟨rfl, b10⟩
                    have BE := hide (bel_to B9.out (Nat.le_refl _) b10)
                    clear b10 ST B9
                    go_wp2
                    go_ret
                    exact ⟨rfl, BE.out⟩
      · have i3 : ((30 : Nat) : Int) < (n : Int) := hyes
        have i4 : (30 : Int) < (n : Int) := by omega
        have d1 : decide ((30 : Int) < (n : Int)) = true := decide_eq_true i4
        have d3 : decide (30 < n) = true := decide_eq_true (by omega)
        clear NGO hgo
        go_wp2_with fail
        with_reducible refine (P4.out _).mono ?_
        rintro e u ⟨rfl, hu⟩
        rw [hu]
        clear hu
        go_wp2_with fail
        with_reducible refine AR.out.mono ?_
        rintro e u2 ⟨rfl, h2⟩
        have H2 := hide h2
        clear h2 AR
        go_wp2
        go_loopw [11] (fun i wr => ∃ (j : Nat) (X : Fs), j ≤ p + 1 ∧ i = .int .i64 (j : Int) ∧ Hid (LimB (15060 + j) X) ∧ Hid (j ≤ p → Pw X (p - j)) ∧ Hid (j = p + 1 → X.dark = true) ∧ Hid (OnL w.heap.size w wr g X)) (fun i _ => 5 - (intOf i).toNat)
        case atStart => exact ⟨0, X0, by omega, rfl, HLA.out, fun _ => PW1.out, fun h => by omega, H2.out⟩
        case round =>
          clear H2 HLA PW1
          obtain ⟨j, X, hj, rfl, HL, HP, HD, HO⟩ := hrel
          obtain ⟨v, rfl⟩ : ∃ v, v = wr := ⟨wr, rfl⟩
          have SD := hide (on_syncdir HO.out HL.out (by omega))
          have HLS := hide HL.out.syncdir
          have wj : IntKind.i64.wrap ((j : Int) + 1) = ((j + 1 : Nat) : Int) := by rw [IntKind.wrap_i64]; omega
          by_cases hjp : j < p
          · obtain ⟨r, hr⟩ : ∃ r, p - j = r + 1 := ⟨p - j - 1, by omega⟩
            have PS := HP.out (by omega)
            rw [hr] at PS
            have PST := hide (pw_step PS)
            rw [PST.out.2] at SD
            have PN : Hid (Pw (syncdirF X).1 (p - (j + 1))) := by
              have := PST.out.1
              rwa [show r = p - (j + 1) by omega] at this
            obtain ⟨Y, hY⟩ : ∃ Y, (syncdirF X).1 = Y := ⟨_, rfl⟩
            rw [hY] at SD PN HLS
            have i1 : (j : Int) ≤ (p : Int) := by omega
            have i2 : (j : Int) < (p : Int) := by omega
            have i3 : ((j : Int) == (p : Int)) = false := by simp; omega
            have i4 : decide ((j : Int) < (p : Int)) = true := decide_eq_true i2
            have i5 : decide (j < p) = true := decide_eq_true hjp
            have PNn : Hid (j + 1 ≤ p → Pw Y (p - (j + 1))) := fun _ => PN.out
            have PDn : Hid (j + 1 = p + 1 → Y.dark = true) := fun h => by omega
            have HLn : Hid (LimB (15060 + (j + 1)) Y) := HLS.out.mono (by omega)
            clear PS PST hY HL HP HD HO hr PN HLS
            go_wp2_with fail
            with_reducible refine SD.out.mono ?_
            rintro e u3 ⟨rfl, h3⟩
            have H3 := hide h3
            clear h3 SD
            go_wp2
            go_roundw
            case rel => exact ⟨j + 1, Y, by omega, by go_num, HLn, PNn, PDn, H3⟩
            case measure => simp [intOf]; omega
          · by_cases hje : j = p
            · subst hje
              have PS := HP.out (by omega)
              rw [Nat.sub_self] at PS
              have PST := hide (pw_last PS)
              rw [PST.out.2] at SD
              have PD := hide PST.out.1
              obtain ⟨Y, hY⟩ : ∃ Y, (syncdirF X).1 = Y := ⟨_, rfl⟩
              rw [hY] at SD PD HLS
              have i1 : (j : Int) ≤ (j : Int) := by omega
              have i2 : ¬ (j : Int) < (j : Int) := by omega
              have i3 : ((j : Int) == (j : Int)) = true := by simp
              have i4 : decide ((j : Int) < (j : Int)) = false := decide_eq_false i2
              have HLn : Hid (LimB (15060 + (j + 1)) Y) := HLS.out.mono (by omega)
              clear PS PST hY HL HP HD HO HLS
              go_wp2_with fail
              with_reducible refine SD.out.mono ?_
              rintro e u3 ⟨rfl, h3⟩
              have H3 := hide h3
              clear h3 SD
              go_wp2
              go_roundw
              case rel => exact ⟨j + 1, Y, by omega, by go_num, HLn, fun h => by omega, fun _ => PD.out, H3⟩
              case measure => simp [intOf]; omega
            · obtain rfl : j = p + 1 := by omega
              have DK := hide (HD.out rfl)
              have i1 : ¬ ((p + 1 : Nat) : Int) ≤ (p : Int) := by omega
              have i1b : ¬ (p : Int) + 1 ≤ (p : Int) := by omega
              have LI := hide (on_list HO.out HL.out (by omega))
              obtain ⟨LF, hLF⟩ : ∃ LF, listF X = LF := ⟨_, rfl⟩
              rw [hLF] at LI
              have HLF := hide hLF
              obtain ⟨NL, hNL⟩ : ∃ NL, LF.length = NL := ⟨_, rfl⟩
              rw [hNL] at LI
              have HNB : NL ≤ 1073741824 := by
                rw [← hNL, ← hLF]
                unfold listF
                rw [insN_lens]
                have h1 := turnsD_len X.turns X.sure
                have h2 := HL.out.names
                unfold dirF
                omega
              have HL4 : Hid (LimB 20000 X) := HL.out.mono (by omega)
              clear SD HLS hjp hje HP HD hLF hNL HL
              go_wp2_with fail
              with_reducible refine LI.out.mono ?_
              rintro e u4 ⟨al, cl, rfl, ol, b4⟩
              have K4 := hide (pwK_start HO.out b4 ol)
              clear ol b4 LI HO
              go_wp2
              go_loopw [14] (fun i wr => ∃ (k : Nat) (Y : Fs), k ≤ n2 ∧ k ≤ 20 ∧ i = .int .i64 (k : Int) ∧ Hid (LimB (20000 + k * 4) Y) ∧ Hid (Y.dark = true) ∧ Hid (listF Y = LF) ∧ Hid (PwK w.heap.size w wr g al NL cl LF Y)) (fun i _ => 20 - (intOf i).toNat)
              case atStart => exact ⟨0, X, by omega, by omega, rfl, HL4.out, DK.out, HLF.out, K4.out⟩
              case round =>
                clear K4 HL4 DK HLF
                obtain ⟨k, Y, hk, hk2, rfl, HL, HD, HF, HK⟩ := hrel
                obtain ⟨v, rfl⟩ : ∃ v, v = wr := ⟨wr, rfl⟩
                by_cases hgo : k < n2 ∧ k < 20
                · obtain ⟨hlt, hlt7⟩ := hgo
                  obtain ⟨b, off, x, rfl, hx, hw, c0, c1, c2', c3, c4, c5⟩ := (RO2.out.below HK.out.bel (Nat.le_refl _)).at' hlt
                  have HW : Hid (OpW w x) := RO2.out.each x (List.mem_of_getElem? hx)
                  have KX : Hid (∀ u, Below w.heap.size w u → u.cell? ⟨b, off + k * 6 + 1, none⟩ = some (.int .i64 x.a) ∧ u.cell? ⟨b, off + k * 6 + 4, none⟩ = some (.slice x.d.1 x.d.2.1 x.d.2.2)) := fun u hu => by
                    obtain ⟨bb, off', x', hb', hx', -, -, z1, -, -, z4, -⟩ := (RO2.out.below hu (Nat.le_refl _)).at' hlt
                    obtain ⟨rfl, rfl⟩ : b = bb ∧ off = off' := by simpa using hb'
                    rw [hx] at hx'
                    obtain rfl := Option.some.inj hx'
                    exact ⟨z1, z4⟩
                  have i1 : (0 : Int) ≤ (k : Int) := by omega
                  have i2 : (k : Int) < (n2 : Int) := by omega
                  have i3 : (k : Int) < 20 := by omega
                  have d1 : decide ((k : Int) < (n2 : Int)) = true := decide_eq_true i2
                  have d2 : decide ((k : Int) < 20) = true := decide_eq_true i3
                  have d3 : decide (k < n2) = true := decide_eq_true hlt
                  have hdl := HW.out.data.row.1
                  have wk : IntKind.i64.wrap ((k : Int) + 1) = ((k + 1 : Nat) : Int) := by rw [IntKind.wrap_i64]; omega
                  obtain ⟨q, hq, hq10⟩ : ∃ q : Nat, x.k % 10 = (q : Int) ∧ q < 10 := by
                    have q1 := Int.emod_nonneg x.k (show (10 : Int) ≠ 0 by omega)
                    have q2 := Int.emod_lt_of_pos x.k (show (0 : Int) < 10 by omega)
                    exact ⟨(x.k % 10).toNat, by omega, by omega⟩
                  have PL := hide (fun u => place_any x.k 10 (by omega) (by omega) u)
                  rw [hq] at PL
                  clear hx hw hq
                  have HL3 : Hid (LimB (20000 + (k + 1) * 4) Y) := HL.out.mono (by omega)
                  by_cases hq8 : q < 8
                  · have e1 : ¬ (8 : Int) ≤ (q : Int) := by omega
                    have e2 : decide ((8 : Int) ≤ (q : Int)) = false := decide_eq_false e1
                    have e3 : decide (8 ≤ q) = false := decide_eq_false (by omega)
                    by_cases hbg : 500 < x.d.2.1
                    · have j1 : (500 : Int) < (x.d.2.1 : Int) := by omega
                      have j2 : decide ((500 : Int) < (x.d.2.1 : Int)) = true := decide_eq_true j1
                      have j3 : decide (500 < x.d.2.1) = true := decide_eq_true hbg
                      clear HL hdl
                      go_wp2_with fail
                      with_reducible refine (PL.out _).mono ?_
                      rintro e u ⟨rfl, hu⟩
                      rw [hu]
                      clear hu
                      go_wp2
                      go_roundw
                      case rel => exact ⟨k + 1, Y, by omega, by omega, by go_num, HL3, HD, HF, HK⟩
                      case measure => simp [intOf]; omega
                    · have j1 : ¬ (500 : Int) < (x.d.2.1 : Int) := by omega
                      have j2 : decide ((500 : Int) < (x.d.2.1 : Int)) = false := decide_eq_false j1
                      have j3 : decide (500 < x.d.2.1) = false := decide_eq_false hbg
                      have NM := hide (fun u => name_any x.a u HW.out.a)
                      obtain ⟨s, hs⟩ : ∃ s, nmAt (x.a % 8).toNat = s := ⟨_, rfl⟩
                      have hss : s.size ≤ 70 := by rw [← hs]; exact nmAt_size _
                      rw [hs] at NM
                      have CR := hide (pw_create (HK.out.below (Below.refl _ _).drew) HD.out HL.out (by omega) ⟨#[120]⟩ (by decide))
                      have L1 := hide HL.out.n1
                      have D1 : Hid (({ Y with n := Y.n + 1 } : Fs).dark = true) := HD.out
                      have F1 : Hid (listF ({ Y with n := Y.n + 1 } : Fs) = LF) := HF.out
                      obtain ⟨Y1, hY1⟩ : ∃ Y1, ({ Y with n := Y.n + 1 } : Fs) = Y1 := ⟨_, rfl⟩
                      rw [hY1] at CR L1 D1 F1
                      obtain ⟨s1, s4⟩ := KX.out v HK.out.bel
                      clear hs hY1 HL HL3 HD HF hdl c1 c2' c3 c4 c5
                      go_wp2_with fail
                      with_reducible refine (PL.out _).mono ?_
                      rintro e u ⟨rfl, hu⟩
                      rw [hu]
                      clear hu
                      go_upto_region 25 with fail
                      refine wp_region_held_drew (S := fun u => u.cell? ⟨b, off + k * 6 + 1, none⟩ = some (.int .i64 x.a) ∧ u.cell? ⟨b, off + k * 6 + 4, none⟩ = some (.slice x.d.1 x.d.2.1 x.d.2.2)) (by kernel_rfl) ⟨s1, s4⟩ (fun hHeld => ?_)
                      refine held_take (i := 0) (d := (some 111)) (v := ?_) rfl rfl (by kernel_rfl) (by kernel_rfl) (by kernel_rfl) (fun _ _ _ h => h) (Or.inl ⟨by rfl, ?_⟩) (by first | assumption | rfl | trivial) ?_
                      rotate_left 1
                      · (intro w hSw; (try dsimp only at hSw); (try subst hSw); go_simp; try with_reducible rfl)
                      simp only [Act.put, List.setIfInBounds_toArray, List.set_cons_zero, List.set_cons_succ]
                      refine held_next (i := 1) (by kernel_rfl) rfl (by rfl) (fun K1 hK1 => ?_)
                      go_simp
                      with_reducible refine CR.out.mono ?_
                      rintro e u5 ⟨rfl, k5⟩
                      have K5 := hide k5
                      have S5 := hide (KX.out u5 k5.bel)
                      have AP := hide (pw_append k5 D1.out L1.out (by omega) s (by omega) x.d.1 x.d.2.1 x.d.2.2 x.data (HW.out.data.row.below k5.bel (Nat.le_refl _)) (by omega) HW.out.data.cap)
                      have L2 := hide L1.out.n1
                      have D2 : Hid (({ Y1 with n := Y1.n + 1 } : Fs).dark = true) := D1.out
                      have F2 : Hid (listF ({ Y1 with n := Y1.n + 1 } : Fs) = LF) := F1.out
                      obtain ⟨Y2, hY2⟩ : ∃ Y2, ({ Y1 with n := Y1.n + 1 } : Fs) = Y2 := ⟨_, rfl⟩
                      rw [hY2] at AP L2 D2 F2
                      clear k5 CR HK hY2 K5
                      go_wp2_with fail
                      refine hK1.out _ _ S5.out ?_
                      clear hK1
                      refine held_take (i := 2) (d := (some 113)) (v := ?_) rfl rfl (by kernel_rfl) (by kernel_rfl) (by kernel_rfl) (fun _ _ _ h => h) (Or.inl ⟨by rfl, ?_⟩) (by first | assumption | rfl | trivial) ?_
                      rotate_left 1
                      · (intro w hSw; (try dsimp only at hSw); (try subst hSw); go_simp; try with_reducible rfl)
                      simp only [Act.put, List.setIfInBounds_toArray, List.set_cons_zero, List.set_cons_succ]
                      refine held_take (i := 3) (d := (some 114)) (v := ?_) rfl rfl (by kernel_rfl) (by kernel_rfl) (by kernel_rfl) (fun _ _ _ h => h) (Or.inl ⟨by rfl, ?_⟩) (by first | assumption | rfl | trivial) ?_
                      rotate_left 1
                      · (intro w hSw; (try dsimp only at hSw); (try subst hSw); go_simp; try with_reducible rfl)
                      simp only [Act.put, List.setIfInBounds_toArray, List.set_cons_zero, List.set_cons_succ]
                      refine held_take (i := 4) (d := (some 115)) (v := ?_) rfl rfl (by kernel_rfl) (by kernel_rfl) (by kernel_rfl) (fun _ _ _ h => h) (Or.inl ⟨by rfl, ?_⟩) (by first | assumption | rfl | trivial) ?_
                      rotate_left 1
                      · (intro w hSw; (try dsimp only at hSw); (try subst hSw); go_simp; try with_reducible rfl)
                      simp only [Act.put, List.setIfInBounds_toArray, List.set_cons_zero, List.set_cons_succ]
                      refine held_take (i := 5) (d := (some 116)) (v := ?_) rfl rfl (by kernel_rfl) (by kernel_rfl) (by kernel_rfl) (fun _ _ _ h => h) (Or.inl ⟨by rfl, ?_⟩) (by first | assumption | rfl | trivial) ?_
                      rotate_left 1
                      · (intro w hSw; (try dsimp only at hSw); (try subst hSw); go_simp; try with_reducible rfl)
                      simp only [Act.put, List.setIfInBounds_toArray, List.set_cons_zero, List.set_cons_succ]
                      refine held_take (i := 6) (d := (some 117)) (v := ?_) rfl rfl (by kernel_rfl) (by kernel_rfl) (by kernel_rfl) (fun _ _ _ h => h) (Or.inl ⟨by rfl, ?_⟩) (by first | assumption | rfl | trivial) ?_
                      rotate_left 1
                      · (intro w hSw; (try dsimp only at hSw); (try subst hSw); go_simp; try with_reducible rfl)
                      simp only [Act.put, List.setIfInBounds_toArray, List.set_cons_zero, List.set_cons_succ]
                      refine held_take (i := 7) (d := (some 118)) (v := ?_) rfl rfl (by kernel_rfl) (by kernel_rfl) (by kernel_rfl) (fun _ _ _ h => h) (Or.inl ⟨by rfl, ?_⟩) (by first | assumption | rfl | trivial) ?_
                      rotate_left 1
                      · (intro w hSw; (try dsimp only at hSw); (try subst hSw); go_simp; try with_reducible rfl)
                      simp only [Act.put, List.setIfInBounds_toArray, List.set_cons_zero, List.set_cons_succ]
                      refine held_take (i := 8) (d := (some 119)) (v := ?_) rfl rfl (by kernel_rfl) (by kernel_rfl) (by kernel_rfl) (fun _ _ _ h => h) (Or.inl ⟨by rfl, ?_⟩) (by first | assumption | rfl | trivial) ?_
                      rotate_left 1
                      · (intro w hSw; (try dsimp only at hSw); (try subst hSw); go_simp; try with_reducible rfl)
                      simp only [Act.put, List.setIfInBounds_toArray, List.set_cons_zero, List.set_cons_succ]
                      refine held_take (i := 9) (d := (some 120)) (v := ?_) rfl rfl (by kernel_rfl) (by kernel_rfl) (by kernel_rfl) (fun _ _ _ h => h) (Or.inl ⟨by rfl, ?_⟩) (by first | assumption | rfl | trivial) ?_
                      rotate_left 1
                      · (intro w hSw; (try dsimp only at hSw); (try subst hSw); go_simp; try with_reducible rfl)
                      simp only [Act.put, List.setIfInBounds_toArray, List.set_cons_zero, List.set_cons_succ]
                      refine held_take (i := 11) (d := (some 122)) (v := ?_) rfl rfl (by kernel_rfl) (by kernel_rfl) (by kernel_rfl) (fun _ _ _ h => h) (Or.inl ⟨by rfl, ?_⟩) (by first | assumption | rfl | trivial) ?_
                      rotate_left 1
                      · (intro w hSw; (try dsimp only at hSw); (try subst hSw); go_simp; try with_reducible rfl)
                      simp only [Act.put, List.setIfInBounds_toArray, List.set_cons_zero, List.set_cons_succ]
                      refine held_take (i := 12) (d := (some 123)) (v := ?_) rfl rfl (by kernel_rfl) (by kernel_rfl) (by kernel_rfl) (fun _ _ _ h => h) (Or.inl ⟨by rfl, ?_⟩) (by first | assumption | rfl | trivial) ?_
                      rotate_left 1
                      · (intro w hSw; (try dsimp only at hSw); (try subst hSw); go_simp; try with_reducible rfl)
                      simp only [Act.put, List.setIfInBounds_toArray, List.set_cons_zero, List.set_cons_succ]
                      refine held_take (i := 13) (d := (some 124)) (v := ?_) rfl rfl (by kernel_rfl) (by kernel_rfl) (by kernel_rfl) (fun _ _ _ h => h) (Or.inl ⟨by rfl, ?_⟩) (by first | assumption | rfl | trivial) ?_
                      rotate_left 1
                      · (intro w hSw; (try dsimp only at hSw); (try subst hSw); go_simp; try with_reducible rfl)
                      simp only [Act.put, List.setIfInBounds_toArray, List.set_cons_zero, List.set_cons_succ]
                      refine held_take (i := 14) (d := (some 125)) (v := ?_) rfl rfl (by kernel_rfl) (by kernel_rfl) (by kernel_rfl) (fun _ _ _ h => h) (Or.inl ⟨by rfl, ?_⟩) (by first | assumption | rfl | trivial) ?_
                      rotate_left 1
                      · (intro w hSw; (try dsimp only at hSw); (try subst hSw); go_simp; try with_reducible rfl)
                      simp only [Act.put, List.setIfInBounds_toArray, List.set_cons_zero, List.set_cons_succ]
                      refine held_take (i := 15) (d := (some 126)) (v := ?_) rfl rfl (by kernel_rfl) (by kernel_rfl) (by kernel_rfl) (fun _ _ _ h => h) (Or.inl ⟨by rfl, ?_⟩) (by first | assumption | rfl | trivial) ?_
                      rotate_left 1
                      · (intro w hSw; (try dsimp only at hSw); (try subst hSw); go_simp; try with_reducible rfl)
                      simp only [Act.put, List.setIfInBounds_toArray, List.set_cons_zero, List.set_cons_succ]
                      refine held_next (i := 10) (by kernel_rfl) rfl (by rfl) (fun K1 hK1 => ?_)
                      go_simp
                      with_reducible refine (NM.out _).mono ?_
                      rintro e u ⟨rfl, hu⟩
                      rw [hu]
                      clear hu
                      go_wp2_with fail
                      refine hK1.out _ _ S5.out ?_
                      clear hK1
                      refine held_next (i := 16) (by kernel_rfl) rfl (by rfl) (fun K1 hK1 => ?_)
                      go_simp
                      with_reducible refine AP.out.mono ?_
                      rintro e u6 ⟨rfl, k6⟩
                      have S6 := hide (KX.out u6 k6.bel)
                      have RM := hide (pw_remove k6 D2.out L2.out (by omega) s (by omega))
                      have L3 := hide L2.out.n1
                      have D3 : Hid (({ Y2 with n := Y2.n + 1 } : Fs).dark = true) := D2.out
                      have F3 : Hid (listF ({ Y2 with n := Y2.n + 1 } : Fs) = LF) := F2.out
                      obtain ⟨Y3, hY3⟩ : ∃ Y3, ({ Y2 with n := Y2.n + 1 } : Fs) = Y3 := ⟨_, rfl⟩
                      rw [hY3] at RM L3 D3 F3
                      clear k6 AP hY3
                      go_wp2_with fail
                      refine hK1.out _ _ S6.out ?_
                      clear hK1
                      refine held_take (i := 17) (d := (some 128)) (v := ?_) rfl rfl (by kernel_rfl) (by kernel_rfl) (by kernel_rfl) (fun _ _ _ h => h) (Or.inl ⟨by rfl, ?_⟩) (by first | assumption | rfl | trivial) ?_
                      rotate_left 1
                      · (intro w hSw; (try dsimp only at hSw); (try subst hSw); go_simp; try with_reducible rfl)
                      simp only [Act.put, List.setIfInBounds_toArray, List.set_cons_zero, List.set_cons_succ]
                      refine held_take (i := 18) (d := (some 129)) (v := ?_) rfl rfl (by kernel_rfl) (by kernel_rfl) (by kernel_rfl) (fun _ _ _ h => h) (Or.inl ⟨by rfl, ?_⟩) (by first | assumption | rfl | trivial) ?_
                      rotate_left 1
                      · (intro w hSw; (try dsimp only at hSw); (try subst hSw); go_simp; try with_reducible rfl)
                      simp only [Act.put, List.setIfInBounds_toArray, List.set_cons_zero, List.set_cons_succ]
                      refine held_take (i := 19) (d := (some 130)) (v := ?_) rfl rfl (by kernel_rfl) (by kernel_rfl) (by kernel_rfl) (fun _ _ _ h => h) (Or.inl ⟨by rfl, ?_⟩) (by first | assumption | rfl | trivial) ?_
                      rotate_left 1
                      · (intro w hSw; (try dsimp only at hSw); (try subst hSw); go_simp; try with_reducible rfl)
                      simp only [Act.put, List.setIfInBounds_toArray, List.set_cons_zero, List.set_cons_succ]
                      refine held_take (i := 20) (d := (some 131)) (v := ?_) rfl rfl (by kernel_rfl) (by kernel_rfl) (by kernel_rfl) (fun _ _ _ h => h) (Or.inl ⟨by rfl, ?_⟩) (by first | assumption | rfl | trivial) ?_
                      rotate_left 1
                      · (intro w hSw; (try dsimp only at hSw); (try subst hSw); go_simp; try with_reducible rfl)
                      simp only [Act.put, List.setIfInBounds_toArray, List.set_cons_zero, List.set_cons_succ]
                      refine held_take (i := 21) (d := (some 132)) (v := ?_) rfl rfl (by kernel_rfl) (by kernel_rfl) (by kernel_rfl) (fun _ _ _ h => h) (Or.inl ⟨by rfl, ?_⟩) (by first | assumption | rfl | trivial) ?_
                      rotate_left 1
                      · (intro w hSw; (try dsimp only at hSw); (try subst hSw); go_simp; try with_reducible rfl)
                      simp only [Act.put, List.setIfInBounds_toArray, List.set_cons_zero, List.set_cons_succ]
                      refine held_take (i := 22) (d := (some 133)) (v := ?_) rfl rfl (by kernel_rfl) (by kernel_rfl) (by kernel_rfl) (fun _ _ _ h => h) (Or.inl ⟨by rfl, ?_⟩) (by first | assumption | rfl | trivial) ?_
                      rotate_left 1
                      · (intro w hSw; (try dsimp only at hSw); (try subst hSw); go_simp; try with_reducible rfl)
                      simp only [Act.put, List.setIfInBounds_toArray, List.set_cons_zero, List.set_cons_succ]
                      refine held_take (i := 23) (d := (some 134)) (v := ?_) rfl rfl (by kernel_rfl) (by kernel_rfl) (by kernel_rfl) (fun _ _ _ h => h) (Or.inl ⟨by rfl, ?_⟩) (by first | assumption | rfl | trivial) ?_
                      rotate_left 1
                      · (intro w hSw; (try dsimp only at hSw); (try subst hSw); go_simp; try with_reducible rfl)
                      simp only [Act.put, List.setIfInBounds_toArray, List.set_cons_zero, List.set_cons_succ]
                      refine held_take (i := 24) (d := (some 135)) (v := ?_) rfl rfl (by kernel_rfl) (by kernel_rfl) (by kernel_rfl) (fun _ _ _ h => h) (Or.inl ⟨by rfl, ?_⟩) (by first | assumption | rfl | trivial) ?_
                      rotate_left 1
                      · (intro w hSw; (try dsimp only at hSw); (try subst hSw); go_simp; try with_reducible rfl)
                      simp only [Act.put, List.setIfInBounds_toArray, List.set_cons_zero, List.set_cons_succ]
                      refine held_take (i := 25) (d := (some 136)) (v := ?_) rfl rfl (by kernel_rfl) (by kernel_rfl) (by kernel_rfl) (fun _ _ _ h => h) (Or.inl ⟨by rfl, ?_⟩) (by first | assumption | rfl | trivial) ?_
                      rotate_left 1
                      · (intro w hSw; (try dsimp only at hSw); (try subst hSw); go_simp; try with_reducible rfl)
                      simp only [Act.put, List.setIfInBounds_toArray, List.set_cons_zero, List.set_cons_succ]
                      refine held_next (i := 26) (by kernel_rfl) rfl (by rfl) (fun K1 hK1 => ?_)
                      go_simp
                      with_reducible refine (NM.out _).mono ?_
                      rintro e u ⟨rfl, hu⟩
                      rw [hu]
                      clear hu
                      go_wp2_with fail
                      refine hK1.out _ _ S6.out ?_
                      clear hK1
                      refine held_next (i := 27) (by kernel_rfl) rfl (by rfl) (fun K1 hK1 => ?_)
                      go_simp
                      with_reducible refine RM.out.mono ?_
                      rintro e u7 ⟨rfl, k7⟩
                      have S7 := hide (KX.out u7 k7.bel)
                      have SY := hide (pw_sync k7 D3.out L3.out (by omega) s (by omega))
                      have L4 := hide L3.out.n1
                      have D4 : Hid (({ Y3 with n := Y3.n + 1 } : Fs).dark = true) := D3.out
                      have F4 : Hid (listF ({ Y3 with n := Y3.n + 1 } : Fs) = LF) := F3.out
                      obtain ⟨Y4, hY4⟩ : ∃ Y4, ({ Y3 with n := Y3.n + 1 } : Fs) = Y4 := ⟨_, rfl⟩
                      rw [hY4] at SY L4 D4 F4
                      clear k7 RM hY4
                      go_wp2_with fail
                      refine hK1.out _ _ S7.out ?_
                      clear hK1
                      refine held_take (i := 28) (d := (some 139)) (v := ?_) rfl rfl (by kernel_rfl) (by kernel_rfl) (by kernel_rfl) (fun _ _ _ h => h) (Or.inl ⟨by rfl, ?_⟩) (by first | assumption | rfl | trivial) ?_
                      rotate_left 1
                      · (intro w hSw; (try dsimp only at hSw); (try subst hSw); go_simp; try with_reducible rfl)
                      simp only [Act.put, List.setIfInBounds_toArray, List.set_cons_zero, List.set_cons_succ]
                      refine held_take (i := 29) (d := (some 140)) (v := ?_) rfl rfl (by kernel_rfl) (by kernel_rfl) (by kernel_rfl) (fun _ _ _ h => h) (Or.inl ⟨by rfl, ?_⟩) (by first | assumption | rfl | trivial) ?_
                      rotate_left 1
                      · (intro w hSw; (try dsimp only at hSw); (try subst hSw); go_simp; try with_reducible rfl)
                      simp only [Act.put, List.setIfInBounds_toArray, List.set_cons_zero, List.set_cons_succ]
                      refine held_take (i := 30) (d := (some 141)) (v := ?_) rfl rfl (by kernel_rfl) (by kernel_rfl) (by kernel_rfl) (fun _ _ _ h => h) (Or.inl ⟨by rfl, ?_⟩) (by first | assumption | rfl | trivial) ?_
                      rotate_left 1
                      · (intro w hSw; (try dsimp only at hSw); (try subst hSw); go_simp; try with_reducible rfl)
                      simp only [Act.put, List.setIfInBounds_toArray, List.set_cons_zero, List.set_cons_succ]
                      refine held_take (i := 31) (d := (some 142)) (v := ?_) rfl rfl (by kernel_rfl) (by kernel_rfl) (by kernel_rfl) (fun _ _ _ h => h) (Or.inl ⟨by rfl, ?_⟩) (by first | assumption | rfl | trivial) ?_
                      rotate_left 1
                      · (intro w hSw; (try dsimp only at hSw); (try subst hSw); go_simp; try with_reducible rfl)
                      simp only [Act.put, List.setIfInBounds_toArray, List.set_cons_zero, List.set_cons_succ]
                      refine held_take (i := 32) (d := (some 143)) (v := ?_) rfl rfl (by kernel_rfl) (by kernel_rfl) (by kernel_rfl) (fun _ _ _ h => h) (Or.inl ⟨by rfl, ?_⟩) (by first | assumption | rfl | trivial) ?_
                      rotate_left 1
                      · (intro w hSw; (try dsimp only at hSw); (try subst hSw); go_simp; try with_reducible rfl)
                      simp only [Act.put, List.setIfInBounds_toArray, List.set_cons_zero, List.set_cons_succ]
                      refine held_take (i := 33) (d := (some 144)) (v := ?_) rfl rfl (by kernel_rfl) (by kernel_rfl) (by kernel_rfl) (fun _ _ _ h => h) (Or.inl ⟨by rfl, ?_⟩) (by first | assumption | rfl | trivial) ?_
                      rotate_left 1
                      · (intro w hSw; (try dsimp only at hSw); (try subst hSw); go_simp; try with_reducible rfl)
                      simp only [Act.put, List.setIfInBounds_toArray, List.set_cons_zero, List.set_cons_succ]
                      refine held_take (i := 34) (d := (some 145)) (v := ?_) rfl rfl (by kernel_rfl) (by kernel_rfl) (by kernel_rfl) (fun _ _ _ h => h) (Or.inl ⟨by rfl, ?_⟩) (by first | assumption | rfl | trivial) ?_
                      rotate_left 1
                      · (intro w hSw; (try dsimp only at hSw); (try subst hSw); go_simp; try with_reducible rfl)
                      simp only [Act.put, List.setIfInBounds_toArray, List.set_cons_zero, List.set_cons_succ]
                      refine held_take (i := 35) (d := (some 146)) (v := ?_) rfl rfl (by kernel_rfl) (by kernel_rfl) (by kernel_rfl) (fun _ _ _ h => h) (Or.inl ⟨by rfl, ?_⟩) (by first | assumption | rfl | trivial) ?_
                      rotate_left 1
                      · (intro w hSw; (try dsimp only at hSw); (try subst hSw); go_simp; try with_reducible rfl)
                      simp only [Act.put, List.setIfInBounds_toArray, List.set_cons_zero, List.set_cons_succ]
                      refine held_take (i := 36) (d := (some 147)) (v := ?_) rfl rfl (by kernel_rfl) (by kernel_rfl) (by kernel_rfl) (fun _ _ _ h => h) (Or.inl ⟨by rfl, ?_⟩) (by first | assumption | rfl | trivial) ?_
                      rotate_left 1
                      · (intro w hSw; (try dsimp only at hSw); (try subst hSw); go_simp; try with_reducible rfl)
                      simp only [Act.put, List.setIfInBounds_toArray, List.set_cons_zero, List.set_cons_succ]
                      refine held_next (i := 37) (by kernel_rfl) rfl (by rfl) (fun K1 hK1 => ?_)
                      go_simp
                      with_reducible refine (NM.out _).mono ?_
                      rintro e u ⟨rfl, hu⟩
                      rw [hu]
                      clear hu
                      go_wp2_with fail
                      refine hK1.out _ _ S7.out ?_
                      clear hK1
                      refine held_next (i := 38) (by kernel_rfl) rfl (by rfl) (fun K1 hK1 => ?_)
                      go_simp
                      with_reducible refine SY.out.mono ?_
                      rintro e u8 ⟨rfl, k8⟩
                      have K8 := hide k8
                      have S8 := hide (KX.out u8 k8.bel)
                      have HL8 : Hid (LimB (20000 + (k + 1) * 4) Y4) := L4.out.mono (by omega)
                      clear k8 SY
                      go_wp2_with fail
                      refine hK1.out _ _ S8.out ?_
                      clear hK1
                      refine held_take (i := 39) (d := (some 150)) (v := ?_) rfl rfl (by kernel_rfl) (by kernel_rfl) (by kernel_rfl) (fun _ _ _ h => h) (Or.inl ⟨by rfl, ?_⟩) (by first | assumption | rfl | trivial) ?_
                      rotate_left 1
                      · (intro w hSw; (try dsimp only at hSw); (try subst hSw); go_simp; try with_reducible rfl)
                      simp only [Act.put, List.setIfInBounds_toArray, List.set_cons_zero, List.set_cons_succ]
                      refine held_take (i := 40) (d := (some 151)) (v := ?_) rfl rfl (by kernel_rfl) (by kernel_rfl) (by kernel_rfl) (fun _ _ _ h => h) (Or.inl ⟨by rfl, ?_⟩) (by first | assumption | rfl | trivial) ?_
                      rotate_left 1
                      · (intro w hSw; (try dsimp only at hSw); (try subst hSw); go_simp; try with_reducible rfl)
                      simp only [Act.put, List.setIfInBounds_toArray, List.set_cons_zero, List.set_cons_succ]
                      clear hHeld
                      refine wpAnyH_done (by kernel_rfl) ?_ _
                      go_wp2
                      go_roundw
                      case rel => exact ⟨k + 1, Y4, by omega, by omega, by go_num, HL8, D4, F4, K8⟩
                      case measure => simp [intOf]; omega
                  · have e1 : (8 : Int) ≤ (q : Int) := by omega
                    have e2 : decide ((8 : Int) ≤ (q : Int)) = true := decide_eq_true e1
                    have e3 : decide (8 ≤ q) = true := decide_eq_true (by omega)
                    clear HL hdl
                    go_wp2_with fail
                    with_reducible refine (PL.out _).mono ?_
                    rintro e u ⟨rfl, hu⟩
                    rw [hu]
                    clear hu
                    go_wp2
                    go_roundw
                    case rel => exact ⟨k + 1, Y, by omega, by omega, by go_num, HL3, HD, HF, HK⟩
                    case measure => simp [intOf]; omega
                · have LI := hide (pw_list HK.out HL.out (by omega))
                  rw [HF.out] at LI
                  have HNLF : Hid (LF.length = NL) := OwnG.len stV_len (by decide) HK.out.own
                  rw [HNLF.out] at LI
                  have NGO2 : Hid ((¬ (k : Int) < (n2 : Int)) ∨ ((k : Int) < (n2 : Int) ∧ k = 20)) := by
                    by_cases h : k < n2
                    · exact Or.inr ⟨by omega, by omega⟩
                    · exact Or.inl (by omega)
                  clear HL HD HF hgo
                  rcases NGO2.out with hno2 | ⟨hyes2, rfl⟩
                  · have d1 : decide ((k : Int) < (n2 : Int)) = false := decide_eq_false hno2
                    have d3 : decide (k < n2) = false := decide_eq_false (by omega)
                    clear NGO2
                    go_wp2_with fail
                    with_reducible refine LI.out.mono ?_
                    rintro e u9 ⟨a9, c9, rfl, o9, b9⟩
                    have ST := hide (sametx_any _ w.heap.size a9 NL c9 al NL cl LF u9 o9 (HK.out.below b9).own (by omega))
                    have B9 := hide (HK.out.below b9).bel
                    clear o9 b9 LI HK
                    go_wp2_with fail
                    with_reducible refine ST.out.mono ?_
                    rintro e u10 ⟨rfl, b10⟩
                    have BE := hide (bel_to B9.out (Nat.le_refl _) b10)
                    clear b10 ST B9
                    go_wp2
                    go_ret
                    exact ⟨rfl, BE.out⟩
                  · have i3 : ((20 : Nat) : Int) < (n2 : Int) := hyes2
                    have i4 : (20 : Int) < (n2 : Int) := by omega
                    have d1 : decide ((20 : Int) < (n2 : Int)) = true := decide_eq_true i4
                    have d3 : decide (20 < n2) = true := decide_eq_true (by omega)
                    clear NGO2
                    go_wp2_with fail
                    with_reducible refine LI.out.mono ?_
                    rintro e u9 ⟨a9, c9, rfl, o9, b9⟩
                    have ST := hide (sametx_any _ w.heap.size a9 NL c9 al NL cl LF u9 o9 (HK.out.below b9).own (by omega))
                    have B9 := hide (HK.out.below b9).bel
                    clear o9 b9 LI HK
                    go_wp2_with fail
                    with_reducible refine ST.out.mono ?_
                    rintro e u10 ⟨rfl, b10⟩
                    have BE := hide (bel_to B9.out (Nat.le_refl _) b10)
                    clear b10 ST B9
                    go_wp2
                    go_ret
                    exact ⟨rfl, BE.out⟩
end Go.Proofs.YthlkmjaflomflaaGreat
