/-
  The program's reader of a quoted value (Unquoted, by goto): its contract, for every world; what was there before stays (written by gen/labdq.gen.py).
  Conditions: texts of at most 20,000 bytes.
-/
import Derived.Test.YthebcmkainplnaaLabDe
import Derived.Test.YthebcmkainplnaaJumpK
namespace Go.Proofs.Ythebcmkainplnaa
open Go.RowKit
set_option maxRecDepth 20000

def numsU (l : List UInt8) : List Int := l.map fun b => (b.toNat : Int)
theorem numsU_snoc (l : List UInt8) (c : UInt8) : numsU (l ++ [c]) = numsU l ++ [(c.toNat : Int)] := by unfold numsU; simp
theorem numsU_str (l : List UInt8) : strOfNums (numsU l) = ⟨l.toArray⟩ := by
  have := strOf_nums ⟨l.toArray⟩
  exact this
theorem numsU_wf (l : List UInt8) : ∀ z ∈ numsU l, (Lit.int .u8 z).wf = true := by
  intro z hz
  obtain ⟨c, _, rfl⟩ := List.mem_map.1 hz
  have := c.toNat_lt
  simp [Lit.wf, IntKind.min, IntKind.max, IntKind.signed, IntKind.bits]
  omega
theorem rowS {w : World} {a : Option Addr} {n cap : Nat} {zs : List Int} (hr : Row .u8 w a n zs) :
    (convert 38 9 (.slice a n cap)).run Try.prog w = .ok (.string (strOfNums zs)) w := by
  obtain ⟨h1, _, _, rfl | ⟨b, off, rfl, hc⟩⟩ := hr
  · have hz : zs = [] := List.length_eq_zero_iff.1 h1
    subst hz
    rw [run_convert_bytes_string w _ _ 5 _ 0 cap Try.underlying38 Try.underlying5 Try.underlying9]
    cases a <;> simp [Conv.bytesToString, loadCells] <;> rfl
  · exact run_convert_bytes_arg w _ _ Try.underlying38 Try.underlying5 b off n cap zs h1 hc _ Try.underlying9

def noneU : Value := .tuple #[.string ⟨#[]⟩, .int .i64 0, .bool false]
/-- What Unquoted tells of what was read of a text of n bytes. -/
def ansU (n : Nat) : Option (List UInt8 × List UInt8) → Value
  | none => noneU
  | some (v, r) => .tuple #[.string ⟨v.toArray⟩, .int .i64 ((n - r.length : Nat) : Int), .bool true]
def unqV (s : ByteArray) (k : Nat) : Value := ansU s.size (unqO (s.toList.drop k))
/-- What is read from place k on, behind these bytes. -/
def Rest (s : ByteArray) (ans : Value) (k : Nat) (out : List UInt8) : Prop :=
  ∃ f, s.size - k ≤ f ∧ ans = ansU s.size ((uqF f (s.toList.drop k)).map (fun q => (out ++ q.1, q.2)))
theorem drop_byte (s : ByteArray) (k : Nat) (h : k < s.size) : s.toList.drop k = (s[k]'h) :: s.toList.drop (k + 1) := by
  have hl : k < s.toList.length := by rw [ba_len]; exact h
  have h0 := byteAt s k h
  rw [List.getElem?_eq_getElem hl] at h0
  simp only [Option.some.injEq] at h0
  rw [List.drop_eq_getElem_cons hl, h0]
section
variable {s : ByteArray} {ans : Value} {k : Nat} {out : List UInt8}
theorem Rest.past (h : Rest s ans k out) (hk : s.size ≤ k) : ans = noneU := by
  obtain ⟨f, _, rfl⟩ := h
  rw [List.drop_eq_nil_of_le (by rw [ba_len]; exact hk)]
  cases f <;> rfl
theorem Rest.ends (h : Rest s ans k out) (hk : k < s.size) (hc : s[k]'hk = 34) : ans = .tuple #[.string ⟨out.toArray⟩, .int .i64 ((k : Int) + 1), .bool true] := by
  obtain ⟨f, hf, rfl⟩ := h
  obtain ⟨f', rfl⟩ : ∃ f', f = f' + 1 := ⟨f - 1, by omega⟩
  rw [drop_byte s k hk, hc, uqF, if_pos rfl]
  simp only [Option.map_some, List.append_nil, ansU]
  rw [List.length_drop, ba_len, show s.size - (s.size - (k + 1)) = k + 1 by omega]
  rfl
theorem Rest.bad (h : Rest s ans k out) (hk : k < s.size) (h1 : s[k]'hk ≠ 34) (h2 : s[k]'hk ≠ 92) (h3 : plainB (s[k]'hk) = false) : ans = noneU := by
  obtain ⟨f, hf, rfl⟩ := h
  obtain ⟨f', rfl⟩ : ∃ f', f = f' + 1 := ⟨f - 1, by omega⟩
  rw [drop_byte s k hk, uqF, if_neg h1, if_neg h2, h3]
  rfl
theorem Rest.plain (h : Rest s ans k out) (hk : k < s.size) (h1 : s[k]'hk ≠ 34) (h2 : s[k]'hk ≠ 92) (h3 : plainB (s[k]'hk) = true) : Rest s ans (k + 1) (out ++ [s[k]'hk]) := by
  obtain ⟨f, hf, rfl⟩ := h
  obtain ⟨f', rfl⟩ : ∃ f', f = f' + 1 := ⟨f - 1, by omega⟩
  refine ⟨f', by omega, ?_⟩
  rw [drop_byte s k hk, uqF, if_neg h1, if_neg h2, if_pos h3, Option.map_map]
  congr 2
  funext q
  simp
theorem Rest.none (h : Rest s ans k out) (hk : k < s.size) (h2 : s[k]'hk = 92) (h3 : escB (s.toList.drop k) = none) : ans = noneU := by
  obtain ⟨f, hf, rfl⟩ := h
  obtain ⟨f', rfl⟩ : ∃ f', f = f' + 1 := ⟨f - 1, by omega⟩
  rw [drop_byte s k hk] at h3 ⊢
  rw [uqF, if_neg (by rw [h2]; decide), if_pos h2, h3]
  rfl
theorem Rest.esc (h : Rest s ans k out) (hk : k < s.size) (h2 : s[k]'hk = 92) {b : UInt8} {n : Nat} (h3 : escB (s.toList.drop k) = some (b, n)) : Rest s ans (k + n) (out ++ [b]) ∧ (n = 2 ∨ n = 4) ∧ k + n ≤ s.size := by
  obtain ⟨f, hf, rfl⟩ := h
  obtain ⟨f', rfl⟩ : ∃ f', f = f' + 1 := ⟨f - 1, by omega⟩
  have hd := drop_byte s k hk
  have h4 := h3
  rw [hd, h2] at h4
  obtain ⟨_, h5, h6⟩ := escB_fwd h4
  have h7 : k + n ≤ s.size := by
    have := congrArg List.length hd
    rw [List.length_drop, ba_len] at this
    rw [h2] at this
    omega
  refine ⟨⟨f', by omega, ?_⟩, h5, h7⟩
  rw [← List.drop_drop]
  rw [hd] at h3 ⊢
  rw [uqF, if_neg (by rw [h2]; decide), if_pos h2, h3]
  simp only [Option.map_map]
  congr 2
  funext q
  simp
end
theorem Rest.start {s : ByteArray} {k : Nat} (hk : k < s.size) (hc : s[k]'hk = 34) : Rest s (unqV s k) (k + 1) [] := by
  refine ⟨(s.toList.drop (k + 1)).length, by rw [List.length_drop, ba_len]; exact Nat.le_refl _, ?_⟩
  unfold unqV unqO
  rw [drop_byte s k hk]
  simp only [hc, if_true, List.nil_append, Option.map_id']
theorem unqV_no {s : ByteArray} {k : Nat} (hk : k < s.size) (hc : s[k]'hk ≠ 34) : unqV s k = noneU := by
  unfold unqV unqO
  rw [drop_byte s k hk]
  simp only [hc, if_false]
  rfl
theorem unqV_past {s : ByteArray} {k : Nat} (hk : s.size ≤ k) : unqV s k = noneU := by
  unfold unqV unqO
  rw [List.drop_eq_nil_of_le (by rw [ba_len]; exact hk)]
  rfl

/-- At 'none'. -/
def JNone (s : ByteArray) (ans : Value) (w0 : World) (a : Act) (w : World) : Prop :=
  ∃ (v1 v7 u8 u9 u10 u11 u12 u13 u14 u15 u16 u17 u18 u19 u20 u21 u22 u23 u24 u25 u26 u27 u28 u29 u30 u31 u32 u33 u34 u35 u36 u37 u38 u39 u40 u41 u42 u43 u44 u45 u46 u47 u48 u49 u50 u51 u52 u53 u54 u55 u56 u57 u58 u59 u60 u61 u62 u63 u64 u65 : Value), a = { tmps := #[.string s, v1, undef, undef, .string ⟨#[]⟩, .int .i64 0, .bool false, v7, u8, u9, u10, u11, u12, u13, u14, u15, u16, u17, u18, u19, u20, u21, u22, u23, u24, u25, u26, u27, u28, u29, u30, u31, u32, u33, u34, u35, u36, u37, u38, u39, u40, u41, u42, u43, u44, u45, u46, u47, u48, u49, u50, u51, u52, u53, u54, u55, u56, u57, u58, u59, u60, u61, u62, u63, u64, u65], defers := [] } ∧ Hid (ans = noneU) ∧ Hid (Below w0.heap.size w0 w)
/-- At 'next', 'escape', 'end'. -/
def JAt (c : Option UInt8) (s : ByteArray) (ans : Value) (w0 : World) (a : Act) (w : World) : Prop :=
  ∃ (z : Int) (k : Nat) (ao : Option Addr) (n cap : Nat) (out : List UInt8) (u8 u9 u10 u11 u12 u13 u14 u15 u16 u17 u18 u19 u20 u21 u22 u23 u24 u25 u26 u27 u28 u29 u30 u31 u32 u33 u34 u35 u36 u37 u38 u39 u40 u41 u42 u43 u44 u45 u46 u47 u48 u49 u50 u51 u52 u53 u54 u55 u56 u57 u58 u59 u60 u61 u62 u63 u64 u65 : Value), a = { tmps := #[.string s, .int .i64 z, undef, undef, .string ⟨#[]⟩, .int .i64 0, .bool false, .slice ao n cap, u8, u9, u10, u11, u12, u13, u14, u15, u16, u17, u18, u19, u20, u21, u22, u23, u24, u25, u26, u27, u28, u29, u30, u31, u32, u33, u34, u35, u36, u37, u38, u39, u40, u41, u42, u43, u44, u45, u46, u47, u48, u49, u50, u51, u52, u53, u54, u55, u56, u57, u58, u59, u60, u61, u62, u63, u64, u65], defers := [] } ∧ z = (k : Int) ∧ k ≤ s.size ∧ n ≤ k ∧ Hid (Own 5 .u8 w w0.heap.size ao n cap (numsU out)) ∧ Hid (Below w0.heap.size w0 w) ∧ Hid (Rest s ans k out) ∧ Hid (∀ x, c = some x → s.toList[k]? = some x)
def mAt (n : Nat) (a : Act) (_ : World) : Nat := 3 * (n + 4 - (intOf (a.tmps.getD 1 undef)).toNat)
def J4 (J0 J1 J2 J3 : Act → World → Prop) : Nat → Act → World → Prop
  | 0 => J0
  | 1 => J1
  | 2 => J2
  | 3 => J3
  | _ => fun _ _ => False
def M4 (m : Act → World → Nat) : Nat → Act → World → Nat
  | 1 => fun a w => m a w + 2
  | 3 => fun a w => m a w + 1
  | _ => fun _ _ => 0
theorem wp_scope_four {P : Program} {a : Act} {w : World} {Q : Exit → Act → World → Prop} {c r0 r1 r2 r3 : Code} (J0 J1 J2 J3 : Act → World → Prop) (m : Act → World → Nat)
    (f0 : findLabel c 0 = some r0) (f1 : findLabel c 1 = some (Code.seq Code.skip r1)) (f2 : findLabel c 2 = some r2) (f3 : findLabel c 3 = some r3)
    (first : (∀ a w, J1 a w → r1.wp P (jumps (J4 J0 J1 J2 J3) Q) a w) → c.wp P (jumps (J4 J0 J1 J2 J3) Q) a w)
    (p0 : ∀ a w, J0 a w → r0.wp P (jumps (fun l' a' w' => J4 J0 J1 J2 J3 l' a' w' ∧ M4 m l' a' w' < 0) Q) a w)
    (p1 : ∀ a w, J1 a w → r1.wp P (jumps (fun l' a' w' => J4 J0 J1 J2 J3 l' a' w' ∧ M4 m l' a' w' < m a w + 2) Q) a w)
    (p2 : ∀ a w, J2 a w → r2.wp P (jumps (fun l' a' w' => J4 J0 J1 J2 J3 l' a' w' ∧ M4 m l' a' w' < 0) Q) a w)
    (p3 : ∀ a w, J3 a w → r3.wp P (jumps (fun l' a' w' => J4 J0 J1 J2 J3 l' a' w' ∧ M4 m l' a' w' < m a w + 1) Q) a w) : (Code.scope c).wp P Q a w := by
  refine wp_scope_many (fun l => match l with | 0 => r0 | 1 => Code.seq Code.skip r1 | 2 => r2 | 3 => r3 | _ => Code.skip) (J4 J0 J1 J2 J3) (M4 m) ?_ (first fun a w h => Code.wp_mono ?_ (p1 a w h)) ?_
  · intro l a w h
    match l, h with
    | 0, _ => exact f0
    | 1, _ => exact f1
    | 2, _ => exact f2
    | 3, _ => exact f3
  · intro e a' w' hq
    cases e with
    | goto l => exact hq.1
    | _ => exact hq
  · intro l a w h
    match l, h with
    | 0, h => exact p0 a w h
    | 1, h => exact wp_seq (wp_skip (p1 a w h))
    | 2, h => exact p2 a w h
    | 3, h => exact p3 a w h

set_option maxHeartbeats 4000000 in
theorem unquoted_any (s : ByteArray) (k0 : Nat) (w : World) (hs : s.size ≤ 20000) (hk0 : k0 ≤ 30000) :
    Calls Try.prog 105 #[.string s, .int .i64 (k0 : Int)] w fun e w' => e = .returned (unqV s k0) ∧ Below w.heap.size w w' := by
  obtain ⟨i0, hi, hz0, hz1, hz2⟩ := info_parts bu_byte
  have V0 : Hid (s.size ≤ k0 → unqV s k0 = noneU) := fun h => unqV_past h
  have V1 : Hid (∀ h : k0 < s.size, s[k0]'h ≠ 34 → unqV s k0 = noneU) := fun h => unqV_no h
  have V2 : Hid (∀ h : k0 < s.size, s[k0]'h = 34 → Rest s (unqV s k0) (k0 + 1) []) := fun h => Rest.start h
  generalize unqV s k0 = ans at *
  go_enter Try.func105, Try.ntmps105
  go_wp2
  refine wp_scope_four (JNone s ans w) (JAt none s ans w) (JAt (some 34) s ans w) (JAt (some 92) s ans w) (mAt s.size) (by rfl) (by rfl) (by rfl) (by rfl) ?_ ?_ ?_ ?_ ?_
  · intro FP
    by_cases hlt : k0 < s.size
    · obtain ⟨c, hc⟩ : ∃ c, Hid ((s[k0]'hlt) = c) := ⟨_, rfl⟩
      obtain ⟨z, hz⟩ : ∃ z : Int, Hid ((c.toNat : Int) = z) := ⟨_, rfl⟩
      have hb : ((s[k0]'hlt).toNat : Int) = z := by rw [hc.out]; exact hz.out
      have i0' : ¬ (k0 : Int) < 0 := by omega
      have i1 : ¬ (s.size : Int) ≤ (k0 : Int) := by omega
      have i2 : (0 : Int) ≤ (k0 : Int) := by omega
      have i3 : (k0 : Int) < (s.size : Int) := by omega
      have FPH := hide FP
      clear FP
      by_cases h34 : c = 34
      · obtain rfl : z = 34 := by rw [← hz.out, h34]; rfl
        have R := hide (V2.out hlt (hc.out.trans h34))
        clear V0 V1 V2 hc hz h34
        go_wp2
        go_step3
        simp only [Exit.then]
        rename_i hK
        refine hK _ _ (FPH.out _ _ ?_)
        exact ⟨_, k0 + 1, none, 0, 0, [], _, _, _, _, _, _, _, _, _, _, _, _, _, _, _, _, _, _, _, _, _, _, _, _, _, _, _, _, _, _, _, _, _, _, _, _, _, _, _, _, _, _, _, _, _, _, _, _, _, _, _, _, _, _, _, _, _, _, rfl, by omega, by omega, by omega, own_nil _ _ _ _, Below.refl _ _, R, fun x hx => by cases hx⟩
      · have n1 : (z != 34) = true := by
          rw [bne_iff_ne, ← hz.out]
          exact fun e => h34 (UInt8.toNat_inj.1 (by show c.toNat = 34; omega))
        have n1' : ¬ z = 34 := by simpa using n1
        have R := hide (V1.out hlt (by rw [hc.out]; exact h34))
        clear V0 V1 V2 hc hz h34
        go_wp2
        go_step3
        show JNone s ans w _ _
        exact ⟨_, _, _, _, _, _, _, _, _, _, _, _, _, _, _, _, _, _, _, _, _, _, _, _, _, _, _, _, _, _, _, _, _, _, _, _, _, _, _, _, _, _, _, _, _, _, _, _, _, _, _, _, _, _, _, _, _, _, _, _, rfl, R, Below.refl _ _⟩
    · have i0' : ¬ (k0 : Int) < 0 := by omega
      have i1 : (s.size : Int) ≤ (k0 : Int) := by omega
      have R := hide (V0.out (by omega))
      clear V0 V1 V2 FP
      go_wp2
      go_step3
      show JNone s ans w _ _
      exact ⟨_, _, _, _, _, _, _, _, _, _, _, _, _, _, _, _, _, _, _, _, _, _, _, _, _, _, _, _, _, _, _, _, _, _, _, _, _, _, _, _, _, _, _, _, _, _, _, _, _, _, _, _, _, _, _, _, _, _, _, _, rfl, R, Below.refl _ _⟩
  · rintro a' w' ⟨v1, v7, u8, u9, u10, u11, u12, u13, u14, u15, u16, u17, u18, u19, u20, u21, u22, u23, u24, u25, u26, u27, u28, u29, u30, u31, u32, u33, u34, u35, u36, u37, u38, u39, u40, u41, u42, u43, u44, u45, u46, u47, u48, u49, u50, u51, u52, u53, u54, u55, u56, u57, u58, u59, u60, u61, u62, u63, u64, u65, rfl, R, B⟩
    clear V0 V1 V2
    go_wp2
    simp only [jumps]
    go_ret3
    exact ⟨by rw [R.out]; rfl, B.out⟩
  · rintro a' w' ⟨z, k, ao, n, cap, out, u8, u9, u10, u11, u12, u13, u14, u15, u16, u17, u18, u19, u20, u21, u22, u23, u24, u25, u26, u27, u28, u29, u30, u31, u32, u33, u34, u35, u36, u37, u38, u39, u40, u41, u42, u43, u44, u45, u46, u47, u48, u49, u50, u51, u52, u53, u54, u55, u56, u57, u58, u59, u60, u61, u62, u63, u64, u65, rfl, rfl, hk, hn, O, B, R, -⟩
    clear V0 V1 V2
    by_cases hlt : k < s.size
    · obtain ⟨c, hc⟩ : ∃ c, Hid ((s[k]'hlt) = c) := ⟨_, rfl⟩
      obtain ⟨z, hz⟩ : ∃ z : Int, Hid ((c.toNat : Int) = z) := ⟨_, rfl⟩
      have hb : ((s[k]'hlt).toNat : Int) = z := by rw [hc.out]; exact hz.out
      have i1 : ¬ (s.size : Int) ≤ (k : Int) := by omega
      have i2 : (0 : Int) ≤ (k : Int) := by omega
      have i3 : (k : Int) < (s.size : Int) := by omega
      have HB := hide (byteAt s k hlt)
      rw [hc.out] at HB
      by_cases h34 : c = 34
      · obtain rfl : z = 34 := by rw [← hz.out, h34]; rfl
        clear hc hz
        go_wp2
        go_step3
        show JAt (some 34) s ans w _ _ ∧ 0 < _
        refine ⟨⟨_, k, ao, n, cap, out, _, _, _, _, _, _, _, _, _, _, _, _, _, _, _, _, _, _, _, _, _, _, _, _, _, _, _, _, _, _, _, _, _, _, _, _, _, _, _, _, _, _, _, _, _, _, _, _, _, _, _, _, _, _, _, _, _, _, rfl, rfl, hk, hn, O, B, R, ?_⟩, by omega⟩
        rintro x hx
        simp only [Option.some.injEq] at hx
        rw [HB.out, h34, hx]
      · have n1 : (z == 34) = false := by
          rw [beq_eq_false_iff_ne, ← hz.out]
          exact fun e => h34 (UInt8.toNat_inj.1 (by show c.toNat = 34; omega))
        have n1' : ¬ z = 34 := by simpa using n1
        by_cases h92 : c = 92
        · obtain rfl : z = 92 := by rw [← hz.out, h92]; rfl
          clear hc hz h34
          go_wp2
          go_step3
          show JAt (some 92) s ans w _ _ ∧ _ < _
          refine ⟨⟨_, k, ao, n, cap, out, _, _, _, _, _, _, _, _, _, _, _, _, _, _, _, _, _, _, _, _, _, _, _, _, _, _, _, _, _, _, _, _, _, _, _, _, _, _, _, _, _, _, _, _, _, _, _, _, _, _, _, _, _, _, _, _, _, _, rfl, rfl, hk, hn, O, B, R, ?_⟩, ?_⟩
          · rintro x hx
            simp only [Option.some.injEq] at hx
            rw [HB.out, h92, hx]
          · simp [M4, mAt]
        · have n2 : (z == 92) = false := by
            rw [beq_eq_false_iff_ne, ← hz.out]
            exact fun e => h92 (UInt8.toNat_inj.1 (by show c.toNat = 92; omega))
          have n2' : ¬ z = 92 := by simpa using n2
          have IP := hide (isplain_any c)
          rw [hz.out] at IP
          cases hp : plainB c with
          | false =>
            rw [hp] at IP
            have R2 := hide (R.out.bad hlt (by rw [hc.out]; exact h34) (by rw [hc.out]; exact h92) (by rw [hc.out]; exact hp))
            clear hc hz h34 h92 hp
            go_wp2_with (go_at_call 88; refine (IP.out _).mono ?_; rintro e w2 ⟨rfl, hw⟩; rw [hw]; clear hw w2)
            go_step3
            show JNone s ans w _ _ ∧ 0 < _
            exact ⟨⟨_, _, _, _, _, _, _, _, _, _, _, _, _, _, _, _, _, _, _, _, _, _, _, _, _, _, _, _, _, _, _, _, _, _, _, _, _, _, _, _, _, _, _, _, _, _, _, _, _, _, _, _, _, _, _, _, _, _, _, _, rfl, R2, B⟩, by omega⟩
          | true =>
            rw [hp] at IP
            have R2 := hide (R.out.plain hlt (by rw [hc.out]; exact h34) (by rw [hc.out]; exact h92) (by rw [hc.out]; exact hp))
            rw [hc.out] at R2
            have NS := hide (numsU_snoc out c)
            rw [hz.out] at NS
            have wz : (Lit.int .u8 z).wf = true := by
              have := c.toNat_lt
              have := hz.out
              simp [Lit.wf, IntKind.min, IntKind.max, IntKind.signed, IntKind.bits]
              omega
            have HO := hide (one_row w' z wz 5 (0, 0))
            have SRC : Hid (Src 5 .u8 (w'.alloc (.cells #[.int .u8 z] 5)) w.heap.size ao n cap (numsU out)) := Or.inl (O.out.below (bel_al (Below.refl _ _) (Nat.le_refl _) _) (Nat.le_refl _))
            have BX : Hid (w.heap.size ≤ (w'.alloc (.cells #[.int .u8 z] 5)).heap.size) := (bel_al B.out (Nat.le_refl _) _).size
            clear hc hz h34 h92 hp O R HB
            go_wp2_with (first | (go_at_call 88; refine (IP.out _).mono ?_; rintro e w2 ⟨rfl, hw⟩; rw [hw]; clear hw w2) | (at_builtin; refine wpList_append_one _ rfl _ _ 38 rfl w.heap.size 5 i0 Try.underlying38 hi hz0 hz1 hz2 ao n cap _ rfl SRC.out _ 1 z rfl HO.out (by omega) BX.out ?_))
            intro a4 c4 w4 o4 b4
            rw [← NS.out] at o4
            have O4 := hide o4
            have B4 : Hid (Below w.heap.size w w4) := (bel_al B.out (Nat.le_refl _) _).trans b4
            clear o4 b4 SRC BX HO NS
            go_wp2
            go_step3
            show JAt none s ans w _ _ ∧ _ < _
            refine ⟨⟨_, k + 1, a4, n + 1, c4, _, _, _, _, _, _, _, _, _, _, _, _, _, _, _, _, _, _, _, _, _, _, _, _, _, _, _, _, _, _, _, _, _, _, _, _, _, _, _, _, _, _, _, _, _, _, _, _, _, _, _, _, _, _, _, _, _, _, _, rfl, by omega, by omega, by omega, O4, B4, R2, fun x hx => by cases hx⟩, ?_⟩
            simp [M4, mAt, intOf]
            omega
    · have i1 : (s.size : Int) ≤ (k : Int) := by omega
      have R2 := hide (R.out.past (by omega))
      go_wp2
      go_step3
      show JNone s ans w _ _ ∧ 0 < _
      exact ⟨⟨_, _, _, _, _, _, _, _, _, _, _, _, _, _, _, _, _, _, _, _, _, _, _, _, _, _, _, _, _, _, _, _, _, _, _, _, _, _, _, _, _, _, _, _, _, _, _, _, _, _, _, _, _, _, _, _, _, _, _, _, rfl, R2, B⟩, by omega⟩
  · rintro a' w' ⟨z, k, ao, n, cap, out, u8, u9, u10, u11, u12, u13, u14, u15, u16, u17, u18, u19, u20, u21, u22, u23, u24, u25, u26, u27, u28, u29, u30, u31, u32, u33, u34, u35, u36, u37, u38, u39, u40, u41, u42, u43, u44, u45, u46, u47, u48, u49, u50, u51, u52, u53, u54, u55, u56, u57, u58, u59, u60, u61, u62, u63, u64, u65, rfl, rfl, hk, hn, O, B, R, C⟩
    clear V0 V1 V2
    have h34 := C.out 34 rfl
    have hlt : k < s.size := by
      have := (List.getElem?_eq_some_iff.1 h34).1
      rw [ba_len] at this
      exact this
    have hc : s[k]'hlt = 34 := by
      rw [byteAt s k hlt] at h34
      simpa using h34
    have R2 := hide (R.out.ends hlt hc)
    have f0 : (convert 38 9 (.slice ao n cap)).run Try.prog w' = .ok (.string ⟨out.toArray⟩) w' := by
      rw [rowS (zs := numsU out) (O.out.row (by omega) (numsU_wf out)), numsU_str]
    clear h34 hc C R O
    go_wp2
    simp only [jumps]
    go_ret3
    exact ⟨by rw [R2.out]; rfl, B.out⟩
  · rintro a' w' ⟨z, k, ao, n, cap, out, u8, u9, u10, u11, u12, u13, u14, u15, u16, u17, u18, u19, u20, u21, u22, u23, u24, u25, u26, u27, u28, u29, u30, u31, u32, u33, u34, u35, u36, u37, u38, u39, u40, u41, u42, u43, u44, u45, u46, u47, u48, u49, u50, u51, u52, u53, u54, u55, u56, u57, u58, u59, u60, u61, u62, u63, u64, u65, rfl, rfl, hk, hn, O, B, R, C⟩
    clear V0 V1 V2
    have h92 := C.out 92 rfl
    have hlt : k < s.size := by
      have := (List.getElem?_eq_some_iff.1 h92).1
      rw [ba_len] at this
      exact this
    have hc : s[k]'hlt = 92 := by
      rw [byteAt s k hlt] at h92
      simpa using h92
    have i2 : (0 : Int) ≤ (k : Int) := by omega
    have i3 : (k : Int) ≤ (s.size : Int) := by omega
    have EC := hide (escaped_any (s.extract k s.size) w' (by rw [ByteArray.size_extract]; omega))
    unfold escV at EC
    rw [ext_from] at EC
    cases e : escB (s.toList.drop k) with
    | none =>
      rw [e] at EC
      have R2 := hide (R.out.none hlt hc e)
      clear h92 hc C R O e
      go_wp2_with fail
      with_reducible refine EC.out.mono ?_
      rintro e1 v ⟨rfl, q, hq⟩
      have B2 : Hid (Below w.heap.size w v) := by show Below _ _ _; rw [hq]; exact bel_drewN B.out q
      clear hq EC B
      go_wp2
      go_step3
      show JNone s ans w _ _ ∧ 0 < _
      exact ⟨⟨_, _, _, _, _, _, _, _, _, _, _, _, _, _, _, _, _, _, _, _, _, _, _, _, _, _, _, _, _, _, _, _, _, _, _, _, _, _, _, _, _, _, _, _, _, _, _, _, _, _, _, _, _, _, _, _, _, _, _, _, rfl, R2, B2⟩, by omega⟩
    | some p =>
      obtain ⟨b, wd⟩ := p
      rw [e] at EC
      obtain ⟨r2, hw2, hw3⟩ := R.out.esc hlt hc e
      have R2 := hide r2
      obtain ⟨zb, hzb⟩ : ∃ z : Int, Hid ((b.toNat : Int) = z) := ⟨_, rfl⟩
      have NS := hide (numsU_snoc out b)
      rw [hzb.out] at NS
      simp only [hzb.out] at EC
      have wz : (Lit.int .u8 zb).wf = true := by
        have := b.toNat_lt
        have := hzb.out
        simp [Lit.wf, IntKind.min, IntKind.max, IntKind.signed, IntKind.bits]
        omega
      have hw4 : wd ≤ 4 := by omega
      have hw5 : 2 ≤ wd := by omega
      have n0 : ((wd : Int) == 0) = false := by rw [beq_eq_false_iff_ne]; omega
      have n0' : ¬ (wd : Int) = 0 := by omega
      clear h92 hc C R e r2 hzb hw2
      go_wp2_with fail
      with_reducible refine EC.out.mono ?_
      rintro e1 v ⟨rfl, q, hq⟩
      have B2 : Hid (Below w.heap.size w v) := by show Below _ _ _; rw [hq]; exact bel_drewN B.out q
      have O2 : Hid (Own 5 .u8 v w.heap.size ao n cap (numsU out)) := by show Own _ _ _ _ _ _ _ _; rw [hq]; exact O.out.below (bel_drewN (Below.refl _ _) q) (Nat.le_refl _)
      have HO := hide (one_row v zb wz 5 (0, 0))
      have SRC : Hid (Src 5 .u8 (v.alloc (.cells #[.int .u8 zb] 5)) w.heap.size ao n cap (numsU out)) := Or.inl (O2.out.below (bel_al (Below.refl _ _) (Nat.le_refl _) _) (Nat.le_refl _))
      have BX : Hid (w.heap.size ≤ (v.alloc (.cells #[.int .u8 zb] 5)).heap.size) := (bel_al B2.out (Nat.le_refl _) _).size
      clear hq EC B O O2
      go_wp2_with (at_builtin; refine wpList_append_one _ rfl _ _ 38 rfl w.heap.size 5 i0 Try.underlying38 hi hz0 hz1 hz2 ao n cap _ rfl SRC.out _ 1 zb rfl HO.out (by omega) BX.out ?_)
      intro a4 c4 w4 o4 b4
      rw [← NS.out] at o4
      have O4 := hide o4
      have B4 : Hid (Below w.heap.size w w4) := (bel_al B2.out (Nat.le_refl _) _).trans b4
      clear o4 b4 SRC BX HO NS
      go_wp2
      go_step3
      show JAt none s ans w _ _ ∧ _ < _
      refine ⟨⟨_, k + wd, a4, n + 1, c4, _, _, _, _, _, _, _, _, _, _, _, _, _, _, _, _, _, _, _, _, _, _, _, _, _, _, _, _, _, _, _, _, _, _, _, _, _, _, _, _, _, _, _, _, _, _, _, _, _, _, _, _, _, _, _, _, _, _, _, rfl, by omega, by omega, by omega, O4, B4, R2, fun x hx => by cases hx⟩, ?_⟩
      simp [M4, mAt, intOf]
      omega
end Go.Proofs.Ythebcmkainplnaa
