/-
  A set's bytes got: the program's own Get: a contract, for every world.
  Conditions: the bytes lie in memory.
-/
import Derived.Test.YtoepdgdagjckbabLabGp
import Derived.Test.YtoepdgdagjckbabLabI
namespace Go.Proofs.Ytoepdgdagjckbab
open Go.RowKit
set_option maxRecDepth 20000

/-- What Get tells. -/
def GotL (r : Option (List Lb × Int)) (w w' : World) (e : Ending) : Prop :=
  Below w.heap.size w w' ∧ match r with
  | none => e = .returned (.tuple #[.slice none 0 0, .int .i64 0, .bool false])
  | some q => ∃ a c, e = .returned (.tuple #[.slice a q.1.length c, .int .i64 q.2, .bool true]) ∧ RowL w' a q.1.length q.1 ∧ (a = none → c = 0)

def zL (pre : List Lb) (m : Nat) : List Lb := pre ++ List.replicate (m - pre.length) (.empty, .empty)
theorem zL_len {pre : List Lb} {m : Nat} (h : pre.length ≤ m) : (zL pre m).length = m := by
  unfold zL
  rw [List.length_append, List.length_replicate]; omega
theorem made_labs {m : Nat} (h : m ≤ 8) : (madeCells #[Value.string .empty, .string .empty] (m * 2)).toList = flatL (zL [] m) := by
  unfold madeCells
  rw [Array.toList_map, Array.toList_range]
  match m, h with
  | 0, _ => rfl
  | 1, _ => rfl
  | 2, _ => rfl
  | 3, _ => rfl
  | 4, _ => rfl
  | 5, _ => rfl
  | 6, _ => rfl
  | 7, _ => rfl
  | 8, _ => rfl
theorem zL_split {pre : List Lb} {m : Nat} (h : pre.length < m) : zL pre m = pre ++ ((.empty, .empty) :: List.replicate (m - (pre.length + 1)) (.empty, .empty)) := by
  unfold zL
  rw [show m - pre.length = (m - (pre.length + 1)) + 1 from by omega, List.replicate_succ]
theorem flatL_set0 (pre t : List Lb) (x : Lb) (s : ByteArray) : (flatL (pre ++ x :: t)).set (pre.length * 2) (.string s) = flatL (pre ++ (s, x.2) :: t) := by
  rw [flatL_append, flatL_append, List.set_append_right _ _ (by rw [flatL_len]; exact Nat.le_refl _), flatL_len, Nat.sub_self, flatL_cons, flatL_cons]
  rfl
theorem flatL_set1 (pre t : List Lb) (x : Lb) (s : ByteArray) : (flatL (pre ++ x :: t)).set (pre.length * 2 + 1) (.string s) = flatL (pre ++ (x.1, s) :: t) := by
  rw [flatL_append, flatL_append, List.set_append_right _ _ (by rw [flatL_len]; omega), flatL_len, show pre.length * 2 + 1 - pre.length * 2 = 1 by omega, flatL_cons, flatL_cons]
  rfl
theorem OwnL.set0 {w : World} {base g n cap : Nat} {pre t : List Lb} {x : Lb} (h : OwnL w base (some ⟨g, 0, none⟩) n cap (pre ++ x :: t)) (s : ByteArray) :
    OwnL (w.setCell ⟨g, pre.length * 2, none⟩ (.string s)) base (some ⟨g, 0, none⟩) n cap (pre ++ (s, x.2) :: t) := by
  unfold OwnL at *
  have := (World.ownsRow.stored h (pre.length * 2) (.string s)).1
  rwa [flatL_set0] at this
theorem OwnL.set1 {w : World} {base g n cap : Nat} {pre t : List Lb} {x : Lb} (h : OwnL w base (some ⟨g, 0, none⟩) n cap (pre ++ x :: t)) (s : ByteArray) :
    OwnL (w.setCell ⟨g, pre.length * 2 + 1, none⟩ (.string s)) base (some ⟨g, 0, none⟩) n cap (pre ++ (x.1, s) :: t) := by
  unfold OwnL at *
  have := (World.ownsRow.stored h (pre.length * 2 + 1) (.string s)).1
  rwa [flatL_set1] at this
theorem OwnL.cellAt {w : World} {base g n cap : Nat} {l : List Lb} (h : OwnL w base (some ⟨g, 0, none⟩) n cap l) {j : Nat} (hj : j < n * 2) : ∃ old, w.cell? ⟨g, j, none⟩ = some old := by
  have e := World.ownsRow.cellAt h j hj
  have hl := h.1
  rw [List.getElem?_eq_getElem (by omega)] at e
  exact ⟨_, e⟩

theorem rdL_more {zs : List Int} {m k : Nat} {p q e : Int} {s t : List Int} {pre : List Lb} {r : Option (List Lb × Int)} (hk : k < m) (h : r = (rdL zs (m - k) p).map fun x => (pre ++ x.1, x.2)) (h1 : textS zs p 32 = some (s, q)) (h2 : textS zs q 64 = some (t, e)) :
    r = (rdL zs (m - (k + 1)) e).map fun x => ((pre ++ [(strOfNums s, strOfNums t)]) ++ x.1, x.2) := by
  obtain ⟨c, hc⟩ : ∃ c, m - k = c + 1 := ⟨m - k - 1, by omega⟩
  rw [h, hc, rdL_step h1 h2, show m - (k + 1) = c from by omega]
  cases rdL zs c e <;> simp
theorem rdL_stop1 {zs : List Int} {m k : Nat} {p : Int} {pre : List Lb} {r : Option (List Lb × Int)} (hk : k < m) (h : r = (rdL zs (m - k) p).map fun x => (pre ++ x.1, x.2)) (h1 : textS zs p 32 = none) : r = none := by
  obtain ⟨c, hc⟩ : ∃ c, m - k = c + 1 := ⟨m - k - 1, by omega⟩
  rw [h, hc, rdL_no1 h1]
  rfl
theorem rdL_stop2 {zs : List Int} {m k : Nat} {p q : Int} {s : List Int} {pre : List Lb} {r : Option (List Lb × Int)} (hk : k < m) (h : r = (rdL zs (m - k) p).map fun x => (pre ++ x.1, x.2)) (h1 : textS zs p 32 = some (s, q)) (h2 : textS zs q 64 = none) : r = none := by
  obtain ⟨c, hc⟩ : ∃ c, m - k = c + 1 := ⟨m - k - 1, by omega⟩
  rw [h, hc, rdL_no2 h1 h2]
  rfl
theorem textS_fit {zs : List Int} {p most e : Int} {s : List Int} (hz : Bytes8 zs) (h : textS zs p most = some (s, e)) : 0 ≤ e ∧ e ≤ zs.length ∧ (strOfNums s).size ≤ zs.length := by
  obtain ⟨k, _, h1, h2, t, ht, he⟩ := textS_back hz h
  refine ⟨by omega, h2, ?_⟩
  rw [strOfNums_size]
  have := congrArg List.length ht
  unfold putT at this
  simp only [List.length_append, List.length_drop] at this
  omega

set_option maxHeartbeats 4000000 in
theorem lget_any (C : LaC) (at' : Int) (a : Option Addr) (n cap : Nat) (zs : List Int) (w : World) (ha : (Lit.int .i64 at').wf = true) (hc : n ≤ cap) (hr : Row .u8 w a n zs) :
    Calls Try.prog 12 #[.slice a n cap, .int .i64 at'] w fun e w' => GotL (getL zs at') w w' e := by
  have G := hide (get_any at' a n cap zs w ha hc hr)
  have HR := hide hr
  have hn := hr.2.1
  have HLN := hide hr.1
  have HZ := hide hr.bytes
  obtain ⟨i0, hi, hz0, hz1, hz2⟩ := info_parts Try.infoL
  clear ha hr
  cases hg : getS zs at' with
  | none =>
    have HE : Hid (getL zs at' = none) := by show _ = _; unfold getL; rw [hg]
    rw [hg] at G
    simp only [gotE] at G
    clear hg hi hz0 hz1 hz2
    go_enter Try.func12, Try.ntmps12
    go_wp2_with fail
    with_reducible refine G.out.mono ?_
    rintro e w' ⟨rfl, rfl⟩
    go_wp2
    go_ret3
    rw [HE.out]
    exact ⟨Below.refl _ _, rfl⟩
  | some q =>
    obtain ⟨v, fr⟩ := q
    obtain ⟨hw, k0, -, -, hfr, hle, -⟩ := getS_some HZ.out hg
    have v0 := hw.1
    have v1 := hw.2
    have f0 : 0 ≤ fr := by omega
    have f1 : fr ≤ n := by rw [HLN.out] at hle; omega
    have HE : Hid (getL zs at' = if 8 < v then none else finL (rdL zs v.toNat fr)) := by show _ = _; unfold getL; rw [hg]
    rw [hg] at G
    simp only [gotE] at G
    clear hg hfr hle hw
    by_cases h8 : 8 < v
    · rw [if_pos h8] at HE
      clear hi hz0 hz1 hz2
      go_enter Try.func12, Try.ntmps12
      go_wp2_with fail
      with_reducible refine G.out.mono ?_
      rintro e w' ⟨rfl, rfl⟩
      go_wp2
      go_ret3
      rw [HE.out]
      exact ⟨Below.refl _ _, rfl⟩
    · rw [if_neg h8] at HE
      obtain ⟨m, rfl⟩ := Int.eq_ofNat_of_zero_le v0
      have hm8 : m ≤ 8 := by omega
      obtain ⟨R, hR⟩ : ∃ R, Hid (rdL zs m fr = R) := ⟨_, rfl⟩
      have HE2 : Hid (getL zs at' = finL R) := by
        show _ = _
        rw [← hR.out, HE.out, Int.toNat_natCast]
      have T1 := hide (fun nx W (h0 : 0 ≤ nx) (h1 : nx ≤ (n : Int)) (q : Row .u8 W a n zs) => gettext_any nx 32 a n cap zs W (i64_wf (by omega) (by omega)) (by decide) hc q)
      have T2 := hide (fun nx W (h0 : 0 ≤ nx) (h1 : nx ≤ (n : Int)) (q : Row .u8 W a n zs) => gettext_any nx 64 a n cap zs W (i64_wf (by omega) (by omega)) (by decide) hc q)
      clear HE v0 v1
      go_enter Try.func12, Try.ntmps12
      go_wp2_with fail
      with_reducible refine G.out.mono ?_
      rintro e w' ⟨rfl, rfl⟩
      go_wp2_with (at_make; refine wpList_make_full _ rfl _ _ 22 rfl w'.heap.size 40 i0 (.agg #[.string .empty, .string .empty]) 2 Try.underlying22 hi hz0 hz1 .u64 .u64 (m : Int) (m : Int) m rfl rfl rfl rfl (by rw [hz2]; omega) (by unfold maxLen; omega) (Nat.le_refl _) ?_)
      intro W ho hg
      rw [made_labs hm8] at ho
      have HB : Hid (Below w'.heap.size w' W) := (Below.refl _ _).grown hg (Nat.le_refl _) (fun k hk => by simp at hk)
      have HO : Hid (OwnL W w'.heap.size (some ⟨w'.heap.size, 0, none⟩) m m (zL [] m)) := ho
      clear hg hi hz0 hz1 hz2 G ho h8
      go_wp2
      go_loopw [8, 29] (fun x i wr => ∃ (k : Nat) (nx : Int) (pre : List Lb), k ≤ m ∧ i = .int .i64 k ∧ x = .int .i64 nx ∧ 0 ≤ nx ∧ nx ≤ n ∧
        Hid (pre.length = k) ∧ Hid (∀ x ∈ pre, LbW x) ∧ Hid (R = (rdL zs (m - k) nx).map fun r => (pre ++ r.1, r.2)) ∧
        Hid (OwnL wr w'.heap.size (some ⟨w'.heap.size, 0, none⟩) m m (zL pre m)) ∧ Hid (Below w'.heap.size w' wr)) (fun _ i _ => m - (intOf i).toNat)
      case atStart =>
        refine ⟨0, fr, [], by omega, rfl, rfl, f0, f1, rfl, fun x hx => by simp at hx, ?_, HO, HB⟩
        show _ = _
        rw [Nat.sub_zero, hR.out]
        cases R <;> simp
      case round =>
        obtain ⟨k, nx, pre, hk, rfl, rfl, x0, x1, HPL, HPW, HP, ho, hb⟩ := hrel
        obtain ⟨u, rfl⟩ : ∃ u, u = wr := ⟨wr, rfl⟩
        clear HO HB hR
        by_cases hlt : k < m
        · have Q := hide (HR.out.below hb.out (Nat.le_refl _))
          have HSP : Hid (zL pre m = pre ++ ((.empty, .empty) :: List.replicate (m - (k + 1)) (.empty, .empty))) := by
            have := zL_split (pre := pre) (m := m) (by rw [HPL.out]; exact hlt)
            rw [HPL.out] at this
            exact this
          rw [HSP.out] at ho
          have i1 : (0 : Int) ≤ (k : Int) := by omega
          have i5 : (k : Int) < (m : Int) := by omega
          obtain ⟨old, hold⟩ := ho.out.cellAt (j := k * 2) (by omega)
          have hfz := World.ownsRow.frozenAt ho.out (k * 2)
          cases h1 : textS zs nx 32 with
          | none =>
            have HN := hide (rdL_stop1 hlt HP.out h1)
            have T := hide (T1.out nx u x0 x1 Q.out)
            rw [h1] at T
            simp only [textE] at T
            rw [HN.out] at HE2
            have HB2 := hide (hb.out.setCell (p := ⟨w'.heap.size, k * 2, none⟩) (Nat.le_refl _) (.string .empty))
            clear T1 T2 h1
            go_wp2_with fail
            with_reducible refine T.out.mono ?_
            rintro e w2 ⟨rfl, rfl⟩
            go_wp2
            go_ret3
            rw [HE2.out]
            exact ⟨HB2.out, rfl⟩
          | some r =>
            obtain ⟨s, nx2⟩ := r
            obtain ⟨y0, y1, ys⟩ := textS_fit HZ.out h1
            rw [HLN.out] at y1
            have T := hide (T1.out nx u x0 x1 Q.out)
            rw [h1] at T
            simp only [textE] at T
            have H1 := hide h1
            have O2 : Hid (OwnL (u.setCell ⟨w'.heap.size, k * 2, none⟩ (.string (strOfNums s))) w'.heap.size (some ⟨w'.heap.size, 0, none⟩) m m (pre ++ ((strOfNums s, .empty) :: List.replicate (m - (k + 1)) (.empty, .empty)))) := by
              have := ho.out.set0 (strOfNums s)
              rw [HPL.out] at this
              exact this
            have B2 := hide (hb.out.setCell (p := ⟨w'.heap.size, k * 2, none⟩) (Nat.le_refl _) (.string (strOfNums s)))
            obtain ⟨u2, hu2⟩ : ∃ u2, Hid (u.setCell ⟨w'.heap.size, k * 2, none⟩ (.string (strOfNums s)) = u2) := ⟨_, rfl⟩
            rw [hu2.out] at O2 B2
            have Q2 := hide (HR.out.below B2.out (Nat.le_refl _))
            have TT := hide (T2.out nx2 u2 y0 y1 Q2.out)
            obtain ⟨old2, hold2⟩ := O2.out.cellAt (j := k * 2 + 1) (by omega)
            have hfz2 := World.ownsRow.frozenAt O2.out (k * 2 + 1)
            have B3 := hide (fun v => B2.out.setCell (p := ⟨w'.heap.size, k * 2 + 1, none⟩) (Nat.le_refl _) v)
            cases h2 : textS zs nx2 64 with
            | none =>
              have HN := hide (rdL_stop2 hlt HP.out H1.out h2)
              rw [HN.out] at HE2
              rw [h2] at TT
              simp only [textE] at TT
              clear T1 T2 h1 h2 ho hb Q HN HP
              go_wp2_with fail
              with_reducible refine T.out.mono ?_
              rintro e w2 ⟨rfl, rfl⟩
              go_wp2_with fail
              rw [hu2.out]
              with_reducible refine TT.out.mono ?_
              rintro e w3 ⟨rfl, rfl⟩
              clear hold hfz
              go_wp2
              go_ret3
              rw [HE2.out]
              exact ⟨B3.out _, rfl⟩
            | some r =>
              obtain ⟨t, nx3⟩ := r
              obtain ⟨z0, z1, zt⟩ := textS_fit HZ.out h2
              rw [HLN.out] at z1 zt ys
              rw [h2] at TT
              simp only [textE] at TT
              have HP2 := hide (rdL_more hlt HP.out H1.out h2)
              have O3 : Hid (OwnL (u2.setCell ⟨w'.heap.size, k * 2 + 1, none⟩ (.string (strOfNums t))) w'.heap.size (some ⟨w'.heap.size, 0, none⟩) m m (zL (pre ++ [(strOfNums s, strOfNums t)]) m)) := by
                have := O2.out.set1 (strOfNums t)
                rw [HPL.out] at this
                unfold zL
                rw [List.length_append, HPL.out, List.append_assoc]
                exact this
              have HPL2 : Hid ((pre ++ [(strOfNums s, strOfNums t)]).length = k + 1) := by
                show _ = _
                rw [List.length_append, HPL.out]
                rfl
              have HPW2 : Hid (∀ x ∈ pre ++ [(strOfNums s, strOfNums t)], LbW x) := by
                intro x hx
                rcases List.mem_append.1 hx with hx | hx
                · exact HPW.out x hx
                · simp only [List.mem_singleton] at hx
                  subst hx
                  exact ⟨by show (strOfNums s).size ≤ _; omega, by show (strOfNums t).size ≤ _; omega⟩
              clear T1 T2 h1 h2 ho hb Q HP HPL HPW ys zt O2
              go_wp2_with fail
              with_reducible refine T.out.mono ?_
              rintro e w2 ⟨rfl, rfl⟩
              go_wp2_with fail
              rw [hu2.out]
              with_reducible refine TT.out.mono ?_
              rintro e w3 ⟨rfl, rfl⟩
              clear hold hfz
              go_wp2
              go_roundw
              case rel => exact ⟨k + 1, nx3, _, by omega, by go_num, rfl, z0, z1, HPL2, HPW2, HP2, O3, B3.out _⟩
              case measure => simp [intOf]; omega
        · have : k = m := by omega
          subst this
          have HRR : Hid (R = some (pre, nx)) := by
            show _ = _
            rw [HP.out, Nat.sub_self, rdL]
            simp
          rw [HRR.out] at HE2
          have HZZ : Hid (zL pre k = pre) := by
            show _ = _
            unfold zL
            rw [HPL.out, Nat.sub_self]
            simp
          rw [HZZ.out] at ho
          have RW := hide (ho.out.row (by omega) HPW.out)
          have CC := hide (C.chk (some ⟨w'.heap.size, 0, none⟩) k k pre u RW.out)
          clear ho T1 T2 HP HPW HRR HZZ
          cases hck : chkL pre with
          | false =>
            rw [hck] at CC
            have HE3 : Hid (getL zs at' = none) := by
              show _ = _
              rw [HE2.out, finL]
              simp only [hck]
              rfl
            clear HE2 hck
            go_wp2_with fail
            with_reducible refine CC.out.mono ?_
            rintro e w2 ⟨rfl, b2⟩
            have B2 := hide (bel_to hb.out (Nat.le_refl _) b2)
            clear b2 CC
            go_wp2
            go_ret3
            rw [HE3.out]
            exact ⟨B2.out, rfl⟩
          | true =>
            rw [hck] at CC
            have HE3 : Hid (getL zs at' = some (pre, nx)) := by
              show _ = _
              rw [HE2.out, finL]
              simp only [hck]
              rfl
            clear HE2 hck
            go_wp2_with fail
            with_reducible refine CC.out.mono ?_
            rintro e w2 ⟨rfl, b2⟩
            have B2 := hide (bel_to hb.out (Nat.le_refl _) b2)
            have R2 := hide (RW.out.below b2 (Nat.le_refl _))
            clear b2 CC
            go_wp2
            go_ret3
            rw [HE3.out]
            refine ⟨B2.out, some ⟨w'.heap.size, 0, none⟩, k, ?_, ?_, fun e => by simp at e⟩
            · rw [HPL.out]; rfl
            · rw [HPL.out]; exact R2.out
end Go.Proofs.Ytoepdgdagjckbab
