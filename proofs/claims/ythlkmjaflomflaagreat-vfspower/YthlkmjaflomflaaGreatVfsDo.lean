/-
  The landed file system: its names in order (List); names in the order of their files (what Crash sorts): contracts, for every world.
  Conditions: the file system lies in memory; as each theorem says.
-/
import Derived.Test.YthlkmjaflomflaaGreatVfsDk
import Derived.Test.YthlkmjaflomflaaGreatVfsDl
import Derived.Test.YthlkmjaflomflaaGreatIter
import Derived.Lib.SmallJoins
namespace Go.Proofs.YthlkmjaflomflaaGreat
open Go.RowKit Go.Maps
set_option maxRecDepth 20000
set_option linter.unusedVariables false

theorem flat_st (l : List ByteArray) : l.flatMap stV = l.map Value.string := by
  induction l with
  | nil => rfl
  | cons z t ih => rw [List.flatMap_cons, ih]; rfl
theorem enc_names (l : List ByteArray) : (l.map (·.toList)).map encStr = l.map Value.string := by
  rw [List.map_map]
  refine List.map_congr_left (fun y _ => ?_)
  show encStr y.toList = _
  unfold encStr
  rw [ByteArray.toList_eq]
theorem keysV_any (mb : Option Nat) (w : World) :
    Calls Tryz.prog 50 #[.map mb] w fun e w' => e = .returned (.func (.func 74) #[] #[.pointer (some ⟨w.heap.size, 0, none⟩)]) ∧ w' = w.alloc (.cells #[.map mb] 62) :=
  callsIn_wide.1 (Tryz.maps_Keys_50 mb w)
/-- The names of a map in order. -/
theorem sortedV_any (b n : Nat) (fb : List Nat) (D : List Dn) (hD : NamesD D) (w : World) (hM : MapS w b n (nmV fb D)) (hl : D.length ≤ 4294967296) :
    Calls Tryz.prog 49 #[.func (.func 74) #[] #[.pointer (some ⟨w.heap.size, 0, none⟩)]] (w.alloc (.cells #[.map (some b)] 62)) fun e w' =>
      ∃ a c, e = .returned (.slice a (listD D).length c) ∧ OwnS w' w.heap.size a (listD D).length c (listD D) ∧ Below w.heap.size w w' := by
  have b1 : Below w.heap.size w (w.alloc (.cells #[.map (some b)] 62)) := (Below.refl _ _).alloc (Nat.le_refl _) _
  have s1 : w.heap.size ≤ (w.alloc (.cells #[.map (some b)] 62)).heap.size := b1.size
  obtain ⟨X, hX, hR⟩ := hM
  obtain ⟨esz, hperm0⟩ := size_of hX hR hD.once (names_mem hD)
  rw [List.length_map] at esz
  obtain ⟨hn, hm⟩ := keys_mem hX
  obtain ⟨l1, l2, l3⟩ := listD_names hD
  refine (callsIn_wide.1 (Tryz.slices_Sorted_keys_49_50 b n X heldE w hX (by unfold maxLen; omega) (by omega))).mono ?_
  rintro e w' ⟨v, ss, rfl, hperm, hrow, -, hb⟩
  have e1 : ss.mergeSort (fun x y => decide (x ≤ y)) = (listD D).map (·.toList) := by
    refine sorted_keys hperm hn ?_ (fun x => ?_)
    · rw [List.pairwise_map]
      exact l2
    · rw [hm, ← ba_of', hR.has, nmV_some, List.mem_map]
      constructor
      · rintro ⟨y, hy, rfl⟩
        rw [show (⟨y.toList.toArray⟩ : ByteArray) = y from ba_ext (by rw [ByteArray.toList_eq, ByteArray.toList_eq])]
        exact (l1 y).1 hy
      · intro h
        exact ⟨_, (l1 _).2 h, by rw [ByteArray.toList_eq]⟩
  have hlen : ss.length = (listD D).length := by
    have := congrArg List.length e1
    rw [List.length_mergeSort, List.length_map] at this
    exact this
  rw [e1, enc_names, hlen] at hrow
  obtain ⟨a, c, rfl⟩ := row_form hrow
  refine ⟨a, c, rfl, ?_, bel_to b1 (Nat.le_refl _) hb⟩
  have := Joins.ownsRow_le hrow s1
  show OwnG _ _ _ _ _ _ _ _ _
  unfold OwnG
  rw [flat_st]
  exact this

set_option maxHeartbeats 2000000 in
theorem llist_any (g : Nat) (S : Nat → Prop) (F : Fs) (m : Nat) (w : World) (hF : LAt w g S F) (hL : Lim m F) (hm : m ≤ 1073741824) :
    Calls Tryz.prog 16 #[.pointer (some ⟨g, 0, none⟩)] w fun e w' => ∃ a c, e = .returned (.slice a (listF F).length c) ∧ OwnS w' w.heap.size a (listF F).length c (listF F) ∧ Below w.heap.size w w' := by
  obtain ⟨hV, hN, fb, fh, bn, bc, at', ct, B⟩ := hF
  have c0 := B.c0
  have hdl : (dirF F).length ≤ 4294967296 := by
    have := turnsD_len F.turns F.sure
    have h1 := hL.sure
    have h2 := hL.turns
    unfold dirF
    omega
  have SV := hide (sortedV_any bn _ fb (dirF F) hN.dir w B.names hdl)
  rw [show listD (dirF F) = listF F from rfl] at SV
  generalize listF F = LF at SV ⊢
  generalize LF.length = lf at SV ⊢
  clear B hV hN hL hdl
  go_enter Tryz.func16, Tryz.ntmps16
  go_wp2_with fail
  with_reducible refine (keysV_any _ _).mono ?_
  rintro e u ⟨rfl, hu⟩
  rw [hu]
  clear hu
  go_wp2_with fail
  with_reducible refine SV.out.mono ?_
  rintro e u ⟨a, c, rfl, o, b⟩
  have O := hide o
  have B := hide b
  clear o b SV
  go_wp2
  go_ret
  exact ⟨a, c, rfl, O.out, B.out⟩

/-! ### Names in the order of their files -/
def cmpI (x y : Int) : Int := if x < y then -1 else if y < x then 1 else 0
theorem isnanI_any (x : Int) (w : World) : Calls Tryz.prog 78 #[.int .i64 x] w fun e w' => e = .returned (.bool false) ∧ w' = w := by
  go_enter Tryz.func78, Tryz.ntmps78
  go_wp2
  go_ret
  exact ⟨rfl, rfl⟩
theorem compareI_any (x y : Int) (w : World) : Calls Tryz.prog 60 #[.int .i64 x, .int .i64 y] w fun e w' => e = .returned (.int .i64 (cmpI x y)) ∧ w' = w := by
  obtain ⟨r, hr⟩ : ∃ r, cmpI x y = r := ⟨_, rfl⟩
  rw [hr]
  unfold cmpI at hr
  by_cases h1 : x < y
  · rw [if_pos h1] at hr
    subst hr
    go_enter Tryz.func60, Tryz.ntmps60
    go_wp2_with fail
    with_reducible refine (isnanI_any x _).mono ?_
    rintro e u ⟨rfl, hu⟩
    rw [hu]
    clear hu
    go_wp2_with fail
    with_reducible refine (isnanI_any y _).mono ?_
    rintro e u ⟨rfl, hu⟩
    rw [hu]
    clear hu
    go_wp2
    go_ret
    exact ⟨rfl, rfl⟩
  · rw [if_neg h1] at hr
    by_cases h2 : y < x
    · rw [if_pos h2] at hr
      subst hr
      go_enter Tryz.func60, Tryz.ntmps60
      go_wp2_with fail
      with_reducible refine (isnanI_any x _).mono ?_
      rintro e u ⟨rfl, hu⟩
      rw [hu]
      clear hu
      go_wp2_with fail
      with_reducible refine (isnanI_any y _).mono ?_
      rintro e u ⟨rfl, hu⟩
      rw [hu]
      clear hu
      go_wp2
      go_ret
      exact ⟨rfl, rfl⟩
    · rw [if_neg h2] at hr
      subst hr
      go_enter Tryz.func60, Tryz.ntmps60
      go_wp2_with fail
      with_reducible refine (isnanI_any x _).mono ?_
      rintro e u ⟨rfl, hu⟩
      rw [hu]
      clear hu
      go_wp2_with fail
      with_reducible refine (isnanI_any y _).mono ?_
      rintro e u ⟨rfl, hu⟩
      rw [hu]
      clear hu
      go_wp2
      go_ret
      exact ⟨rfl, rfl⟩

set_option maxHeartbeats 2000000 in
theorem birth_any (W : World) (bx b px py : Nat) (x y : ByteArray) (fx fy : Int) (c0 : W.cell? ⟨bx, 0, none⟩ = some (.map (some b)))
    (lx : ∀ n, (Instr.lookup 62 (.map (some b)) (.string x) false).run Tryz.prog (W.drewN n) = .ok (.pointer (some ⟨px, 0, none⟩)) (W.drewN n)) (ly : ∀ n, (Instr.lookup 62 (.map (some b)) (.string y) false).run Tryz.prog (W.drewN n) = .ok (.pointer (some ⟨py, 0, none⟩)) (W.drewN n))
    (cx : W.cell? ⟨px, 0, none⟩ = some (.int .i64 fx)) (cy : W.cell? ⟨py, 0, none⟩ = some (.int .i64 fy)) :
    Calls Tryz.prog 59 #[.string x, .string y, .pointer (some ⟨bx, 0, none⟩)] W fun e w' => e = .returned (.int .i64 (cmpI fx fy)) ∧ ∃ q, w' = W.drewN q := by
  have CI := hide (fun u => compareI_any fx fy u)
  generalize cmpI fx fy = r at CI ⊢
  have lx1 := lx 1
  have ly1 := ly 1
  clear lx ly
  go_enter Tryz.func59, Tryz.ntmps59
  go_upto_region 1 with fail
  refine wp_region_held_drew (S := fun u => u.cell? ⟨bx, 0, none⟩ = some (.map (some b)) ∧ u.cell? ⟨px, 0, none⟩ = some (.int .i64 fx) ∧ u.cell? ⟨py, 0, none⟩ = some (.int .i64 fy) ∧ (Instr.lookup 62 (.map (some b)) (.string x) false).run Tryz.prog u = .ok (.pointer (some ⟨px, 0, none⟩)) u ∧ (Instr.lookup 62 (.map (some b)) (.string y) false).run Tryz.prog u = .ok (.pointer (some ⟨py, 0, none⟩)) u) (by kernel_rfl) ⟨c0, cx, cy, lx1, ly1⟩ (fun hHeld => ?_)
  refine held_take (i := 0) (d := (some 6)) (v := ?_) rfl rfl (by kernel_rfl) (by kernel_rfl) (by kernel_rfl) (fun _ _ _ h => h) (Or.inl ⟨by rfl, ?_⟩) (by first | assumption | rfl | trivial) ?_
  rotate_left 1
  · (intro w hSw; (try dsimp only at hSw); (try subst hSw); go_simp; try with_reducible rfl)
  simp only [Act.put, List.setIfInBounds_toArray, List.set_cons_zero, List.set_cons_succ]
  refine held_take (i := 1) (d := (some 7)) (v := ?_) rfl rfl (by kernel_rfl) (by kernel_rfl) (by kernel_rfl) (fun _ _ _ h => h) (Or.inl ⟨by rfl, ?_⟩) (by first | assumption | rfl | trivial) ?_
  rotate_left 1
  · (intro w hSw; (try dsimp only at hSw); (try subst hSw); go_simp; try with_reducible rfl)
  simp only [Act.put, List.setIfInBounds_toArray, List.set_cons_zero, List.set_cons_succ]
  refine held_take (i := 2) (d := (some 8)) (v := ?_) rfl rfl (by kernel_rfl) (by kernel_rfl) (by kernel_rfl) (fun _ _ _ h => h) (Or.inl ⟨by rfl, ?_⟩) (by first | assumption | rfl | trivial) ?_
  rotate_left 1
  · (intro w hSw; (try dsimp only at hSw); (try subst hSw); go_simp; try with_reducible rfl)
  simp only [Act.put, List.setIfInBounds_toArray, List.set_cons_zero, List.set_cons_succ]
  refine held_take (i := 3) (d := (some 9)) (v := ?_) rfl rfl (by kernel_rfl) (by kernel_rfl) (by kernel_rfl) (fun _ _ _ h => h) (Or.inl ⟨by rfl, ?_⟩) (by first | assumption | rfl | trivial) ?_
  rotate_left 1
  · (intro w hSw; (try dsimp only at hSw); (try subst hSw); go_simp; try with_reducible rfl)
  simp only [Act.put, List.setIfInBounds_toArray, List.set_cons_zero, List.set_cons_succ]
  refine held_take (i := 4) (d := (some 10)) (v := ?_) rfl rfl (by kernel_rfl) (by kernel_rfl) (by kernel_rfl) (fun _ _ _ h => h) (Or.inl ⟨by rfl, ?_⟩) (by first | assumption | rfl | trivial) ?_
  rotate_left 1
  · (intro w hSw; (try dsimp only at hSw); (try subst hSw); go_simp; try with_reducible rfl)
  simp only [Act.put, List.setIfInBounds_toArray, List.set_cons_zero, List.set_cons_succ]
  refine held_take (i := 5) (d := (some 11)) (v := ?_) rfl rfl (by kernel_rfl) (by kernel_rfl) (by kernel_rfl) (fun _ _ _ h => h) (Or.inl ⟨by rfl, ?_⟩) (by first | assumption | rfl | trivial) ?_
  rotate_left 1
  · (intro w hSw; (try dsimp only at hSw); (try subst hSw); go_simp; try with_reducible rfl)
  simp only [Act.put, List.setIfInBounds_toArray, List.set_cons_zero, List.set_cons_succ]
  refine held_take (i := 6) (d := (some 12)) (v := ?_) rfl rfl (by kernel_rfl) (by kernel_rfl) (by kernel_rfl) (fun _ _ _ h => h) (Or.inl ⟨by rfl, ?_⟩) (by first | assumption | rfl | trivial) ?_
  rotate_left 1
  · (intro w hSw; (try dsimp only at hSw); (try subst hSw); go_simp; try with_reducible rfl)
  simp only [Act.put, List.setIfInBounds_toArray, List.set_cons_zero, List.set_cons_succ]
  refine held_take (i := 7) (d := (some 13)) (v := ?_) rfl rfl (by kernel_rfl) (by kernel_rfl) (by kernel_rfl) (fun _ _ _ h => h) (Or.inl ⟨by rfl, ?_⟩) (by first | assumption | rfl | trivial) ?_
  rotate_left 1
  · (intro w hSw; (try dsimp only at hSw); (try subst hSw); go_simp; try with_reducible rfl)
  simp only [Act.put, List.setIfInBounds_toArray, List.set_cons_zero, List.set_cons_succ]
  refine held_take (i := 8) (d := (some 14)) (v := ?_) rfl rfl (by kernel_rfl) (by kernel_rfl) (by kernel_rfl) (fun _ _ _ h => h) (Or.inl ⟨by rfl, ?_⟩) (by first | assumption | rfl | trivial) ?_
  rotate_left 1
  · (intro w hSw; (try dsimp only at hSw); (try subst hSw); go_simp; try with_reducible rfl)
  simp only [Act.put, List.setIfInBounds_toArray, List.set_cons_zero, List.set_cons_succ]
  refine held_take (i := 9) (d := (some 15)) (v := ?_) rfl rfl (by kernel_rfl) (by kernel_rfl) (by kernel_rfl) (fun _ _ _ h => h) (Or.inl ⟨by rfl, ?_⟩) (by first | assumption | rfl | trivial) ?_
  rotate_left 1
  · (intro w hSw; (try dsimp only at hSw); (try subst hSw); go_simp; try with_reducible rfl)
  simp only [Act.put, List.setIfInBounds_toArray, List.set_cons_zero, List.set_cons_succ]
  refine held_take (i := 10) (d := (some 16)) (v := ?_) rfl rfl (by kernel_rfl) (by kernel_rfl) (by kernel_rfl) (fun _ _ _ h => h) (Or.inl ⟨by rfl, ?_⟩) (by first | assumption | rfl | trivial) ?_
  rotate_left 1
  · (intro w hSw; (try dsimp only at hSw); (try subst hSw); go_simp; try with_reducible rfl)
  simp only [Act.put, List.setIfInBounds_toArray, List.set_cons_zero, List.set_cons_succ]
  refine held_take (i := 11) (d := (some 17)) (v := ?_) rfl rfl (by kernel_rfl) (by kernel_rfl) (by kernel_rfl) (fun _ _ _ h => h) (Or.inl ⟨by rfl, ?_⟩) (by first | assumption | rfl | trivial) ?_
  rotate_left 1
  · (intro w hSw; (try dsimp only at hSw); (try subst hSw); go_simp; try with_reducible rfl)
  simp only [Act.put, List.setIfInBounds_toArray, List.set_cons_zero, List.set_cons_succ]
  refine held_next (i := 12) (by kernel_rfl) rfl (by rfl) (fun K1 hK1 => ?_)
  go_simp
  with_reducible refine (CI.out _).mono ?_
  rintro e u ⟨rfl, hu⟩
  rw [hu]
  clear hu CI
  go_wp2_with fail
  refine hK1.out _ _ ⟨c0, cx, cy, lx1, ly1⟩ ?_
  clear hK1
  refine held_take (i := 13) (d := (some 5)) (v := ?_) rfl rfl (by kernel_rfl) (by kernel_rfl) (by kernel_rfl) (fun _ _ _ h => h) (Or.inl ⟨by rfl, ?_⟩) (by first | assumption | rfl | trivial) ?_
  rotate_left 1
  · (intro w hSw; (try dsimp only at hSw); (try subst hSw); go_simp; try with_reducible rfl)
  simp only [Act.put, List.setIfInBounds_toArray, List.set_cons_zero, List.set_cons_succ]
  clear hHeld
  refine wpAnyH_done (by kernel_rfl) ?_ _
  go_wp2
  go_ret
  exact ⟨rfl, 1, rfl⟩

/-- A name of these. -/
abbrev NmD (D : List Dn) := { p : Dn // p ∈ D }
def encD {D : List Dn} (p : NmD D) : Value := .string p.1.nm
def cmpD {D : List Dn} (x y : NmD D) : Int := cmpI (x.1.f : Int) (y.1.f : Int)
theorem ltD' {D : List Dn} (x y : NmD D) : ltOf cmpD x y = decide (x.1.f < y.1.f) := by
  unfold ltOf cmpD cmpI
  by_cases h1 : (x.1.f : Int) < (y.1.f : Int)
  · rw [if_pos h1, decide_eq_true (show x.1.f < y.1.f by omega)]; rfl
  · rw [if_neg h1, decide_eq_false (show ¬ x.1.f < y.1.f by omega)]
    by_cases h2 : (y.1.f : Int) < (x.1.f : Int)
    · rw [if_pos h2]; rfl
    · rw [if_neg h2]; rfl
theorem swoD {D : List Dn} : Go.Sort.SWO (ltOf (cmpD (D := D))) where
  irrefl x := by rw [ltD']; simp
  trans x y z h1 h2 := by rw [ltD', decide_eq_true_eq] at *; omega
  ntrans x y z h1 h2 := by rw [ltD', decide_eq_false_iff_not] at *; omega
theorem map_surj {α β : Type} (f : α → β) : ∀ {l : List β}, (∀ x ∈ l, ∃ p, f p = x) → ∃ r : List α, r.map f = l := by
  intro l
  induction l with
  | nil => intro _; exact ⟨[], rfl⟩
  | cons x t ih =>
    intro h
    obtain ⟨p, hp⟩ := h x (by simp)
    obtain ⟨r, hr⟩ := ih (fun y hy => h y (by simp [hy]))
    exact ⟨p :: r, by rw [List.map_cons, hp, hr]⟩
theorem sorted_kept {D : List Dn} (hD : NamesD D) {m : Nat} (hm : FilesIn m D) {l : List (NmD D)} {ss : List (List UInt8)} (hl : l.map (fun p => p.1.nm.toList) = ss) (hn : ss.Nodup) (hmem : ∀ p ∈ D, p.nm.toList ∈ ss) :
    (l.mergeSort fun x y => !(ltOf cmpD) y x).map (·.1) = keptF D m := by
  have hp := List.mergeSort_perm l (fun x y => !(ltOf cmpD) y x)
  have hs : (l.mergeSort fun x y => !(ltOf cmpD) y x).Pairwise (fun x y => x.1.f ≤ y.1.f) := by
    have := List.pairwise_mergeSort (le := fun x y : NmD D => !(ltOf cmpD) y x) (fun x y z h1 h2 => by
      simp only [ltD', Bool.not_eq_true', decide_eq_false_iff_not] at *
      omega) (fun x y => by
      simp only [ltD', Bool.or_eq_true, Bool.not_eq_true', decide_eq_false_iff_not]
      omega) l
    exact this.imp (fun h => by simp only [ltD', Bool.not_eq_true', decide_eq_false_iff_not] at h; omega)
  have hnd : (l.mergeSort fun x y => !(ltOf cmpD) y x).Nodup := by
    refine hp.nodup_iff.2 ?_
    rw [← hl] at hn
    exact (List.pairwise_map.1 hn).imp (fun h e => h (by rw [e]))
  have hst : (l.mergeSort fun x y => !(ltOf cmpD) y x).Pairwise (fun x y => x.1.f < y.1.f) := by
    refine (hs.and hnd).imp (fun {x y} h => ?_)
    have : x.1.f ≠ y.1.f := fun e => h.2 (Subtype.ext (inj_of_nodup hD.files x.2 y.2 e))
    have := h.1
    omega
  refine sorted_one (·.f) (List.pairwise_map.2 hst) (keptF_sorted hD.files m) (fun x => ?_)
  rw [keptF_mem hm, List.mem_map]
  constructor
  · rintro ⟨p, _, rfl⟩
    exact p.2
  · intro hx
    have h1 := hmem x hx
    rw [← hl, List.mem_map] at h1
    obtain ⟨p, hp1, e⟩ := h1
    have : p.1 = x := by
      refine inj_of_nodup hD.once p.2 hx (ba_ext e)
    exact ⟨p, hp.mem_iff.2 hp1, this⟩
theorem sortedV_below {α : Type} [Inhabited α] {enc : α → Value} {w : World} {base g m : Nat} {d : Array α} {os : Array Obj} (hg : base ≤ g) (hB : base ≤ w.heap.size) : Below base w (sortWorld enc w g 0 m d os) := by
  refine ⟨rfl, rfl, rfl, ?_, fun k hk => ?_⟩
  · show w.heap.size ≤ (w.heap.modify g _ ++ os).size
    rw [Array.size_append, Array.size_modify]
    omega
  · show (w.heap.modify g _ ++ os)[k]? = w.heap[k]?
    rw [Array.getElem?_append_left (by rw [Array.size_modify]; omega), Array.getElem?_modify, if_neg (by omega)]
theorem holds_names {D : List Dn} [Inhabited (NmD D)] {w : World} {g n c : Nat} {l : List (NmD D)} (h : w.ownsRow 0 9 1 (.slice (some ⟨g, 0, none⟩) n c) n (l.map encD)) : Go.Sort.Holds encD w g 0 l.toArray := by
  have hl : l.length = n := by simpa using h.1
  intro j hj
  have hj' : j < n := by simpa [hl] using hj
  have hjl : j < l.length := by omega
  refine ⟨?_, h.frozenAt _⟩
  have := h.cellAt j (by omega)
  rw [Nat.zero_add, this, List.getElem?_map, List.getElem?_eq_getElem hjl, getElem!_pos l.toArray j hj]
  simp

set_option maxHeartbeats 4000000 in
theorem byBirth_any (D : List Dn) (hD : NamesD D) (m : Nat) (hm : FilesIn m D) (b n : Nat) (fb : List Nat) (bx : Nat) (w : World) (hM : MapS w b n (nmV fb D)) (hbx : w.cell? ⟨bx, 0, none⟩ = some (.map (some b))) (hf : ∀ d ∈ D, w.cell? ⟨fb.getD d.f 0, 0, none⟩ = some (.int .i64 (d.f : Int))) (hl : D.length ≤ 4294967296) :
    Calls Tryz.prog 58 #[.func (.func 74) #[] #[.pointer (some ⟨w.heap.size, 0, none⟩)], .func (.func 59) #[] #[.pointer (some ⟨bx, 0, none⟩)]] (w.alloc (.cells #[.map (some b)] 62)) fun e w' =>
      ∃ a k c, e = .returned (.slice a k c) ∧ RowX w' a k ((keptF D m).map (·.nm)) ∧ Below w.heap.size w w' := by
  have b1 : Below w.heap.size w (w.alloc (.cells #[.map (some b)] 62)) := (Below.refl _ _).alloc (Nat.le_refl _) _
  have s1 : w.heap.size ≤ (w.alloc (.cells #[.map (some b)] 62)).heap.size := b1.size
  have HM := hide hM
  obtain ⟨X, hX, hR⟩ := hM
  obtain ⟨esz, -⟩ := size_of hX hR hD.once (names_mem hD)
  rw [List.length_map] at esz
  obtain ⟨hn, hmx⟩ := keys_mem hX
  have CO := hide ((callsIn_wide.1 (Tryz.slices_Collect_keys b n X heldE w hX (by unfold maxLen; omega) (by omega))).mono (R' := fun e w' => ∃ (v : Value) (l : List (NmD D)), e = .returned v ∧ w'.ownsRow w.heap.size 9 1 v l.length (l.map encD) ∧ (l.mergeSort fun x y => !(ltOf cmpD) y x).map (·.1) = keptF D m ∧ l.length ≤ 4294967296 ∧ Below w.heap.size w w') (by
    rintro e w' ⟨v, ss, rfl, hperm, hrow, -, hb⟩
    have hsn : ss.Nodup := hperm.nodup_iff.2 hn
    have hmem : ∀ x, x ∈ ss ↔ ∃ p ∈ D, p.nm.toList = x := fun x => by
      rw [hperm.mem_iff, hmx, ← ba_of', hR.has, ← names_mem hD, List.mem_map]
      constructor
      · rintro ⟨p, hp, e⟩
        exact ⟨p, hp, by rw [e, ByteArray.toList_eq]⟩
      · rintro ⟨p, hp, rfl⟩
        exact ⟨p, hp, ba_ext (by rw [ByteArray.toList_eq, ByteArray.toList_eq])⟩
    obtain ⟨l, hl2⟩ := map_surj (fun p : NmD D => p.1.nm.toList) (l := ss) (fun x hx => by
      obtain ⟨p, hp, e⟩ := (hmem x).1 hx
      exact ⟨⟨p, hp⟩, e⟩)
    have hll : ss.length = l.length := by rw [← hl2, List.length_map]
    have hlD : l.length ≤ 4294967296 := by
      rw [← hll, hperm.length_eq, strKeys_len hX, esz]; exact hl
    have he : ss.map encStr = l.map encD := by
      rw [← hl2, List.map_map]
      refine List.map_congr_left (fun p _ => ?_)
      show encStr p.1.nm.toList = .string p.1.nm
      unfold encStr
      rw [ByteArray.toList_eq]
    rw [he, hll] at hrow
    exact ⟨v, l, rfl, Joins.ownsRow_le hrow s1, sorted_kept hD hm hl2 hsn (fun p hp => (hmem _).2 ⟨p, hp, rfl⟩), hlD, bel_to b1 (Nat.le_refl _) hb⟩))
  have HF := hide hf
  have HBX := hide hbx
  have HD := hide hD
  clear hX hR hn hmx esz hD hm hf hl b1 s1
  go_enter Tryz.func58, Tryz.ntmps58
  go_wp2_with fail
  with_reducible refine CO.out.mono ?_
  rintro e w2 ⟨v, l, rfl, hrow, hk, hlen, b2⟩
  have hr0 := hrow
  rcases hrow.2 with ⟨rfl, hz⟩ | ⟨gb, cap, cur, rfl, hbase, hgb, r1, r2, r3, r4⟩
  · have hl0 : l = [] := List.length_eq_zero_iff.1 hz
    subst hl0
    have SF := hide (Tryz.slices_SortFunc_empty none 0 (.func (.func 59) #[] #[.pointer (some ⟨bx, 0, none⟩)]) w2)
    have HK : Hid ((keptF D m).map (·.nm) = []) := by show _ = _; rw [← hk]; simp
    have B2 := hide b2
    clear hrow hr0 hk b2 CO hz
    go_wp2_with fail
    with_reducible refine SF.out.mono ?_
    rintro e u ⟨rfl, hu⟩
    rw [hu]
    clear hu SF
    go_wp2
    go_ret
    exact ⟨none, 0, 0, rfl, by rw [HK.out]; exact ⟨rfl, by omega, Or.inl rfl⟩, B2.out⟩
  · cases l with
    | nil =>
      have SF := hide (Tryz.slices_SortFunc_empty (some ⟨gb, 0, none⟩) cap (.func (.func 59) #[] #[.pointer (some ⟨bx, 0, none⟩)]) w2)
      have HK : Hid ((keptF D m).map (·.nm) = []) := by show _ = _; rw [← hk]; simp
      have B2 := hide b2
      clear hrow hr0 hk b2 CO r1 r2 r3 r4 hgb
      go_wp2_with fail
      with_reducible refine SF.out.mono ?_
      rintro e u ⟨rfl, hu⟩
      rw [hu]
      clear hu SF
      go_wp2
      go_ret
      exact ⟨some ⟨gb, 0, none⟩, 0, cap, rfl, by rw [HK.out]; exact ⟨rfl, by omega, Or.inl rfl⟩, B2.out⟩
    | cons p0 t =>
      have iN : Inhabited (NmD D) := ⟨p0⟩
      generalize p0 :: t = l at *
      have hgl : gb < w2.heap.size := (Array.getElem?_eq_some_iff.1 hgb).1
      have hH : Go.Sort.Holds encD w2 gb 0 l.toArray := holds_names (row_mono hr0 (Nat.zero_le _))
      have hcmp : CmpLays1 Tryz.prog 59 #[.pointer (some ⟨bx, 0, none⟩)] (encD (D := D)) cmpD gb 0 l.toArray.size w2 := by
        intro mm os dk _ x y
        have bw : Below w.heap.size w (sortWorld encD w2 gb 0 mm dk os) := b2.trans (sortedV_below hbase b2.size)
        have mw := HM.out.below bw
        have lk : ∀ (z : NmD D) (q : Nat), (Instr.lookup 62 (.map (some b)) (.string z.1.nm) false).run Tryz.prog ((sortWorld encD w2 gb 0 mm dk os).drewN q) = .ok (.pointer (some ⟨fb.getD z.1.f 0, 0, none⟩)) ((sortWorld encD w2 gb 0 mm dk os).drewN q) := fun z q => by
          have := look_name1 (mw.drewN q) (mayN_max (HD.out.may _ z.2))
          rw [fileD_at HD.out z.2] at this
          exact this
        refine (birth_any (sortWorld encD w2 gb 0 mm dk os) bx b (fb.getD x.1.f 0) (fb.getD y.1.f 0) x.1.nm y.1.nm (x.1.f : Int) (y.1.f : Int) ((bw.cell (p := ⟨bx, 0, none⟩) (World.block_lt_of_cell? w _ HBX.out)).trans HBX.out) (lk x) (lk y) ?_ ?_).mono ?_
        · exact (bw.cell (p := ⟨fb.getD x.1.f 0, 0, none⟩) (World.block_lt_of_cell? w _ (HF.out _ x.2))).trans (HF.out _ x.2)
        · exact (bw.cell (p := ⟨fb.getD y.1.f 0, 0, none⟩) (World.block_lt_of_cell? w _ (HF.out _ y.2))).trans (HF.out _ y.2)
        · rintro e w' ⟨rfl, q, rfl⟩
          exact ⟨rfl, q, #[], by rw [Go.Sort.grow_empty]⟩
      have SF := hide (Tryz.slices_SortFunc_laid (α := NmD D) encD (fun p => rfl) cmpD swoD 59 #[.pointer (some ⟨bx, 0, none⟩)] gb 0 cap l.toArray w2 (enters_of Tryz.func59 (by kernel_rfl) rfl) hcmp hH hgl (by rw [List.size_toArray]; omega) (fun x y h1 h2 => by
        rw [ltD', decide_eq_false_iff_not] at h1 h2
        exact Subtype.ext (inj_of_nodup HD.out.files x.2 y.2 (by omega))))
      rw [List.size_toArray] at SF
      have FIN : Hid (∀ (n : Nat) (os : Array Obj), RowX (sortWorld encD w2 gb 0 n (l.toArray.toList.mergeSort fun x y => !(ltOf cmpD) y x).toArray os) (some ⟨gb, 0, none⟩) l.length ((keptF D m).map (·.nm)) ∧ Below w.heap.size w (sortWorld encD w2 gb 0 n (l.toArray.toList.mergeSort fun x y => !(ltOf cmpD) y x).toArray os)) := fun n os => by
        rw [List.toList_toArray, ← hk]
        refine ⟨⟨by rw [List.length_map, List.length_map, List.length_mergeSort], by omega, Or.inr ⟨gb, 0, rfl, fun i hi => ?_⟩⟩, b2.trans (sortedV_below hbase b2.size)⟩
        have hh := holds_sortWorld encD w2 gb 0 n l.toArray (l.mergeSort fun x y => !(ltOf cmpD) y x).toArray os hgl hH (by simp)
        have hi2 : i < (l.mergeSort fun x y => !(ltOf cmpD) y x).length := by rw [List.length_mergeSort]; exact hi
        have := (hh i (by simpa using hi2)).1
        rw [this, getElem!_pos _ i (by simpa using hi2), List.getD_eq_getElem?_getD, List.getElem?_map, List.getElem?_map, List.getElem?_eq_getElem hi2]
        rfl
      obtain ⟨ln, hln⟩ : ∃ ln, l.length = ln := ⟨_, rfl⟩
      rw [hln] at SF FIN ⊢
      clear hrow hr0 hk b2 CO r1 r2 r3 r4 hgb hcmp hH HM HF HBX
      go_wp2_with fail
      with_reducible refine SF.out.mono ?_
      rintro e u ⟨rfl, nn, os, hu⟩
      have F1 := hide (FIN.out nn os)
      rw [← hu] at F1
      clear hu SF FIN
      go_wp2
      go_ret
      exact ⟨some ⟨gb, 0, none⟩, ln, cap, rfl, F1.out.1, F1.out.2⟩
end Go.Proofs.YthlkmjaflomflaaGreat
