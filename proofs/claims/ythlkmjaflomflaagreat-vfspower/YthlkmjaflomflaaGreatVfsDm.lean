/-
  The landed file system: are names such as may be (areNames), is one too long (ContainsFunc), Laid: contracts, for every world.
  Conditions: the names and the bytes are told.
-/
import Derived.Test.YthlkmjaflomflaaGreatVfsDl
namespace Go.Proofs.YthlkmjaflomflaaGreat
open Go.RowKit Go.Maps
set_option maxRecDepth 20000
set_option linter.unusedVariables false

/-- Texts that there are. -/
def inN (l : List ByteArray) (t : ByteArray) : Bool := l.any fun x => decide (x = t)
theorem inN_iff {l : List ByteArray} {t : ByteArray} : inN l t = true ↔ t ∈ l := by
  unfold inN
  rw [List.any_eq_true]
  constructor
  · rintro ⟨x, hx, e⟩
    rw [decide_eq_true_eq] at e
    exact e ▸ hx
  · intro h
    exact ⟨t, h, by simp⟩
def setF (l : List ByteArray) : ByteArray → Option Value := fun t => if inN l t = true then some (.agg #[]) else none
theorem setF_put (l : List ByteArray) (s t : ByteArray) : updF (setF l) s (.agg #[]) t = setF (l ++ [s]) t := by
  unfold updF setF
  by_cases e : t = s
  · rw [if_pos e, if_pos (inN_iff.2 (by rw [e]; exact List.mem_append.2 (Or.inr (List.mem_singleton.2 rfl))))]
  · rw [if_neg e]
    by_cases q : t ∈ l
    · rw [if_pos (inN_iff.2 q), if_pos (inN_iff.2 (List.mem_append.2 (Or.inl q)))]
    · rw [if_neg (fun h => q (inN_iff.1 h)), if_neg (fun h => by
        rcases List.mem_append.1 (inN_iff.1 h) with h | h
        · exact q h
        · exact e (List.mem_singleton.1 h))]
/-- Names as they may be. -/
def areN (ns : List ByteArray) : Prop := (∀ s ∈ ns, mayN s = true) ∧ ns.Nodup
theorem zeroUn (w : World) : (zeroValue 119).run Tryz.prog w = .ok (.agg #[]) w := by kernel_rfl
theorem areN_nil : areN [] := ⟨fun s hs => by simp at hs, by simp⟩
theorem areN_snoc {l : List ByteArray} {s : ByteArray} : areN (l ++ [s]) ↔ areN l ∧ mayN s = true ∧ s ∉ l := by
  unfold areN
  rw [List.nodup_append]
  constructor
  · rintro ⟨h1, h2, _, h3⟩
    exact ⟨⟨fun t ht => h1 t (by simp [ht]), h2⟩, h1 s (by simp), fun e => h3 s e s (by simp) rfl⟩
  · rintro ⟨⟨h1, h2⟩, h3, h4⟩
    refine ⟨fun t ht => ?_, h2, by simp, fun a ha b hb e => ?_⟩
    · rcases List.mem_append.1 ht with e | e
      · exact h1 t e
      · obtain rfl := List.mem_singleton.1 e; exact h3
    · obtain rfl := List.mem_singleton.1 hb
      subst e
      exact h4 ha
theorem areN_pre {l r : List ByteArray} (h : areN (l ++ r)) : areN l := ⟨fun s hs => h.1 s (by simp [hs]), (List.nodup_append.1 h.2).1⟩

set_option maxHeartbeats 4000000 in
theorem arenames_any (a : Option Addr) (n c : Nat) (ns : List ByteArray) (w : World) (hr : RowX w a n ns) (hn : n ≤ 1099511627776) (hs : ∀ s ∈ ns, s.size ≤ maxLen) :
    Calls Tryz.prog 40 #[.slice a n c] w fun e w' => ∃ b, e = .returned (.bool b) ∧ (b = true ↔ areN ns) ∧ Below w.heap.size w w' := by
  have hl := hr.1
  have HR := hide hr
  have hmm := @run_makeMap Tryz.prog
  have m0 := mapS_new w
  have HS := hide hs
  have HL := hide hl
  have B0 : Hid (Below w.heap.size w (w.alloc (.map #[] 0))) := (Below.refl _ _).alloc (Nat.le_refl _) _
  have M0 : Hid (MapS (w.alloc (.map #[] 0)) w.heap.size 0 (setF (ns.take 0))) := m0.congr (fun s => by unfold setF inN; simp)
  clear hr hs m0 hl
  go_enter Tryz.func40, Tryz.ntmps40
  go_wp2
  go_loopw [11] (fun i wr => ∃ k : Nat, k ≤ n ∧ i = .int .i64 (k : Int) ∧ Hid (MapS wr w.heap.size k (setF (ns.take k))) ∧ Hid (areN (ns.take k)) ∧ Hid (Below w.heap.size w wr)) (fun i _ => n - (intOf i).toNat)
  case atStart => exact ⟨0, by omega, rfl, M0.out, by rw [List.take_zero]; exact areN_nil, B0⟩
  case round =>
    clear M0 B0
    obtain ⟨k, hk, rfl, HM, HA, HB⟩ := hrel
    obtain ⟨v, rfl⟩ : ∃ v, v = wr := ⟨wr, rfl⟩
    by_cases hlt : k < n
    · obtain ⟨b, off, rfl, hc⟩ := HR.out.2.2.resolve_left (by omega)
      have cs := hc k hlt
      have cs := (HB.out.cell (p := ⟨b, off + k, none⟩) (World.block_lt_of_cell? w _ cs)).trans cs
      have TK := hide (take_text (ss := ns) (k := k) (by rw [HL.out]; exact hlt))
      have hsz := getD_text (p := fun s => s.size ≤ maxLen) HS.out (i := k) (by rw [HL.out]; exact hlt)
      obtain ⟨s, hs⟩ : ∃ s, ns.getD k ByteArray.empty = s := ⟨_, rfl⟩
      rw [hs] at cs TK hsz
      have i1 : (0 : Int) ≤ (k : Int) := by omega
      have i2 : (k : Int) < (n : Int) := by omega
      have lk := HM.out.look_ok Tryz.underlying118 (zeroUn v) hsz
      have IN := hide (fun u => isname_any s u (by unfold maxLen at hsz; omega))
      have NOT : Hid (¬ areN (ns.take (k + 1)) → ¬ areN ns) := fun h q => h (by
        rw [← List.take_append_drop (k + 1) ns] at q
        exact areN_pre q)
      have AS := hide (areN_snoc (l := ns.take k) (s := s))
      rw [← TK.out] at AS
      clear hc hs
      by_cases htw : s ∈ ns.take k
      · have e1 : setF (ns.take k) s = some (.agg #[]) := by unfold setF; rw [if_pos (inN_iff.2 htw)]
        rw [e1] at lk
        dsimp only [Option.getD_some, Option.isSome_some] at lk
        have FIN : Hid (∀ u, Below w.heap.size w u → ∃ b, (Ending.returned (.bool false) : Ending) = .returned (.bool b) ∧ (b = true ↔ areN ns) ∧ Below w.heap.size w u) := fun u hu => ⟨false, rfl, ⟨fun h => by simp at h, fun h => absurd h (NOT.out (fun q => (AS.out.1 q).2.2 htw))⟩, hu⟩
        have SZ : Hid (w.heap.size ≤ v.heap.size) := HB.out.size
        have BV : Hid (Below w.heap.size w (v.alloc (.cells #[] 119))) := bel_al HB.out (Nat.le_refl _) _
        clear HM AS NOT TK HA IN
        go_wp2
        go_ret
        exact FIN.out _ BV.out
      · have e1 : setF (ns.take k) s = none := by unfold setF; rw [if_neg (fun h => htw (inN_iff.1 h))]
        rw [e1] at lk
        dsimp only [Option.getD_none, Option.isSome_none] at lk
        have BV : Hid (Below w.heap.size w (v.alloc (.cells #[] 119))) := bel_al HB.out (Nat.le_refl _) _
        cases hm : mayN s with
        | false =>
          have FIN : Hid (∀ u, Below w.heap.size w u → ∃ b, (Ending.returned (.bool false) : Ending) = .returned (.bool b) ∧ (b = true ↔ areN ns) ∧ Below w.heap.size w u) := fun u hu => ⟨false, rfl, ⟨fun h => by simp at h, fun h => absurd h (NOT.out (fun q => by have := (AS.out.1 q).2.1; rw [hm] at this; simp at this))⟩, hu⟩
          clear HM AS NOT TK HA
          go_wp2_with fail
          with_reducible refine (IN.out _).mono ?_
          rintro e u ⟨rfl, hu⟩
          rw [hu, hm]
          clear hu
          go_wp2
          go_ret
          exact FIN.out _ BV.out
        | true =>
          have HA2 : Hid (areN (ns.take (k + 1))) := AS.out.2 ⟨HA.out, hm, htw⟩
          obtain ⟨vA, hvA⟩ : ∃ vA, Hid (v.alloc (.cells #[] 119) = vA) := ⟨_, rfl⟩
          have MV := HM.out.below (show Below v.heap.size v vA by rw [← hvA.out]; exact (Below.refl _ _).alloc (Nat.le_refl _) _)
          obtain ⟨w2, r2, q2, g2⟩ := MV.store Tryz.underlying118 (by unfold maxLen; omega) hsz (.agg #[])
          rw [hvA.out] at BV
          have M2 : Hid (MapS w2 w.heap.size (k + 1) (setF (ns.take (k + 1)))) := q2.congr (fun t => by rw [TK.out]; exact setF_put _ _ _)
          have B2 : Hid (Below w.heap.size w w2) := BV.out.trans ((Ch.grown g2).below BV.out.size (fun j hj e => by have := Option.some.inj e; omega))
          clear HM AS NOT TK HA MV q2 g2
          go_wp2_with fail
          with_reducible refine (IN.out _).mono ?_
          rintro e u ⟨rfl, hu⟩
          rw [hu, hm, hvA.out]
          clear hu hvA
          go_wp2
          go_roundw
          case rel => exact ⟨k + 1, by omega, by go_num, M2, HA2, B2⟩
          case measure => simp [intOf]; omega
    · obtain rfl : k = n := by omega
      have FIN : Hid (∃ b, (Ending.returned (.bool true) : Ending) = .returned (.bool b) ∧ (b = true ↔ areN ns) ∧ Below w.heap.size w v) := ⟨true, rfl, ⟨fun _ => by have := HA.out; rwa [List.take_of_length_le (by rw [HL.out]; exact Nat.le_refl _)] at this, fun _ => rfl⟩, HB.out⟩
      clear HM HA HB
      go_wp2
      go_ret
      exact FIN.out

/-- A slice of n slices of bytes. -/
structure RowBB (w : World) (a : Option Addr) (n : Nat) (hs : List H3) (ds : List (List Int)) : Prop where
  len : ds.length = n
  hlen : hs.length = n
  cells : n = 0 ∨ ∃ b off, a = some ⟨b, off, none⟩ ∧ ∀ i h, hs[i]? = some h → w.cell? ⟨b, off + i, none⟩ = some (.slice h.1 h.2.1 h.2.2)
  each : ∀ (i : Nat) (h : H3) (d : List Int), hs[i]? = some h → ds[i]? = some d → Row .u8 w h.1 h.2.1 d ∧ h.2.1 ≤ h.2.2 ∧ (h.1 = none → h.2.2 = 0)
theorem RowBB.below {B : Nat} {w w' : World} {a : Option Addr} {n : Nat} {hs : List H3} {ds : List (List Int)} (h : RowBB w a n hs ds) (hb : Below B w w') (hB : w.heap.size ≤ B) : RowBB w' a n hs ds := by
  refine ⟨h.len, h.hlen, ?_, fun i x d h1 h2 => ⟨(h.each i x d h1 h2).1.below hb hB, (h.each i x d h1 h2).2⟩⟩
  rcases h.cells with e | ⟨b, off, e, hc⟩
  · exact Or.inl e
  · refine Or.inr ⟨b, off, e, fun i x hx => ?_⟩
    have c := hc i x hx
    exact (hb.cell (p := ⟨b, off + i, none⟩) (Nat.lt_of_lt_of_le (World.block_lt_of_cell? w _ c) hB)).trans c
theorem RowBB.at' {w : World} {a : Option Addr} {n : Nat} {hs : List H3} {ds : List (List Int)} (h : RowBB w a n hs ds) {k : Nat} (hk : k < n) : ∃ (b off : Nat) (x : H3) (d : List Int), a = some ⟨b, off, none⟩ ∧ w.cell? ⟨b, off + k, none⟩ = some (.slice x.1 x.2.1 x.2.2) ∧ ds[k]? = some d ∧ Row .u8 w x.1 x.2.1 d ∧ x.2.1 ≤ x.2.2 ∧ (x.1 = none → x.2.2 = 0) := by
  obtain ⟨b, off, e, hc⟩ := h.cells.resolve_left (by omega)
  have h1 : hs[k]? = some (hs[k]'(by rw [h.hlen]; exact hk)) := List.getElem?_eq_getElem _
  have h2 : ds[k]? = some (ds[k]'(by rw [h.len]; exact hk)) := List.getElem?_eq_getElem _
  exact ⟨b, off, _, _, e, hc k _ h1, h2, (h.each k _ _ h1 h2).1, (h.each k _ _ h1 h2).2⟩

theorem toolong_any (a : Option Addr) (n c : Nat) (w : World) : Calls Tryz.prog 41 #[.slice a n c] w fun e w' => e = .returned (.bool (decide (1073741824 < n))) ∧ w' = w := by
  by_cases h : 1073741824 < n
  · rw [decide_eq_true h]
    have d1 : (1073741824 : Int) < (n : Int) := by omega
    go_enter Tryz.func41, Tryz.ntmps41
    go_wp2
    go_ret
    exact ⟨rfl, rfl⟩
  · rw [decide_eq_false h]
    have d1 : ¬ (1073741824 : Int) < (n : Int) := by omega
    go_enter Tryz.func41, Tryz.ntmps41
    go_wp2
    go_ret
    exact ⟨rfl, rfl⟩

set_option maxHeartbeats 2000000 in
theorem indexlong_any (a : Option Addr) (n c : Nat) (hs : List H3) (ds : List (List Int)) (w : World) (hr : RowBB w a n hs ds) (hn : n ≤ 1099511627776) :
    Calls Tryz.prog 70 #[.slice a n c, .func (.func 41) #[] #[]] w fun e w' => ∃ z : Int, e = .returned (.int .i64 z) ∧ (0 ≤ z ↔ ∃ b ∈ ds, 1073741824 < b.length) ∧ w' = w := by
  have HR := hide hr
  have HL := hide hr.len
  clear hr
  go_enter Tryz.func70, Tryz.ntmps70
  go_wp2
  go_loopw [8] (fun i wr => ∃ k : Nat, k ≤ n ∧ i = .int .i64 (k : Int) ∧ Hid (∀ b ∈ ds.take k, ¬ 1073741824 < b.length) ∧ wr = w) (fun i _ => n - (intOf i).toNat)
  case atStart => exact ⟨0, by omega, rfl, (fun b hb => by simp at hb), rfl⟩
  case round =>
    obtain ⟨k, hk, rfl, HA, rfl⟩ := hrel
    by_cases hlt : k < n
    · obtain ⟨b, off, x, d, rfl, cx, hd, hrow, -, -⟩ := HR.out.at' hlt
      have hdl := hrow.1
      have TL := hide (toolong_any x.1 x.2.1 x.2.2 wr)
      have i1 : (0 : Int) ≤ (k : Int) := by omega
      have i2 : (k : Int) < (n : Int) := by omega
      have HD := hide hd
      obtain ⟨xa, xn, xc⟩ := x
      dsimp only at cx hdl TL hrow
      clear hd hrow
      by_cases hlong : 1073741824 < xn
      · rw [decide_eq_true hlong] at TL
        have FIN : Hid ((0 : Int) ≤ (k : Int) ↔ ∃ b ∈ ds, 1073741824 < b.length) := ⟨fun _ => ⟨d, List.mem_of_getElem? HD.out, by omega⟩, fun _ => by omega⟩
        go_wp2_with fail
        with_reducible refine TL.out.mono ?_
        rintro e u ⟨rfl, hu⟩
        rw [hu]
        clear hu
        go_wp2
        go_ret
        exact ⟨(k : Int), rfl, FIN.out, rfl⟩
      · rw [decide_eq_false hlong] at TL
        have HA2 : Hid (∀ b ∈ ds.take (k + 1), ¬ 1073741824 < b.length) := fun b hb => by
          obtain ⟨hk2, e2⟩ := List.getElem?_eq_some_iff.1 HD.out
          rw [List.take_succ_eq_append_getElem hk2, e2] at hb
          rcases List.mem_append.1 hb with q | q
          · exact HA.out b q
          · obtain rfl := List.mem_singleton.1 q
            omega
        clear HA
        go_wp2_with fail
        with_reducible refine TL.out.mono ?_
        rintro e u ⟨rfl, hu⟩
        rw [hu]
        clear hu
        go_wp2
        go_roundw
        case rel => exact ⟨k + 1, by omega, by go_num, HA2, by trivial⟩
        case measure => simp [intOf]; omega
    · obtain rfl : k = n := by omega
      have FIN : Hid ((0 : Int) ≤ -1 ↔ ∃ b ∈ ds, 1073741824 < b.length) := ⟨fun h => by omega, fun ⟨b, hb, hl⟩ => by
        have := HA.out b (by rw [List.take_of_length_le (by rw [HL.out]; exact Nat.le_refl _)]; exact hb)
        omega⟩
      go_wp2
      go_ret
      exact ⟨-1, rfl, FIN.out, rfl⟩
theorem contlong_any (a : Option Addr) (n c : Nat) (hs : List H3) (ds : List (List Int)) (w : World) (hr : RowBB w a n hs ds) (hn : n ≤ 1099511627776) :
    Calls Tryz.prog 42 #[.slice a n c, .func (.func 41) #[] #[]] w fun e w' => ∃ b, e = .returned (.bool b) ∧ (b = true ↔ ∃ b ∈ ds, 1073741824 < b.length) ∧ w' = w := by
  have IX := hide (indexlong_any a n c hs ds w hr hn)
  clear hr
  go_enter Tryz.func42, Tryz.ntmps42
  go_wp2_with fail
  with_reducible refine IX.out.mono ?_
  rintro e u ⟨z, rfl, hz, hu⟩
  rw [hu]
  clear hu IX
  have HZ : Hid (decide (0 ≤ z) = true ↔ ∃ b ∈ ds, 1073741824 < b.length) := by
    show _ ↔ _
    rw [decide_eq_true_eq]
    exact hz
  clear hz
  go_wp2
  go_ret
  exact ⟨decide (0 ≤ z), rfl, HZ.out, rfl⟩
end Go.Proofs.YthlkmjaflomflaaGreat
