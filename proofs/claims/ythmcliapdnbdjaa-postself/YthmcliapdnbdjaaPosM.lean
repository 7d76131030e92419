/-
  Lists of lists of numbers in memory, and the document's Most: a contract, for every world.
  Conditions: at most ten lists of at most 200 numbers each.
-/
import Derived.Test.YthmcliapdnbdjaaPosS
namespace Go.Proofs.Ythmcliapdnbdjaa
open Go.RowKit
set_option maxRecDepth 20000

/-- A row of lists. -/
def RowII (w : World) (a : Option Addr) (n : Nat) (ls : List (List Int)) : Prop :=
  ls.length = n ∧ n * 24 ≤ 140737488355328 ∧ (n = 0 ∨ ∃ b off, a = some ⟨b, off, none⟩ ∧ ∀ i, i < n → ∃ a' n' c', w.cell? ⟨b, off + i, none⟩ = some (.slice a' n' c') ∧ SlI w a' n' c' (ls.getD i []))
section
variable {w w' : World} {a : Option Addr} {n : Nat} {ls : List (List Int)}
theorem RowII.below {B : Nat} (h : RowII w a n ls) (hb : Below B w w') (hB : w.heap.size ≤ B) : RowII w' a n ls := by
  obtain ⟨h1, h2, h3⟩ := h
  refine ⟨h1, h2, ?_⟩
  rcases h3 with h3 | ⟨b, off, rfl, hc⟩
  · exact Or.inl h3
  · refine Or.inr ⟨b, off, rfl, fun i hi => ?_⟩
    obtain ⟨a', n', c', q1, q2⟩ := hc i hi
    have hlt : b < w.heap.size := World.block_lt_of_cell? w _ q1
    refine ⟨a', n', c', ?_, q2.below hb hB⟩
    rw [hb.cell (p := ⟨b, off + i, none⟩) (show b < B by omega)]
    exact q1
theorem RowII.at' (h : RowII w a n ls) {i : Nat} (hi : i < n) : ∃ b off a' n' c', a = some ⟨b, off, none⟩ ∧ w.cell? ⟨b, off + i, none⟩ = some (.slice a' n' c') ∧ SlI w a' n' c' (ls.getD i []) := by
  obtain ⟨h1, h2, h3 | ⟨b, off, rfl, hc⟩⟩ := h
  · omega
  · obtain ⟨a', n', c', q1, q2⟩ := hc i hi
    exact ⟨b, off, a', n', c', rfl, q1, q2⟩
end
theorem getL_mem {ls : List (List Int)} {i : Nat} (h : i < ls.length) : ls.getD i [] ∈ ls := by
  rw [List.getD_eq_getElem?_getD, List.getElem?_eq_getElem h]
  exact List.getElem_mem h
theorem takeL_get {ls : List (List Int)} {k : Nat} (h : k < ls.length) : ls.take (k + 1) = ls.take k ++ [ls.getD k []] := by
  rw [List.take_succ_eq_append_getElem h, List.getD_eq_getElem?_getD, List.getElem?_eq_getElem h]
  rfl
/-- All numbers of the first k lists, and of the first j of the next. -/
def unJ (ls : List (List Int)) (k j : Nat) : List Int := ((ls.take k).flatten ++ (ls.getD k []).take j).foldl (fun l v => insI v l) []
theorem unJ_up (ls : List (List Int)) (k j : Nat) : upI (unJ ls k j) := (foldI upI_nil).1
theorem unJ_len (ls : List (List Int)) (k j : Nat) (h : ∀ l ∈ ls, l.length ≤ 200) (hk : k ≤ 10) : (unJ ls k j).length ≤ 2400 := by
  have h1 := len_fold ((ls.take k).flatten ++ (ls.getD k []).take j) []
  have h2 : (ls.getD k []).length ≤ 200 := by
    by_cases hi : k < ls.length
    · exact h _ (getL_mem hi)
    · rw [List.getD_eq_getElem?_getD, List.getElem?_eq_none (by omega)]
      simp
  have h3 : ∀ (m : List (List Int)), (∀ l ∈ m, l.length ≤ 200) → m.flatten.length ≤ 200 * m.length := by
    intro m
    induction m with
    | nil => simp
    | cons x t ih =>
      intro hm
      have e1 := hm x (by simp)
      have e2 := ih (fun l hl => hm l (by simp [hl]))
      rw [List.flatten_cons, List.length_append, List.length_cons]
      omega
  have h4 := h3 (ls.take k) (fun l hl => h l (List.mem_of_mem_take hl))
  have h5 : (ls.take k).length ≤ k := List.length_take_le k ls
  unfold unJ
  simp only [List.length_nil, Nat.zero_add, List.length_append, List.length_take] at h1
  omega
theorem unJ_step {ls : List (List Int)} {k j : Nat} (hj : j < (ls.getD k []).length) : unJ ls k (j + 1) = insI ((ls.getD k []).getD j 0) (unJ ls k j) := by
  unfold unJ
  rw [take_get hj, ← List.append_assoc, List.foldl_append]
  rfl
theorem unJ_next {ls : List (List Int)} {k j : Nat} (hk : k < ls.length) (hj : (ls.getD k []).length ≤ j) : unJ ls k j = unJ ls (k + 1) 0 := by
  unfold unJ
  rw [takeL_get hk, List.flatten_append, List.take_of_length_le hj]
  simp
theorem unJ_all {ls : List (List Int)} {k : Nat} (hk : ls.length ≤ k) : unJ ls k 0 = unI ls := by
  unfold unJ unI
  rw [List.take_of_length_le hk]
  simp
theorem mem_unJ {ls : List (List Int)} {k j : Nat} {x : Int} (h : x ∈ unJ ls k j) : ∃ l ∈ ls, x ∈ l := by
  unfold unJ at h
  rw [(foldI upI_nil).2] at h
  rcases h with h | h
  · cases h
  · rcases List.mem_append.1 h with h | h
    · obtain ⟨l, hl, hx⟩ := List.mem_flatten.1 h
      exact ⟨l, List.mem_of_mem_take hl, hx⟩
    · by_cases hi : k < ls.length
      · exact ⟨_, getL_mem hi, List.mem_of_mem_take h⟩
      · rw [List.getD_eq_getElem?_getD, List.getElem?_eq_none (by omega)] at h
        simp at h
/-- Which of them may be told. -/
def manyB (ls : List (List Int)) (k : Int) (x : Int) : Bool := decide (k ≤ (cntI ls x : Int))
theorem cnt_step {ls : List (List Int)} {j : Nat} {x : Int} (h : j < ls.length) : cntI (ls.take (j + 1)) x = cntI (ls.take j) x + if x ∈ ls.getD j [] then 1 else 0 := by
  rw [takeL_get h]
  unfold cntI
  rw [List.countP_append]
  by_cases hx : x ∈ ls.getD j []
  · rw [if_pos hx, List.countP_cons, List.countP_nil, if_pos (decide_eq_true hx)]
  · rw [if_neg hx, List.countP_cons, List.countP_nil, if_neg (by rw [decide_eq_false hx]; decide)]
theorem keepM {wr v v' : World} {p q : Addr} {y z : Value} (hp : p.block < wr.heap.size) (hq : q.block < wr.heap.size) (hb : Below v.heap.size v v') (h : v.cell? p = some y ∧ v.cell? q = some z ∧ Hid (Below wr.heap.size wr v)) : v'.cell? p = some y ∧ v'.cell? q = some z ∧ Hid (Below wr.heap.size wr v') := by
  obtain ⟨h1, h2, h3⟩ := h
  have hs := h3.size
  refine ⟨?_, ?_, bel_to h3 (Nat.le_refl _) hb⟩
  · rw [hb.cell (by omega)]; exact h1
  · rw [hb.cell (by omega)]; exact h2

set_option maxHeartbeats 16000000 in
theorem rmost_any (a : Option Addr) (n cap : Nat) (ls : List (List Int)) (kk : Int) (w : World) (hs : RowII w a n ls) (hn : n ≤ 10) (hl : ∀ l ∈ ls, l.length ≤ 200) :
    Calls Try.prog 15 #[.slice a n cap, .int .i64 kk] w fun e w' => ∃ a' n' c', e = .returned (.slice a' n' c') ∧ SlI w' a' n' c' (mostS ls kk) ∧ Below w.heap.size w w' := by
  obtain ⟨i0, hi, hz0, hz1, hz2⟩ := info_parts Try.infoI
  have HS := hide hs
  have HL := hide hs.1
  have HLL := hide hl
  have HUL : Hid (∀ k j, k ≤ 10 → (unJ ls k j).length ≤ 2400) := fun k j hk => unJ_len ls k j hl hk
  have HWF : Hid (∀ x, (∃ l ∈ ls, x ∈ l) → (Lit.int .i64 x).wf = true) := by
    rintro x ⟨l, hl', hx⟩
    obtain ⟨i, hi', e⟩ := List.mem_iff_getElem.1 hl'
    obtain ⟨b, off, a', n', c', -, -, q⟩ := hs.at' (i := i) (by rw [← hs.1]; exact hi')
    rw [List.getD_eq_getElem?_getD, List.getElem?_eq_getElem hi'] at q
    exact q.wf x (by rw [← e] at hx; exact hx)
  clear hs hl
  go_enter Try.func15, Try.ntmps15
  go_upto_block 0 with fail
  go_cut [5] (fun x wx => ∃ (ar : Option Addr) (L cr : Nat), x = .slice ar L cr ∧ L ≤ 2400 ∧ Hid (SlI wx ar L cr (unI ls)) ∧ Hid (∀ l ∈ ls, upI l) ∧ Hid (Below w.heap.size w wx))
  case first =>
    go_wp2
    go_loopw [5, 6] (fun x i wr => ∃ (k : Nat) (ar : Option Addr) (L cr : Nat), k ≤ n ∧ i = .int .i64 k ∧ x = .slice ar L cr ∧ L ≤ 2400 ∧ Hid (SlI wr ar L cr (unJ ls k 0)) ∧ Hid (∀ l ∈ ls.take k, upI l) ∧ Hid (Below w.heap.size w wr)) (fun _ i _ => n - (intOf i).toNat)
    case atStart =>
      refine ⟨0, none, 0, 0, by omega, rfl, rfl, by omega, ?_, ?_, Below.refl _ _⟩
      · show SlI _ _ _ _ _
        unfold unJ
        simp
        exact sli_nil _
      · show ∀ l ∈ _, _
        intro l hl
        simp at hl
    case round =>
      obtain ⟨k, ar, L, cr, hk, rfl, rfl, hL, SL, HU, BW⟩ := hrel
      obtain ⟨u, rfl⟩ : ∃ u, u = wr := ⟨wr, rfl⟩
      by_cases hlt : k < n
      · obtain ⟨b, off, a1, n1, c1, e, g00, q1⟩ := HS.out.at' hlt
        subst e
        have HC : Hid (∀ u, Below w.heap.size w u → u.cell? ⟨b, off + k, none⟩ = some (.slice a1 n1 c1)) := fun u hu => by
          rw [hu.cell (p := ⟨b, off + k, none⟩) (World.block_lt_of_cell? w _ g00)]
          exact g00
        have g0 := HC.out u BW.out
        have i1 : (0 : Int) ≤ (k : Int) := by omega
        have i2 : (k : Int) < (n : Int) := by omega
        have hlk : k < ls.length := by rw [HL.out]; exact hlt
        have HK := hide hlk
        have hn1 : n1 ≤ 200 := by rw [← q1.len]; exact HLL.out _ (getL_mem hlk)
        have RR := hide (rrises_any a1 n1 c1 _ u (q1.below BW.out (Nat.le_refl _)))
        have Q1 := hide q1
        have HN1 : Hid ((ls.getD k []).length = n1) := q1.len
        have HM1 : Hid (∀ x ∈ ls.getD k [], (Lit.int .i64 x).wf = true) := q1.wf
        clear q1 hlk g00
        by_cases hup : upI (ls.getD k [])
        · rw [decide_eq_true hup] at RR
          have HU1 : Hid (∀ l ∈ ls.take (k + 1), upI l) := by
            show ∀ l ∈ _, _
            rw [takeL_get HK.out]
            intro l hl
            rcases List.mem_append.1 hl with h | h
            · exact HU.out l h
            · rw [List.mem_singleton] at h
              rw [h]
              exact hup
          clear hup
          go_wp2_with fail
          with_reducible refine RR.out.mono ?_
          rintro e u1 ⟨rfl, b1⟩
          have B1 := hide (bel_to BW.out (Nat.le_refl _) b1)
          have S1 := hide (SL.out.below b1 (Nat.le_refl _))
          clear b1 RR g0
          go_wp2
          go_loopw [5, 7] (fun x i wr => ∃ (j : Nat) (ar : Option Addr) (L cr : Nat), j ≤ n1 ∧ i = .int .i64 j ∧ x = .slice ar L cr ∧ L ≤ 2400 ∧ Hid (SlI wr ar L cr (unJ ls k j)) ∧ Hid (Below w.heap.size w wr)) (fun _ i _ => n1 - (intOf i).toNat)
          case atStart => exact ⟨0, ar, L, cr, by omega, rfl, rfl, hL, S1, B1⟩
          case round =>
            clear S1 B1 SL BW hL
            obtain ⟨j, ar, L, cr, hj, rfl, rfl, hL, SL, BW⟩ := hrel
            have g0 := HC.out wr BW.out
            by_cases hjt : j < n1
            · obtain ⟨b2, off2, e, g1⟩ := (Q1.out.below BW.out (Nat.le_refl _)).at' hjt
              subst e
              have j1 : (0 : Int) ≤ (j : Int) := by omega
              have j2 : (j : Int) < (n1 : Int) := by omega
              have ST := hide (unJ_step (ls := ls) (k := k) (j := j) (by rw [HN1.out]; exact hjt))
              have HV : Hid ((Lit.int .i64 ((ls.getD k []).getD j 0)).wf = true) := HM1.out _ (getD_mem' (by rw [HN1.out]; exact hjt))
              generalize (ls.getD k []).getD j 0 = x at *
              have PT := hide (rputI_any x ar L cr _ wr SL.out (unJ_up ls k j) (by omega) HV.out)
              rw [← ST.out] at PT
              go_wp2_with fail
              with_reducible refine PT.out.mono ?_
              rintro e u3 ⟨a3, L3, c3, rfl, s3, b3⟩
              have hL3 : L3 ≤ 2400 := by rw [← s3.len]; exact HUL.out k (j + 1) (by omega)
              have S3 := hide s3
              have B3 := hide (bel_to BW.out (Nat.le_refl _) b3)
              clear s3 b3 PT SL BW ST g0 g1
              go_wp2
              go_roundw
              case rel => exact ⟨j + 1, a3, L3, c3, by omega, by go_num, rfl, hL3, S3, B3⟩
              case measure => simp [intOf]; omega
            · have j2 : ¬ (j : Int) < (n1 : Int) := by omega
              rw [unJ_next HK.out (by rw [HN1.out]; omega)] at SL
              clear Q1 HM1 HC
              go_wp2
              go_roundw
              case rel => exact ⟨k + 1, ar, L, cr, by omega, by go_num, rfl, hL, SL, HU1, BW⟩
              case measure => simp [intOf]; omega
        · rw [decide_eq_false hup] at RR
          have HE : Hid (mostS ls kk = []) := by
            show _ = _
            unfold mostS
            rw [if_pos (Or.inr (fun h => hup (h _ (getL_mem HK.out))))]
          clear hup
          go_wp2_with fail
          with_reducible refine RR.out.mono ?_
          rintro e u1 ⟨rfl, b1⟩
          have B1 := hide (bel_to BW.out (Nat.le_refl _) b1)
          clear b1 RR g0
          go_wp2
          go_ret
          rw [HE.out]
          exact ⟨none, 0, 0, rfl, sli_nil _, B1.out⟩
      · have i2 : ¬ (k : Int) < (n : Int) := by omega
        have hkk : Hid (ls.take k = ls) := List.take_of_length_le (by rw [HL.out]; omega)
        rw [hkk.out] at HU
        rw [unJ_all (by rw [HL.out]; omega)] at SL
        go_wp2
        go_meet
        case rel => exact ⟨ar, L, cr, rfl, hL, SL, HU, BW⟩
  case rest =>
    obtain ⟨ar, L, cr, rfl, hL, SL, HU, BW⟩ := hcut
    obtain ⟨y, rfl⟩ : ∃ y, y = wc := ⟨wc, rfl⟩
    have hLu : Hid ((unI ls).length = L) := SL.out.len
    have BW0 := hide BW.out
    by_cases hk1 : kk < 1
    · have HE : Hid (mostS ls kk = []) := by
        show _ = _
        unfold mostS
        rw [if_pos (Or.inl hk1)]
      go_wp2
      go_ret
      rw [HE.out]
      exact ⟨none, 0, 0, rfl, sli_nil _, BW.out⟩
    · have HE : Hid (mostS ls kk = (unI ls).filter (manyB ls kk)) := by
        show _ = _
        unfold mostS
        rw [if_neg (by rintro (h | h); exact hk1 h; exact h HU.out)]
        rfl
      have HPF : Hid (∀ k, (((unI ls).take k).filter (manyB ls kk)).length ≤ 2400) := fun k => by
        have h1 := List.length_filter_le (manyB ls kk) ((unI ls).take k)
        have h2 := hLu.out
        rw [List.length_take] at h1
        omega
      go_wp2
      go_loopw [8, 9] (fun x i wr => ∃ (k : Nat) (ao : Option Addr) (M co : Nat), k ≤ L ∧ i = .int .i64 k ∧ x = .slice ao M co ∧ M ≤ 2400 ∧ Hid (MineI wr y.heap.size ao M co (((unI ls).take k).filter (manyB ls kk))) ∧ Hid (Below y.heap.size y wr)) (fun _ i _ => L - (intOf i).toNat)
      case atStart => exact ⟨0, none, 0, 0, by omega, rfl, rfl, by omega, own_nil _ _ _ _, Below.refl _ _⟩
      case round =>
        obtain ⟨k, ao, M, co, hk, rfl, rfl, hM, OW, BC⟩ := hrel
        obtain ⟨z, rfl⟩ : ∃ z, z = wr := ⟨wr, rfl⟩
        have BWr := hide (bel_to BW0.out (Nat.le_refl _) BC.out)
        by_cases hlt : k < L
        · obtain ⟨b, off, e, g0⟩ := (SL.out.below BC.out (Nat.le_refl _)).at' hlt
          subst e
          have i1 : (0 : Int) ≤ (k : Int) := by omega
          have i2 : (k : Int) < (L : Int) := by omega
          have TG := hide (take_get (ls := unI ls) (k := k) (by rw [hLu.out]; exact hlt))
          have HV : Hid ((Lit.int .i64 ((unI ls).getD k 0)).wf = true) := HWF.out _ (mem_unI.1 (getD_mem' (by rw [hLu.out]; exact hlt)))
          generalize (unI ls).getD k 0 = x at *
          go_upto_block 6 with fail
          go_cut [10] (fun i wx => i = .int .i64 (cntI ls x : Int) ∧ Hid (Below z.heap.size z wx))
          case first =>
            go_wp2
            go_loopw [10, 11] (fun c i wq => ∃ (j : Nat), j ≤ n ∧ i = .int .i64 j ∧ c = .int .i64 (cntI (ls.take j) x : Int) ∧ Hid (Below z.heap.size z wq)) (fun _ i _ => n - (intOf i).toNat)
            case atStart => exact ⟨0, by omega, rfl, rfl, Below.refl _ _⟩
            case round =>
              obtain ⟨j, hj, rfl, rfl, BQ⟩ := hrel
              by_cases hjt : j < n
              · obtain ⟨bl, offl, a1, n1, c1, e, g1, q1⟩ := (HS.out.below BWr.out (Nat.le_refl _)).at' hjt
                subst e
                have j1 : (0 : Int) ≤ (j : Int) := by omega
                have j2 : (j : Int) < (n : Int) := by omega
                have CS := hide (cnt_step (ls := ls) (j := j) (x := x) (by rw [HL.out]; exact hjt))
                have CLE : cntI (ls.take j) x ≤ 10 := by
                  have h1 := cntI_le (ls.take j) x
                  have h2 : (ls.take j).length ≤ j := List.length_take_le j ls
                  omega
                have T : Hid (∀ u, (u.cell? ⟨bl, offl + j, none⟩ = some (.slice a1 n1 c1) ∧ u.cell? ⟨b, off + k, none⟩ = some (.int .i64 x) ∧ Hid (Below z.heap.size z u)) → Calls Try.prog 29 #[.slice a1 n1 c1, .int .i64 x] u fun e w' => e = .returned (.bool (decide (x ∈ ls.getD j []))) ∧ Below u.heap.size u w') := fun u hu => (rin_any x a1 n1 c1 _ u (q1.below hu.2.2.out (Nat.le_refl _))).mono fun e w' ⟨he, hw⟩ => ⟨he, by rw [hw]; exact Below.refl _ _⟩
                have HP : Hid (bl < z.heap.size ∧ b < z.heap.size) := ⟨World.block_lt_of_cell? z _ g1, World.block_lt_of_cell? z _ g0⟩
                have S0 : Hid (wr.drew.cell? ⟨bl, offl + j, none⟩ = some (.slice a1 n1 c1) ∧ wr.drew.cell? ⟨b, off + k, none⟩ = some (.int .i64 x) ∧ Hid (Below z.heap.size z wr.drew)) := by
                  refine ⟨?_, ?_, BQ.out.drew⟩
                  · rw [BQ.out.drew.cell (p := ⟨bl, offl + j, none⟩) HP.out.1]; exact g1
                  · rw [BQ.out.drew.cell (p := ⟨b, off + k, none⟩) HP.out.2]; exact g0
                have K1 : Hid (∀ v v', Below v.heap.size v v' → (v.cell? ⟨bl, offl + j, none⟩ = some (.slice a1 n1 c1) ∧ v.cell? ⟨b, off + k, none⟩ = some (.int .i64 x) ∧ Hid (Below z.heap.size z v)) → (v'.cell? ⟨bl, offl + j, none⟩ = some (.slice a1 n1 c1) ∧ v'.cell? ⟨b, off + k, none⟩ = some (.int .i64 x) ∧ Hid (Below z.heap.size z v'))) := fun v v' hb hh => keepM HP.out.1 HP.out.2 hb hh
                generalize hans : decide (x ∈ ls.getD j []) = ans at T
                clear g0 g1 q1
                go_upto_region 21 with fail
                go_region_held3 (fun w' => w'.cell? ⟨bl, offl + j, none⟩ = some (.slice a1 n1 c1) ∧ w'.cell? ⟨b, off + k, none⟩ = some (.int .i64 x) ∧ Hid (Below z.heap.size z w')) (first | with_reducible exact S0.out | with_reducible exact K1.out _ _ (by assumption) (by assumption)) (first
                  | (go_at_call 29; (with_reducible refine (T.out _ (by assumption)).mono ?_); rintro e v2 ⟨rfl, bv2⟩))
                rename_i hh
                have F := hide hh.2.2.out
                clear hh S0 T K1
                cases ans with
                | true =>
                  rw [if_pos (of_decide_eq_true hans)] at CS
                  clear hans
                  go_wp2
                  go_roundw
                  case rel => exact ⟨j + 1, by omega, by go_num, by rw [CS.out]; go_num, F⟩
                  case measure => simp [intOf]; omega
                | false =>
                  rw [if_neg (of_decide_eq_false hans), Nat.add_zero] at CS
                  clear hans
                  go_wp2
                  go_roundw
                  case rel => exact ⟨j + 1, by omega, by go_num, congrArg (fun c : Nat => Value.int .i64 (c : Int)) CS.out.symm, F⟩
                  case measure => simp [intOf]; omega
              · have j2 : ¬ (j : Int) < (n : Int) := by omega
                have hkk : Hid (ls.take j = ls) := List.take_of_length_le (by rw [HL.out]; omega)
                rw [hkk.out]
                go_wp2
                go_meet
                case rel => exact ⟨rfl, BQ⟩
          case rest =>
            obtain ⟨rfl, BQ⟩ := hcut
            have BZ := hide (bel_to BC.out (Nat.le_refl _) BQ.out)
            have OZ := hide (OW.out.below BQ.out (Nat.le_refl _))
            have BW2 := hide (bel_to BWr.out (Nat.le_refl _) BQ.out)
            have g2 : wc.cell? ⟨b, off + k, none⟩ = some (.int .i64 x) := by
              rw [BQ.out.cell (p := ⟨b, off + k, none⟩) (World.block_lt_of_cell? z _ g0)]
              exact g0
            clear g0 OW BC BWr BQ
            by_cases hmany : kk ≤ (cntI ls x : Int)
            · have FT : Hid (((unI ls).take (k + 1)).filter (manyB ls kk) = ((unI ls).take k).filter (manyB ls kk) ++ [x]) := by
                show _ = _
                rw [TG.out, List.filter_append, List.filter_cons, if_pos (by unfold manyB; exact decide_eq_true hmany), List.filter_nil]
              have RV := hide ((one_introw wc x 3).2 HV.out)
              have OA := hide OZ.out.alloc
              clear TG
              go_wp2_with (at_builtin; refine wpList_append_ints _ rfl _ _ 22 rfl y.heap.size 3 i0 Try.underlying22 hi hz0 hz1 hz2 ao M co _ rfl (OA.out _) (some ⟨wc.heap.size, 0, none⟩) 1 1 [x] rfl RV.out (fun h => by cases h) (by omega) (Nat.le_trans BZ.out.size (by simp)) ?_)
              intro a3 c3 w3 o3 b3 _
              rw [← FT.out] at o3
              have hM3 : M + 1 ≤ 2400 := by rw [← o3.len]; exact HPF.out (k + 1)
              have O3 := hide o3
              have B3 : Hid (Below y.heap.size y w3) := (bel_al BZ.out (Nat.le_refl _) _).trans b3
              clear o3 b3 OA RV OZ FT
              go_wp2
              go_roundw
              case rel => exact ⟨k + 1, a3, M + 1, c3, by omega, by go_num, rfl, hM3, O3, B3⟩
              case measure => simp [intOf]; omega
            · have FT : Hid (((unI ls).take (k + 1)).filter (manyB ls kk) = ((unI ls).take k).filter (manyB ls kk)) := by
                show _ = _
                rw [TG.out, List.filter_append, List.filter_cons, if_neg (by unfold manyB; rw [decide_eq_false hmany]; decide), List.filter_nil, List.append_nil]
              rw [← FT.out] at OZ
              clear TG FT
              go_wp2
              go_roundw
              case rel => exact ⟨k + 1, ao, M, co, by omega, by go_num, rfl, hM, OZ, BZ⟩
              case measure => simp [intOf]; omega
        · have i2 : ¬ (k : Int) < (L : Int) := by omega
          rw [List.take_of_length_le (by rw [hLu.out]; omega), ← HE.out] at OW
          have S4 : Hid (SlI z ao M co (mostS ls kk)) := MineI.sl OW.out (by omega) (fun z hz => HWF.out z (cntI_pos.1 (by have := mem_most.1 hz; omega)))
          go_wp2
          go_ret
          exact ⟨ao, M, co, rfl, S4.out, BWr.out⟩
end Go.Proofs.Ythmcliapdnbdjaa
