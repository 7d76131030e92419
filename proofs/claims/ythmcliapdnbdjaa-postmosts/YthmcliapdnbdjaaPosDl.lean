/-
  What post.heap comes to: the lists that are not empty, as a heap: a contract, for every world.
  Conditions: at most ten lists of at most 2000 numbers each.
-/
import Derived.Test.YthmcliapdnbdjaaPosDj
namespace Go.Proofs.Ythmcliapdnbdjaa
open Go.RowKit
set_option maxRecDepth 20000

theorem Try.infoSg : (Try.prog.info? 22).map (fun i => (i.zero, i.size, i.bytes)) = some (some (.slice none 0 0), 1, 24) := by kernel_rfl
theorem one_sgcell (w : World) (v : Value) (e : TypeId) (j : Nat) (u : Value) (h : [v][j]? = some u) : (w.alloc (.cells #[v] e)).cell? ((⟨w.heap.size, 0, none⟩ : Addr).add j) = some u := by
  match j, h with
  | 0, h => simp at h; subst h; rw [Addr.add_lit, World.cell?_alloc_mark]; rfl
/-- Is a list not empty? -/
def notE (l : List Int) : Bool := !l.isEmpty
theorem tot_le {d : List Sg} (h : ∀ s ∈ d, s.l.length ≤ 2000) : totS d ≤ 2000 * d.length := by
  induction d with
  | nil => simp [totS]
  | cons s t ih =>
    have h1 := h s (by simp)
    have h2 := ih (fun x hx => h x (by simp [hx]))
    unfold totS at h2 ⊢
    rw [List.map_cons, List.sum_cons, List.length_cons]
    omega
/-- What heap hands back. -/
def HpS (w0 : World) (v : Value) (m : Nat) (d : List Sg) (w : World) : Prop := (m = 0 ∧ v = .slice none 0 0) ∨ ∃ g c, v = .slice (some ⟨g, 0, none⟩) m c ∧ w0.heap.size ≤ g ∧ SRw w g c d
def HeapP (ls : List (List Int)) (w : World) (e : Ending) (w' : World) : Prop := ∃ (v : Value) (m : Nat) (d : List Sg), e = .returned v ∧ (d.map (·.l)).Perm (ls.filter notE) ∧ d.length = m ∧ m ≤ 10 ∧ (∀ x ∈ d, SgOk w x) ∧ HeapF 0 d ∧ totS d ≤ 20000 ∧ HpS w v m d w' ∧ Below w.heap.size w w'

set_option maxHeartbeats 4000000 in
theorem heap_any (a : Option Addr) (n cap : Nat) (ls : List (List Int)) (w : World) (hs : RowII w a n ls) (hn : n ≤ 10) (hl : ∀ l ∈ ls, l.length ≤ 2000) :
    Calls Try.prog 31 #[.slice a n cap] w fun e w' => HeapP ls w e w' := by
  obtain ⟨i1, hi1, hz10, hz11, hz12⟩ := info_parts Try.infoSg
  have HS := hide hs
  have HL := hide hs.1
  have HLL := hide hl
  clear hs hl
  go_enter Try.func31, Try.ntmps31
  go_wp2
  go_loopw [3, 9] (fun x i wr => ∃ (k : Nat) (al : Option Addr) (L cl : Nat) (d : List Sg), k ≤ n ∧ i = .int .i64 k ∧ x = .slice al L cl ∧ L ≤ k ∧ Hid (d.length = L) ∧ Hid (d.map (·.l) = (ls.take k).filter notE) ∧ Hid (∀ y ∈ d, SgOk w y) ∧ Hid (wr.ownsRow w.heap.size 22 1 (.slice al L cl) L (d.map Sg.val)) ∧ Hid (Below w.heap.size w wr)) (fun _ i _ => n - (intOf i).toNat)
  case atStart => exact ⟨0, none, 0, 0, [], by omega, rfl, rfl, by omega, rfl, rfl, fun y hy => (by cases hy), World.ownsRow_nil _ _ _ _, Below.refl _ _⟩
  case round =>
    obtain ⟨k, al, L, cl, d, hk, rfl, rfl, hLk, HD, HM, HOK, OW, BW⟩ := hrel
    obtain ⟨u, rfl⟩ : ∃ u, u = wr := ⟨wr, rfl⟩
    by_cases hlt : k < n
    · obtain ⟨b, off, a1, n1, c1, e, g00, q1⟩ := HS.out.at' hlt
      subst e
      have g0 : u.cell? ⟨b, off + k, none⟩ = some (.slice a1 n1 c1) := by
        rw [BW.out.cell (p := ⟨b, off + k, none⟩) (World.block_lt_of_cell? w _ g00)]
        exact g00
      have j1 : (0 : Int) ≤ (k : Int) := by omega
      have j2 : (k : Int) < (n : Int) := by omega
      have TG := hide (takeL_get (ls := ls) (k := k) (by rw [HL.out]; exact hlt))
      have Q1 := hide q1
      have hq := q1.len
      clear g00 q1
      generalize ls.getD k [] = x at *
      cases x with
      | nil =>
        obtain rfl : 0 = n1 := hq
        have HM2 : Hid (d.map (·.l) = (ls.take (k + 1)).filter notE) := by
          show _ = _
          rw [TG.out, List.filter_append, ← HM.out]
          simp [notE]
        clear TG HM
        go_wp2
        go_roundw
        case rel => exact ⟨k + 1, al, L, cl, d, by omega, by go_num, rfl, by omega, HD, HM2, HOK, OW, BW⟩
        case measure => simp [intOf]; omega
      | cons p t =>
        obtain rfl : t.length + 1 = n1 := hq
        have HM2 : Hid ((d ++ [(⟨a1, t.length + 1, c1, p :: t⟩ : Sg)]).map (·.l) = (ls.take (k + 1)).filter notE) := by
          show _ = _
          rw [TG.out, List.filter_append, ← HM.out, List.map_append]
          simp [notE]
        have HD2 : Hid ((d ++ [(⟨a1, t.length + 1, c1, p :: t⟩ : Sg)]).length = L + 1) := by show _ = _; rw [List.length_append, HD.out]; rfl
        have HOK2 : Hid (∀ y ∈ d ++ [(⟨a1, t.length + 1, c1, p :: t⟩ : Sg)], SgOk w y) := fun y hy => by
          rcases List.mem_append.1 hy with e | e
          · exact HOK.out y e
          · rw [List.mem_singleton] at e
            rw [e]
            exact ⟨Q1.out, by simp⟩
        have MV : Hid ((d ++ [(⟨a1, t.length + 1, c1, p :: t⟩ : Sg)]).map Sg.val = d.map Sg.val ++ [.slice a1 (t.length + 1) c1]) := by show _ = _; rw [List.map_append]; rfl
        have OA := hide OW.out.alloc
        have f1 : (0 : Int) < ((t.length + 1 : Nat) : Int) := by omega
        have f2 : (0 : Int) < (t.length : Int) + 1 := by omega
        generalize d ++ [(⟨a1, t.length + 1, c1, p :: t⟩ : Sg)] = d2 at *
        clear TG HM Q1
        go_wp2_with (at_builtin; refine wpList_push _ rfl _ _ 31 rfl w.heap.size 22 i1 (.slice none 0 0) 24 Try.underlying31 hi1 hz10 hz11 hz12 rfl al L cl (d.map Sg.val) rfl (OA.out _) ⟨u.heap.size, 0, none⟩ 1 (.slice a1 (t.length + 1) c1) rfl (one_sgcell u _ _) rfl (by unfold maxLen; omega) (by omega) (Nat.le_trans BW.out.size (by simp)) ?_)
        intro gg cc w1 o1 g1 _
        rw [← MV.out] at o1
        have O1 := hide o1
        have B1 : Hid (Below w.heap.size w w1) := (bel_al BW.out (Nat.le_refl _) _).trans ((Ch.grown g1).below (Nat.le_trans BW.out.size (by simp)) (fun j hj h => by have := (row_cells OW.out h).2; omega))
        clear o1 g1 OA OW BW MV HD HOK
        go_wp2
        go_roundw
        case rel => exact ⟨k + 1, _, L + 1, cc, d2, by omega, by go_num, rfl, by omega, HD2, HM2, HOK2, O1, B1⟩
        case measure => simp [intOf]; omega
    · have j2 : ¬ (k : Int) < (n : Int) := by omega
      rw [List.take_of_length_le (by rw [HL.out]; omega)] at HM
      have HT : Hid (totS d ≤ 20000) := by
        have h1 : ∀ s ∈ d, s.l.length ≤ 2000 := fun s hs => by
          have : s.l ∈ d.map (·.l) := List.mem_map.2 ⟨s, hs, rfl⟩
          rw [HM.out] at this
          exact HLL.out _ (List.mem_filter.1 this).1
        have h2 := tot_le h1
        have h3 := HD.out
        show _ ≤ _
        omega
      rcases own_srw OW.out with ⟨e1, e2, e3, e4⟩ | ⟨g, e1, hg, r1⟩
      · subst e1
        subst e2
        subst e3
        have FIN : Hid (HeapP ls w (.returned (.slice none 0 0)) u) := ⟨_, 0, d, rfl, by rw [HM.out], HD.out, by omega, HOK.out, heap_begin d (by rw [HD.out]; omega), HT.out, Or.inl ⟨rfl, rfl⟩, BW.out⟩
        clear HS HL HLL HD HM HOK OW BW HT
        go_wp2
        go_loopw [6] (fun i wr => i = .int .i64 (-1) ∧ wr = u) (fun _ _ => 0)
        case atStart => exact ⟨rfl, rfl⟩
        case round =>
          obtain ⟨rfl, rfl⟩ := hrel
          go_wp2
          go_ret
          exact FIN.out
      · subst e1
        have hL10 : L ≤ 10 := by omega
        have R1 := hide r1
        have HG := hide hg
        clear r1 hg OW HS HL HLL
        go_wp2
        go_loopw [6] (fun i wr => ∃ (p : Nat) (d' : List Sg), i = .int .i64 ((p : Int) - 1) ∧ p ≤ 5 ∧ Hid (d'.Perm d) ∧ Hid (HeapF p d') ∧ Hid (SRw wr g cl d') ∧ Hid (Ch (fun k => k = g) u wr)) (fun i _ => (intOf i + 1).toNat)
        case atStart => exact ⟨L / 2, d, by go_num, by omega, List.Perm.refl _, heap_begin d (by rw [HD.out]; omega), R1, Ch.refl _ _⟩
        case round =>
          obtain ⟨p, d', rfl, hp, PD, HH, R2, K2⟩ := hrel
          have HB2 : Hid (Below w.heap.size w wr) := BW.out.trans (K2.out.below BW.out.size (fun j hj h => by have := HG.out; omega))
          have HOK2 : Hid (∀ x ∈ d', SgOk w x) := fun x hx => HOK.out x (PD.out.mem_iff.1 hx)
          have HD2 : Hid (d'.length = L) := PD.out.length_eq.trans HD.out
          cases p with
          | zero =>
            have FIN : Hid (HeapP ls w (.returned (.slice (some ⟨g, 0, none⟩) L cl)) wr) := ⟨_, L, d', rfl, by rw [← HM.out]; exact PD.out.map _, HD2.out, by omega, HOK2.out, HH.out, by rw [totS_perm PD.out]; exact HT.out, Or.inr ⟨g, cl, rfl, HG.out, R2.out⟩, HB2.out⟩
            clear HD HM HOK HT R2 K2 PD HH HB2 HOK2 HD2
            go_wp2
            go_ret
            exact FIN.out
          | succ p =>
            have SK : Hid (Calls Try.prog 36 #[.slice (some ⟨g, 0, none⟩) L cl, .int .i64 (p : Int)] wr fun e w' => e = .returned (.tuple #[]) ∧ ∃ d'', d''.Perm d' ∧ HeapF p d'' ∧ SRw w' g cl d'' ∧ Ch (fun k => k = g) wr w') :=
              sink_any w g cl d' L p p wr HD2.out hL10 R2.out HOK2.out HB2.out HG.out (Nat.le_refl _) (by omega) (heap_but HH.out)
            have f1 : ((p + 1 : Nat) : Int) - 1 = (p : Int) := by omega
            rw [f1]
            have f2 : (0 : Int) ≤ (p : Int) := by omega
            clear f1
            go_wp2_with fail
            with_reducible refine SK.out.mono ?_
            rintro e w' ⟨rfl, d'', p5, h5, r5, k5⟩
            have P5 := hide (p5.trans PD.out)
            have H5 := hide h5
            have R5 := hide r5
            have K5 := hide (K2.out.trans k5)
            clear p5 h5 r5 k5 SK PD HH R2 K2 HB2 HOK2 HD2
            go_wp2
            go_roundw
            case rel => exact ⟨p, d'', by go_num, by omega, P5, H5, R5, K5⟩
            case measure => simp [intOf]
end Go.Proofs.Ythmcliapdnbdjaa
