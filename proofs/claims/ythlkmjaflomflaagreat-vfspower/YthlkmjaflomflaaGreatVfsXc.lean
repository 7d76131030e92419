/-
  The document's names, turns and units in rows; find, without: contracts, for every world. The document's bytes of a file: a contract, for every world. Maps by texts in memory: what stands at each text, one text more, the texts that there are: laws, for every world. Maps by texts in memory: a text taken out, how many there are, a copy: laws, for every world.
  Conditions: as each theorem says.
-/
import Derived.Test.YthlkmjaflomflaaGreatVfsXa
import Derived.Test.YthlkmjaflomflaaGreatVfsXb
import Derived.Test.YthlkmjaflomflaaGreatRows
import Derived.WalkKit
import Derived.WalkMore
import Derived.OwnWalk
import Derived.Deep.Cut
import Derived.BigQuiet
import Derived.Deep.QuietTactic
import Derived.Maps.OwnSet
import Derived.Sort.KeysCollected
import Derived.Sort.Walk0
namespace Go.Proofs.YthlkmjaflomflaaGreat
open Go.RowKit
set_option maxRecDepth 20000
set_option linter.unusedVariables false

/-- How each lies in its cells. -/
def dnV (d : Dn) : List Value := [.string d.nm, .int .i64 (d.f : Int)]
def unV (u : Un) : List Value := [.int .u8 u.b, .bool u.cut, .int .i64 u.n]
def tnV (t : Tn) : List Value := [.int .i64 (t.k : Int), .string t.nm, .string t.to, .int .i64 (t.f : Int)]
theorem dnV_len (d : Dn) : (dnV d).length = 2 := rfl
theorem unV_len (u : Un) : (unV u).length = 3 := rfl
theorem tnV_len (t : Tn) : (tnV t).length = 4 := rfl
theorem dnV_one (l : List Dn) : ∀ u ∈ l.flatMap dnV, u.oneCell' = true := by
  intro u hu
  rw [List.mem_flatMap] at hu
  obtain ⟨x, -, hx⟩ := hu
  simp [dnV] at hx
  rcases hx with rfl | rfl <;> rfl
theorem unV_one (l : List Un) : ∀ u ∈ l.flatMap unV, u.oneCell' = true := by
  intro u hu
  rw [List.mem_flatMap] at hu
  obtain ⟨x, -, hx⟩ := hu
  simp [unV] at hx
  rcases hx with rfl | rfl | rfl <;> rfl
theorem tnV_one (l : List Tn) : ∀ u ∈ l.flatMap tnV, u.oneCell' = true := by
  intro u hu
  rw [List.mem_flatMap] at hu
  obtain ⟨x, -, hx⟩ := hu
  simp [tnV] at hx
  rcases hx with rfl | rfl | rfl | rfl <;> rfl
theorem Tryz.infoD16 : (Tryz.prog.info? 80).map (fun i => (i.zero, i.size, i.bytes)) = some (some (.agg #[.string .empty, .int .i64 0]), 2, 24) := by kernel_rfl
abbrev OwnD (w : World) (base : Nat) (a : Option Addr) (n cap : Nat) (l : List Dn) : Prop := OwnG 80 2 dnV w base a n cap l
/-- A name's two cells. -/
theorem OwnD.at' {w : World} {base n cap : Nat} {a : Option Addr} {l : List Dn} (h : OwnD w base a n cap l) {i : Nat} {d : Dn} (hi : l[i]? = some d) : ∃ g, a = some ⟨g, 0, none⟩ ∧ i < n ∧ n ≤ cap ∧ w.cell? ⟨g, i * 2, none⟩ = some (.string d.nm) ∧ w.cell? ⟨g, i * 2 + 1, none⟩ = some (.int .i64 (d.f : Int)) := by
  obtain ⟨g, h1, h2, h3, h4⟩ := OwnG.at dnV_len (by decide) h hi
  exact ⟨g, h1, h2, h3, h4 0 _ rfl, h4 1 _ rfl⟩
/-- The place of a name, -1 where there is none. -/
def findI (l : List Dn) (s : ByteArray) : Int := match findD l s with
  | some k => (k : Int)
  | none => -1
theorem neq_ba {x s : ByteArray} (h : ¬ x = s) : (x.toList == s.toList) = false := by rw [ba_eq]; exact decide_eq_false h
theorem eq_ba {x s : ByteArray} (h : x = s) : (x.toList == s.toList) = true := by rw [ba_eq]; exact decide_eq_true h

set_option maxHeartbeats 1000000 in
theorem rfind16_any (base : Nat) (a : Option Addr) (n c : Nat) (l : List Dn) (s : ByteArray) (w : World) (hr : OwnD w base a n c l) (hn : n ≤ 1099511627776) :
    Calls Tryz.prog 46 #[.slice a n c, .string s] w fun e w' => e = .returned (.int .i64 (findI l s)) ∧ w' = w := by
  have HR := hide hr
  have HL := hide (OwnG.len dnV_len (by decide) hr)
  obtain ⟨X, hX⟩ : ∃ X, Hid (findI l s = X) := ⟨_, rfl⟩
  rw [hX.out]
  clear hr
  go_enter Tryz.func46, Tryz.ntmps46
  go_wp2
  go_loopw [5] (fun i wr => ∃ k : Nat, k ≤ n ∧ i = .int .i64 k ∧ Hid (∀ j x, j < k → l[j]? = some x → ¬ x.nm = s) ∧ wr = w) (fun i _ => n - (intOf i).toNat)
  case atStart => exact ⟨0, by omega, rfl, (fun j x h => by omega), rfl⟩
  case round =>
    obtain ⟨k, hk, rfl, HN, rfl⟩ := hrel
    by_cases hlt : k < n
    · obtain ⟨d, hd⟩ : ∃ d, l[k]? = some d := ⟨_, List.getElem?_eq_getElem (by rw [HL.out]; exact hlt)⟩
      obtain ⟨g, rfl, -, hc, c0, c1⟩ := OwnD.at' HR.out hd
      have HD := hide hd
      have i1 : (0 : Int) ≤ (k : Int) := by omega
      have i2 : (k : Int) < (n : Int) := by omega
      clear hd c1
      by_cases he : d.nm = s
      · have t1 := eq_ba he
        have F : X = (k : Int) := by
          rw [← hX.out]
          show findI l s = _
          unfold findI
          rw [findD_at HD.out he HN.out]
        subst F
        clear he
        generalize d.nm = dn at *
        go_wp2
        go_ret
        exact ⟨rfl, rfl⟩
      · have t1 := neq_ba he
        have HN2 : Hid (∀ j x, j < k + 1 → l[j]? = some x → ¬ x.nm = s) := fun j x hj hx => by
          by_cases e : j = k
          · subst e
            obtain rfl := Option.some.inj (HD.out.symm.trans hx)
            exact he
          · exact HN.out j x (by omega) hx
        clear he HN HD
        generalize d.nm = dn at *
        go_wp2
        go_roundw
        case rel => exact ⟨k + 1, by omega, by go_num, HN2, by trivial⟩
        case measure => simp [intOf]; omega
    · have e4 : k = n := by omega
      subst e4
      have F : X = -1 := by
        rw [← hX.out]
        show findI l s = _
        unfold findI
        rw [findD_none (fun d hd => by
          obtain ⟨j, hj⟩ := List.mem_iff_getElem?.1 hd
          exact HN.out j d (by rw [← HL.out]; exact (List.getElem?_eq_some_iff.1 hj).1) hj)]
      subst F
      go_wp2
      go_ret
      exact ⟨rfl, rfl⟩

theorem dn_cells (w : World) (d : Dn) (e : TypeId) : ∀ j u, (dnV d)[j]? = some u → (w.alloc (.cells #[.string d.nm, .int .i64 (d.f : Int)] e)).cell? ((⟨w.heap.size, 0, none⟩ : Addr).add j) = some u := by
  intro j u h
  match j, h with
  | 0, h => simp [dnV] at h; subst h; rw [Addr.add_lit, World.cell?_alloc_mark]; rfl
  | 1, h => simp [dnV] at h; subst h; rw [Addr.add_lit, World.cell?_alloc_mark]; rfl
theorem flat_one {α : Type} (fl : α → List Value) (x : α) : [x].flatMap fl = fl x := by simp
theorem wout_take {l : List Dn} {s : ByteArray} {k : Nat} {d : Dn} (h : l[k]? = some d) : wout (l.take (k + 1)) s = wout (l.take k) s ++ (if d.nm = s then [] else [d]) := by
  obtain ⟨hk, e⟩ := List.getElem?_eq_some_iff.1 h
  unfold wout
  rw [List.take_succ_eq_append_getElem hk, List.filter_append, e]
  congr 1
  by_cases g : d.nm = s
  · rw [if_pos g]; simp [g]
  · rw [if_neg g]; simp [g]

set_option maxHeartbeats 2000000 in
theorem rwithout_any (base : Nat) (a : Option Addr) (n c : Nat) (l : List Dn) (s : ByteArray) (w : World) (hr : OwnD w base a n c l) (hn : n ≤ 1099511627776) :
    Calls Tryz.prog 80 #[.slice a n c, .string s] w fun e w' => ∃ a' m c', e = .returned (.slice a' m c') ∧ m = (wout l s).length ∧ OwnD w' w.heap.size a' m c' (wout l s) ∧ Below w.heap.size w w' := by
  obtain ⟨i1, hi1, hz10, hz11, hz12⟩ := info_parts Tryz.infoD16
  have HR := hide hr
  have HL := hide (OwnG.len dnV_len (by decide) hr)
  clear hr
  go_enter Tryz.func80, Tryz.ntmps80
  go_wp2
  go_loopw [6, 5] (fun i x wr => ∃ (k m : Nat) (a' : Option Addr) (c' : Nat), k ≤ n ∧ i = .int .i64 k ∧ x = .slice a' m c' ∧ m ≤ k ∧ Hid (OwnD wr w.heap.size a' m c' (wout (l.take k) s)) ∧ Hid (Below w.heap.size w wr)) (fun i _ _ => n - (intOf i).toNat)
  case atStart => exact ⟨0, 0, none, 0, by omega, rfl, rfl, by omega, ownG_nil _ _, Below.refl _ _⟩
  case round =>
    obtain ⟨k, m, a', c', hk, rfl, rfl, hm, HO, HB⟩ := hrel
    obtain ⟨v, rfl⟩ : ∃ v, v = wr := ⟨wr, rfl⟩
    by_cases hlt : k < n
    · obtain ⟨d, hd⟩ : ∃ d, l[k]? = some d := ⟨_, List.getElem?_eq_getElem (by rw [HL.out]; exact hlt)⟩
      obtain ⟨g, rfl, -, hc, c0, c1⟩ := OwnD.at' (OwnG.below HR.out HB.out (Nat.le_refl _)) hd
      have HW := hide (wout_take (s := s) hd)
      have i1' : (0 : Int) ≤ (k : Int) := by omega
      have i2 : (k : Int) < (n : Int) := by omega
      clear hd
      by_cases he : d.nm = s
      · have t1 := eq_ba he
        have t2 : (d.nm.toList != s.toList) = false := by rw [bne, t1]; rfl
        rw [if_pos he, List.append_nil] at HW
        have HO2 : Hid (OwnD v w.heap.size a' m c' (wout (l.take (k + 1)) s)) := by rw [HW.out]; exact HO.out
        clear he HO HW c1
        generalize d.nm = dn at *
        go_wp2
        go_roundw
        case rel => exact ⟨k + 1, m, a', c', by omega, by go_num, by rfl, by omega, HO2, HB⟩
        case measure => simp [intOf]; omega
      · have t1 := neq_ba he
        have t2 : (d.nm.toList != s.toList) = true := by rw [bne, t1]; rfl
        rw [if_neg he] at HW
        have NC := hide (dn_cells v d 80)
        have SZ := hide (show w.heap.size ≤ v.heap.size from HB.out.size)
        clear he
        go_wp2_with (at_builtin; refine wpList_append_own _ rfl _ _ 28 rfl w.heap.size 80 i1 (.agg #[.string .empty, .int .i64 0]) 2 24 Tryz.underlying28 hi1 hz10 hz11 hz12 rfl (by decide) _ m ((wout (l.take k) s).flatMap dnV) rfl (HO.out.alloc _) ⟨v.heap.size, 0, none⟩ 1 1 (dnV d) rfl rfl NC.out (by rw [← flat_one dnV d]; exact dnV_one _) (by unfold maxLen; omega) (by omega) (by have := SZ.out; simp; omega) ?_)
        intro v1 w1 o1 g1 _
        rw [← flat_one dnV d, ← List.flatMap_append, ← HW.out] at o1
        obtain ⟨a1, c1', rfl, O1⟩ := ownG_form o1
        have HO1 := hide O1
        have B1 : Hid (Below w.heap.size w w1) := by
          have q1 : Ch (fun g => (Value.slice a' m c').ownBlock = some g) v w1 := ((Ch.refl (fun g => (Value.slice a' m c').ownBlock = some g) v).alloc _).trans (Ch.grown g1)
          exact HB.out.trans (q1.below SZ.out (fun g hg h => by have := (HO.out.cellsT g h).2; omega))
        clear o1 g1 O1 HO HB c0 c1 t1 t2 NC SZ HW
        go_wp2
        go_roundw
        case rel => exact ⟨k + 1, m + 1, a1, c1', by omega, by go_num, by rfl, by omega, HO1, B1⟩
        case measure => simp [intOf]; omega
    · have e4 : k = n := by omega
      subst e4
      have HO2 : Hid (OwnD v w.heap.size a' m c' (wout l s)) := by
        have := HO.out
        rw [List.take_of_length_le (by rw [HL.out]; exact Nat.le_refl _)] at this
        exact this
      have HM := hide (OwnG.len dnV_len (by decide) HO2.out)
      go_wp2
      go_ret
      exact ⟨a', m, c', rfl, HM.out.symm, HO2.out, HB.out⟩
end Go.Proofs.YthlkmjaflomflaaGreat

namespace Go.Proofs.YthlkmjaflomflaaGreat
open Go.RowKit
set_option maxRecDepth 20000
set_option linter.unusedVariables false

def byV (z : Int) : List Value := [.int .u8 z]
theorem byV_len (z : Int) : (byV z).length = 1 := rfl
theorem byV_one1 (z : Int) : ∀ u ∈ byV z, u.oneCell' = true := by
  intro u hu
  obtain rfl := List.mem_singleton.1 hu
  rfl
theorem Tryz.infoU8 : (Tryz.prog.info? 5).map (fun i => (i.zero, i.size, i.bytes)) = some (some (.int .u8 0), 1, 1) := by kernel_rfl
abbrev OwnB (w : World) (base : Nat) (a : Option Addr) (n cap : Nat) (l : List Int) : Prop := OwnG 5 1 byV w base a n cap l
abbrev OwnU (w : World) (base : Nat) (a : Option Addr) (n cap : Nat) (l : List Un) : Prop := OwnG 115 3 unV w base a n cap l
theorem OwnU.at' {w : World} {base n cap : Nat} {a : Option Addr} {l : List Un} (h : OwnU w base a n cap l) {i : Nat} {u : Un} (hi : l[i]? = some u) : ∃ g, a = some ⟨g, 0, none⟩ ∧ i < n ∧ n ≤ cap ∧ w.cell? ⟨g, i * 3, none⟩ = some (.int .u8 u.b) ∧ w.cell? ⟨g, i * 3 + 1, none⟩ = some (.bool u.cut) ∧ w.cell? ⟨g, i * 3 + 2, none⟩ = some (.int .i64 u.n) := by
  obtain ⟨g, h1, h2, h3, h4⟩ := OwnG.at unV_len (by decide) h hi
  exact ⟨g, h1, h2, h3, h4 0 _ rfl, h4 1 _ rfl, h4 2 _ rfl⟩
/-- A slice by its three words. -/
abbrev H3 := Option Addr × Nat × Nat
def h3V (h : H3) : Value := .slice h.1 h.2.1 h.2.2
/-- What Read tells. -/
def ReadP (x : Option (List Int)) (w : World) (e : Ending) (w' : World) : Prop := Below w.heap.size w w' ∧ match x with
  | none => e = .returned (.tuple #[.slice none 0 0, .int .i64 3])
  | some b => ∃ a c, e = .returned (.tuple #[.slice a b.length c, .int .i64 0]) ∧ OwnB w' w.heap.size a b.length c b
/-- Behind a call that may turn these blocks alone. -/
def StepV {α : Type} (At : World → Nat → (Nat → Prop) → α → Prop) (w w' : World) (g : Nat) (S : Nat → Prop) (F : α) : Prop :=
  ∃ S', At w' g S' F ∧ (∀ k, S' k → S k ∨ w.heap.size ≤ k) ∧ Ch S w w'
/-- One that is made. -/
def MadeV {α : Type} (At : World → Nat → (Nat → Prop) → α → Prop) (w w' : World) (g : Nat) (F : α) : Prop :=
  ∃ S, At w' g S F ∧ (∀ k, S k → w.heap.size ≤ k) ∧ Below w.heap.size w w'
def stV (s : ByteArray) : List Value := [.string s]
theorem stV_len (s : ByteArray) : (stV s).length = 1 := rfl
theorem stV_one1 (s : ByteArray) : ∀ u ∈ stV s, u.oneCell' = true := by
  intro u hu
  obtain rfl := List.mem_singleton.1 hu
  rfl
theorem Tryz.infoS16 : (Tryz.prog.info? 9).map (fun i => (i.zero, i.size, i.bytes)) = some (some (.string .empty), 1, 16) := by kernel_rfl
abbrev OwnS (w : World) (base : Nat) (a : Option Addr) (n cap : Nat) (l : List ByteArray) : Prop := OwnG 9 1 stV w base a n cap l
theorem OwnS.at' {w : World} {base n cap : Nat} {a : Option Addr} {l : List ByteArray} (h : OwnS w base a n cap l) {i : Nat} (hi : i < n) : ∃ g, a = some ⟨g, 0, none⟩ ∧ n ≤ cap ∧ w.cell? ⟨g, i, none⟩ = some (.string (l.getD i ByteArray.empty)) := by
  have hl := OwnG.len stV_len (by decide) h
  obtain ⟨g, h1, h2, h3, h4⟩ := OwnG.at stV_len (by decide) h (List.getElem?_eq_getElem (show i < l.length by omega))
  refine ⟨g, h1, h3, ?_⟩
  have := h4 0 _ rfl
  rw [Nat.mul_one, Nat.add_zero] at this
  rw [this, List.getD_eq_getElem?_getD, List.getElem?_eq_getElem (show i < l.length by omega)]
  rfl
theorem st_cells (w : World) (s : ByteArray) (e : TypeId) : ∀ ad, (some (⟨w.heap.size, 0, none⟩ : Addr)) = some ad → ∀ j u, ([s].flatMap stV)[j]? = some u → (w.alloc (.cells #[.string s] e)).cell? (ad.add j) = some u := by
  intro ad ha j u h
  obtain rfl := Option.some.inj ha
  match j, h with
  | 0, h => simp [stV] at h; subst h; rw [Addr.add_lit, World.cell?_alloc_mark]; rfl
theorem by_cells (w : World) (z : Int) (e : TypeId) : ∀ ad, (some (⟨w.heap.size, 0, none⟩ : Addr)) = some ad → ∀ j u, ([z].flatMap byV)[j]? = some u → (w.alloc (.cells #[.int .u8 z] e)).cell? (ad.add j) = some u := by
  intro ad ha j u h
  obtain rfl := Option.some.inj ha
  match j, h with
  | 0, h => simp [byV] at h; subst h; rw [Addr.add_lit, World.cell?_alloc_mark]; rfl
theorem unsB_take {b : List Int} {us : List Un} {k : Nat} {u : Un} (h : us[k]? = some u) : unsB b (us.take (k + 1)) = unB (unsB b (us.take k)) u := by
  obtain ⟨hk, e⟩ := List.getElem?_eq_some_iff.1 h
  unfold unsB
  rw [List.take_succ_eq_append_getElem hk, List.foldl_append, e]
  rfl
theorem okUs_at {us : List Un} : ∀ {b : List Int} {k : Nat} {u : Un}, okUs b us → us[k]? = some u → u.cut = true → 0 ≤ u.n ∧ u.n ≤ (unsB b (us.take k)).length := by
  induction us with
  | nil => intro b k u _ h; simp at h
  | cons x t ih =>
    intro b k u ok h hc
    cases k with
    | zero =>
      simp at h
      subst h
      simpa [unsB] using ok.1 hc
    | succ k =>
      have := ih ok.2 (by simpa using h) hc
      rw [List.take_succ_cons]
      unfold unsB at this ⊢
      rw [List.foldl_cons]
      exact this
theorem slice_to16 (a : Option Addr) (n cap k : Nat) (hk : k ≤ cap) (w : World) :
    (Instr.slice 33 (.slice a n cap) none (some (.int .i64 (k : Int))) none).run Tryz.prog w = .ok (.slice a k cap) w := by
  rw [run_slice_h (P := Tryz.prog) w 33 a n cap Tryz.underlying33 .i64 (k : Int) (by omega) (by omega)]
  have hs : (sizeOf (Tryz.prog.elem 33)).run Tryz.prog w = .ok 1 w := by kernel_rfl
  rw [hs]
  simp only [Result.andThen, sliced, Int.toNat_natCast, Nat.zero_mul, Nat.sub_zero]
  cases a with
  | none => simp
  | some x => simp [Addr.add]

set_option maxHeartbeats 4000000 in
theorem rbytes16_any (base : Nat) (as' : Option Addr) (ns cs : Nat) (su : List Int) (au : Option Addr) (nu cu : Nat) (us : List Un) (N : Int) (w : World) (hs : OwnB w base as' ns cs su) (hu : OwnU w base au nu cu us) (ok : okUs su us) (hns : ns ≤ 549755813888) (hnu : nu ≤ 549755813888) (hN : (Lit.int .i64 N).wf = true) :
    Calls Tryz.prog 68 #[.agg #[.slice as' ns cs, .slice au nu cu], .int .i64 N] w fun e w' => ∃ a' m c', e = .returned (.slice a' m c') ∧ m = (unsB su (us.take N.toNat)).length ∧ OwnB w' w.heap.size a' m c' (unsB su (us.take N.toNat)) ∧ Below w.heap.size w w' := by
  obtain ⟨i1, hi1, hz10, hz11, hz12⟩ := info_parts Tryz.infoU8
  obtain ⟨W, hW⟩ : ∃ W, Hid (w.alloc (.cells #[.slice as' ns cs, .slice au nu cu] 83) = W) := ⟨_, rfl⟩
  have LW : Hid (Below w.heap.size w W) := by rw [← hW.out]; exact (Below.refl _ _).alloc (Nat.le_refl _) _
  have CV : Hid (W.heap[w.heap.size]? = some (.cells #[.slice as' ns cs, .slice au nu cu] 83 (0, 0))) := by rw [← hW.out]; exact heap_alloc_new w _
  have GV : Hid (w.heap.size < W.heap.size) := (Array.getElem?_eq_some_iff.1 CV.out).1
  have KS : Hid (∀ u, Below W.heap.size W u → u.cell? ⟨w.heap.size, 0, none⟩ = some (.slice as' ns cs) ∧ u.cell? ⟨w.heap.size, 1, none⟩ = some (.slice au nu cu)) := fun u hu => by
    have e := (hu.block w.heap.size GV.out).trans CV.out
    exact ⟨by rw [cell_of_row u w.heap.size 0 _ _ (0, 0) e]; rfl, by rw [cell_of_row u w.heap.size 1 _ _ (0, 0) e]; rfl⟩
  have OS : Hid (OwnB W base as' ns cs su) := OwnG.below hs LW.out (Nat.le_refl _)
  have OU : Hid (OwnU W base au nu cu us) := OwnG.below hu LW.out (Nat.le_refl _)
  have HL := hide (OwnG.len byV_len (by decide) hs)
  have HLU := hide (OwnG.len unV_len (by decide) hu)
  have CA := hide (OwnG.cellsAll OS.out)
  have CB := hide (OwnG.capped hs).2
  have OK := hide ok
  obtain ⟨hN0, hN1⟩ := i64_of_wf hN
  obtain ⟨k0, k1⟩ := KS.out W (Below.refl _ _)
  clear hs hu ok hN
  go_enter Tryz.func68, Tryz.ntmps68
  go_upto_region 1 with fail
  rw [hW.out]
  clear hW
  go_wp2_with (at_builtin; refine wpList_app_g byV_len (by decide) byV_one1 _ rfl _ _ 33 rfl W.heap.size i1 (.int .u8 0) 1 Tryz.underlying33 hi1 hz10 hz11 hz12 rfl none 0 0 [] rfl (ownG_nil _ _) as' ns cs su rfl HL.out CA.out CB.out (by omega) (by omega) (Nat.le_refl _) ?_)
  intro a1 c1 w1 o1 g1
  have O1 := hide o1
  have B1 : Hid (Below W.heap.size W w1) := (Ch.grown g1).below (Nat.le_refl _) (fun g hg hh => by simp [Value.ownBlock] at hh)
  clear o1 g1 CA CB k0 k1
  go_wp2
  go_loopw [6, 5] (fun i x wr => ∃ (k m : Nat) (a' : Option Addr) (c' : Nat), k ≤ nu ∧ (k = 0 ∨ (k : Int) ≤ N) ∧ i = .int .i64 k ∧ x = .slice a' m c' ∧ m ≤ ns + k ∧ Hid (OwnB wr W.heap.size a' m c' (unsB su (us.take k))) ∧ Hid (Below W.heap.size W wr)) (fun i _ _ => nu - (intOf i).toNat)
  case atStart => exact ⟨0, ns, a1, c1, by omega, Or.inl rfl, rfl, rfl, by omega, O1.out, B1⟩
  case round =>
    obtain ⟨k, m, a', c', hk, hkN, rfl, rfl, hm, HO, HB⟩ := hrel
    obtain ⟨v, rfl⟩ : ∃ v, v = wr := ⟨wr, rfl⟩
    obtain ⟨k0, k1⟩ := KS.out v HB.out
    have HM := hide (OwnG.len byV_len (by decide) HO.out)
    by_cases hlt : k < nu
    · by_cases hlN : (k : Int) < N
      · obtain ⟨t, htk⟩ : ∃ t, us[k]? = some t := ⟨_, List.getElem?_eq_getElem (by rw [HLU.out]; exact hlt)⟩
        obtain ⟨g, rfl, -, hc, b0, b1, b2⟩ := OwnU.at' (OwnG.below OU.out HB.out (Nat.le_refl _)) htk
        have j1 : (0 : Int) ≤ (k : Int) := by omega
        have j2 : (k : Int) < (nu : Int) := by omega
        have HTK := hide (unsB_take (b := su) htk)
        have HAT := hide (okUs_at OK.out htk)
        obtain ⟨tb, tc, tn⟩ := t
        dsimp only at b0 b1 b2 HAT
        clear htk
        obtain ⟨cur, hcur⟩ : ∃ cur, Hid (unsB su (us.take k) = cur) := ⟨_, rfl⟩
        rw [hcur.out] at HO HTK HM HAT
        cases tc with
        | true =>
          obtain ⟨n0, n1⟩ := HAT.out rfl
          obtain ⟨q, rfl⟩ : ∃ q : Nat, tn = (q : Int) := ⟨tn.toNat, by omega⟩
          have hqm : q ≤ m := by have := HM.out; omega
          have hqc : q ≤ c' := by have := (OwnG.capped HO.out).1; omega
          have sl := fun u => slice_to16 a' m c' q hqc u
          have HQ : Hid (OwnB v W.heap.size a' q c' (unsB su (us.take (k + 1)))) := by
            rw [HTK.out]
            unfold unB
            dsimp only
            rw [if_pos rfl, Int.toNat_natCast]
            exact OwnG.cut byV_len (by decide) HO.out hqm
          clear HO HTK HM HAT b0 n0 n1
          go_wp2
          go_roundw
          case rel => exact ⟨k + 1, q, a', c', by omega, Or.inr (by omega), by go_num, by rfl, by omega, HQ, HB⟩
          case measure => simp [intOf]; omega
        | false =>
          have NC := hide (by_cells v tb 5)
          have SZ := hide (show W.heap.size ≤ v.heap.size from HB.out.size)
          clear b2
          go_wp2_with (at_builtin; refine wpList_app_g byV_len (by decide) byV_one1 _ rfl _ _ 33 rfl W.heap.size i1 (.int .u8 0) 1 Tryz.underlying33 hi1 hz10 hz11 hz12 rfl a' m c' cur rfl (OwnG.alloc HO.out _) (some ⟨v.heap.size, 0, none⟩) 1 1 [tb] rfl rfl NC.out (fun h => by cases h) (by omega) (by omega) (by have := SZ.out; simp; omega) ?_)
          intro a2 c2 w2 o2 g2
          have HQ : Hid (OwnB w2 W.heap.size a2 (m + 1) c2 (unsB su (us.take (k + 1)))) := by
            rw [HTK.out]
            exact o2
          have B2 : Hid (Below W.heap.size W w2) := by
            have q1 : Ch (fun g => (Value.slice a' m c').ownBlock = some g) v w2 := ((Ch.refl (fun g => (Value.slice a' m c').ownBlock = some g) v).alloc _).trans (Ch.grown g2)
            exact HB.out.trans (q1.below SZ.out (fun g hg h => by have := (OwnG.cellsT HO.out g h).2; omega))
          clear o2 g2 HO HTK HM HAT b0 b1 NC SZ HB k0 k1
          go_wp2
          go_roundw
          case rel => exact ⟨k + 1, m + 1, a2, c2, by omega, Or.inr (by omega), by go_num, by rfl, by omega, HQ, B2⟩
          case measure => simp [intOf]; omega
      · have HE : Hid (unsB su (us.take N.toNat) = unsB su (us.take k)) := by
          have e1 : N.toNat = k := by rcases hkN with h | h <;> omega
          show _ = _
          rw [e1]
        have F := hide (bel_to LW.out (Nat.le_refl _) HB.out)
        have HO2 : Hid (OwnB v w.heap.size a' m c' (unsB su (us.take k))) := OwnG.mono HO.out (Nat.le_of_lt GV.out)
        go_wp2
        go_ret
        exact ⟨a', m, c', rfl, by rw [HE.out, HM.out], by rw [HE.out]; exact HO2.out, F.out⟩
    · have HE : Hid (unsB su (us.take N.toNat) = unsB su (us.take k)) := by
        have e1 : us.length = k := by rw [HLU.out]; omega
        show _ = _
        by_cases h : k ≤ N.toNat
        · rw [List.take_of_length_le (by omega), List.take_of_length_le (by omega)]
        · have e2 : N.toNat = k := by rcases hkN with h | h <;> omega
          rw [e2]
      have F := hide (bel_to LW.out (Nat.le_refl _) HB.out)
      have HO2 : Hid (OwnB v w.heap.size a' m c' (unsB su (us.take k))) := OwnG.mono HO.out (Nat.le_of_lt GV.out)
      have e4 : k = nu := by omega
      subst e4
      go_wp2
      go_ret
      exact ⟨a', m, c', rfl, by rw [HE.out, HM.out], by rw [HE.out]; exact HO2.out, F.out⟩
end Go.Proofs.YthlkmjaflomflaaGreat

namespace Go.Proofs.YthlkmjaflomflaaGreat
open Go.RowKit Go.Maps
set_option maxRecDepth 20000

abbrev keyS : Keyed Tryz.prog 9 := string_keyed Tryz.underlying9
/-- What stands at a text is told as it is. -/
def heldE (v : Value) : Option (DataW Value × List MemPlace) := some (.held v, [])
/-- A text as a key. -/
def kS (s : ByteArray) : Lit := .string s.data.toList
theorem kS_inj {s t : ByteArray} (h : kS s = kS t) : s = t := by
  unfold kS at h
  simp only [Lit.string.injEq] at h
  cases s with | mk x => cases t with | mk y => congr 1; exact Array.ext' h
theorem kS_list (s : ByteArray) : kS s = .string s.toList := by unfold kS; rw [ByteArray.toList_eq]
theorem keyOf_kS {s : ByteArray} (h : s.size ≤ maxLen) : keyOf Tryz.prog 9 (.string s) = some (kS s) := by
  have : s.data.size ≤ maxLen := h
  simp [keyOf, Tryz.underlying9, mapKey, kS]
  exact h
/-- What a map tells at each text. -/
structure ReadsS (D : DataW Value) (f : ByteArray → Option Value) : Prop where
  has : ∀ s, Maps.has D (kS s) = (f s).isSome
  at' : ∀ s v, f s = some v → ∀ z, D.atKey (kS s) z = .held v
abbrev MapD (w : World) (b n : Nat) (D : DataW Value) : Prop := w.ownsMap Tryz.prog 9 heldE b n D
/-- Block b is a map of at most n texts that tells these. -/
def MapS (w : World) (b n : Nat) (f : ByteArray → Option Value) : Prop := ∃ D, MapD w b n D ∧ ReadsS D f
/-- A block that is a map. -/
def MapB (w : World) (b : Nat) : Prop := ∃ es clock, w.heap[b]? = some (.map es clock)
theorem MapB.ne {w : World} {b g : Nat} {t : TypeId} (h : MapB w b) (k : CellsT w g t) : b ≠ g := by
  rintro rfl
  obtain ⟨_, _, h⟩ := h
  obtain ⟨_, _, k⟩ := k
  rw [h] at k
  cases k
def updF (f : ByteArray → Option Value) (s : ByteArray) (v : Value) : ByteArray → Option Value := fun t => if t = s then some v else f t
theorem ReadsS.put {D : DataW Value} {f : ByteArray → Option Value} (h : ReadsS D f) (hm : IsMap D) (s : ByteArray) (v : Value) : ReadsS (D.put (kS s) (.held v)) (updF f s v) := by
  refine ⟨fun t => ?_, fun t x ht z => ?_⟩
  · unfold updF
    by_cases e : t = s
    · subst e
      rw [if_pos rfl, has_put_same hm (k := kS t) ⟨⟩]
      rfl
    · rw [if_neg e, has_put_other (fun q => e (kS_inj q)), h.has]
  · unfold updF at ht
    by_cases e : t = s
    · subst e
      rw [if_pos rfl] at ht
      cases ht
      exact atKey_put_same hm (k := kS t) ⟨⟩ _ _
    · rw [if_neg e] at ht
      rw [atKey_put_other (fun q => e (kS_inj q))]
      exact h.at' t x ht z
section
variable {w w' : World} {b n : Nat} {f : ByteArray → Option Value}
theorem MapS.isMap (h : MapS w b n f) : MapB w b := by
  obtain ⟨D, ⟨es, clock, hb, _⟩, _⟩ := h
  exact ⟨es, clock, hb⟩
theorem MapS.lt (h : MapS w b n f) : b < w.heap.size := h.choose_spec.1.lt
theorem MapS.mono (h : MapS w b n f) {m : Nat} (hm : n ≤ m) : MapS w b m f := by
  obtain ⟨D, h1, h2⟩ := h
  exact ⟨D, h1.mono hm, h2⟩
theorem MapS.congr {f' : ByteArray → Option Value} (h : MapS w b n f) (e : ∀ s, f s = f' s) : MapS w b n f' := (funext e : f = f') ▸ h
theorem MapS.ch {S : Nat → Prop} (h : MapS w b n f) (k : Ch S w w') (hn : ¬ S b) : MapS w' b n f := by
  obtain ⟨D, h1, h2⟩ := h
  have hlt := h1.lt
  obtain ⟨es, clock, hb, r⟩ := h1
  exact ⟨D, ⟨es, clock, (k.block b hlt hn).trans hb, r⟩, h2⟩
theorem MapS.below (h : MapS w b n f) (k : Below w.heap.size w w') : MapS w' b n f := h.ch (Ch.of_below k) id
theorem MapS.drewN (h : MapS w b n f) (q : Nat) : MapS (w.drewN q) b n f := h
theorem MapS.drew (h : MapS w b n f) : MapS w.drew b n f := h
theorem mapS_new (w : World) : MapS (w.alloc (.map #[] 0)) w.heap.size 0 (fun _ => none) := ⟨_, World.ownsMap_made w _ _ _, fun s => rfl, fun s v h => by cases h⟩
/-- A look at a text. -/
theorem MapS.look {t e : TypeId} (h : MapS w b n f) (ht : Tryz.prog.underlying t = some (.map 9 e)) {z : Value} (hz : (zeroValue e).run Tryz.prog w = .ok z w) {s : ByteArray} (hs : s.size ≤ maxLen) :
    (Instr.lookup t (.map (some b)) (.string s) false).run Tryz.prog w = .ok ((f s).getD z) w := by
  obtain ⟨D, h1, h2⟩ := h
  obtain ⟨v, ps, hrun, hv⟩ := h1.lookup keyS ht hz (zd := .held z) (zp := []) rfl (keyOf_kS hs)
  rw [hrun]
  unfold heldE at hv
  simp only [Option.some.injEq, Prod.mk.injEq] at hv
  congr 1
  cases hf : f s with
  | none =>
    have := h2.has s
    rw [hf] at this
    rw [atKey_of_not_has this] at hv
    exact DataW.held.inj hv.1
  | some x =>
    rw [h2.at' s x hf] at hv
    exact DataW.held.inj hv.1
theorem MapS.look_ok {t e : TypeId} (h : MapS w b n f) (ht : Tryz.prog.underlying t = some (.map 9 e)) {z : Value} (hz : (zeroValue e).run Tryz.prog w = .ok z w) {s : ByteArray} (hs : s.size ≤ maxLen) :
    (Instr.lookup t (.map (some b)) (.string s) true).run Tryz.prog w = .ok (.tuple #[(f s).getD z, .bool (f s).isSome]) w := by
  obtain ⟨D, h1, h2⟩ := h
  obtain ⟨v, ps, hrun, hv⟩ := h1.look_ok keyS ht hz (zd := .held z) (zp := []) rfl (keyOf_kS hs)
  rw [hrun, h2.has s]
  unfold heldE at hv
  simp only [Option.some.injEq, Prod.mk.injEq] at hv
  have e : v = (f s).getD z := by
    cases hf : f s with
    | none =>
      have := h2.has s
      rw [hf] at this
      rw [atKey_of_not_has this] at hv
      exact DataW.held.inj hv.1
    | some x =>
      rw [h2.at' s x hf] at hv
      exact DataW.held.inj hv.1
  rw [e]
/-- One text more, or another thing at it. -/
theorem MapS.store {t e : TypeId} (h : MapS w b n f) (ht : Tryz.prog.underlying t = some (.map 9 e)) (hn : n < maxLen) {s : ByteArray} (hs : s.size ≤ maxLen) (v : Value) :
    ∃ w', (Instr.mapUpdate t (.map (some b)) (.string s) v).run Tryz.prog w = .ok () w' ∧ MapS w' b (n + 1) (updF f s v) ∧ w.grownBy w' (some b) := by
  obtain ⟨D, h1, h2⟩ := h
  obtain ⟨w', hrun, r1, r2⟩ := h1.update keyS ht hn (keyOf_kS hs) (val := v) (d := .held v) (ps := []) rfl
  exact ⟨w', hrun, ⟨_, r1, h2.put h1.isMap s v⟩, r2⟩
end
theorem look_none {t e : TypeId} {w : World} (ht : Tryz.prog.underlying t = some (.map 9 e)) {z : Value} (hz : (zeroValue e).run Tryz.prog w = .ok z w) {s : ByteArray} (hs : s.size ≤ maxLen) :
    (Instr.lookup t (.map none) (.string s) false).run Tryz.prog w = .ok z w := by
  have := Maps.look_nil (w := w) false keyS ht hz (keyOf_kS hs)
  simpa using this
/-- The texts that a map has. -/
theorem keys_mem {w : World} {b n : Nat} {D : DataW Value} (h : MapD w b n D) : (strKeys D).Nodup ∧ ∀ x, x ∈ strKeys D ↔ Maps.has D (.string x) = true := by
  obtain ⟨es, hD, hpw, _⟩ := h.entries keyS
  obtain ⟨es', hD', hko⟩ := h.keysOf
  obtain rfl : es = es' := by rw [hD] at hD'; simpa using hD'
  subst hD
  have hk : ∀ p ∈ es, ∃ x, p.1 = .string x := fun p hp => by
    obtain ⟨v, hv⟩ := hko p hp
    obtain ⟨x, _, hx, _⟩ := Maps.keyOf_str Tryz.underlying9 hv
    exact ⟨x, hx⟩
  refine ⟨?_, fun x => ?_⟩
  · show (es.map fun p => strOf p.1).Nodup
    refine List.pairwise_map.2 (hpw.imp_of_mem fun {p q} hp hq hne e => hne ?_)
    obtain ⟨u, hu⟩ := hk p hp
    obtain ⟨v, hv⟩ := hk q hq
    rw [hu, hv] at e ⊢
    exact congrArg Lit.string e
  · show x ∈ es.map (fun p => strOf p.1) ↔ _
    rw [has_eq, List.any_eq_true, List.mem_map]
    constructor
    · rintro ⟨p, hp, rfl⟩
      obtain ⟨u, hu⟩ := hk p hp
      exact ⟨p, hp, by rw [hu]; simp [Lit.sameKey, strOf]⟩
    · rintro ⟨p, hp, hs⟩
      obtain ⟨u, hu⟩ := hk p hp
      rw [hu] at hs
      exact ⟨p, hp, by rw [hu]; simpa [Lit.sameKey, strOf] using hs⟩
theorem bytes_le {x y : List UInt8} (h : Op.bytesLess x y = true) : x ≤ y := by
  rw [bytesLess_eq, decide_eq_true_eq] at h
  exact List.le_of_lt h
/-- Texts in order, each once, are the sorted texts of a map that has just these. -/
theorem sorted_keys {D : DataW Value} {ss l : List (List UInt8)} (hp : ss.Perm (strKeys D)) (hn : (strKeys D).Nodup) (hl : l.Pairwise (fun x y => Op.bytesLess x y = true)) (hm : ∀ x, x ∈ l ↔ x ∈ strKeys D) : ss.mergeSort (fun x y => decide (x ≤ y)) = l := by
  have hnd : l.Nodup := hl.imp (fun {x y} h e => by subst e; rw [bytesLess_eq, decide_eq_true_eq] at h; exact List.lt_irrefl x h)
  have hpl : ss.Perm l := hp.trans ((List.perm_ext_iff_of_nodup hn hnd).2 (fun x => (hm x).symm))
  have e := mergeSort_of_perm hpl
  rw [show ss.mergeSort (fun x y => decide (x ≤ y)) = ss.mergeSort leB from rfl, e]
  exact List.mergeSort_of_pairwise (hl.imp (fun h => by simp only [leB, decide_eq_true_eq]; exact bytes_le h))
end Go.Proofs.YthlkmjaflomflaaGreat

namespace Go.Proofs.YthlkmjaflomflaaGreat
open Go.RowKit Go.Maps
set_option maxRecDepth 20000
set_option linter.unusedVariables false

def delF (f : ByteArray → Option Value) (s : ByteArray) : ByteArray → Option Value := fun t => if t = s then none else f t
theorem ReadsS.del {D : DataW Value} {f : ByteArray → Option Value} (h : ReadsS D f) (s : ByteArray) : ReadsS (D.del (kS s)) (delF f s) := by
  refine ⟨fun t => ?_, fun t x ht z => ?_⟩
  · unfold delF
    by_cases e : t = s
    · subst e
      rw [if_pos rfl, has_del_same]
      rfl
    · rw [if_neg e, has_del_other (fun q => e (kS_inj q)), h.has]
  · unfold delF at ht
    by_cases e : t = s
    · subst e
      rw [if_pos rfl] at ht
      cases ht
    · rw [if_neg e] at ht
      rw [atKey_del_other (fun q => e (kS_inj q))]
      exact h.at' t x ht z
section
variable {w w' : World} {b n : Nat} {f : ByteArray → Option Value}
/-- A text taken out. -/
theorem MapS.drop {t e : TypeId} (h : MapS w b n f) (ht : Tryz.prog.underlying t = some (.map 9 e)) {s : ByteArray} (hs : s.size ≤ maxLen) (ty : TypeId) :
    ∃ w', (Builtin.delete_ #[t, 9] ty #[.map (some b), .string s]).run Tryz.prog w = .ok (.tuple #[]) w' ∧ MapS w' b n (delF f s) ∧ w.grownBy w' (some b) := by
  obtain ⟨D, h1, h2⟩ := h
  obtain ⟨w', hrun, r1, r2⟩ := h1.drop keyS ht (keyOf_kS hs) ty
  exact ⟨w', hrun, ⟨_, r1, h2.del s⟩, r2.grown⟩
theorem strKeys_len {D : DataW Value} (h : MapD w b n D) : (strKeys D).length = Maps.size D := by
  obtain ⟨es, hD, -⟩ := h.entries keyS
  subst hD
  show (es.map fun p => strOf p.1).length = es.length
  rw [List.length_map]
theorem ba_of' (x : List UInt8) : kS ⟨x.toArray⟩ = .string x := by unfold kS; rfl
theorem size_of {D : DataW Value} (h1 : MapD w b n D) (h2 : ReadsS D f) {L : List ByteArray} (hL : L.Nodup) (hm : ∀ s, s ∈ L ↔ (f s).isSome = true) : Maps.size D = L.length ∧ (strKeys D).Perm (L.map (·.toList)) := by
  obtain ⟨hn, hk⟩ := keys_mem h1
  have hp : (strKeys D).Perm (L.map (·.toList)) := by
    refine (List.perm_ext_iff_of_nodup hn (List.pairwise_map.2 (hL.imp (fun {x y} hne e => hne (ba_ext e))))).2 (fun x => ?_)
    rw [hk, ← ba_of', h2.has, ← hm, List.mem_map]
    constructor
    · intro hx
      exact ⟨_, hx, by rw [ByteArray.toList_eq]⟩
    · rintro ⟨y, hy, e⟩
      have : (⟨x.toArray⟩ : ByteArray) = y := by
        apply ba_ext
        rw [← e, ByteArray.toList_eq, ByteArray.toList_eq]
      rw [this]
      exact hy
  refine ⟨?_, hp⟩
  rw [← strKeys_len h1, hp.length_eq, List.length_map]
/-- It has just as many as there are. -/
theorem MapS.tight (h : MapS w b n f) {L : List ByteArray} (hL : L.Nodup) (hm : ∀ s, s ∈ L ↔ (f s).isSome = true) : MapS w b L.length f := by
  obtain ⟨D, h1, h2⟩ := h
  obtain ⟨e, -⟩ := size_of h1 h2 hL hm
  obtain ⟨es, clock, hb, F, _, hD⟩ := h1
  refine ⟨D, ⟨es, clock, hb, F, ?_, hD⟩, h2⟩
  rw [← e, hD]
  simp [Maps.size, length_sorted]
theorem MapS.len {t e : TypeId} (h : MapS w b n f) (ht : Tryz.prog.underlying t = some (.map 9 e)) {L : List ByteArray} (hL : L.Nodup) (hm : ∀ s, s ∈ L ↔ (f s).isSome = true) (ty : TypeId) :
    (Builtin.len_ #[t] ty #[.map (some b)]).run Tryz.prog w = .ok (.int .i64 (L.length : Int)) w := by
  obtain ⟨D, h1, h2⟩ := h
  obtain ⟨e, -⟩ := size_of h1 h2 hL hm
  rw [h1.len ht ty, e]
/-- A copy of its entries. -/
theorem MapS.copied (h : MapS w b n f) {es : Array MapEntry} {clock : Nat} (hb : w.heap[b]? = some (.map es clock)) : MapS (w.alloc (.map es clock)) w.heap.size n f := by
  obtain ⟨D, ⟨es', clock', hb', r⟩, h2⟩ := h
  rw [hb] at hb'
  simp only [Option.some.injEq, Obj.map.injEq] at hb'
  obtain ⟨rfl, rfl⟩ := hb'
  exact ⟨D, ⟨es, clock, World.alloc_heap_new w _, r⟩, h2⟩
end
end Go.Proofs.YthlkmjaflomflaaGreat
