/-
  The document's reader of texts: its Value: its contract, for every world (written by gen/labhv.gen.py).
  Conditions: the reader lies in a block of its own; its place is within the text, which has at most 20,000 bytes.
-/
import Derived.Test.YthebcmkainplnaaLabHn
import Derived.Test.YthebcmkainplnaaLabDq
namespace Go.Proofs.Ythebcmkainplnaa
open Go.RowKit
set_option maxRecDepth 20000

/-- What is read of a value from place j on, behind these bytes. -/
def RestV (s : ByteArray) (res : Option (List UInt8 × List UInt8)) (j : Nat) (out : List UInt8) : Prop :=
  res = (unqB (s.toList.drop j)).map (fun q => (out ++ q.1, q.2))
section
variable {s : ByteArray} {res : Option (List UInt8 × List UInt8)} {j : Nat} {out : List UInt8}
theorem RestV.past (h : RestV s res j out) (hk : s.size ≤ j) : res = none := by
  unfold RestV at h
  rw [h, List.drop_eq_nil_of_le (by rw [ba_len]; exact hk), unqB.eq_def]
  rfl
theorem RestV.ends (h : RestV s res j out) (hk : j < s.size) (hc : s[j]'hk = 34) : res = some (out, s.toList.drop (j + 1)) := by
  unfold RestV at h
  rw [h, drop_byte s j hk, hc, unq_end]
  simp
theorem RestV.plain (h : RestV s res j out) (hk : j < s.size) (h1 : s[j]'hk ≠ 34) (h2 : s[j]'hk ≠ 92) : RestV s res (j + 1) (out ++ [s[j]'hk]) := by
  unfold RestV at *
  rw [h, drop_byte s j hk, unq_plain h1 h2, Option.map_map]
  congr 1
  funext q
  simp
theorem RestV.esc0 (h : RestV s res j out) (hk : j < s.size) (hc : s[j]'hk = 92) (h1 : s.size ≤ j + 1) : res = none := by
  unfold RestV at h
  rw [h, drop_byte s j hk, hc, List.drop_eq_nil_of_le (by rw [ba_len]; exact h1), unqB.eq_def]
  rfl
theorem RestV.esc1 (h : RestV s res j out) (hk : j < s.size) (hc : s[j]'hk = 92) (hk1 : j + 1 < s.size) (hd : s[j + 1]'hk1 ≠ 120) : RestV s res (j + 1 + 1) (out ++ [s[j + 1]'hk1]) := by
  unfold RestV at *
  rw [h, drop_byte s j hk, hc, drop_byte s (j + 1) hk1, unq_esc hd, Option.map_map]
  congr 1
  funext q
  simp
theorem RestV.hex0 (h : RestV s res j out) (hk : j < s.size) (hc : s[j]'hk = 92) (hk1 : j + 1 < s.size) (hd : s[j + 1]'hk1 = 120) (h2 : s.size - (j + 1 + 1) < 2) : res = none := by
  unfold RestV at h
  have hl : (s.toList.drop (j + 1 + 1)).length < 2 := by rw [List.length_drop, ba_len]; exact h2
  rw [h, drop_byte s j hk, hc, drop_byte s (j + 1) hk1, hd, unqB.eq_def]
  simp only
  rw [if_neg (by decide), if_neg (by decide), if_neg (by decide)]
  match s.toList.drop (j + 1 + 1), hl with
  | [], _ => rfl
  | [_], _ => rfl
  | _ :: _ :: _, hl => simp at hl; omega
theorem RestV.hexn (h : RestV s res j out) (hk : j < s.size) (hc : s[j]'hk = 92) (hk1 : j + 1 < s.size) (hd : s[j + 1]'hk1 = 120) (hk2 : j + 1 + 1 < s.size) (hk3 : j + 1 + 1 + 1 < s.size) (hn : hexv (s[j + 1 + 1]'hk2) = none ∨ hexv (s[j + 1 + 1 + 1]'hk3) = none) : res = none := by
  unfold RestV at h
  rw [h, drop_byte s j hk, hc, drop_byte s (j + 1) hk1, hd, drop_byte s (j + 1 + 1) hk2, drop_byte s (j + 1 + 1 + 1) hk3, unqB.eq_def]
  simp only
  rw [if_neg (by decide), if_neg (by decide), if_neg (by decide)]
  rcases hn with hn | hn
  · rw [hn]; rfl
  · cases e : hexv (s[j + 1 + 1]'hk2) with
    | none => rfl
    | some p => rw [hn]; rfl
theorem RestV.hexs (h : RestV s res j out) (hk : j < s.size) (hc : s[j]'hk = 92) (hk1 : j + 1 < s.size) (hd : s[j + 1]'hk1 = 120) (hk2 : j + 1 + 1 < s.size) (hk3 : j + 1 + 1 + 1 < s.size) {p q : Nat} (hp : hexv (s[j + 1 + 1]'hk2) = some p) (hq : hexv (s[j + 1 + 1 + 1]'hk3) = some q) : RestV s res (j + 1 + 1 + 2) (out ++ [UInt8.ofNat (p * 16 + q)]) := by
  unfold RestV at *
  rw [h, drop_byte s j hk, hc, drop_byte s (j + 1) hk1, hd, drop_byte s (j + 1 + 1) hk2, drop_byte s (j + 1 + 1 + 1) hk3, unq_hex hp hq, Option.map_map]
  congr 1
  funext z
  simp
end
/-- What a value is, read at place k. -/
def valR (s : ByteArray) (k : Nat) (bad : Bool) : Option (List UInt8 × List UInt8) := if isS s k bad 34 then unqB (s.toList.drop (k + 1)) else none

/-- The reader, and bytes of the call's own, in a world behind w. -/
structure VS (w : World) (g : Nat) (s : ByteArray) (j : Nat) (bd : Bool) (ao : Option Addr) (n cap : Nat) (out : List UInt8) (wr : World) : Prop where
  sb : SB wr g s j bd
  ow : Own 5 .u8 wr w.heap.size ao n cap (numsU out)
  ch : Ch (fun b => b = g) w wr
section
variable {w wr : World} {g : Nat} {s : ByteArray} {j : Nat} {bd : Bool} {ao : Option Addr} {n cap : Nat} {out : List UInt8}
theorem VS.drewN (h : VS w g s j bd ao n cap out wr) (q : Nat) : VS w g s j bd ao n cap out (wr.drewN q) :=
  ⟨h.sb.drewN q, h.ow.below (bel_drewN (Below.refl _ _) q) (Nat.le_refl _), ch_drewS h.ch q⟩
theorem VS.set (hg : g < w.heap.size) (h : VS w g s j bd ao n cap out wr) {v : Value} {i j' : Nat} {bd' : Bool} (hs : SB (wr.setCell ⟨g, i, none⟩ v) g s j' bd') : VS w g s j' bd' ao n cap out (wr.setCell ⟨g, i, none⟩ v) :=
  ⟨hs, row_ch h.ow (ch_set wr g i v) (fun b hb e => by have := own_block h.ow b hb; omega), h.ch.trans (ch_set wr g i v)⟩
theorem VS.place (hg : g < w.heap.size) (h : VS w g s j bd ao n cap out wr) (j' : Nat) : VS w g s j' bd ao n cap out (wr.setCell ⟨g, 1, none⟩ (.int .i64 (j' : Int))) := h.set hg (h.sb.place j')
theorem VS.spoil (hg : g < w.heap.size) (h : VS w g s j bd ao n cap out wr) : VS w g s j true ao n cap out (wr.setCell ⟨g, 2, none⟩ (.bool true)) := h.set hg h.sb.spoil
theorem VS.push (hg : g < w.heap.size) (h : VS w g s j bd ao n cap out wr) {u : World} (hb : Below w.heap.size wr u) {a' : Option Addr} {n' c' : Nat} {out' : List UInt8} (ho : Own 5 .u8 u w.heap.size a' n' c' (numsU out')) : VS w g s j bd a' n' c' out' u :=
  ⟨h.sb.keep (hb.block g hg), ho, ch_bel h.ch hb⟩
theorem VS.conv (h : VS w g s j bd ao n cap out wr) (hn : n ≤ 20000) : (convert 38 9 (.slice ao n cap)).run Try.prog wr = .ok (.string ⟨out.toArray⟩) wr := by
  rw [rowS (zs := numsU out) (h.ow.row (by omega) (numsU_wf out)), numsU_str]
theorem VS.len (h : VS w g s j bd ao n cap out wr) : out.length = n := by
  have := h.ow.len
  unfold numsU at this
  rw [List.length_map] at this
  exact this
theorem VS.cells (h : VS w g s j bd ao n cap out wr) : wr.cell? ⟨g, 0, none⟩ = some (.string s) ∧ wr.cell? ⟨g, 1, none⟩ = some (.int .i64 (j : Int)) ∧ wr.cell? ⟨g, 2, none⟩ = some (.bool bd) ∧ ∀ o, wr.frozen? ⟨g, o, none⟩ = false := h.sb.cell
end
/-- What Value tells. -/
def ValP (res : Option (List UInt8 × List UInt8)) (w : World) (g : Nat) (s : ByteArray) (e : Ending) (w' : World) : Prop :=
  ∃ (t : ByteArray) (k' : Nat), e = .returned (.string t) ∧ k' ≤ s.size ∧ t.size ≤ s.size ∧ Ch (fun b => b = g) w w' ∧ match res with
  | some (v, r) => t = ⟨v.toArray⟩ ∧ s.toList.drop k' = r ∧ SB w' g s k' false
  | none => SB w' g s k' true
theorem out_size {l : List UInt8} {n : Nat} (h : l.length = n) : (⟨l.toArray⟩ : ByteArray).size = n := by
  rw [← ba_len, ByteArray.toList_mk]; exact h
theorem u8_wf' (c : UInt8) : (Lit.int .u8 (c.toNat : Int)).wf = true := by
  have := c.toNat_lt
  simp [Lit.wf, IntKind.min, IntKind.max, IntKind.signed, IntKind.bits]
  omega

set_option maxHeartbeats 8000000 in
theorem svalue_any (g : Nat) (s : ByteArray) (k : Nat) (bad : Bool) (w : World) (h : SB w g s k bad) (hk : k ≤ s.size) (hs : s.size ≤ 20000) :
    Calls Try.prog 66 #[.pointer (some ⟨g, 0, none⟩)] w fun e w' => ValP (valR s k bad) w g s e w' := by
  obtain ⟨i0, hi, hz0, hz1, hz2⟩ := info_parts bu_byte
  have M34 : Hid (Calls Try.prog 64 #[.pointer (some ⟨g, 0, none⟩), .int .u8 34] w fun e w' => e = .returned (.tuple #[]) ∧ Ch (fun b => b = g) w w' ∧ SB w' g s (if isS s k bad 34 then k + 1 else k) (!isS s k bad 34)) := must_any g s k bad 34 w h hk hs
  obtain ⟨res, HR⟩ : ∃ r, Hid (valR s k bad = r) := ⟨_, rfl⟩
  rw [HR.out]
  have hg : g < w.heap.size := h.lt
  have START : Hid (∀ v1 : World, Ch (fun b => b = g) w v1 → SB v1 g s (if isS s k bad 34 then k + 1 else k) (!isS s k bad 34) → ∃ (j : Nat) (bd : Bool), j ≤ s.size ∧ VS w g s j bd none 0 0 [] v1 ∧ (bd = false → RestV s res j []) ∧ (bd = true → res = none)) := fun v1 c1 s1 => by
    unfold valR at HR
    cases e : isS s k bad 34 with
    | true =>
      have hlt : k < s.size := by
        unfold isS at e
        simp only [Bool.and_eq_true, beq_iff_eq] at e
        have := (List.getElem?_eq_some_iff.1 e.2).1
        rw [ba_len] at this
        exact this
      rw [e] at s1 HR
      refine ⟨k + 1, false, by omega, ⟨s1, own_nil _ _ _ _, c1⟩, fun _ => ?_, fun h => by cases h⟩
      unfold RestV
      rw [← HR.out]
      simp
    | false =>
      rw [e] at s1 HR
      exact ⟨k, true, hk, ⟨s1, own_nil _ _ _ _, c1⟩, fun h => (by cases h), fun _ => HR.out.symm⟩
  have DONE : Hid (∀ (u : World) (j : Nat) (ao : Option Addr) (n cap : Nat) (out : List UInt8), VS w g s j true ao n cap out u → j ≤ s.size → n ≤ j → res = none → ValP res w g s (.returned (.string ⟨out.toArray⟩)) u) := fun u j ao n cap out V hj hn e => by
    refine ⟨_, j, rfl, hj, by rw [out_size V.len]; omega, V.ch, ?_⟩
    rw [e]
    exact V.sb
  have DONE2 : Hid (∀ (u : World) (j : Nat) (ao : Option Addr) (n cap : Nat) (out : List UInt8), VS w g s j false ao n cap out u → j ≤ s.size → n ≤ j → res = some (out, s.toList.drop j) → ValP res w g s (.returned (.string ⟨out.toArray⟩)) u) := fun u j ao n cap out V hj hn e => by
    refine ⟨_, j, rfl, hj, by rw [out_size V.len]; omega, V.ch, ?_⟩
    rw [e]
    exact ⟨rfl, rfl, V.sb⟩
  clear HR h
  go_enter Try.func66, Try.ntmps66
  go_wp2_with fail
  with_reducible refine M34.out.mono ?_
  rintro e v1 ⟨rfl, c1, s1⟩
  obtain ⟨j0, bd0, hj0, V0, R0, N0⟩ := START.out v1 c1 s1
  have V0 := hide V0
  have R0 := hide R0
  have N0 := hide N0
  clear c1 s1 START M34
  go_wp2
  go_loopg [3] s.size (fun gk x wr => ∃ (j : Nat) (bd : Bool) (ao : Option Addr) (n cap : Nat) (out : List UInt8), x = .slice ao n cap ∧ j ≤ s.size ∧ n ≤ j ∧ s.size - j ≤ gk ∧ Hid (VS w g s j bd ao n cap out wr) ∧ Hid (bd = false → RestV s res j out) ∧ Hid (bd = true → res = none))
  case atStart => exact ⟨j0, bd0, none, 0, 0, [], rfl, hj0, by omega, by omega, V0, R0, N0⟩
  case round =>
    obtain ⟨j, bd, ao, n, cap, out, rfl, hj, hn, hgk, V, R, NO⟩ := hrel
    obtain ⟨u, rfl⟩ : ∃ u, u = wr := ⟨wr, rfl⟩
    clear V0 R0 N0
    obtain ⟨a0, a1, a2, a3⟩ := V.out.cells
    have z1 := a3 1
    have z2 := a3 2
    cases bd with
    | true =>
      have F := hide (NO.out rfl)
      have f0 := V.out.conv (by omega)
      have D := hide (DONE.out u j ao n cap out V.out hj hn F.out)
      clear R NO V F DONE DONE2
      go_wp2
      go_ret
      exact D.out
    | false =>
      have RV := hide (R.out rfl)
      clear R NO
      by_cases hlt : j < s.size
      · have i1 : ¬ (s.size : Int) ≤ (j : Int) := by omega
        have i1n : decide (s.size ≤ j) = false := decide_eq_false (by omega)
        have i2 : (0 : Int) ≤ (j : Int) := by omega
        have i3 : (j : Int) < (s.size : Int) := by omega
        obtain ⟨c, hc⟩ : ∃ c, Hid ((s[j]'hlt) = c) := ⟨_, rfl⟩
        obtain ⟨z, hz⟩ : ∃ z : Int, Hid ((c.toNat : Int) = z) := ⟨_, rfl⟩
        have hb : ((s[j]'hlt).toNat : Int) = z := by rw [hc.out]; exact hz.out
        have PL : Hid (∀ q, VS w g s (j + 1) false ao n cap out ((u.drewN q).setCell ⟨g, 1, none⟩ (.int .i64 ((j : Int) + 1)))) := fun q => by
          have := (V.out.drewN q).place hg (j + 1)
          rw [show ((j + 1 : Nat) : Int) = (j : Int) + 1 by omega] at this
          exact this
        go_wp2
        go_quiet (fail)
        go_wp2
        go_quiet (fail)
        go_upto_region 8 with fail
        refine wp_world (fun W => VS w g s (j + 1) false ao n cap out W) (PL.out _) ?_
        intro u1 v1
        have V1 := hide v1
        clear v1 PL V a0 a1 a2 a3 z1 z2
        obtain ⟨a0, a1, a2, a3⟩ := V1.out.cells
        have z1 := a3 1
        have z2 := a3 2
        rw [show ((j + 1 : Nat) : Int) = (j : Int) + 1 by omega] at a1
        by_cases h34 : c = 34
        · obtain rfl : z = 34 := by rw [← hz.out, h34]; rfl
          have F := hide (RV.out.ends hlt (hc.out.trans h34))
          have f9 := V1.out.conv (by omega)
          have D9 := hide (DONE2.out u1 (j + 1) ao n cap out V1.out (by omega) (by omega) F.out)
          clear V1 F RV hc hz h34
          go_wp2
          go_ret
          exact D9.out
        · have n1 : (z == 34) = false := by
            rw [beq_eq_false_iff_ne, ← hz.out]
            exact fun e => h34 (UInt8.toNat_inj.1 (by show c.toNat = 34; omega))
          have n1' : ¬ z = 34 := by simpa using n1
          by_cases h92 : c = 92
          · obtain rfl : z = 92 := by rw [← hz.out, h92]; rfl
            have hcc := hc.out.trans h92
            clear hc hz h34 h92
            have SPV : Hid (∀ q, VS w g s (j + 1) true ao n cap out ((u1.drewN q).setCell ⟨g, 2, none⟩ (.bool true))) := fun q => (V1.out.drewN q).spoil hg
            by_cases hlt1 : j + 1 < s.size
            · have k1 : ¬ (s.size : Int) ≤ (j : Int) + 1 := by omega
              have k1n : decide (s.size ≤ j + 1) = false := decide_eq_false (by omega)
              have k2 : (0 : Int) ≤ (j : Int) + 1 := by omega
              have k3 : (j : Int) + 1 < (s.size : Int) := by omega
              obtain ⟨d, hd⟩ : ∃ d, Hid ((s[j + 1]'hlt1) = d) := ⟨_, rfl⟩
              obtain ⟨zd, hzd⟩ : ∃ z : Int, Hid ((d.toNat : Int) = z) := ⟨_, rfl⟩
              have hbd : ((s[j + 1]'hlt1).toNat : Int) = zd := by rw [hd.out]; exact hzd.out
              have PL : Hid (∀ q, VS w g s (j + 1 + 1) false ao n cap out ((u1.drewN q).setCell ⟨g, 1, none⟩ (.int .i64 ((j : Int) + 1 + 1)))) := fun q => by
                have := (V1.out.drewN q).place hg (j + 1 + 1)
                rw [show ((j + 1 + 1 : Nat) : Int) = (j : Int) + 1 + 1 by omega] at this
                exact this
              clear SPV
              go_wp2
              go_quiet (fail)
              go_wp2
              go_quiet (fail)
              go_upto_region 15 with fail
              refine wp_world (fun W => VS w g s (j + 1 + 1) false ao n cap out W) (PL.out _) ?_
              intro u2 v2
              have V2 := hide v2
              clear v2 PL V1 a0 a1 a2 a3 z1 z2
              obtain ⟨a0, a1, a2, a3⟩ := V2.out.cells
              have z1 := a3 1
              have z2 := a3 2
              rw [show ((j + 1 + 1 : Nat) : Int) = (j : Int) + 1 + 1 by omega] at a1
              by_cases h120 : d = 120
              · obtain rfl : zd = 120 := by rw [← hzd.out, h120]; rfl
                have hdd := hd.out.trans h120
                clear hd hzd h120
                have SPV : Hid (∀ q, VS w g s (j + 1 + 1) true ao n cap out ((u2.drewN q).setCell ⟨g, 2, none⟩ (.bool true))) := fun q => (V2.out.drewN q).spoil hg
                by_cases hsh : s.size - (j + 1 + 1) < 2
                · have F := hide (RV.out.hex0 hlt hcc hlt1 hdd hsh)
                  have e2 : (s.size : Int) - ((j : Int) + 1 + 1) < 2 := by omega
                  clear RV V2
                  go_wp2
                  go_quiet (fail)
                  go_upto_region 25 with fail
                  refine wp_world (fun W => VS w g s (j + 1 + 1) true ao n cap out W) (SPV.out _) ?_
                  intro u9 v9
                  have f9 := v9.conv (by omega)
                  have D9 := hide (DONE.out u9 (j + 1 + 1) ao n cap out v9 (by omega) (by omega) F.out)
                  clear v9 F
                  go_wp2
                  go_ret
                  exact D9.out
                · have e2 : ¬ (s.size : Int) - ((j : Int) + 1 + 1) < 2 := by omega
                  have hlt2 : j + 1 + 1 < s.size := by omega
                  have hlt3 : j + 1 + 1 + 1 < s.size := by omega
                  obtain ⟨x, hx⟩ : ∃ d, Hid ((s[j + 1 + 1]'hlt2) = d) := ⟨_, rfl⟩
                  obtain ⟨zx, hzx⟩ : ∃ z : Int, Hid ((x.toNat : Int) = z) := ⟨_, rfl⟩
                  have hbx : ((s[j + 1 + 1]'hlt2).toNat : Int) = zx := by rw [hx.out]; exact hzx.out
                  obtain ⟨y, hy⟩ : ∃ d, Hid ((s[j + 1 + 1 + 1]'hlt3) = d) := ⟨_, rfl⟩
                  obtain ⟨zy, hzy⟩ : ∃ z : Int, Hid ((y.toNat : Int) = z) := ⟨_, rfl⟩
                  have hby : ((s[j + 1 + 1 + 1]'hlt3).toNat : Int) = zy := by rw [hy.out]; exact hzy.out
                  have CX := hide (hex_any x)
                  have CY := hide (hex_any y)
                  rw [hzx.out] at CX
                  rw [hzy.out] at CY
                  unfold hexT at CX CY
                  have l2 : (0 : Int) ≤ (j : Int) + 1 + 1 := by omega
                  have l3 : (j : Int) + 1 + 1 < (s.size : Int) := by omega
                  have l4 : (0 : Int) ≤ (j : Int) + 1 + 1 + 1 := by omega
                  have l5 : (j : Int) + 1 + 1 + 1 < (s.size : Int) := by omega
                  cases ex : hexv x with
                  | none =>
                    rw [ex] at CX
                    have F := hide (RV.out.hexn hlt hcc hlt1 hdd hlt2 hlt3 (Or.inl (by rw [hx.out]; exact ex)))
                    cases ey : hexv y with
                    | none =>
                      rw [ey] at CY
                      clear RV V2 hx hzx hy hzy ex ey
                      go_wp2
                      go_quiet (fail)
                      go_wp2
                      go_quiet ((go_at_call 93; first | exact quiet_lab CX.out | exact quiet_w CX.out))
                      go_wp2
                      go_quiet ((go_at_call 93; first | exact quiet_lab CY.out | exact quiet_w CY.out))
                      go_upto_region 25 with fail
                      refine wp_world (fun W => VS w g s (j + 1 + 1) true ao n cap out W) (SPV.out _) ?_
                      intro u9 v9
                      have f9 := v9.conv (by omega)
                      have D9 := hide (DONE.out u9 (j + 1 + 1) ao n cap out v9 (by omega) (by omega) F.out)
                      clear v9 F
                      go_wp2
                      go_ret
                      exact D9.out
                    | some q =>
                      rw [ey] at CY
                      clear RV V2 hx hzx hy hzy ex ey
                      go_wp2
                      go_quiet (fail)
                      go_wp2
                      go_quiet ((go_at_call 93; first | exact quiet_lab CX.out | exact quiet_w CX.out))
                      go_wp2
                      go_quiet ((go_at_call 93; first | exact quiet_lab CY.out | exact quiet_w CY.out))
                      go_upto_region 25 with fail
                      refine wp_world (fun W => VS w g s (j + 1 + 1) true ao n cap out W) (SPV.out _) ?_
                      intro u9 v9
                      have f9 := v9.conv (by omega)
                      have D9 := hide (DONE.out u9 (j + 1 + 1) ao n cap out v9 (by omega) (by omega) F.out)
                      clear v9 F
                      go_wp2
                      go_ret
                      exact D9.out
                  | some p =>
                    rw [ex] at CX
                    cases ey : hexv y with
                    | none =>
                      rw [ey] at CY
                      have F := hide (RV.out.hexn hlt hcc hlt1 hdd hlt2 hlt3 (Or.inr (by rw [hy.out]; exact ey)))
                      clear RV V2 hx hzx hy hzy ex ey
                      go_wp2
                      go_quiet (fail)
                      go_wp2
                      go_quiet ((go_at_call 93; first | exact quiet_lab CX.out | exact quiet_w CX.out))
                      go_wp2
                      go_quiet ((go_at_call 93; first | exact quiet_lab CY.out | exact quiet_w CY.out))
                      go_upto_region 25 with fail
                      refine wp_world (fun W => VS w g s (j + 1 + 1) true ao n cap out W) (SPV.out _) ?_
                      intro u9 v9
                      have f9 := v9.conv (by omega)
                      have D9 := hide (DONE.out u9 (j + 1 + 1) ao n cap out v9 (by omega) (by omega) F.out)
                      clear v9 F
                      go_wp2
                      go_ret
                      exact D9.out
                    | some q =>
                      rw [ey] at CY
                      have R2 := hide (RV.out.hexs hlt hcc hlt1 hdd hlt2 hlt3 (by rw [hx.out]; exact ex) (by rw [hy.out]; exact ey))
                      have p16 := (hexv_fwd ex).2
                      have q16 := (hexv_fwd ey).2
                      have NS := hide (numsU_snoc out (UInt8.ofNat (p * 16 + q)))
                      have tn : (UInt8.ofNat (p * 16 + q)).toNat = p * 16 + q := by rw [UInt8.toNat_ofNat']; omega
                      rw [tn] at NS
                      obtain ⟨zv, hzv⟩ : ∃ v : Int, Hid (((p * 16 + q : Nat) : Int) = v) := ⟨_, rfl⟩
                      rw [hzv.out] at NS
                      have v0 : (p : Int) * 16 + (q : Int) = zv := by have := hzv.out; omega
                      have v1 : zv % 256 = zv := by have := hzv.out; omega
                      have v2 : (p : Int) * 16 % 256 = (p : Int) * 16 := by omega
                      have v3 : IntKind.u8.wrap ((p : Int) * 16) = (p : Int) * 16 := by rw [IntKind.wrap_u8]; exact v2
                      have v4 : IntKind.u8.wrap zv = zv := by rw [IntKind.wrap_u8]; exact v1
                      have wz : (Lit.int .u8 zv).wf = true := by
                        have := hzv.out
                        simp [Lit.wf, IntKind.min, IntKind.max, IntKind.signed, IntKind.bits]
                        omega
                      have PL : Hid (∀ q, VS w g s (j + 1 + 1 + 2) false ao n cap out ((u2.drewN q).setCell ⟨g, 1, none⟩ (.int .i64 ((j : Int) + 1 + 1 + 2)))) := fun q => by
                        have := (V2.out.drewN q).place hg (j + 1 + 1 + 2)
                        rw [show ((j + 1 + 1 + 2 : Nat) : Int) = (j : Int) + 1 + 1 + 2 by omega] at this
                        exact this
                      clear RV V2 SPV hx hzx hy hzy ex ey tn hzv
                      go_wp2
                      go_quiet (fail)
                      go_wp2
                      go_quiet ((go_at_call 93; first | exact quiet_lab CX.out | exact quiet_w CX.out))
                      go_wp2
                      go_quiet ((go_at_call 93; first | exact quiet_lab CY.out | exact quiet_w CY.out))
                      go_upto_region 24 with fail
                      refine wp_world (fun W => VS w g s (j + 1 + 1 + 2) false ao n cap out W) (PL.out _) ?_
                      intro u3 v3'
                      have V3 := hide v3'
                      clear v3' PL a0 a1 a2 a3 z1 z2
                      have HO := hide (one_row u3 zv wz 5 (0, 0))
                      have SRC : Hid (Src 5 .u8 (u3.alloc (.cells #[.int .u8 zv] 5)) w.heap.size ao n cap (numsU out)) := Or.inl (V3.out.ow.below (bel_al (Below.refl _ _) (Nat.le_refl _) _) (Nat.le_refl _))
                      have HW : Hid (w.heap.size ≤ u3.heap.size) := V3.out.ch.size
                      have BX : Hid (w.heap.size ≤ (u3.alloc (.cells #[.int .u8 zv] 5)).heap.size) := Nat.le_trans HW.out (bel_al (Below.refl u3.heap.size u3) (Nat.le_refl _) _).size
                      go_wp2_with (at_builtin; refine wpList_append_one _ rfl _ _ 38 rfl w.heap.size 5 i0 Try.underlying38 hi hz0 hz1 hz2 ao n cap _ rfl SRC.out _ 1 zv rfl HO.out (by omega) BX.out ?_)
                      intro a4 c4 w4 o4 b4
                      rw [← NS.out] at o4
                      have V4 := hide (V3.out.push hg ((((bel_al (Below.refl u3.heap.size u3) (Nat.le_refl _) _).mono HW.out)).trans b4) o4)
                      clear o4 b4 SRC BX HO NS
                      go_wp2
                      go_roundg (s.size - (j + 1 + 1 + 2))
                      case measure => omega
                      case rel => exact ⟨j + 1 + 1 + 2, false, a4, n + 1, c4, _, by go_num, by omega, by omega, by omega, V4, fun _ => R2.out, fun h => by cases h⟩
              · have m1 : (zd != 120) = true := by
                  rw [bne_iff_ne, ← hzd.out]
                  exact fun e => h120 (UInt8.toNat_inj.1 (by show d.toNat = 120; omega))
                have m1' : ¬ zd = 120 := by simpa using m1
                have R2 := hide (RV.out.esc1 hlt hcc hlt1 (by rw [hd.out]; exact h120))
                rw [hd.out] at R2
                have NS := hide (numsU_snoc out d)
                rw [hzd.out] at NS
                have wz : (Lit.int .u8 zd).wf = true := by rw [← hzd.out]; exact u8_wf' d
                clear RV hd hzd h120
                have HO := hide (one_row u2 zd wz 5 (0, 0))
                have SRC : Hid (Src 5 .u8 (u2.alloc (.cells #[.int .u8 zd] 5)) w.heap.size ao n cap (numsU out)) := Or.inl (V2.out.ow.below (bel_al (Below.refl _ _) (Nat.le_refl _) _) (Nat.le_refl _))
                have HW : Hid (w.heap.size ≤ u2.heap.size) := V2.out.ch.size
                have BX : Hid (w.heap.size ≤ (u2.alloc (.cells #[.int .u8 zd] 5)).heap.size) := Nat.le_trans HW.out (bel_al (Below.refl u2.heap.size u2) (Nat.le_refl _) _).size
                go_wp2_with (at_builtin; refine wpList_append_one _ rfl _ _ 38 rfl w.heap.size 5 i0 Try.underlying38 hi hz0 hz1 hz2 ao n cap _ rfl SRC.out _ 1 zd rfl HO.out (by omega) BX.out ?_)
                intro a4 c4 w4 o4 b4
                rw [← NS.out] at o4
                have V4 := hide (V2.out.push hg ((((bel_al (Below.refl u2.heap.size u2) (Nat.le_refl _) _).mono HW.out)).trans b4) o4)
                clear o4 b4 SRC BX HO NS
                go_wp2
                go_roundg (s.size - (j + 1 + 1))
                case measure => omega
                case rel => exact ⟨j + 1 + 1, false, a4, n + 1, c4, _, by go_num, by omega, by omega, by omega, V4, fun _ => R2.out, fun h => by cases h⟩
            · have k1 : (s.size : Int) ≤ (j : Int) + 1 := by omega
              have k1n : decide (s.size ≤ j + 1) = true := decide_eq_true (by omega)
              have F := hide (RV.out.esc0 hlt hcc (by omega))
              clear RV V1
              go_wp2
              go_quiet (fail)
              go_upto_region 25 with fail
              refine wp_world (fun W => VS w g s (j + 1) true ao n cap out W) (SPV.out _) ?_
              intro u9 v9
              have f9 := v9.conv (by omega)
              have D9 := hide (DONE.out u9 (j + 1) ao n cap out v9 (by omega) (by omega) F.out)
              clear v9 F
              go_wp2
              go_ret
              exact D9.out
          · have m2 : (z != 92) = true := by
              rw [bne_iff_ne, ← hz.out]
              exact fun e => h92 (UInt8.toNat_inj.1 (by show c.toNat = 92; omega))
            have m2' : ¬ z = 92 := by simpa using m2
            have R2 := hide (RV.out.plain hlt (by rw [hc.out]; exact h34) (by rw [hc.out]; exact h92))
            rw [hc.out] at R2
            have NS := hide (numsU_snoc out c)
            rw [hz.out] at NS
            have wz : (Lit.int .u8 z).wf = true := by rw [← hz.out]; exact u8_wf' c
            clear RV hc hz h34 h92
            have HO := hide (one_row u1 z wz 5 (0, 0))
            have SRC : Hid (Src 5 .u8 (u1.alloc (.cells #[.int .u8 z] 5)) w.heap.size ao n cap (numsU out)) := Or.inl (V1.out.ow.below (bel_al (Below.refl _ _) (Nat.le_refl _) _) (Nat.le_refl _))
            have HW : Hid (w.heap.size ≤ u1.heap.size) := V1.out.ch.size
            have BX : Hid (w.heap.size ≤ (u1.alloc (.cells #[.int .u8 z] 5)).heap.size) := Nat.le_trans HW.out (bel_al (Below.refl u1.heap.size u1) (Nat.le_refl _) _).size
            go_wp2_with (at_builtin; refine wpList_append_one _ rfl _ _ 38 rfl w.heap.size 5 i0 Try.underlying38 hi hz0 hz1 hz2 ao n cap _ rfl SRC.out _ 1 z rfl HO.out (by omega) BX.out ?_)
            intro a4 c4 w4 o4 b4
            rw [← NS.out] at o4
            have V4 := hide (V1.out.push hg ((((bel_al (Below.refl u1.heap.size u1) (Nat.le_refl _) _).mono HW.out)).trans b4) o4)
            clear o4 b4 SRC BX HO NS
            go_wp2
            go_roundg (s.size - (j + 1))
            case measure => omega
            case rel => exact ⟨j + 1, false, a4, n + 1, c4, _, by go_num, by omega, by omega, by omega, V4, fun _ => R2.out, fun h => by cases h⟩
      · have i1 : (s.size : Int) ≤ (j : Int) := by omega
        have i1n : decide (s.size ≤ j) = true := decide_eq_true (by omega)
        have F := hide (RV.out.past (by omega))
        have SPV : Hid (∀ q, VS w g s j true ao n cap out ((u.drewN q).setCell ⟨g, 2, none⟩ (.bool true))) := fun q => (V.out.drewN q).spoil hg
        clear RV V
        go_wp2
        go_quiet (fail)
        go_upto_region 25 with fail
        refine wp_world (fun W => VS w g s j true ao n cap out W) (SPV.out _) ?_
        intro u9 v9
        have f9 := v9.conv (by omega)
        have D9 := hide (DONE.out u9 j ao n cap out v9 (by omega) (by omega) F.out)
        clear v9 F
        go_wp2
        go_ret
        exact D9.out
end Go.Proofs.Ythebcmkainplnaa
