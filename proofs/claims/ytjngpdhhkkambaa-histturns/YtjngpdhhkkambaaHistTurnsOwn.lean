/-
  To merge may be turned round and grouped; the document's examples hold. The call returns true, and its arguments read as they did.
  Conditions: none: every value of the parameters' types.
-/
import Derived.Test.YtjngpdhhkkambaaHistAi
import Derived.Test.YtjngpdhhkkambaaHistR
import Derived.Deep.RegionWith
import Derived.Deep.DrawnRows
import Derived.ProofKit
import Derived.OpenShut
import Derived.ShutString
import Derived.ChangeOld
import Derived.SizedLaws
namespace Go.Proofs.Ytjngpdhhkkambaa
open Go.RowKit

theorem apart_low {w : World} {a : Option Addr} {n : Nat} {l : Bks} (h : RowB w a n l) {g : Nat} (hg : w.heap.size ≤ g) : 0 < n → ∀ x, a = some x → x.block ≠ g := by
  rintro h0 x rfl
  have := h.lt h0
  omega

set_option maxHeartbeats 8000000 in
theorem walk_turns (xa : Option Addr) (na ca : Nat) (la : Bks) (xb : Option Addr) (nb cb : Nat) (lb : Bks) (xc : Option Addr) (nc cc : Nat) (lc : Bks) (w : World) (hla : IsBks w xa na ca la) (hlb : IsBks w xb nb cb lb) (hlc : IsBks w xc nc cc lc) :
    Calls Try.prog 7 #[.slice xa na ca, .slice xb nb cb, .slice xc nc cc] w fun e w' => e = .returned (.bool true) ∧ Below w.heap.size w w' := by
  obtain ⟨ka, kna, kza, hra⟩ := hla
  obtain ⟨kb, knb, kzb, hrb⟩ := hlb
  obtain ⟨kc, knc, kzc, hrc⟩ := hlc
  have RA := hide hra
  have RB := hide hrb
  have RC := hide hrc
  have AW := hide awake_any
  have BKA := hide (fun W (b : Below w.heap.size w W) => buckets_any xa na ca la W (RA.out.below b (Nat.le_refl _)) (fun h => (kza h).2) (by omega))
  have BKB := hide (fun W (b : Below w.heap.size w W) => buckets_any xb nb cb lb W (RB.out.below b (Nat.le_refl _)) (fun h => (kzb h).2) (by omega))
  have BKC := hide (fun W (b : Below w.heap.size w W) => buckets_any xc nc cc lc W (RC.out.below b (Nat.le_refl _)) (fun h => (kzc h).2) (by omega))
  have KA := hide (refcheck_any xa na ca la w hra)
  have KB := hide (fun W (b : Below w.heap.size w W) => refcheck_any xb nb cb lb W (RB.out.below b (Nat.le_refl _)))
  have KC := hide (fun W (b : Below w.heap.size w W) => refcheck_any xc nc cc lc W (RC.out.below b (Nat.le_refl _)))
  clear hra hrb hrc ka kna kza kb knb kzb kc knc kzc
  by_cases ha : checkS la = false
  · rw [ha] at KA
    clear ha KB KC BKA BKB BKC RA RB RC
    go_enter Try.func7, Try.ntmps7
    go_wp2_with fail
    refine KA.out.mono ?_
    rintro e w1 ⟨rfl, q, rfl⟩
    have B1 := hide (bel_drewN (Below.refl w.heap.size w) q)
    clear KA
    generalize w.drewN q = w1 at *
    go_wp2_with fail
    refine (AW.out _).mono ?_
    rintro e w2 ⟨rfl, b2⟩
    have B2 := hide (below_to B1.out b2 (Nat.le_refl _))
    clear b2 B1
    go_wp2
    go_ret
    exact ⟨rfl, B2.out⟩
  have ha : checkS la = true := by simpa using ha
  rw [ha] at KA
  by_cases hb : checkS lb = false
  · rw [hb] at KB
    clear ha hb KC BKA BKB BKC RA RB RC
    go_enter Try.func7, Try.ntmps7
    go_wp2_with fail
    refine KA.out.mono ?_
    rintro e w1 ⟨rfl, q, rfl⟩
    have B1 := hide (bel_drewN (Below.refl w.heap.size w) q)
    clear KA
    generalize w.drewN q = w1 at *
    have K2 := hide (KB.out w1 B1.out)
    go_wp2_with fail
    refine K2.out.mono ?_
    rintro e w1' ⟨rfl, q, rfl⟩
    have B1' := hide (bel_drewN B1.out q)
    clear KB K2
    generalize w1.drewN q = w1' at *
    go_wp2_with fail
    refine (AW.out _).mono ?_
    rintro e w2 ⟨rfl, b2⟩
    have B2 := hide (below_to B1'.out b2 (Nat.le_refl _))
    clear b2 B1 B1'
    go_wp2
    go_ret
    exact ⟨rfl, B2.out⟩
  have hb : checkS lb = true := by simpa using hb
  rw [hb] at KB
  by_cases hc : checkS lc = false
  · rw [hc] at KC
    clear ha hb hc BKA BKB BKC RA RB RC
    go_enter Try.func7, Try.ntmps7
    go_wp2_with fail
    refine KA.out.mono ?_
    rintro e w1 ⟨rfl, q, rfl⟩
    have B1 := hide (bel_drewN (Below.refl w.heap.size w) q)
    clear KA
    generalize w.drewN q = w1 at *
    have K2 := hide (KB.out w1 B1.out)
    go_wp2_with fail
    refine K2.out.mono ?_
    rintro e w1' ⟨rfl, q, rfl⟩
    have B1' := hide (bel_drewN B1.out q)
    clear KB K2
    generalize w1.drewN q = w1' at *
    have K3 := hide (KC.out w1' B1'.out)
    go_wp2_with fail
    refine K3.out.mono ?_
    rintro e w1'' ⟨rfl, q, rfl⟩
    have B1'' := hide (bel_drewN B1'.out q)
    clear KC K3
    generalize w1'.drewN q = w1'' at *
    go_wp2_with fail
    refine (AW.out _).mono ?_
    rintro e w2 ⟨rfl, b2⟩
    have B2 := hide (below_to B1''.out b2 (Nat.le_refl _))
    clear b2 B1 B1' B1''
    go_wp2
    go_ret
    exact ⟨rfl, B2.out⟩
  have hc : checkS lc = true := by simpa using hc
  rw [hc] at KC
  have GA := hide (good_from ha RA.out.2.2.1)
  have GB := hide (good_from hb RB.out.2.2.1)
  have GC := hide (good_from hc RC.out.2.2.1)
  clear ha hb hc
  go_enter Try.func7, Try.ntmps7
  go_wp2_with fail
  refine KA.out.mono ?_
  rintro e w1 ⟨rfl, q, rfl⟩
  have B1 := hide (bel_drewN (Below.refl w.heap.size w) q)
  clear KA
  generalize w.drewN q = w1 at *
  have K2 := hide (KB.out w1 B1.out)
  go_wp2_with fail
  refine K2.out.mono ?_
  rintro e w1' ⟨rfl, q, rfl⟩
  have B1' := hide (bel_drewN B1.out q)
  clear KB K2 B1
  generalize w1.drewN q = w1' at *
  have K3 := hide (KC.out w1' B1'.out)
  go_wp2_with fail
  refine K3.out.mono ?_
  rintro e w2 ⟨rfl, q, rfl⟩
  have B2 := hide (bel_drewN B1'.out q)
  clear KC K3 B1'
  generalize w1'.drewN q = w2 at *
  have BK := hide (BKA.out w2 B2.out)
  go_wp2_with fail
  refine BK.out.mono ?_
  rintro e w3 ⟨ax, cx, rfl, ox, bx⟩
  have Bw3 := hide (below_to B2.out bx (Nat.le_refl _))
  have F := hide (hfrom_ok ax na cx la w3 (ox.row RA.out.2.1 RA.out.2.2.1) GA.out.check)
  clear BK ox bx B2
  go_wp2_with fail
  refine F.out.mono ?_
  rintro e w4 ⟨rfl, hx, bx⟩
  have Bw4 := hide (below_to Bw3.out bx (Nat.le_refl _))
  obtain ⟨gx, HGE⟩ : ∃ g, Hid (w3.heap.size = g) := ⟨_, rfl⟩
  have Lgx : Hid (w.heap.size ≤ gx) := by rw [← HGE.out]; exact Bw3.out.size
  have Tgx := hide hx
  have Sgx := hide (spS_made GA.out)
  obtain ⟨Mgx, EM⟩ : ∃ M, Hid (addAll H0 la = M) := ⟨_, rfl⟩
  rw [EM.out] at Tgx Sgx
  rw [HGE.out] at Tgx ⊢
  clear F hx bx Bw3 HGE EM
  have BK := hide (BKC.out w4 Bw4.out)
  go_wp2_with fail
  refine BK.out.mono ?_
  rintro e w5 ⟨ax, cx, rfl, ox, bx⟩
  have Bw5 := hide (below_to Bw4.out bx (Nat.le_refl _))
  have F := hide (hfrom_ok ax nc cx lc w5 (ox.row RC.out.2.1 RC.out.2.2.1) GC.out.check)
  have Tgx' := hide (Tgx.out.below bx Tgx.out.lt)
  clear BK ox bx Bw4
  clear Tgx
  go_wp2_with fail
  refine F.out.mono ?_
  rintro e w6 ⟨rfl, hx, bx⟩
  have Bw6 := hide (below_to Bw5.out bx (Nat.le_refl _))
  obtain ⟨gy, HGE⟩ : ∃ g, Hid (w5.heap.size = g) := ⟨_, rfl⟩
  have Lgy : Hid (w.heap.size ≤ gy) := by rw [← HGE.out]; exact Bw5.out.size
  have Ngxgy : Hid (gx < gy) := by rw [← HGE.out]; exact Tgx'.out.lt
  have Tgx'' := hide (Tgx'.out.below bx Tgx'.out.lt)
  clear Tgx'
  have Tgy := hide hx
  have Sgy := hide (spS_made GC.out)
  obtain ⟨Mgy, EM⟩ : ∃ M, Hid (addAll H0 lc = M) := ⟨_, rfl⟩
  rw [EM.out] at Tgy Sgy
  rw [HGE.out] at Tgy ⊢
  clear F hx bx Bw5 HGE EM
  have BK := hide (BKB.out w6 Bw6.out)
  go_wp2_with fail
  refine BK.out.mono ?_
  rintro e w7 ⟨ax, cx, rfl, ox, bx⟩
  have Bw7 := hide (below_to Bw6.out bx (Nat.le_refl _))
  have F := hide (hfrom_ok ax nb cx lb w7 (ox.row RB.out.2.1 RB.out.2.2.1) GB.out.check)
  have Tgx''' := hide (Tgx''.out.below bx Tgx''.out.lt)
  have Tgy' := hide (Tgy.out.below bx Tgy.out.lt)
  clear BK ox bx Bw6
  clear Tgx''
  clear Tgy
  go_wp2_with fail
  refine F.out.mono ?_
  rintro e w8 ⟨rfl, hx, bx⟩
  have Bw8 := hide (below_to Bw7.out bx (Nat.le_refl _))
  obtain ⟨gz, HGE⟩ : ∃ g, Hid (w7.heap.size = g) := ⟨_, rfl⟩
  have Lgz : Hid (w.heap.size ≤ gz) := by rw [← HGE.out]; exact Bw7.out.size
  have Ngxgz : Hid (gx < gz) := by rw [← HGE.out]; exact Tgx'''.out.lt
  have Tgx'''' := hide (Tgx'''.out.below bx Tgx'''.out.lt)
  have Ngygz : Hid (gy < gz) := by rw [← HGE.out]; exact Tgy'.out.lt
  have Tgy'' := hide (Tgy'.out.below bx Tgy'.out.lt)
  clear Tgx'''
  clear Tgy'
  have Tgz := hide hx
  have Sgz := hide (spS_made GB.out)
  obtain ⟨Mgz, EM⟩ : ∃ M, Hid (addAll H0 lb = M) := ⟨_, rfl⟩
  rw [EM.out] at Tgz Sgz
  rw [HGE.out] at Tgz ⊢
  clear F hx bx Bw7 HGE EM
  have ME := hide (hmerge_ok gx Mgx xb nb cb lb w8 (RB.out.below Bw8.out (Nat.le_refl _)) (apart_low RB.out Lgx.out) Tgx''''.out GB.out.check)
  have EN := hide (spS_more Tgx''''.out GB.out)
  go_wp2_with fail
  refine ME.out.mono ?_
  rintro e w9 ⟨rfl, hx, cx⟩
  have Bw9 := hide (below_ch Bw8.out cx (Nat.le_refl _) Lgx.out)
  have Tgy''' := hide (Tgy''.out.other cx (by have := Ngxgy.out; omega))
  have Tgz' := hide (Tgz.out.other cx (by have := Ngxgz.out; omega))
  have Tgx''''' := hide hx
  obtain ⟨Mgxx, EM⟩ : ∃ M, Hid (addAll Mgx lb = M) := ⟨_, rfl⟩
  rw [Sgx.out] at EN
  have Sgxx := EN
  rw [EM.out] at Tgx''''' Sgxx
  clear ME hx cx EM EN Sgx Bw8
  clear Tgx''''
  clear Tgy''
  clear Tgz
  have Sgx := Sgxx
  clear Sgxx
  have ME := hide (hmerge_ok gx Mgxx xc nc cc lc w9 (RC.out.below Bw9.out (Nat.le_refl _)) (apart_low RC.out Lgx.out) Tgx'''''.out GC.out.check)
  have EN := hide (spS_more Tgx'''''.out GC.out)
  go_wp2_with fail
  refine ME.out.mono ?_
  rintro e w10 ⟨rfl, hx, cx⟩
  have Bw10 := hide (below_ch Bw9.out cx (Nat.le_refl _) Lgx.out)
  have Tgy'''' := hide (Tgy'''.out.other cx (by have := Ngxgy.out; omega))
  have Tgz'' := hide (Tgz'.out.other cx (by have := Ngxgz.out; omega))
  have Tgx'''''' := hide hx
  obtain ⟨Mgxxx, EM⟩ : ∃ M, Hid (addAll Mgxx lc = M) := ⟨_, rfl⟩
  rw [Sgx.out] at EN
  have Sgxx := EN
  rw [EM.out] at Tgx'''''' Sgxx
  clear ME hx cx EM EN Sgx Bw9
  clear Tgx'''''
  clear Tgy'''
  clear Tgz'
  have Sgx := Sgxx
  clear Sgxx
  have ME := hide (hmerge_ok gz Mgz xc nc cc lc w10 (RC.out.below Bw10.out (Nat.le_refl _)) (apart_low RC.out Lgz.out) Tgz''.out GC.out.check)
  have EN := hide (spS_more Tgz''.out GC.out)
  go_wp2_with fail
  refine ME.out.mono ?_
  rintro e w11 ⟨rfl, hx, cx⟩
  have Bw11 := hide (below_ch Bw10.out cx (Nat.le_refl _) Lgz.out)
  have Tgx''''''' := hide (Tgx''''''.out.other cx (by have := Ngxgz.out; omega))
  have Tgy''''' := hide (Tgy''''.out.other cx (by have := Ngygz.out; omega))
  have Tgz''' := hide hx
  obtain ⟨Mgzx, EM⟩ : ∃ M, Hid (addAll Mgz lc = M) := ⟨_, rfl⟩
  rw [Sgz.out] at EN
  have Sgzx := EN
  rw [EM.out] at Tgz''' Sgzx
  clear ME hx cx EM EN Sgz Bw10
  clear Tgx''''''
  clear Tgy''''
  clear Tgz''
  have Sgz := Sgzx
  clear Sgzx
  have ME := hide (hmerge_ok gy Mgy xb nb cb lb w11 (RB.out.below Bw11.out (Nat.le_refl _)) (apart_low RB.out Lgy.out) Tgy'''''.out GB.out.check)
  have EN := hide (spS_more Tgy'''''.out GB.out)
  go_wp2_with fail
  refine ME.out.mono ?_
  rintro e w12 ⟨rfl, hx, cx⟩
  have Bw12 := hide (below_ch Bw11.out cx (Nat.le_refl _) Lgy.out)
  have Tgx'''''''' := hide (Tgx'''''''.out.other cx (by have := Ngxgy.out; omega))
  have Tgz'''' := hide (Tgz'''.out.other cx (by have := Ngygz.out; omega))
  have Tgy'''''' := hide hx
  obtain ⟨Mgyx, EM⟩ : ∃ M, Hid (addAll Mgy lb = M) := ⟨_, rfl⟩
  rw [Sgy.out] at EN
  have Sgyx := EN
  rw [EM.out] at Tgy'''''' Sgyx
  clear ME hx cx EM EN Sgy Bw11
  clear Tgx'''''''
  clear Tgy'''''
  clear Tgz'''
  have Sgy := Sgyx
  clear Sgyx
  have ME := hide (hmerge_ok gy Mgyx xa na ca la w12 (RA.out.below Bw12.out (Nat.le_refl _)) (apart_low RA.out Lgy.out) Tgy''''''.out GA.out.check)
  have EN := hide (spS_more Tgy''''''.out GA.out)
  go_wp2_with fail
  refine ME.out.mono ?_
  rintro e w13 ⟨rfl, hx, cx⟩
  have Bw13 := hide (below_ch Bw12.out cx (Nat.le_refl _) Lgy.out)
  have Tgx''''''''' := hide (Tgx''''''''.out.other cx (by have := Ngxgy.out; omega))
  have Tgz''''' := hide (Tgz''''.out.other cx (by have := Ngygz.out; omega))
  have Tgy''''''' := hide hx
  obtain ⟨Mgyxx, EM⟩ : ∃ M, Hid (addAll Mgyx la = M) := ⟨_, rfl⟩
  rw [Sgy.out] at EN
  have Sgyx := EN
  rw [EM.out] at Tgy''''''' Sgyx
  clear ME hx cx EM EN Sgy Bw12
  clear Tgx''''''''
  clear Tgy''''''
  clear Tgz''''
  have Sgy := Sgyx
  clear Sgyx
  have BK := hide (BKA.out w13 Bw13.out)
  go_wp2_with fail
  refine BK.out.mono ?_
  rintro e w14 ⟨ax, cx, rfl, ox, bx⟩
  have Bw14 := hide (below_to Bw13.out bx (Nat.le_refl _))
  have F := hide (hfrom_ok ax na cx la w14 (ox.row RA.out.2.1 RA.out.2.2.1) GA.out.check)
  have Tgx'''''''''' := hide (Tgx'''''''''.out.below bx Tgx'''''''''.out.lt)
  have Tgy'''''''' := hide (Tgy'''''''.out.below bx Tgy'''''''.out.lt)
  have Tgz'''''' := hide (Tgz'''''.out.below bx Tgz'''''.out.lt)
  clear BK ox bx Bw13
  clear Tgx'''''''''
  clear Tgy'''''''
  clear Tgz'''''
  go_wp2_with fail
  refine F.out.mono ?_
  rintro e w15 ⟨rfl, hx, bx⟩
  have Bw15 := hide (below_to Bw14.out bx (Nat.le_refl _))
  obtain ⟨gw, HGE⟩ : ∃ g, Hid (w14.heap.size = g) := ⟨_, rfl⟩
  have Lgw : Hid (w.heap.size ≤ gw) := by rw [← HGE.out]; exact Bw14.out.size
  have Ngxgw : Hid (gx < gw) := by rw [← HGE.out]; exact Tgx''''''''''.out.lt
  have Tgx''''''''''' := hide (Tgx''''''''''.out.below bx Tgx''''''''''.out.lt)
  have Ngygw : Hid (gy < gw) := by rw [← HGE.out]; exact Tgy''''''''.out.lt
  have Tgy''''''''' := hide (Tgy''''''''.out.below bx Tgy''''''''.out.lt)
  have Ngzgw : Hid (gz < gw) := by rw [← HGE.out]; exact Tgz''''''.out.lt
  have Tgz''''''' := hide (Tgz''''''.out.below bx Tgz''''''.out.lt)
  clear Tgx''''''''''
  clear Tgy''''''''
  clear Tgz''''''
  have Tgw := hide hx
  have Sgw := hide (spS_made GA.out)
  obtain ⟨Mgw, EM⟩ : ∃ M, Hid (addAll H0 la = M) := ⟨_, rfl⟩
  rw [EM.out] at Tgw Sgw
  rw [HGE.out] at Tgw ⊢
  clear F hx bx Bw14 HGE EM
  have BU := hide (hbuckets_any gz Mgzx w15 Tgz'''''''.out)
  have Zz := hide Tgz'''''''.out.good
  go_wp2_with fail
  refine BU.out.mono ?_
  rintro e w16 ⟨az, cz, rfl, ox, bx⟩
  have Bw16 := hide (below_to Bw15.out bx (Nat.le_refl _))
  have Oz := hide (ox.goodrow Zz.out)
  have Qz := hide (ox.apart (g := gw) Tgw.out.lt)
  have Tgx'''''''''''' := hide (Tgx'''''''''''.out.below bx Tgx'''''''''''.out.lt)
  have Tgy'''''''''' := hide (Tgy'''''''''.out.below bx Tgy'''''''''.out.lt)
  have Tgz'''''''' := hide (Tgz'''''''.out.below bx Tgz'''''''.out.lt)
  have Tgw' := hide (Tgw.out.below bx Tgw.out.lt)
  clear BU ox bx Bw15
  clear Tgx'''''''''''
  clear Tgy'''''''''
  clear Tgz'''''''
  clear Tgw
  rw [Sgz.out] at Oz Zz
  rw [Sgz.out] at Qz ⊢
  have ME := hide (hmerge_ok gw Mgw az _ cz (mrg lb lc) w16 Oz.out Qz.out Tgw'.out Zz.out.check)
  have EN := hide (spS_more Tgw'.out Zz.out)
  go_wp2_with fail
  refine ME.out.mono ?_
  rintro e w17 ⟨rfl, hx, cx⟩
  have Bw17 := hide (below_ch Bw16.out cx (Nat.le_refl _) Lgw.out)
  have Tgx''''''''''''' := hide (Tgx''''''''''''.out.other cx (by have := Ngxgw.out; omega))
  have Tgy''''''''''' := hide (Tgy''''''''''.out.other cx (by have := Ngygw.out; omega))
  have Tgz''''''''' := hide (Tgz''''''''.out.other cx (by have := Ngzgw.out; omega))
  have Tgw'' := hide hx
  obtain ⟨Mgwx, EM⟩ : ∃ M, Hid (addAll Mgw (mrg lb lc) = M) := ⟨_, rfl⟩
  rw [Sgw.out] at EN
  have Sgwx := EN
  rw [EM.out] at Tgw'' Sgwx
  clear ME hx cx EM EN Sgw Bw16
  clear Tgx''''''''''''
  clear Tgy''''''''''
  clear Tgz''''''''
  clear Tgw'
  have Sgw := Sgwx
  clear Sgwx
  clear Oz Qz
  obtain ⟨turn1, turn2⟩ := mrg_turn GA.out GB.out GC.out
  have TU1 := hide turn1
  have TU2 := hide turn2
  clear turn1 turn2
  have BU := hide (hbuckets_any gx Mgxxx w17 Tgx'''''''''''''.out)
  have Zx := hide Tgx'''''''''''''.out.good
  go_wp2_with fail
  refine BU.out.mono ?_
  rintro e w18 ⟨ax, cx, rfl, ox, bx⟩
  have Bw18 := hide (below_to Bw17.out bx (Nat.le_refl _))
  have Ox := hide (ox.goodrow Zx.out)
  have Qx := hide (ox.apart (g := gw) Tgw''.out.lt)
  have Tgx'''''''''''''' := hide (Tgx'''''''''''''.out.below bx Tgx'''''''''''''.out.lt)
  have Tgy'''''''''''' := hide (Tgy'''''''''''.out.below bx Tgy'''''''''''.out.lt)
  have Tgz'''''''''' := hide (Tgz'''''''''.out.below bx Tgz'''''''''.out.lt)
  have Tgw''' := hide (Tgw''.out.below bx Tgw''.out.lt)
  clear BU ox bx Bw17
  clear Tgx'''''''''''''
  clear Tgy'''''''''''
  clear Tgz'''''''''
  clear Tgw''
  have BU := hide (hbuckets_any gy Mgyxx w18 Tgy''''''''''''.out)
  have Zy := hide Tgy''''''''''''.out.good
  go_wp2_with fail
  refine BU.out.mono ?_
  rintro e w19 ⟨ay, cy, rfl, ox, bx⟩
  have Bw19 := hide (below_to Bw18.out bx (Nat.le_refl _))
  have Oy := hide (ox.goodrow Zy.out)
  have Qy := hide (ox.apart (g := gw) Tgw'''.out.lt)
  have Ox' := hide (Ox.out.below bx (Nat.le_refl _))
  clear Ox
  have Ox := Ox'
  clear Ox'
  have Tgx''''''''''''''' := hide (Tgx''''''''''''''.out.below bx Tgx''''''''''''''.out.lt)
  have Tgy''''''''''''' := hide (Tgy''''''''''''.out.below bx Tgy''''''''''''.out.lt)
  have Tgz''''''''''' := hide (Tgz''''''''''.out.below bx Tgz''''''''''.out.lt)
  have Tgw'''' := hide (Tgw'''.out.below bx Tgw'''.out.lt)
  clear BU ox bx Bw18
  clear Tgx''''''''''''''
  clear Tgy''''''''''''
  clear Tgz''''''''''
  clear Tgw'''
  have SM := hide (samebks_any ax _ cx _ ay _ cy _ w19 Ox.out Oy.out)
  rw [decide_eq_true (by rw [Sgx.out, Sgy.out]; exact TU1.out)] at SM
  go_wp2_with fail
  refine SM.out.mono ?_
  rintro e w20 ⟨rfl, bx⟩
  have Bw20 := hide (below_to Bw19.out bx (Nat.le_refl _))
  have Tgx'''''''''''''''' := hide (Tgx'''''''''''''''.out.below bx Tgx'''''''''''''''.out.lt)
  have Tgy'''''''''''''' := hide (Tgy'''''''''''''.out.below bx Tgy'''''''''''''.out.lt)
  have Tgz'''''''''''' := hide (Tgz'''''''''''.out.below bx Tgz'''''''''''.out.lt)
  have Tgw''''' := hide (Tgw''''.out.below bx Tgw''''.out.lt)
  clear SM bx Bw19
  clear Tgx'''''''''''''''
  clear Tgy'''''''''''''
  clear Tgz'''''''''''
  clear Tgw''''
  clear Ox Oy
  have BU := hide (hbuckets_any gx Mgxxx w20 Tgx''''''''''''''''.out)
  have Zp := hide Tgx''''''''''''''''.out.good
  go_wp2_with fail
  refine BU.out.mono ?_
  rintro e w21 ⟨ap, cp, rfl, ox, bx⟩
  have Bw21 := hide (below_to Bw20.out bx (Nat.le_refl _))
  have Op := hide (ox.goodrow Zp.out)
  have Qp := hide (ox.apart (g := gw) Tgw'''''.out.lt)
  have Tgx''''''''''''''''' := hide (Tgx''''''''''''''''.out.below bx Tgx''''''''''''''''.out.lt)
  have Tgy''''''''''''''' := hide (Tgy''''''''''''''.out.below bx Tgy''''''''''''''.out.lt)
  have Tgz''''''''''''' := hide (Tgz''''''''''''.out.below bx Tgz''''''''''''.out.lt)
  have Tgw'''''' := hide (Tgw'''''.out.below bx Tgw'''''.out.lt)
  clear BU ox bx Bw20
  clear Tgx''''''''''''''''
  clear Tgy''''''''''''''
  clear Tgz''''''''''''
  clear Tgw'''''
  have BU := hide (hbuckets_any gw Mgwx w21 Tgw''''''.out)
  have Zv := hide Tgw''''''.out.good
  go_wp2_with fail
  refine BU.out.mono ?_
  rintro e w22 ⟨av, cv, rfl, ox, bx⟩
  have Bw22 := hide (below_to Bw21.out bx (Nat.le_refl _))
  have Ov := hide (ox.goodrow Zv.out)
  have Qv := hide (ox.apart (g := gw) Tgw''''''.out.lt)
  have Op' := hide (Op.out.below bx (Nat.le_refl _))
  clear Op
  have Op := Op'
  clear Op'
  have Tgx'''''''''''''''''' := hide (Tgx'''''''''''''''''.out.below bx Tgx'''''''''''''''''.out.lt)
  have Tgy'''''''''''''''' := hide (Tgy'''''''''''''''.out.below bx Tgy'''''''''''''''.out.lt)
  have Tgz'''''''''''''' := hide (Tgz'''''''''''''.out.below bx Tgz'''''''''''''.out.lt)
  have Tgw''''''' := hide (Tgw''''''.out.below bx Tgw''''''.out.lt)
  clear BU ox bx Bw21
  clear Tgx'''''''''''''''''
  clear Tgy'''''''''''''''
  clear Tgz'''''''''''''
  clear Tgw''''''
  have SM := hide (samebks_any ap _ cp _ av _ cv _ w22 Op.out Ov.out)
  rw [decide_eq_true (by rw [Sgx.out, Sgw.out]; exact TU2.out)] at SM
  go_wp2_with fail
  refine SM.out.mono ?_
  rintro e w23 ⟨rfl, bx⟩
  have Bw23 := hide (below_to Bw22.out bx (Nat.le_refl _))
  have Tgx''''''''''''''''''' := hide (Tgx''''''''''''''''''.out.below bx Tgx''''''''''''''''''.out.lt)
  have Tgy''''''''''''''''' := hide (Tgy''''''''''''''''.out.below bx Tgy''''''''''''''''.out.lt)
  have Tgz''''''''''''''' := hide (Tgz''''''''''''''.out.below bx Tgz''''''''''''''.out.lt)
  have Tgw'''''''' := hide (Tgw'''''''.out.below bx Tgw'''''''.out.lt)
  clear SM bx Bw22
  clear Tgx''''''''''''''''''
  clear Tgy''''''''''''''''
  clear Tgz''''''''''''''
  clear Tgw'''''''
  go_wp2_with fail
  refine (AW.out _).mono ?_
  rintro e w24 ⟨rfl, bx⟩
  have Bw24 := hide (below_to Bw23.out bx (Nat.le_refl _))
  clear bx
  go_wp2
  go_ret
  exact ⟨rfl, Bw24.out⟩
end Go.Proofs.Ytjngpdhhkkambaa

namespace Go.Proofs.Ytjngpdhhkkambaa.histTurns
open Go.ChangeShapes Go.WideShapes Go.ChangeAt Go.RowKit
open Go.ChangeMaps (open_string shut_string)
set_option linter.unusedVariables false

theorem own : ownKnob Try.prog.godebug = none := by kernel_rfl
theorem laidOut : laidOutB Try.prog = true := by kernel_rfl

set_option maxRecDepth 100000 in
theorem lifted (os : Os) (started : os.Started) (H : Type) (enc : TypeId × Value → H) :
    ReturnsInHanded {} Try.checked os 7 .any (Rows.histTurnsSpec.pre6 enc Try.prog Try.f7 Rows.histTurnsRow.domain false) (Rows.histTurnsSpec.post enc Try.prog Try.f7 false true false false) := by
  refine returnsInHanded_of_change_sized (C := Try.checked) own started (by kernel_rfl) Try.func7
    (ChangeSpec.witness6 (enc := enc) (C := Try.checked) false ⟨#[], #[.slice none 0 0, .slice none 0 0, .slice none 0 0], []⟩ 8 (by kernel_rfl) (by kernel_rfl) (by kernel_rfl) (by kernel_rfl)) ?_
  intro W base args ds gs before hval0 hW hcnd hsz0 _
  have hsz : (DataW.weightsEach Try.prog (Try.f7.params.toList ++ Rows.histTurnsSpec.plain.varTypes Try.prog) (ds ++ gs)).all (· ≤ reachBytes) = true := hsz0
  have hval : ∀ (j : Nat) t v, Try.f7.params[j]? = some t → args[j]? = some v → Value.okWide Try.prog W .any base t v := hval0
  have hW' := hW
  obtain ⟨p, q, hA0, hV, rfl, hfz, hnd⟩ := hW
  have hA : DataW.TrodAll enc Try.prog W 0 (fun _ => true) true Try.f7.params.toList args.toList ds p := hA0
  rw [Try.params7] at hA hval hsz
  obtain ⟨v0, vs0, d0, ds0, p0, q0, hargs, rfl, rfl, h0, r0⟩ := trodAll_cons hA
  obtain ⟨v1, vs1, d1, ds1, p1, q1, rfl, rfl, rfl, h1, r1⟩ := trodAll_cons r0
  obtain ⟨v2, vs2, d2, ds2, p2, q2, rfl, rfl, rfl, h2, r2⟩ := trodAll_cons r1
  obtain ⟨rfl, rfl, rfl⟩ := trodAll_nil r2
  obtain rfl : args = #[v0, v1, v2] := by cases args; simp_all
  obtain ⟨rfl, rfl⟩ := trodVars_none hV
  obtain ⟨a0, len0, cap0, rfl⟩ := okWide_slice Try.underlying29 (hval 0 29 v0 rfl rfl)
  have k0 := h0
  have lt0 : ∀ x ∈ p0, x.block < W.heap.size := by obtain ⟨m, hm⟩ := k0; exact DataW.trod_lt m _ _ _ hm
  obtain ⟨z0, w0⟩ : ∃ l, IsBks W a0 len0 cap0 l := by
    obtain ⟨fuel, hf⟩ := h0
    rcases bks_trod hf with ⟨rfl, rfl, rfl⟩ | ⟨ad, l, elems, spare, rfl, hl, h1, h2, hd, hm, hc⟩
    · exact ⟨[], by decide, by decide, fun _ => ⟨rfl, rfl⟩, rfl, by decide, by simp, Or.inl rfl⟩
    · simp only at hd hm
      have hs := sized_slice hsz (j := 0) (t := 29) (e := 62) rfl (by rw [hd]; rfl) Try.underlying29
      rw [show Try.prog.bytesOf 62 = 16 from by kernel_rfl, hm] at hs
      simp only [if_true, reachBytes] at hs
      exact ⟨l, by omega, hl, fun h => by simp at h, bks_row h1 (by omega) h2 hc⟩
  obtain ⟨a1, len1, cap1, rfl⟩ := okWide_slice Try.underlying29 (hval 1 29 v1 rfl rfl)
  have k1 := h1
  have lt1 : ∀ x ∈ p1, x.block < W.heap.size := by obtain ⟨m, hm⟩ := k1; exact DataW.trod_lt m _ _ _ hm
  obtain ⟨z1, w1⟩ : ∃ l, IsBks W a1 len1 cap1 l := by
    obtain ⟨fuel, hf⟩ := h1
    rcases bks_trod hf with ⟨rfl, rfl, rfl⟩ | ⟨ad, l, elems, spare, rfl, hl, h1, h2, hd, hm, hc⟩
    · exact ⟨[], by decide, by decide, fun _ => ⟨rfl, rfl⟩, rfl, by decide, by simp, Or.inl rfl⟩
    · simp only at hd hm
      have hs := sized_slice hsz (j := 1) (t := 29) (e := 62) rfl (by rw [hd]; rfl) Try.underlying29
      rw [show Try.prog.bytesOf 62 = 16 from by kernel_rfl, hm] at hs
      simp only [if_true, reachBytes] at hs
      exact ⟨l, by omega, hl, fun h => by simp at h, bks_row h1 (by omega) h2 hc⟩
  obtain ⟨a2, len2, cap2, rfl⟩ := okWide_slice Try.underlying29 (hval 2 29 v2 rfl rfl)
  have k2 := h2
  have lt2 : ∀ x ∈ p2, x.block < W.heap.size := by obtain ⟨m, hm⟩ := k2; exact DataW.trod_lt m _ _ _ hm
  obtain ⟨z2, w2⟩ : ∃ l, IsBks W a2 len2 cap2 l := by
    obtain ⟨fuel, hf⟩ := h2
    rcases bks_trod hf with ⟨rfl, rfl, rfl⟩ | ⟨ad, l, elems, spare, rfl, hl, h1, h2, hd, hm, hc⟩
    · exact ⟨[], by decide, by decide, fun _ => ⟨rfl, rfl⟩, rfl, by decide, by simp, Or.inl rfl⟩
    · simp only at hd hm
      have hs := sized_slice hsz (j := 2) (t := 29) (e := 62) rfl (by rw [hd]; rfl) Try.underlying29
      rw [show Try.prog.bytesOf 62 = 16 from by kernel_rfl, hm] at hs
      simp only [if_true, reachBytes] at hs
      exact ⟨l, by omega, hl, fun h => by simp at h, bks_row h1 (by omega) h2 hc⟩
  clear hA0 hval0 hsz0 hsz
  refine (walk_turns a0 len0 cap0 z0 a1 len1 cap1 z1 a2 len2 cap2 z2 W w0 w1 w2).mono fun e W' ⟨he, bel⟩ => ?_
  subst he
  exact ⟨_, rfl, _, _, _, [], _, [], hW', trodAll_mk1 (shut_bool Try.underlying4 _), (trodAll_cons_mk (Below.trod laidOut (by kernel_rfl) (of_decide_eq_true (by kernel_rfl)) k0 bel lt0) (trodAll_cons_mk (Below.trod laidOut (by kernel_rfl) (of_decide_eq_true (by kernel_rfl)) k1 bel lt1) (trodAll_cons_mk (Below.trod laidOut (by kernel_rfl) (of_decide_eq_true (by kernel_rfl)) k2 bel lt2) trodAll_mk0))), rfl, bel.frame _, fun h => by cases h⟩

theorem proved : Rows.HistTurnsSaid :=
  OpenClaim.holds_of_wide 7 Try.f7 rfl rfl rfl rfl rfl rfl rfl ⟨rfl, rfl, rfl, rfl, rfl⟩ rfl rfl rfl rfl rfl (by kernel_rfl) Try.func7 (by kernel_rfl)
    (of_decide_eq_true (by kernel_rfl)) (by unfold Func.isWrapper; first | (rw [if_pos (by decide +kernel)]; kernel_rfl) | (rw [if_neg (by decide +kernel)]; exact ⟨rfl, rfl⟩))
    (fun os started H enc _ => lifted os started H enc)
end Go.Proofs.Ytjngpdhhkkambaa.histTurns
