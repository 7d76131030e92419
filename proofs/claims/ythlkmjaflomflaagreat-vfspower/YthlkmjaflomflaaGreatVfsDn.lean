/-
  The landed file system: Laid: a contract, for every world.
  Conditions: the names and the bytes are told.
-/
import Derived.Test.YthlkmjaflomflaaGreatVfsDm
namespace Go.Proofs.YthlkmjaflomflaaGreat
open Go.RowKit Go.Maps
set_option maxRecDepth 20000
set_option linter.unusedVariables false

/-- The first k files. -/
def layK (ns : List ByteArray) (ds : List (List Int)) (k : Nat) : Fs := { fs0 with files := (ds.take k).map fun b => ⟨b, []⟩, sure := (ns.take k).mapIdx fun i s => ⟨s, i⟩ }
theorem layK_zero (ns : List ByteArray) (ds : List (List Int)) : layK ns ds 0 = fs0 := by unfold layK; simp [fs0]
theorem layK_step {ns : List ByteArray} {ds : List (List Int)} {k : Nat} {s : ByteArray} {d : List Int} (hs : ns[k]? = some s) (hd : ds[k]? = some d) : layF (layK ns ds k) s d = layK ns ds (k + 1) := by
  obtain ⟨h1, e1⟩ := List.getElem?_eq_some_iff.1 hs
  obtain ⟨h2, e2⟩ := List.getElem?_eq_some_iff.1 hd
  unfold layF layK
  dsimp only
  rw [List.take_succ_eq_append_getElem h1, List.take_succ_eq_append_getElem h2, e1, e2, List.map_append, List.mapIdx_append, List.length_map, List.length_take, List.length_take, Nat.min_eq_left (by omega), Nat.min_eq_left (by omega)]
  simp
theorem layK_name {ns : List ByteArray} {ds : List (List Int)} {k : Nat} {s : ByteArray} (h : areN ns) (hs : ns[k]? = some s) : fileD (layK ns ds k).sure s = none := by
  cases hf : fileD (layK ns ds k).sure s with
  | none => rfl
  | some f =>
    have hm := fileD_mem hf
    obtain ⟨h1, e1⟩ := List.getElem?_eq_some_iff.1 hs
    obtain ⟨i, hi, e⟩ := List.mem_mapIdx.1 hm
    have es : (ns.take k)[i] = s := by simpa using congrArg Dn.nm e
    have hmem : s ∈ ns.take k := es ▸ List.getElem_mem hi
    have q : areN (ns.take k ++ [s]) := by
      have := areN_pre (l := ns.take (k + 1)) (r := ns.drop (k + 1)) (by rw [List.take_append_drop]; exact h)
      rwa [List.take_succ_eq_append_getElem h1, e1] at this
    exact absurd hmem (areN_snoc.1 q).2.2
theorem layK_lim {ns : List ByteArray} {ds : List (List Int)} {k m : Nat} (hk : k ≤ 1024) (hm : 1073741824 = m) (hd : ∀ b ∈ ds, b.length ≤ 1073741824) : Lim m (layK ns ds k) := by
  subst hm
  refine ⟨?_, ?_, ?_, ?_, by show (0 : Int) ≤ 0 ∧ (0 : Int) ≤ _; omega⟩
  · show ((ds.take k).map _).length ≤ _
    rw [List.length_map, List.length_take]; omega
  · show ((ns.take k).mapIdx _).length ≤ _
    rw [List.length_mapIdx, List.length_take]; omega
  · show ([] : List Tn).length ≤ _
    simp
  · intro x hx
    obtain ⟨b, hb, rfl⟩ := List.mem_map.1 hx
    exact ⟨hd b (List.mem_of_mem_take hb), by simp⟩
/-- What Laid tells. -/
def LaidV (At : World → Nat → (Nat → Prop) → Fs → Prop) (x : Option Fs × Int) (w : World) (e : Ending) (w' : World) : Prop := Below w.heap.size w w' ∧ match x with
  | (none, z) => e = .returned (.tuple #[.pointer none, .int .i64 z])
  | (some F, z) => ∃ g, e = .returned (.tuple #[.pointer (some ⟨g, 0, none⟩), .int .i64 z]) ∧ MadeV At w w' g F
theorem laidV_none {At : World → Nat → (Nat → Prop) → Fs → Prop} {x : Option Fs × Int} {z : Int} (h : x = (none, z)) {w w' : World} (b : Below w.heap.size w w') : LaidV At x w (.returned (.tuple #[.pointer none, .int .i64 z])) w' := by
  subst h
  exact ⟨b, rfl⟩
theorem laidV_some {At : World → Nat → (Nat → Prop) → Fs → Prop} {x : Option Fs × Int} {F : Fs} (h : x = (some F, 0)) {w w' : World} {g : Nat} (b : MadeV At w w' g F) : LaidV At x w (.returned (.tuple #[.pointer (some ⟨g, 0, none⟩), .int .i64 0])) w' := by
  subst h
  exact ⟨b.choose_spec.2.2, g, rfl, b⟩

set_option maxHeartbeats 8000000 in
theorem llaid_any (a : Option Addr) (n c : Nat) (ns : List ByteArray) (a2 : Option Addr) (n2 c2 : Nat) (hs : List H3) (ds : List (List Int)) (w : World) (hr : RowX w a n ns) (hsz : ∀ s ∈ ns, s.size ≤ maxLen) (hr2 : RowBB w a2 n2 hs ds) (hn : n ≤ 1099511627776) (hn2 : n2 ≤ 1099511627776) :
    Calls Tryz.prog 11 #[.slice a n c, .slice a2 n2 c2] w fun e w' => LaidV LAt (laidF ns ds) w e w' := by
  have hl := hr.1
  have hl2 := hr2.len
  by_cases hne : n = n2
  · subst hne
    have AN := hide (arenames_any a n c ns w hr hn hsz)
    by_cases hA : areN ns
    · have i0 : ¬ ns.length ≠ ds.length := by rw [hl, hl2]; exact fun h => h rfl
      have i1 : ¬ ¬ ((∀ s ∈ ns, mayN s = true) ∧ ns.Nodup) := fun h => h hA
      by_cases hbig : 1024 < n ∨ ∃ b ∈ ds, 1073741824 < b.length
      · have HE : Hid (laidF ns ds = (none, 2)) := by show _ = _; unfold laidF; rw [if_neg i0, if_neg i1, if_pos (by rw [hl]; exact hbig)]
        by_cases hb1 : 1024 < n
        · have d1 : decide ((1024 : Int) < (n : Int)) = true := decide_eq_true (by omega)
          have d2 : decide (1024 < n) = true := decide_eq_true hb1
          have d3 : (1024 : Int) < (n : Int) := by omega
          have HA := hide hA
          clear hr hr2 hbig hA i0 i1
          go_enter Tryz.func11, Tryz.ntmps11
          go_wp2_with fail
          with_reducible refine AN.out.mono ?_
          rintro e u ⟨b, rfl, hb, bu⟩
          obtain rfl : b = true := hb.2 HA.out
          have BU := hide bu
          clear hb bu AN
          go_wp2
          refine bodyPost_ret (v := .tuple #[.pointer none, .int .i64 2]) (by simp [results, Tryz.results11, go_sem]) rfl ?_
          exact laidV_none HE.out BU.out
        · have d1 : decide ((1024 : Int) < (n : Int)) = false := decide_eq_false (by omega)
          have d2 : decide (1024 < n) = false := decide_eq_false hb1
          have d3 : ¬ (1024 : Int) < (n : Int) := by omega
          have HA := hide hA
          have HB := hide (hbig.resolve_left hb1)
          have CN := hide (fun u (hu : Below w.heap.size w u) => contlong_any a2 n c2 hs ds u (hr2.below hu (Nat.le_refl _)) hn)
          clear hr hr2 hbig hA i0 i1
          go_enter Tryz.func11, Tryz.ntmps11
          go_wp2_with fail
          with_reducible refine AN.out.mono ?_
          rintro e u ⟨b, rfl, hb, bu⟩
          obtain rfl : b = true := hb.2 HA.out
          have BU := hide bu
          clear hb bu AN
          go_wp2_with fail
          with_reducible refine (CN.out _ BU.out).mono ?_
          rintro e u2 ⟨b2, rfl, hb2, hu2⟩
          obtain rfl : b2 = true := hb2.2 HB.out
          rw [hu2]
          clear hb2 hu2 CN
          go_wp2
          refine bodyPost_ret (v := .tuple #[.pointer none, .int .i64 2]) (by simp [results, Tryz.results11, go_sem]) rfl ?_
          exact laidV_none HE.out BU.out
      · have HE : Hid (laidF ns ds = (some (layK ns ds n), 0)) := by
          show _ = _
          unfold laidF
          rw [if_neg i0, if_neg i1, if_neg (by rw [hl]; exact hbig)]
          unfold layK
          rw [List.take_of_length_le (by omega), List.take_of_length_le (by omega)]
        have hb1 : ¬ 1024 < n := fun h => hbig (Or.inl h)
        have hb2 : ∀ b ∈ ds, b.length ≤ 1073741824 := fun b hb => Nat.le_of_not_lt (fun h => hbig (Or.inr ⟨b, hb, h⟩))
        have d1 : decide ((1024 : Int) < (n : Int)) = false := decide_eq_false (by omega)
        have d2 : decide (1024 < n) = false := decide_eq_false hb1
        have d3 : ¬ (1024 : Int) < (n : Int) := by omega
        have HA := hide hA
        have HB := hide (fun q : ∃ b ∈ ds, 1073741824 < b.length => hbig (Or.inr q))
        have CN := hide (fun u (hu : Below w.heap.size w u) => contlong_any a2 n c2 hs ds u (hr2.below hu (Nat.le_refl _)) hn)
        have HR := hide hr
        have HR2 := hide hr2
        have HB2 := hide hb2
        have HL := hide hl
        clear hr hr2 hbig hA i0 i1 hsz hb2 hl
        go_enter Tryz.func11, Tryz.ntmps11
        go_wp2_with fail
        with_reducible refine AN.out.mono ?_
        rintro e u ⟨b, rfl, hb, bu⟩
        obtain rfl : b = true := hb.2 HA.out
        have BU := hide bu
        clear hb bu AN
        go_wp2_with fail
        with_reducible refine (CN.out _ BU.out).mono ?_
        rintro e u2 ⟨b2, rfl, hb2, hu2⟩
        have : b2 = false := by
          cases hq : b2 with
          | false => rfl
          | true => exact (HB.out (hb2.1 hq)).elim
        subst this
        rw [hu2]
        clear hb2 hu2 CN
        go_wp2_with fail
        with_reducible refine (lnew_any _).mono ?_
        rintro e v0 ⟨g, rfl, hmade⟩
        have MV : Hid (MadeV LAt w v0 g fs0) := by
          obtain ⟨S, q1, q2, q3⟩ := hmade
          exact ⟨S, q1, fun k hk => Nat.le_trans BU.out.size (q2 k hk), bel_to BU.out (Nat.le_refl _) q3⟩
        clear hmade BU
        go_wp2
        go_loopw [31] (fun i wr => ∃ k : Nat, k ≤ n ∧ i = .int .i64 (k : Int) ∧ Hid (MadeV LAt w wr g (layK ns ds k))) (fun i _ => n - (intOf i).toNat)
        case atStart => exact ⟨0, by omega, rfl, by rw [layK_zero]; exact MV.out⟩
        case round =>
          clear MV
          obtain ⟨k, hk, rfl, HM⟩ := hrel
          obtain ⟨v, rfl⟩ : ∃ v, v = wr := ⟨wr, rfl⟩
          by_cases hlt : k < n
          · obtain ⟨S, ⟨hV, hN, fb, fh, bn, bc, at', ct, B⟩, hSb, hbv⟩ := HM.out
            obtain ⟨b, off, rfl, hc⟩ := HR.out.2.2.resolve_left (by omega)
            have cs := hc k hlt
            have cs := (hbv.cell (p := ⟨b, off + k, none⟩) (World.block_lt_of_cell? w _ cs)).trans cs
            have hns : ns[k]? = some (ns.getD k ByteArray.empty) := (getD_at (by rw [HL.out]; exact hlt)).2
            obtain ⟨b2, off2, x, d, rfl, cx, hd, hrow, hxc, hxn⟩ := (HR2.out.below hbv (Nat.le_refl _)).at' hlt
            obtain ⟨s, hs'⟩ : ∃ s, ns.getD k ByteArray.empty = s := ⟨_, rfl⟩
            rw [hs'] at cs hns
            have i1 : (0 : Int) ≤ (k : Int) := by omega
            have i2 : (k : Int) < (n : Int) := by omega
            have hdl := hrow.1
            have hdle := HB2.out d (List.mem_of_getElem? hd)
            have CL := hide (clone8_any x.1 x.2.1 x.2.2 d v hrow (by omega) hxn)
            have hsm : mayN s = true := HA.out.1 s (List.mem_of_getElem? hns)
            have hnn := layK_name (ds := ds) HA.out hns
            have LY := hide (fun u (hu : Below v.heap.size v u) (xa : Option Addr) (xc : Nat) (ox : OwnB u v.heap.size xa x.2.1 xc d) => lay_any u g S (layK ns ds k) fb fh bn bc at' ct 1073741824 s (xa, x.2.1, xc) d (B.below hu) hV hN rfl (layK_lim (by omega) rfl HB2.out) (by omega) hsm hnn hrow.bytes (OwnG.mono ox (Nat.zero_le _)) (fun j hj hS => by
              have h1 := (OwnG.cellsT ox j hj).2
              have h2 := B.lt j hS
              omega))
            have ST := hide (layK_step hns hd)
            have NX : Hid (∀ (u u2 : World) (xa : Option Addr) (xc : Nat), Below v.heap.size v u → OwnB u v.heap.size xa x.2.1 xc d → (∃ S' fb' fh', LB u2 g S' (layF (layK ns ds k) s d) fb' fh' bn bc at' ct ∧ (∀ j, S' j → S j ∨ u.heap.size ≤ j ∨ (h3V (xa, x.2.1, xc)).ownBlock = some j) ∧ Ch S u u2) → MadeV LAt w u2 g (layK ns ds (k + 1))) := fun u u2 xa xc hu ox hq => by
              obtain ⟨S', fb', fh', q1, q2, q3⟩ := hq
              rw [← ST.out]
              have z1 := hbv.size
              have z2 := hu.size
              refine ⟨S', ⟨hV.lay s hrow.bytes, GoodN.lay hV hN rfl hsm hnn d, _, _, _, _, _, _, q1⟩, fun j hj => ?_, (hbv.trans (hu.mono z1)).trans (q3.below (by omega) (fun j hj hS => by have := hSb j hS; omega))⟩
              rcases q2 j hj with e | e | e
              · exact hSb j e
              · omega
              · have := (OwnG.cellsT ox j e).2
                omega
            obtain ⟨xa0, xn, xc0⟩ := x
            dsimp only at cx CL LY NX
            have HST := hide (fun (h : k + 1 ≤ n) => h)
            clear HM hV hN B hSb hbv hc hns hd hrow hxc hxn hdl ST hs'
            go_wp2_with fail
            with_reducible refine CL.out.mono ?_
            rintro e u ⟨xa, xc, rfl, ox, bu⟩
            have LY2 := hide (LY.out u bu xa xc ox)
            have NX2 := hide (fun u2 => NX.out u u2 xa xc bu ox)
            clear ox bu CL LY NX
            go_wp2_with fail
            with_reducible refine LY2.out.mono ?_
            rintro e u2 ⟨rfl, hq⟩
            have HM2 := hide (NX2.out u2 hq)
            clear hq LY2 NX2
            go_wp2
            go_roundw
            case rel => exact ⟨k + 1, by omega, by go_num, HM2⟩
            case measure => simp [intOf]; omega
          · obtain rfl : k = n := by omega
            go_wp2
            refine bodyPost_ret (v := .tuple #[.pointer (some ⟨g, 0, none⟩), .int .i64 0]) (by simp [results, Tryz.results11, go_sem]) rfl ?_
            exact laidV_some HE.out HM.out
    · have HE : Hid (laidF ns ds = (none, 1)) := by
        show _ = _
        unfold laidF
        rw [if_neg (by rw [hl, hl2]; exact fun h => h rfl), if_pos (show ¬ ((∀ s ∈ ns, mayN s = true) ∧ ns.Nodup) from hA)]
      have HA := hide hA
      clear hr hr2 hA
      go_enter Tryz.func11, Tryz.ntmps11
      go_wp2_with fail
      with_reducible refine AN.out.mono ?_
      rintro e u ⟨b, rfl, hb, bu⟩
      have : b = false := by
        cases hq : b with
        | false => rfl
        | true => exact (HA.out (hb.1 hq)).elim
      subst this
      have BU := hide bu
      clear hb bu AN
      go_wp2
      refine bodyPost_ret (v := .tuple #[.pointer none, .int .i64 1]) (by simp [results, Tryz.results11, go_sem]) rfl ?_
      exact laidV_none HE.out BU.out
  · have HE : Hid (laidF ns ds = (none, 1)) := by
      show _ = _
      unfold laidF
      rw [if_pos (by rw [hl, hl2]; exact hne)]
    have d1 : ((n : Int) != (n2 : Int)) = true := by simp; omega
    have d2 : (n != n2) = true := by simpa using hne
    clear hr hr2
    go_enter Tryz.func11, Tryz.ntmps11
    go_wp2
    refine bodyPost_ret (v := .tuple #[.pointer none, .int .i64 1]) (by simp [results, Tryz.results11, go_sem]) rfl ?_
    exact laidV_none HE.out (Below.refl _ _)
end Go.Proofs.YthlkmjaflomflaaGreat
