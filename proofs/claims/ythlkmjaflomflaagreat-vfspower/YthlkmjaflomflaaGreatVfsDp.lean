/-
  The landed file system: Crash: a contract, for every world (written by gen/vfsdp.gen.py).
  Conditions: the file system lies in memory; the picks are told.
-/
import Derived.Test.YthlkmjaflomflaaGreatVfsDo
namespace Go.Proofs.YthlkmjaflomflaaGreat
open Go.RowKit Go.Maps
set_option maxRecDepth 20000
set_option linter.unusedVariables false

/-- What is left of a file. -/
def leftF (F : Fs) (ps : List Int) (i : Nat) (x : Dn) : List Int := unsB (atF F x.f).sure ((atF F x.f).us.take (cutN (pickF ps i)))
/-- The first k files that are left. -/
def crashK (F : Fs) (d : List Dn) (ps : List Int) (k : Nat) : Fs := { fs0 with files := (d.take k).mapIdx fun i x => ⟨leftF F ps i x, []⟩, sure := (d.take k).mapIdx fun i x => ⟨x.nm, i⟩ }
theorem crashK_zero (F : Fs) (d : List Dn) (ps : List Int) : crashK F d ps 0 = fs0 := by unfold crashK; simp [fs0]
theorem crashK_step {F : Fs} {d : List Dn} {ps : List Int} {k : Nat} {x : Dn} (hx : d[k]? = some x) : layF (crashK F d ps k) x.nm (leftF F ps k x) = crashK F d ps (k + 1) := by
  obtain ⟨h1, e1⟩ := List.getElem?_eq_some_iff.1 hx
  unfold layF crashK
  dsimp only
  rw [List.take_succ_eq_append_getElem h1, e1, List.mapIdx_append, List.mapIdx_append, List.length_mapIdx, List.length_take, Nat.min_eq_left (by omega)]
  simp
theorem crashK_end (F : Fs) (ops : Int) (ps : List Int) : crashF F ops ps = crashK F (keptF (turnsD F.sure (F.turns.take (cutN ops))) F.files.length) ps (keptF (turnsD F.sure (F.turns.take (cutN ops))) F.files.length).length := by
  unfold crashF crashK leftF
  dsimp only
  rw [List.take_length]
theorem crashK_name {F : Fs} {d : List Dn} {ps : List Int} {k : Nat} {x : Dn} (h : (d.map (·.nm)).Nodup) (hx : d[k]? = some x) : fileD (crashK F d ps k).sure x.nm = none := by
  cases hf : fileD (crashK F d ps k).sure x.nm with
  | none => rfl
  | some f =>
    have hm := fileD_mem hf
    obtain ⟨h1, e1⟩ := List.getElem?_eq_some_iff.1 hx
    obtain ⟨i, hi, e⟩ := List.mem_mapIdx.1 hm
    have es : (d.take k)[i].nm = x.nm := by simpa using congrArg Dn.nm e
    have hik : i < k := by rw [List.length_take] at hi; omega
    have := List.pairwise_iff_getElem.1 h i k (by rw [List.length_map]; omega) (by rw [List.length_map]; exact h1) hik
    rw [List.getElem_map, List.getElem_map, e1] at this
    rw [List.getElem_take] at es
    exact absurd es this
theorem leftF_len {F : Fs} {m : Nat} (h : Lim m F) (ps : List Int) (i : Nat) (x : Dn) : (leftF F ps i x).length ≤ 2 * m := by
  unfold leftF
  have h1 := unsB_len ((atF F x.f).us.take (cutN (pickF ps i))) (atF F x.f).sure
  rw [List.length_take] at h1
  have h2 : (atF F x.f).sure.length ≤ m ∧ (atF F x.f).us.length ≤ m := by
    unfold atF
    rw [List.getD_eq_getElem?_getD]
    cases e : F.files[x.f]? with
    | none => simp [emF]
    | some y => exact h.each y (List.mem_of_getElem? e)
  omega
theorem leftF_byte {F : Fs} (h : GoodV F) (ps : List Int) (i : Nat) (x : Dn) : ∀ z ∈ leftF F ps i x, 0 ≤ z ∧ z ≤ 255 := by
  unfold leftF
  have hb : (∀ z ∈ (atF F x.f).sure, 0 ≤ z ∧ z ≤ 255) ∧ ∀ u ∈ (atF F x.f).us, (0 ≤ u.b ∧ u.b ≤ 255) := by
    unfold atF
    rw [List.getD_eq_getElem?_getD]
    cases e : F.files[x.f]? with
    | none => exact ⟨fun z hz => by simp [emF] at hz, fun z hz => by simp [emF] at hz⟩
    | some y => exact h.byte y (List.mem_of_getElem? e)
  exact unsB_byte hb.1 (fun u hu => hb.2 u (List.mem_of_mem_take hu))
theorem crashK_lim {F : Fs} {m M : Nat} (h : Lim m F) {d : List Dn} (hd : d.length ≤ 2 * m) (hM : 2 * m ≤ M) (ps : List Int) (k : Nat) : Lim M (crashK F d ps k) := by
  refine ⟨?_, ?_, ?_, ?_, by show (0 : Int) ≤ 0 ∧ (0 : Int) ≤ _; omega⟩
  · show ((d.take k).mapIdx _).length ≤ _
    rw [List.length_mapIdx, List.length_take]; omega
  · show ((d.take k).mapIdx _).length ≤ _
    rw [List.length_mapIdx, List.length_take]; omega
  · show ([] : List Tn).length ≤ _
    simp
  · intro x hx
    obtain ⟨i, hi, rfl⟩ := List.mem_mapIdx.1 hx
    have := leftF_len h ps i (d.take k)[i]
    exact ⟨by dsimp only; omega, by simp⟩
theorem slice_toTu (a : Option Addr) (n cap k : Nat) (hk : k ≤ cap) (w : World) :
    (Instr.slice 63 (.slice a n cap) none (some (.int .i64 (k : Int))) none).run Tryz.prog w = .ok (.slice a k cap) w := by
  rw [run_slice_h (P := Tryz.prog) w 63 a n cap Tryz.underlying63 .i64 (k : Int) (by omega) (by omega)]
  have hs : (sizeOf (Tryz.prog.elem 63)).run Tryz.prog w = .ok 4 w := by kernel_rfl
  rw [hs]
  simp only [Result.andThen, sliced, Int.toNat_natCast, Nat.zero_mul, Nat.sub_zero]
  cases a with
  | none => simp
  | some x => simp [Addr.add]
theorem MapS.heap {w : World} {b n : Nat} {f : ByteArray → Option Value} (h : MapS w b n f) : ∃ es clock, w.heap[b]? = some (.map es clock) := h.isMap
/-- A turn's cells. -/
theorem tu_at {fb : List Nat} {w : World} {a : Option Addr} {n c : Nat} {l : List Tn} (h : OwnTu fb w 0 a n c l) {i : Nat} {t : Tn} (hi : l[i]? = some t) : ∃ g k s u p, a = some ⟨g, 0, none⟩ ∧ i < n ∧ n ≤ c ∧ tuV fb t = [.int .i64 k, .string s, .string u, .pointer p] ∧ w.cell? ⟨g, i * 4, none⟩ = some (.int .i64 k) ∧ w.cell? ⟨g, i * 4 + 1, none⟩ = some (.string s) ∧ w.cell? ⟨g, i * 4 + 2, none⟩ = some (.string u) ∧ w.cell? ⟨g, i * 4 + 3, none⟩ = some (.pointer p) := by
  obtain ⟨g, e1, e2, e3, e4⟩ := OwnG.at (tuV_len fb) (by decide) h hi
  obtain ⟨k, s, u, p, e0⟩ := tuV_four fb t
  rw [e0] at e4
  exact ⟨g, k, s, u, p, e1, e2, e3, e0, e4 0 _ rfl, e4 1 _ rfl, e4 2 _ rfl, e4 3 _ rfl⟩

set_option maxHeartbeats 16000000 in
theorem lcrash_any (g : Nat) (S : Nat → Prop) (F : Fs) (ops : Int) (a : Option Addr) (n c : Nat) (ps : List Int) (m : Nat) (w : World) (hF : LAt w g S F) (hL : Lim m F) (hm : m ≤ 536870912) (ho : (Lit.int .i64 ops).wf = true) (hr : Row .i64 w a n ps) (hn : n ≤ 281474976710656) :
    Calls Tryz.prog 23 #[.pointer (some ⟨g, 0, none⟩), .int .i64 ops, .slice a n c] w fun e w' => ∃ g', e = .returned (.pointer (some ⟨g', 0, none⟩)) ∧ MadeV LAt w w' g' (crashF F ops ps) := by
  obtain ⟨hV, hN, fb, fh, bn, bc, at', ct, B⟩ := hF
  obtain ⟨o0, o1⟩ := i64_of_wf ho
  obtain ⟨es, ck, hes⟩ := B.certain.heap
  have CLN := hide (Tryz.maps_Clone_laid bc es ck w hes)
  have c1 := B.c1
  have c2 := B.c2
  have hsl := hL.sure
  have htl := hL.turns
  obtain ⟨NT, hNT⟩ : ∃ NT, F.turns.length = NT := ⟨_, rfl⟩
  rw [hNT] at c2 htl
  have RV := hide B
  have GV := hide hV
  have GN := hide hN
  have LM := hide hL
  have HR := hide hr
  have HNT := hide hNT
  obtain ⟨w1, hw1⟩ : ∃ w1, Hid (w.alloc (.map es ck) = w1) := ⟨_, rfl⟩
  have B1 : Hid (Below w.heap.size w w1) := by rw [← hw1.out]; exact (Below.refl _ _).alloc (Nat.le_refl _) _
  have M1 : Hid (MapS w1 w.heap.size F.sure.length (nmV fb F.sure)) := by rw [← hw1.out]; exact B.certain.copied hes
  have s1 : w1.heap.size = w.heap.size + 1 := by rw [← hw1.out]; simp
  obtain ⟨w2, hw2⟩ : ∃ w2, Hid (w1.alloc (.cells #[.map (some w.heap.size)] 62) = w2) := ⟨_, rfl⟩
  have B2 : Hid (Below w1.heap.size w1 w2) := by rw [← hw2.out]; exact (Below.refl _ _).alloc (Nat.le_refl _) _
  have X2 : Hid (w2.heap[w.heap.size + 1]? = some (.cells #[.map (some w.heap.size)] 62 (0, 0))) := by rw [← s1, ← hw2.out]; exact heap_alloc_new w1 _
  have BW2 : Hid (Below w.heap.size w w2) := bel_to B1.out (Nat.le_refl _) B2.out
  have M2 : Hid (MapS w2 w.heap.size F.sure.length (nmV fb F.sure)) := M1.out.below B2.out
  have d2 : w2.cell? ⟨g, 2, none⟩ = some (.slice at' NT ct) := (BW2.out.cell (p := ⟨g, 2, none⟩) (World.block_lt_of_cell? w _ c2)).trans c2
  obtain ⟨K, hK⟩ : ∃ K, min (cutN ops) NT = K := ⟨_, rfl⟩
  have hKn : K ≤ NT := by omega
  have HTK : Hid (F.turns.take (cutN ops) = F.turns.take K) := by
    show _ = _
    rw [← hK, ← hNT]
    by_cases q : cutN ops ≤ F.turns.length
    · rw [Nat.min_eq_left q]
    · rw [Nat.min_eq_right (by omega), List.take_length, List.take_of_length_le (by omega)]
  clear B hV hN hL hr hNT hes M1 B1 B2
  go_enter Tryz.func23, Tryz.ntmps23
  go_wp2_with fail
  with_reducible refine CLN.out.mono ?_
  rintro e u ⟨rfl, hu⟩
  rw [hu, hw1.out]
  clear hu CLN hw1 c1 c2
  go_upto_region 2 with fail
  rw [hw2.out]
  clear hw2 s1
  obtain ⟨bx, hbx⟩ : ∃ bx, w.heap.size + 1 = bx := ⟨_, rfl⟩
  obtain ⟨b', hb'⟩ : ∃ b', w.heap.size = b' := ⟨_, rfl⟩
  rw [hbx] at X2
  rw [hbx, hb']
  have OTS := hide RV.out.turns
  rw [HNT.out] at OTS
  have hct : NT ≤ ct := (OwnG.capped OTS.out).1
  go_cut [32, 33, 34] (fun x y z wx => x = .slice at' K ct ∧ y = .int .i64 (K : Int) ∧ z = .int .i64 0 ∧ Hid (Below w2.heap.size w2 wx))
  case first =>
    have sl := fun u => slice_toTu at' NT ct K (by omega) u
    have BD : Hid (∀ q : Nat, Below w2.heap.size w2 (w2.drewN q)) := fun q => bel_drewN (Below.refl _ _) q
    have hKc : (K : Int) = min (max ops 0) (NT : Int) := by rw [← hK]; unfold cutN; omega
    clear M2 X2 BW2 GV GN LM HR RV OTS HTK
    by_cases q0 : ops < 0
    · have hm0 : max ops 0 = 0 := by omega
      have hk0 : (K : Int) = 0 := by omega
      have hkn : K = 0 := by omega
      have e1 : ¬ (NT : Int) < 0 := by omega
      have e2 : decide ((NT : Int) < 0) = false := decide_eq_false e1
      have e3 : decide (ops < 0) = true := decide_eq_true q0
      subst hkn
      have hmin : min (0 : Int) (NT : Int) = 0 := by omega
      clear hKc hk0 hK
      go_quiet (fail)
      go_wp2_with fail
      go_meet
      case rel => exact ⟨by rfl, by rfl, rfl, BD.out _⟩
    · have hm0 : max ops 0 = ops := by omega
      have e3 : decide (ops < 0) = false := decide_eq_false q0
      by_cases q1 : (NT : Int) < ops
      · have hk0 : (NT : Int) = (K : Int) := by omega
        have e2 : decide ((NT : Int) < ops) = true := decide_eq_true q1
        have hmin : min ops (NT : Int) = (K : Int) := by omega
        have hkn : NT = K := by omega
        subst hkn
        clear hKc hk0 hK
        go_quiet (fail)
        go_wp2_with fail
        go_meet
        case rel => exact ⟨by rfl, by rfl, rfl, BD.out _⟩
      · have hk0 : ops = (K : Int) := by omega
        have e2 : decide ((NT : Int) < ops) = false := decide_eq_false q1
        have hmin : min ops (NT : Int) = (K : Int) := by omega
        subst hk0
        clear hKc hK hm0
        have hm1 : max (K : Int) 0 = (K : Int) := by omega
        go_quiet (fail)
        go_wp2_with fail
        go_meet
        case rel => exact ⟨by rfl, by rfl, rfl, BD.out _⟩
  case rest =>
    obtain ⟨rfl, rfl, rfl, BQ⟩ := hcut
    obtain ⟨v2, rfl⟩ : ∃ v2, v2 = wc := ⟨wc, rfl⟩
    have M3 : Hid (MapS v2 b' F.sure.length (nmV fb F.sure)) := by rw [← hb']; exact M2.out.below BQ.out
    have X3 : Hid (v2.heap[bx]? = some (.cells #[.map (some b')] 62 (0, 0))) := by rw [← hb']; exact (BQ.out.block bx (Array.getElem?_eq_some_iff.1 X2.out).1).trans X2.out
    have B3 : Hid (Below w.heap.size w v2) := bel_to BW2.out (Nat.le_refl _) BQ.out
    have hne : Hid (bx ≠ b') := by show bx ≠ b'; omega
    have HB' := hide hb'
    clear M2 X2 BW2 BQ d2 hK
    go_wp2
    go_loopw [34] (fun i wr => ∃ j : Nat, j ≤ K ∧ i = .int .i64 (j : Int) ∧ Hid (MapS wr b' (F.sure.length + j) (nmV fb (turnsD F.sure (F.turns.take j)))) ∧ Hid (wr.heap[bx]? = some (.cells #[.map (some b')] 62 (0, 0))) ∧ Hid (Below w.heap.size w wr)) (fun i _ => K - (intOf i).toNat)
    case atStart => exact ⟨0, by omega, rfl, by rw [List.take_zero]; exact M3.out, X3, B3⟩
    case round =>
      clear M3 X3 B3
      obtain ⟨j, hj, rfl, HM, HX, HB⟩ := hrel
      obtain ⟨v, rfl⟩ : ∃ v, v = wr := ⟨wr, rfl⟩
      by_cases hlt : j < K
      · obtain ⟨t, ht⟩ : ∃ t, F.turns[j]? = some t := ⟨_, List.getElem?_eq_getElem (by have := HNT.out; omega)⟩
        obtain ⟨gt, tk, ts, tu, tp, rfl, hjn, -, etu, t0, t1, t2, t3⟩ := tu_at (OwnG.below OTS.out HB.out (Nat.le_refl _)) ht
        have okt := okT_at GN.out.turns ht
        have kt := (GV.out.turns t (List.mem_of_getElem? ht)).1
        have DO := hide (fun u (hu : Below v.heap.size v u) => ldo_any u b' (F.sure.length + j) fb _ t (HM.out.below hu) okt kt (by omega))
        rw [etu, ← turnsD_take ht] at DO
        have NXT : Hid (∀ u u2, Below v.heap.size v u → Ch (fun i => i = b') u u2 → u2.heap[bx]? = some (.cells #[.map (some b')] 62 (0, 0)) ∧ Below w.heap.size w u2) := fun u u2 h1 h2 => by
          have hl := (Array.getElem?_eq_some_iff.1 HX.out).1
          have z1 := h1.size
          have z2 := HB.out.size
          refine ⟨(h2.block bx (by omega) hne.out).trans ((h1.block bx hl).trans HX.out), (bel_to HB.out (Nat.le_refl _) h1).trans (h2.below (by omega) (fun i hi e => by have := HB'.out; omega))⟩
        have XC : Hid (∀ u, Below v.heap.size v u → u.cell? ⟨bx, 0, none⟩ = some (.map (some b'))) := fun u hu => by
          have e := (hu.block bx (Array.getElem?_eq_some_iff.1 HX.out).1).trans HX.out
          rw [cell_of_row u bx 0 _ _ (0, 0) e]; rfl
        have i1 : (0 : Int) ≤ (j : Int) := by omega
        have i2 : (j : Int) < (K : Int) := by omega
        obtain ⟨vA, hvA⟩ : ∃ vA, Hid (v.alloc (.cells #[.int .i64 tk, .string ts, .string tu, .pointer tp] 86) = vA) := ⟨_, rfl⟩
        have BA : Hid (Below v.heap.size v vA) := by rw [← hvA.out]; exact (Below.refl _ _).alloc (Nat.le_refl _) _
        have a0 : vA.cell? ⟨v.heap.size, 0, none⟩ = some (.int .i64 tk) := by rw [← hvA.out, World.cell?_alloc_mark]; rfl
        have a1 : vA.cell? ⟨v.heap.size, 1, none⟩ = some (.string ts) := by rw [← hvA.out, World.cell?_alloc_mark]; rfl
        have a2 : vA.cell? ⟨v.heap.size, 2, none⟩ = some (.string tu) := by rw [← hvA.out, World.cell?_alloc_mark]; rfl
        have a3 : vA.cell? ⟨v.heap.size, 3, none⟩ = some (.pointer tp) := by rw [← hvA.out, World.cell?_alloc_mark]; rfl
        have xc := XC.out vA BA.out
        clear ht okt kt etu HM HX HB XC
        go_upto_region 5 with fail
        rw [hvA.out]
        clear hvA t0 t1 t2 t3
        go_wp2_with fail
        with_reducible refine (DO.out _ BA.out).mono ?_
        rintro e u ⟨rfl, mu, ku⟩
        have MU := hide mu
        have NU := hide (NXT.out _ _ BA.out ku)
        have N1 : Hid (u.heap[bx]? = some (.cells #[.map (some b')] 62 (0, 0))) := NU.out.1
        have N2 : Hid (Below w.heap.size w u) := NU.out.2
        clear mu ku DO NXT NU a0 a1 a2 a3 xc BA
        go_wp2
        go_roundw
        case rel => exact ⟨j + 1, by omega, by go_num, MU, N1, N2⟩
        case measure => simp [intOf]; omega
      · obtain rfl : j = K := by omega
        have i2 : ¬ (j : Int) < (j : Int) := by omega
        obtain ⟨D, hD0⟩ : ∃ D, turnsD F.sure (F.turns.take j) = D := ⟨_, rfl⟩
        have HD : Hid (NamesD D) := by rw [← hD0]; exact GN.out.sure.turns (okT_take GN.out.turns j)
        have HFI : Hid (FilesIn F.files.length D) := by rw [← hD0]; exact FilesIn.turns (fun t ht => (GV.out.turns t (List.mem_of_mem_take ht)).2) GV.out.sure
        have hDl : D.length ≤ 2 * m := by
          have h1 := turnsD_len (F.turns.take j) F.sure
          rw [hD0, List.length_take] at h1
          omega
        obtain ⟨L, hL0⟩ : ∃ L, keptF D F.files.length = L := ⟨_, rfl⟩
        have HKL : Hid (∀ x, x ∈ L ↔ x ∈ D) := fun x => by rw [← hL0]; exact keptF_mem HFI.out x
        have hLl : L.length ≤ 2 * m := by rw [← hL0]; exact Nat.le_trans (keptF_len D _) hDl
        have HLN : Hid ((L.map (·.nm)).Nodup) := by
          have h1 := keptF_sorted HD.out.files F.files.length
          rw [hL0] at h1
          refine List.pairwise_map.2 (h1.imp_of_mem (fun {x y} hx hy hlt e => ?_))
          have := inj_of_nodup HD.out.once ((HKL.out x).1 hx) ((HKL.out y).1 hy) e
          rw [this] at hlt
          omega
        have HCE : Hid (crashF F ops ps = crashK F L ps L.length) := by
          show _ = _
          rw [crashK_end, HTK.out, hD0, hL0]
        rw [hD0] at HM
        have XC : Hid (∀ u, Below v.heap.size v u → u.cell? ⟨bx, 0, none⟩ = some (.map (some b'))) := fun u hu => by
          have e := (hu.block bx (Array.getElem?_eq_some_iff.1 HX.out).1).trans HX.out
          rw [cell_of_row u bx 0 _ _ (0, 0) e]; rfl
        have FA : Hid (∀ u, Below w.heap.size w u → ∀ d ∈ D, ∃ h, FlM u h d.f (atF F d.f) ∧ fb.getD d.f 0 = h.b) := fun u hu d hd => by
          obtain ⟨h, _, mh, eb⟩ := (RV.out.below hu).fileAt (HFI.out d hd)
          exact ⟨h, mh, eb⟩
        have BB := hide (byBirth_any D HD.out F.files.length HFI.out b' _ fb bx v HM.out (XC.out v (Below.refl _ _)) (fun d hd => by
          obtain ⟨h, mh, eb⟩ := FA.out v HB.out d hd
          rw [eb]
          exact mh.c0) (by omega))
        rw [hL0] at BB
        have hbxc := XC.out v (Below.refl _ _)
        clear HTK hD0 hL0 HNT OTS RV GN hct hKn htl hsl
        go_wp2_with fail
        with_reducible refine (keysV_any _ _).mono ?_
        rintro e u ⟨rfl, hu⟩
        rw [hu]
        clear hu
        go_wp2_with fail
        with_reducible refine BB.out.mono ?_
        rintro e v0 ⟨aB, kB, cB, rfl, rowB, bB⟩
        have RB' := hide rowB
        have hkB : L.length = kB := by have := rowB.1; rw [List.length_map] at this; exact this
        have B0 : Hid (Below w.heap.size w v0) := bel_to HB.out (Nat.le_refl _) bB
        have M0 : Hid (MapS v0 b' (F.sure.length + j) (nmV fb D)) := HM.out.below bB
        have X0 : Hid (∀ u, Below v0.heap.size v0 u → u.cell? ⟨bx, 0, none⟩ = some (.map (some b'))) := fun u hu => XC.out u (bel_to bB (Nat.le_refl _) hu)
        rw [hkB] at HCE
        clear rowB bB BB HM XC hbxc HX HB
        go_wp2_with fail
        with_reducible refine (lnew_any _).mono ?_
        rintro e v1 ⟨gl, rfl, hmade⟩
        have MV := hide hmade
        clear hmade
        go_wp2
        go_loopw [49] (fun i wr => ∃ k : Nat, k ≤ kB ∧ i = .int .i64 (k : Int) ∧ Hid (MadeV LAt v0 wr gl (crashK F L ps k))) (fun i _ => kB - (intOf i).toNat)
        case atStart => exact ⟨0, by omega, rfl, by rw [crashK_zero]; exact MV.out⟩
        case round =>
          clear MV
          obtain ⟨k, hk, rfl, HM⟩ := hrel
          obtain ⟨y, rfl⟩ : ∃ y, y = wr := ⟨wr, rfl⟩
          by_cases hlt2 : k < kB
          · obtain ⟨S', ⟨hV', hN', fb', fh', bn', bc', at2, ct2, B'⟩, hSb, hbv⟩ := HM.out
            obtain ⟨bo, off, rfl, hc⟩ := RB'.out.2.2.resolve_left (by omega)
            have cs := hc k hlt2
            have cs := (hbv.cell (p := ⟨bo, off + k, none⟩) (World.block_lt_of_cell? v0 _ cs)).trans cs
            obtain ⟨x, hx⟩ : ∃ x, L[k]? = some x := ⟨_, List.getElem?_eq_getElem (by rw [hkB]; exact hlt2)⟩
            have hxD := (HKL.out x).1 (List.mem_of_getElem? hx)
            have hxn : (L.map (·.nm)).getD k ByteArray.empty = x.nm := by rw [List.getD_eq_getElem?_getD, List.getElem?_map, hx]; rfl
            rw [hxn] at cs
            have hmay := HD.out.may x hxD
            have BY : Hid (Below w.heap.size w y) := bel_to B0.out (Nat.le_refl _) hbv
            obtain ⟨h, mh, eb⟩ := FA.out y BY.out x hxD
            have lk := fun u (hu : Below y.heap.size y u) => look_name1 ((M0.out.below hbv).below hu) (mayN_max hmay)
            rw [fileD_at HD.out hxD] at lk
            dsimp only [Option.map_some, Option.getD_some] at lk
            unfold ptrV at lk
            rw [eb] at lk
            have lk0 := lk y (Below.refl _ _)
            have hbxc := X0.out y hbv
            have hpw : (Lit.int .i64 (pickF ps k)).wf = true := by
              unfold pickF
              split
              · decide
              · rename_i hne
                rw [List.getD_eq_getElem?_getD, List.getElem?_eq_getElem (Nat.mod_lt _ (by omega))]
                exact HR.out.2.2.1 _ (List.getElem_mem _)
            have hkf := HFI.out x hxD
            obtain ⟨hbl, hul⟩ := bytF_len LM.out hkf
            have hsl' := (LM.out.each _ (atF_mem hkf)).1
            have UP := hide (fun u (hu : Below y.heap.size y u) => upto_any u h x.f _ _ _ (mh.below hu) rfl (pickF ps k) hpw (by omega) (by omega) (by omega) (bytF_byte GV.out hkf))
            rw [show unsB (atF F x.f).sure ((atF F x.f).us.take (cutN (pickF ps k))) = leftF F ps k x from rfl] at UP
            have hnn := crashK_name (F := F) (ps := ps) HLN.out hx
            have LY := hide (fun u (hu : Below y.heap.size y u) (xa : Option Addr) (n' xc : Nat) (hn' : n' = (leftF F ps k x).length) (ox : OwnB u y.heap.size xa n' xc (leftF F ps k x)) => lay_any u gl S' (crashK F L ps k) fb' fh' bn' bc' at2 ct2 (2 * m) x.nm (xa, n', xc) (leftF F ps k x) (B'.below hu) hV' hN' rfl (crashK_lim LM.out hLl (Nat.le_refl _) ps k) (by omega) hmay hnn (leftF_byte GV.out ps k x) (OwnG.mono ox (Nat.zero_le _)) (fun i hi hS => by
              have h1 := (OwnG.cellsT ox i hi).2
              have h2 := B'.lt i hS
              omega))
            have ST := hide (crashK_step (F := F) (ps := ps) hx)
            have NX : Hid (∀ (u u2 : World) (xa : Option Addr) (n' xc : Nat), Below y.heap.size y u → OwnB u y.heap.size xa n' xc (leftF F ps k x) → (∃ S2 fb2 fh2, LB u2 gl S2 (layF (crashK F L ps k) x.nm (leftF F ps k x)) fb2 fh2 bn' bc' at2 ct2 ∧ (∀ i, S2 i → S' i ∨ u.heap.size ≤ i ∨ (h3V (xa, n', xc)).ownBlock = some i) ∧ Ch S' u u2) → MadeV LAt v0 u2 gl (crashK F L ps (k + 1))) := fun u u2 xa n' xc hu ox hq => by
              obtain ⟨S2, fb2, fh2, q1, q2, q3⟩ := hq
              rw [← ST.out]
              have z1 := hbv.size
              have z2 := hu.size
              refine ⟨S2, ⟨hV'.lay _ (leftF_byte GV.out ps k x), GoodN.lay hV' hN' rfl hmay hnn _, _, _, _, _, _, _, q1⟩, fun i hi => ?_, (hbv.trans (hu.mono z1)).trans (q3.below (by omega) (fun i hi hS => by have := hSb i hS; omega))⟩
              rcases q2 i hi with e | e | e
              · exact hSb i e
              · omega
              · have := (OwnG.cellsT ox i e).2
                omega
            have i1 : (0 : Int) ≤ (k : Int) := by omega
            have i2 : (k : Int) < (kB : Int) := by omega
            have RP := hide (HR.out.below BY.out (Nat.le_refl _))
            obtain ⟨hb, hhb⟩ : ∃ hb, h.b = hb := ⟨_, rfl⟩
            rw [hhb] at lk0 UP
            obtain ⟨nm, hnm⟩ : ∃ nm, x.nm = nm := ⟨_, rfl⟩
            rw [hnm] at cs lk0 LY NX
            clear HM hV' hN' B' hSb hbv hc hx hxD hxn hmay BY mh eb lk hkf hbl hul hsl' hnn ST hpw hhb hnm
            by_cases hn0 : n = 0
            · have hpk : pickF ps k = 0 := by unfold pickF; rw [if_pos (by rw [RP.out.1]; exact hn0)]
              subst hn0
              have e1 : ¬ (0 : Int) < 0 := by omega
              rw [hpk] at UP
              go_wp2_with fail
              with_reducible refine (UP.out _ (Below.refl _ _)).mono ?_
              rintro e u ⟨xa, n', xc, rfl, hn', ox, bu⟩
              have LY2 := hide (LY.out u bu xa n' xc hn' ox)
              have NX2 := hide (fun u2 => NX.out u u2 xa n' xc bu ox)
              clear ox bu hn' UP LY NX cs lk0 hbxc
              go_wp2_with fail
              with_reducible refine LY2.out.mono ?_
              rintro e u2 ⟨rfl, hq⟩
              have HM2 := hide (NX2.out u2 hq)
              clear hq LY2 NX2
              go_wp2
              go_roundw
              case rel => exact ⟨k + 1, by omega, by go_num, HM2⟩
              case measure => simp [intOf]; omega
            · obtain ⟨bp, offp, rfl, hcp⟩ := RP.out.2.2.2.resolve_left hn0
              obtain ⟨q, hq⟩ : ∃ q, k % n = q := ⟨_, rfl⟩
              have hqn : q < n := by rw [← hq]; exact Nat.mod_lt _ (by omega)
              have cq := hcp q hqn
              have hpk : pickF ps k = ps.getD q 0 := by unfold pickF; rw [if_neg (by rw [RP.out.1]; exact hn0), RP.out.1, hq]
              obtain ⟨pz, hpz⟩ : ∃ pz, pickF ps k = pz := ⟨_, rfl⟩
              rw [← hpk, hpz] at cq
              rw [hpz] at UP
              have e1 : (0 : Int) < (n : Int) := by omega
              have e2 : ((n : Int) == 0) = false := by simp; omega
              have e3 : (k : Int).tmod (n : Int) = (q : Int) := by rw [Int.tmod_eq_emod_of_nonneg (by omega)]; omega
              have e4 : (k : Int) % (n : Int) = (q : Int) := by omega
              have e5 : (0 : Int) ≤ (q : Int) := by omega
              have e6 : (q : Int) < (n : Int) := by omega
              have e7 : IntKind.i64.wrap (q : Int) = (q : Int) := by rw [IntKind.wrap_i64]; omega
              clear hcp hpk hpz hq RP
              go_wp2_with fail
              with_reducible refine (UP.out _ (Below.refl _ _)).mono ?_
              rintro e u ⟨xa, n', xc, rfl, hn', ox, bu⟩
              have LY2 := hide (LY.out u bu xa n' xc hn' ox)
              have NX2 := hide (fun u2 => NX.out u u2 xa n' xc bu ox)
              clear ox bu hn' UP LY NX cs lk0 hbxc
              go_wp2_with fail
              with_reducible refine LY2.out.mono ?_
              rintro e u2 ⟨rfl, hq⟩
              have HM2 := hide (NX2.out u2 hq)
              clear hq LY2 NX2
              go_wp2
              go_roundw
              case rel => exact ⟨k + 1, by omega, by go_num, HM2⟩
              case measure => simp [intOf]; omega
          · obtain rfl : k = kB := by omega
            have i3 : ¬ (k : Int) < (k : Int) := by omega
            have FIN : Hid (MadeV LAt w y gl (crashF F ops ps)) := by
              obtain ⟨S', q1, q2, q3⟩ := HM.out
              rw [HCE.out]
              exact ⟨S', q1, fun i hi => Nat.le_trans B0.out.size (q2 i hi), bel_to B0.out (Nat.le_refl _) q3⟩
            clear HM M0 X0 FA
            go_wp2
            go_ret
            exact ⟨gl, rfl, FIN.out⟩
end Go.Proofs.YthlkmjaflomflaaGreat
