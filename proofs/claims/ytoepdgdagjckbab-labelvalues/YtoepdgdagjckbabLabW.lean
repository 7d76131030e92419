/-
  The law LabelValues, over what the laws ask of the program's own functions on labels.
  Conditions: as LaN, LaC, LaV, LaM, LaT say.
-/
import Derived.Test.YtoepdgdagjckbabLabC
import Derived.Deep.RegionHeld3
import Derived.Deep.DeepCutAuto
namespace Go.Proofs.Ytoepdgdagjckbab
open Go.RowKit Go.Deep
set_option maxRecDepth 20000

/-- Is there a label of that name? -/
def anyN (nm : ByteArray) (l : List Lb) : Bool := l.any fun x => x.1.toList == nm.toList
theorem anyN_step {nm : ByteArray} {l : List Lb} {k : Nat} {x : Lb} (hx : l[k]? = some x) : anyN nm (l.take (k + 1)) = (anyN nm (l.take k) || (x.1.toList == nm.toList)) := by
  have e : l.take (k + 1) = l.take k ++ [x] := by
    rw [List.take_add_one, hx]
    rfl
  rw [e]
  unfold anyN
  rw [List.any_append]
  simp
theorem chkF_full : ∀ {p : Option ByteArray} {l : List Lb}, chkF p l = true → ∀ x ∈ l, 1 ≤ x.2.size
  | _, [], _, x, hx => by cases hx
  | p, y :: t, h, x, hx => by
    rw [chkF_cons] at h
    simp only [Bool.and_eq_true] at h
    rcases List.mem_cons.1 hx with rfl | hx
    · have h1 := h.1.1
      unfold lbB at h1
      simp only [Bool.and_eq_true, decide_eq_true_eq] at h1
      exact h1.2.1
    · exact chkF_full h.2 x hx
theorem anyN_val {nm : ByteArray} {l : List Lb} (hc : chkL l = true) : ((valL l nm).toList == []) = !(anyN nm l) := by
  have hl := chkL_less hc
  unfold chkL at hc
  simp only [Bool.and_eq_true] at hc
  cases h : anyN nm l with
  | false =>
    have hn : ∀ x ∈ l, x.1 ≠ nm := fun x hx e => by
      unfold anyN at h
      rw [List.any_eq_false] at h
      exact h x hx (by rw [e]; simp)
    rw [valL_none hn, ByteArray.toList_eq]
    rfl
  | true =>
    unfold anyN at h
    rw [List.any_eq_true] at h
    obtain ⟨x, hx, e⟩ := h
    have e2 : x.1 = nm := ba_ext (by simpa using e)
    subst e2
    rw [valL_some hl hx]
    have h1 := chkF_full hc.1 x hx
    show _ = false
    rw [beq_eq_false_iff_ne]
    intro h2
    have h3 := congrArg List.length h2
    rw [ba_len, List.length_nil] at h3
    omega
theorem keepV {w v u : World} {p q : Addr} {x y : Value} {B : Nat} (h : (v.cell? p = some x ∧ v.cell? q = some y ∧ Hid (Below B w v))) (hB : B = w.heap.size) (hp : p.block < B) (hq : q.block < B) (b : Below v.heap.size v u) : u.cell? p = some x ∧ u.cell? q = some y ∧ Hid (Below B w u) := by
  subst hB
  obtain ⟨h1, h2, h3⟩ := h
  have hs := h3.out.size
  exact ⟨by rw [b.cell (by omega)]; exact h1, by rw [b.cell (by omega)]; exact h2, bel_too h3.out b⟩

set_option maxHeartbeats 4000000 in
theorem valuesL_of (N : LaN) (C : LaC) (V : LaV) (M : LaM) (T : LaT) (a : Option Addr) (n cap : Nat) (l : List Lb) (name : ByteArray) (w : World) (q : RowL w a n l) (hs : name.size ≤ 9223372036854775807) :
    Calls Try.prog 5 #[.slice a n cap, .string name] w fun e w' => e = .returned (.bool true) ∧ Below w.heap.size w w' := by
  have AW := hide (awakeL_any N C V M T)
  have hn := q.2.1
  have HR := hide q
  have HL := hide q.1
  have RC := hide (fun W (q : RowL W a n l) => quietB (refchkl_any a n cap l W q))
  have PV := hide (fun W nm (q : RowL W a n l) (h : nm.size ≤ 9223372036854775807) => V.val a n cap l nm W q h)
  clear N C V M T q
  cases hc : chkL l with
  | false =>
    rw [hc] at RC
    clear hc
    go_enter Try.func5, Try.ntmps5
    go_wp2_with fail
    with_reducible refine (RC.out _ HR.out).mono ?_
    rintro e v1 ⟨rfl, b2⟩
    have L1 := hide b2
    clear b2
    go_wp2_with fail
    with_reducible refine (AW.out _).mono ?_
    rintro e v2 ⟨rfl, b2⟩
    have L2 := hide (bel_too L1.out b2)
    clear b2
    go_wp2
    go_ret
    exact ⟨rfl, L2.out⟩
  | true =>
    rw [hc] at RC
    have HV : Hid (∀ (k : Nat) (x : Lb), l[k]? = some x → valL l x.1 = x.2) := fun k x hx => valL_some (chkL_less hc) (List.mem_of_getElem? hx)
    have HA := hide (anyN_val (nm := name) hc)
    have HZ : Hid (anyN name (l.take n) = anyN name l) := by show _ = _; rw [← HL.out, List.take_length]
    clear hc
    go_enter Try.func5, Try.ntmps5
    go_wp2_with fail
    with_reducible refine (RC.out _ HR.out).mono ?_
    rintro e v1 ⟨rfl, b2⟩
    have L1 := hide b2
    clear b2 RC
    go_wp2
    go_loopw [5, 6] (fun s i wr => ∃ k : Nat, i = .int .i64 k ∧ k ≤ n ∧ s = .bool (anyN name (l.take k)) ∧ Hid (Below w.heap.size w wr)) (fun _ i _ => n - (intOf i).toNat)
    case atStart => exact ⟨0, rfl, Nat.zero_le _, rfl, L1⟩
    case round =>
      obtain ⟨k, rfl, hk, rfl, BW⟩ := hrel
      by_cases hlt : k < n
      · obtain ⟨b1, o1, x, rfl, hx, hxw, hc1⟩ := HR.out.at' hlt
        have hblk : b1 < w.heap.size := World.block_lt_of_cell? w _ (hc1 w (Below.refl _ _)).1
        obtain ⟨f0, f1⟩ := hc1 wr.drew BW.out.drew
        have ST := hide (anyN_step (nm := name) hx)
        have HX := hide (HV.out k x hx)
        have PX := hide (fun W (q : RowL W (some ⟨b1, o1, none⟩) n l) => PV.out W x.1 q hxw.1)
        rw [HX.out] at PX
        have i1 : (0 : Int) ≤ (k : Int) := by omega
        have i2 : (k : Int) < (n : Int) := by omega
        have HC1 := hide hc1
        have e1 : (x.2.toList == x.2.toList) = true := by simp
        clear hc1 hx hxw HX
        generalize anyN name (l.take k) = kn at *
        go_upto_region 7 with fail
        have S0 : Hid (wr.drew.cell? ⟨b1, o1 + k * 2, none⟩ = some (.string x.1) ∧ wr.drew.cell? ⟨b1, o1 + k * 2 + 1, none⟩ = some (.string x.2) ∧ Hid (Below w.heap.size w wr.drew)) := ⟨f0, f1, BW.out.drew⟩
        go_region_held3 (fun w' => w'.cell? ⟨b1, o1 + k * 2, none⟩ = some (.string x.1) ∧ w'.cell? ⟨b1, o1 + k * 2 + 1, none⟩ = some (.string x.2) ∧ Hid (Below w.heap.size w w')) (first | with_reducible exact S0.out | with_reducible exact keepV S0.out rfl hblk hblk (by assumption)) (first
          | (go_at_call 20; with_reducible refine (PX.out _ (HR.out.below S0.out.2.2.out (Nat.le_refl _))).mono ?_; rintro e u1 ⟨rfl, b2⟩; have BU := hide (bel_too S0.out.2.2.out b2)))
        obtain ⟨g0, g1⟩ := HC1.out u1 BU.out
        clear S0 f0 f1 BW
        cases kn with
        | true =>
          go_wp2
          go_roundw
          case rel => exact ⟨k + 1, by go_num, by omega, by rw [ST.out]; rfl, BU⟩
          case measure => simp [intOf]; omega
        | false =>
          go_wp2
          go_roundw
          case rel => exact ⟨k + 1, by go_num, by omega, by rw [ST.out]; rfl, BU⟩
          case measure => simp [intOf]; omega
      · have hkn : k = n := by omega
        subst hkn
        rw [HZ.out]
        have R2 := hide (HR.out.below BW.out (Nat.le_refl _))
        have PX := hide (fun W (q : RowL W a k l) => PV.out W name q hs)
        have i2 : ¬ (k : Int) < (k : Int) := by omega
        generalize valL l name = vl at *
        generalize anyN name l = kn at *
        clear HZ PV HV
        cases kn with
        | true =>
          have e0 : (vl.toList == []) = false := HA.out
          have e1 : ¬ vl.toList = [] := by simpa using e0
          clear HA
          go_wp2_with fail
          with_reducible refine (PX.out _ R2.out).mono ?_
          rintro e u1 ⟨rfl, b2⟩
          have L2 := hide (bel_too BW.out b2)
          clear b2
          go_wp2_with fail
          with_reducible refine (AW.out _).mono ?_
          rintro e u2 ⟨rfl, b2⟩
          have L3 := hide (bel_too L2.out b2)
          clear b2
          go_wp2
          go_ret
          exact ⟨rfl, L3.out⟩
        | false =>
          have e0 : (vl.toList == []) = true := HA.out
          have e1 : vl.toList = [] := by simpa using e0
          clear HA
          go_wp2_with fail
          with_reducible refine (PX.out _ R2.out).mono ?_
          rintro e u1 ⟨rfl, b2⟩
          have L2 := hide (bel_too BW.out b2)
          clear b2
          go_wp2_with fail
          with_reducible refine (AW.out _).mono ?_
          rintro e u2 ⟨rfl, b2⟩
          have L3 := hide (bel_too L2.out b2)
          clear b2
          go_wp2
          go_ret
          exact ⟨rfl, L3.out⟩
end Go.Proofs.Ytoepdgdagjckbab
