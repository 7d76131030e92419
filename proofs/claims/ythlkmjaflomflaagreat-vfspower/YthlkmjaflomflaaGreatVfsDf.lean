/-
  The landed file system: Create: a contract, for every world.
  Conditions: the file system lies in memory; as the theorem says.
-/
import Derived.Test.YthlkmjaflomflaaGreatVfsDe
import Derived.Test.YthlkmjaflomflaaGreatVfsXb
namespace Go.Proofs.YthlkmjaflomflaaGreat
open Go.RowKit Go.Maps
set_option maxRecDepth 20000
set_option linter.unusedVariables false

theorem callF_err {F G : Fs} {e : Int} (h : callF F = (G, some e)) : (e != 0) = true := by
  rcases callF_cases F with ⟨_, q⟩ | ⟨_, _, q⟩ | ⟨_, _, _, q⟩ | ⟨_, _, _, _, q⟩ | ⟨_, _, _, h4, q⟩ <;> rw [q] at h <;> simp only [Prod.mk.injEq, Option.some.injEq, reduceCtorEq, and_false] at h
  · rw [← h.2]; rfl
  · rw [← h.2]; rfl
  · rw [← h.2]; simpa using h4
theorem GoodN.call {F : Fs} (h : GoodN F) : GoodN (callF F).1 := by
  obtain ⟨_, e2, e3, _⟩ := callF_same F
  exact h.like e2 e3
theorem Lim.call' {m : Nat} {F : Fs} (h : Lim m F) : Lim (m + 1) (callF F).1 := by
  obtain ⟨e1, e2, e3, e4⟩ := callF_same F
  refine ⟨by rw [e1]; have := h.files; omega, by rw [e2]; have := h.sure; omega, by rw [e3]; have := h.turns; omega, fun x hx => by rw [e1] at hx; have := h.each x hx; omega, by rw [e4]; have := h.n; omega⟩
theorem GoodV.more1 {G : Fs} (h : GoodV G) {x : Fi} (h1 : okUs x.sure x.us) (h2 : (∀ z ∈ x.sure, 0 ≤ z ∧ z ≤ 255) ∧ ∀ u ∈ x.us, (0 ≤ u.b ∧ u.b ≤ 255)) : GoodV { G with files := G.files ++ [x] } := by
  refine ⟨fun d hd => ?_, fun t ht => ?_, fun y hy => ?_, fun y hy => ?_, h.aft, h.knd⟩
  · have := h.sure d hd
    show d.f < (G.files ++ [x]).length
    rw [List.length_append]; simp; omega
  · obtain ⟨q1, q2⟩ := h.turns t ht
    refine ⟨q1, fun e => ?_⟩
    have := q2 e
    show t.f < (G.files ++ [x]).length
    rw [List.length_append]; simp; omega
  · rcases List.mem_append.1 hy with q | q
    · exact h.cuts y q
    · obtain rfl := List.mem_singleton.1 q; exact h1
  · rcases List.mem_append.1 hy with q | q
    · exact h.byte y q
    · obtain rfl := List.mem_singleton.1 q; exact h2
theorem stepL_same {w w' : World} {g : Nat} {S : Nat → Prop} {F : Fs} (h : LAt w' g S F) (k : Ch (fun j => j = g) w w') (ho : S g) : StepV LAt w w' g S F := ⟨S, h, fun _ hk => Or.inl hk, k.more (fun j _ e => e ▸ ho)⟩
theorem mayN_64 {s : ByteArray} (h : mayN s = true) : s.size ≤ 64 := by
  unfold mayN at h
  simp at h
  omega
theorem turn_give {G : Fs} (hV : GoodV G) {s : ByteArray} (hs : mayN s = true) : OkT1 (dirF G) ⟨0, s, ByteArray.empty, G.files.length⟩ :=
  ⟨⟨mayN_64 hs, Nat.zero_le _⟩, fun _ => ⟨hs, fun d hd => by have := hV.dir d hd; dsimp only; omega⟩, fun h => by simp at h⟩

set_option maxHeartbeats 8000000 in
theorem lcreate_any (g : Nat) (S : Nat → Prop) (F : Fs) (s : ByteArray) (m : Nat) (w : World) (hF : LAt w g S F) (hL : Lim m F) (hm : m < 1073741824) (hs : s.size ≤ 9223372036854775807) :
    Calls Tryz.prog 17 #[.pointer (some ⟨g, 0, none⟩), .string s] w fun e w' => e = .returned (.int .i64 (createF F s).2) ∧ StepV LAt w w' g S (createF F s).1 := by
  obtain ⟨hV, hN, fb, fh, bn, bc, at', ct, B⟩ := hF
  have CA := hide (begin_any w g S F fb fh bn bc at' ct m B hV hL (by omega))
  have LC := hide hL.call'
  have GV := hide hV.call
  have GN := hide hN.call
  have HG := hide B.own
  rcases hq : callF F with ⟨G, o⟩
  rw [hq] at CA LC GV GN
  dsimp only at CA LC GV GN
  have LA : Hid (∀ u, LB u g S G fb fh bn bc at' ct → LAt u g S G) := fun u hu => ⟨GV.out, GN.out, fb, fh, bn, bc, at', ct, hu⟩
  have HP : Hid (∀ (x : Fs × Int) (u : World), createF F s = x → StepV LAt w u g S x.1 → (Ending.returned (.int .i64 x.2) = .returned (.int .i64 (createF F s).2) ∧ StepV LAt w u g S (createF F s).1)) := fun x u e hu => by
    rw [e]
    exact ⟨rfl, hu⟩
  clear B hV hN hL
  cases o with
  | some e1 =>
    have ne := callF_err hq
    have HE : Hid (createF F s = (G, e1)) := by show _ = _; unfold createF; rw [hq]
    clear hq
    rw [Option.getD_some] at CA
    go_enter Tryz.func17, Tryz.ntmps17
    go_wp2_with fail
    with_reducible refine CA.out.mono ?_
    rintro e u1 ⟨rfl, h1, k1⟩
    have H1 := hide (HP.out _ _ HE.out (stepL_same (LA.out _ h1) k1 HG.out))
    clear h1 k1 CA HP
    go_wp2
    go_ret
    exact H1.out
  | none =>
    rw [Option.getD_none] at CA
    have IN := hide (fun u => isname_any s u hs)
    cases hm1 : mayN s with
    | false =>
      have HE : Hid (createF F s = (G, 1)) := by show _ = _; unfold createF; rw [hq]; dsimp only; rw [if_pos hm1]
      clear hq
      go_enter Tryz.func17, Tryz.ntmps17
      go_wp2_with fail
      with_reducible refine CA.out.mono ?_
      rintro e u1 ⟨rfl, h1, k1⟩
      have H1 := hide (HP.out _ _ HE.out (stepL_same (LA.out _ h1) k1 HG.out))
      clear h1 k1 CA HP
      go_wp2_with fail
      with_reducible refine (IN.out _).mono ?_
      rintro e u ⟨rfl, hu⟩
      rw [hu, hm1]
      clear hu
      go_wp2
      go_ret
      exact H1.out
    | true =>
      have hml := mayN_max hm1
      have HD : Hid (NamesD (dirF G)) := GN.out.dir
      have fi := fileD_isNone (dirF G) s
      by_cases hfull : (findD (dirF G) s).isNone = true ∧ 1024 ≤ (dirF G).length
      · have HE : Hid (createF F s = (G, 2)) := by show _ = _; unfold createF; rw [hq]; dsimp only; rw [if_neg (by rw [hm1]; simp), if_pos hfull]
        obtain ⟨hf1, hf2⟩ := hfull
        rw [fi] at hf1
        have hfn : fileD (dirF G) s = none := by simpa using hf1
        clear hq fi
        go_enter Tryz.func17, Tryz.ntmps17
        go_wp2_with fail
        with_reducible refine CA.out.mono ?_
        rintro e u1 ⟨rfl, h1, k1⟩
        have H1 := hide (HP.out _ _ HE.out (stepL_same (LA.out _ h1) k1 HG.out))
        have lk := look_name h1.names hml
        rw [hfn] at lk
        dsimp only [Option.map_none, Option.getD_none, Option.isSome_none] at lk
        have ln := fun ty => h1.names.len Tryz.underlying62 HD.out.once (names_mem HD.out) ty
        rw [List.length_map] at ln
        have c0 := h1.c0
        generalize (dirF G).length = dl at ln hf2
        have d1 : decide ((1024 : Int) ≤ (dl : Int)) = true := decide_eq_true (by omega)
        have d2 : decide (1024 ≤ dl) = true := decide_eq_true (by omega)
        have d3 : (1024 : Int) ≤ (dl : Int) := by omega
        clear h1 k1 CA HP hfn HD
        go_wp2_with fail
        with_reducible refine (IN.out _).mono ?_
        rintro e u ⟨rfl, hu⟩
        rw [hu, hm1]
        clear hu
        go_wp2
        go_ret
        exact H1.out
      · have HE : Hid (createF F s = ({ G with files := G.files ++ [emF], turns := G.turns ++ [⟨0, s, ByteArray.empty, G.files.length⟩] }, 0)) := by show _ = _; unfold createF; rw [hq]; dsimp only; rw [if_neg (by rw [hm1]; simp), if_neg hfull]
        have FIN : Hid (∀ (u1 u3 u4 : World) (h : Fh) (S' : Nat → Prop) (a' : Option Addr) (c' : Nat), Ch (fun j => j = g) w u1 → u1.heap.size ≤ h.b → (∀ j, SFh h j → u1.heap.size ≤ j ∨ (h3V (none, 0, 0)).ownBlock = some j) → Ch (fun j => j = g) u1 u3 → LB u4 g S' { G with files := G.files ++ [⟨[], []⟩], turns := G.turns ++ [⟨0, s, ByteArray.empty, G.files.length⟩] } (fb ++ [h.b]) (fh ++ [h]) bn bc a' c' → (∀ k, S' k → (S k ∨ SFh h k) ∨ u3.heap.size ≤ k) → Ch (fun j => S j ∨ SFh h j) u3 u4 → (Ending.returned (.int .i64 0) = .returned (.int .i64 (createF F s).2) ∧ StepV LAt w u4 g S (createF F s).1)) := fun u1 u3 u4 h S' a' c' k1 hb hsf k3 h4 hS' k4 => by
          refine HP.out _ _ HE.out ⟨S', ⟨?_, ?_, _, _, _, _, _, _, h4⟩, fun j hj => ?_, ?_⟩
          · exact (GV.out.more1 (x := emF) trivial ⟨fun z hz => by simp [emF] at hz, fun z hz => by simp [emF] at hz⟩).turn ⟨by simp, fun _ => by simp⟩
          · exact (GN.out.like (G := { G with files := G.files ++ [⟨[], []⟩] }) rfl rfl).push (turn_give GV.out hm1) _
          · have z1 := k1.size
            have z3 := k3.size
            rcases hS' j hj with (e | e) | e
            · exact Or.inl e
            · rcases hsf j e with e | e
              · exact Or.inr (by omega)
              · simp [h3V, Value.ownBlock] at e
            · exact Or.inr (by omega)
          · have z1 := k1.size
            have k13 : Ch S w u3 := (k1.trans k3).more (fun j _ e => e ▸ HG.out)
            refine ⟨k4.os.trans k13.os, k4.tape.trans k13.tape, k4.output.trans k13.output, Nat.le_trans k13.size k4.size, fun j hj hn => ?_⟩
            rw [k4.block j (Nat.lt_of_lt_of_le hj k13.size) (fun e => by
              rcases e with e | e
              · exact hn e
              · rcases hsf j e with e | e
                · omega
                · simp [h3V, Value.ownBlock] at e)]
            exact k13.block j hj hn
        have OKT := hide (turn_give GV.out hm1)
        have HFL : Hid (fb.length = G.files.length → (∀ b, (fb ++ [b]).getD G.files.length 0 = b)) := fun e b => by
          rw [List.getD_eq_getElem?_getD, List.getElem?_append_right (by omega), e, Nat.sub_self]; rfl
        have LC2 : Hid (Lim (m + 2) { G with files := G.files ++ [⟨[], []⟩] }) := by
          have q := LC.out
          refine ⟨by have := q.files; dsimp only; rw [List.length_append, List.length_singleton]; omega, by have := q.sure; dsimp only; omega, by have := q.turns; dsimp only; omega, fun x hx => ?_, by have := q.n; dsimp only; omega⟩
          rcases List.mem_append.1 hx with e | e
          · have := q.each x e; omega
          · obtain rfl := List.mem_singleton.1 e; simp
        have CHG : Hid (∀ (u : World) (h : Fh), LB u g (fun j => S j ∨ SFh h j) { G with files := G.files ++ [⟨[], []⟩] } (fb ++ [h.b]) (fh ++ [h]) bn bc at' ct → fb.length = G.files.length → Calls Tryz.prog 52 #[.pointer (some ⟨g, 0, none⟩), .agg #[.int .i64 0, .string (ByteArray.mk #[]), .string s, .pointer (some ⟨h.b, 0, none⟩)]] u fun e w' => e = .returned (.tuple #[]) ∧ ∃ S' a' c', LB w' g S' { G with files := G.files ++ [⟨[], []⟩], turns := G.turns ++ [⟨0, s, ByteArray.empty, G.files.length⟩] } (fb ++ [h.b]) (fh ++ [h]) bn bc a' c' ∧ (∀ k, S' k → (S k ∨ SFh h k) ∨ u.heap.size ≤ k) ∧ Ch (fun j => S j ∨ SFh h j) u w') := fun u h hu e => by
          have q := lchange_any u g _ _ _ _ bn bc at' ct (m + 2) ⟨0, s, ByteArray.empty, G.files.length⟩ hu (GN.out.like rfl rfl) LC2.out (by omega) OKT.out (by simp)
          have e2 : tuV (fb ++ [h.b]) ⟨0, s, ByteArray.empty, G.files.length⟩ = [.int .i64 0, .string .empty, .string s, .pointer (some ⟨h.b, 0, none⟩)] := by
            unfold tuV ptrV
            rw [if_pos rfl, HFL.out e]
          rw [e2] at q
          exact q
        clear hq HE HP LC2 OKT HFL
        cases hfn : fileD (dirF G) s with
        | some kk =>
          go_enter Tryz.func17, Tryz.ntmps17
          go_wp2_with fail
          with_reducible refine CA.out.mono ?_
          rintro e u1 ⟨rfl, h1, k1⟩
          have lk := look_name h1.names hml
          rw [hfn] at lk
          dsimp only [Option.map_some, Option.getD_some, Option.isSome_some] at lk
          unfold ptrV at lk
          generalize fb.getD kk 0 = pk at lk
          have c0 := h1.c0
          have K1 := hide k1
          have HFB : Hid (fb.length = G.files.length) := by show _ = _; rw [← h1.fbs, List.length_map, h1.len]
          have BE := hide (lbear_any u1 g S G fb fh bn bc at' ct (m + 1) (none, 0, 0) [] h1 GV.out LC.out (by omega) (ownG_nil _ _) (fun j hj => by simp [h3V, Value.ownBlock] at hj))
          clear h1 k1 CA fi hfull hfn HD GV GN LA
          go_wp2_with fail
          with_reducible refine (IN.out _).mono ?_
          rintro e u ⟨rfl, hu⟩
          rw [hu, hm1]
          clear hu
          go_wp2_with fail
          with_reducible refine BE.out.mono ?_
          rintro e u3 ⟨h, rfl, hb, h3, hsf, k3⟩
          have FI := hide (fun u4 S' a' c' => FIN.out u1 u3 u4 h S' a' c' K1.out hb hsf k3)
          have CH := hide (CHG.out u3 h h3 HFB.out)
          clear hb h3 hsf k3 BE FIN CHG
          obtain ⟨hb, hhb⟩ : ∃ hb, h.b = hb := ⟨_, rfl⟩
          rw [hhb] at CH ⊢
          go_wp2_with fail
          with_reducible refine CH.out.mono ?_
          rintro e u4 ⟨rfl, S', a', c', q1, q2, q3⟩
          have H4 := hide (FI.out u4 S' a' c' (by rw [hhb]; exact q1) q2 q3)
          clear q1 q2 q3 CH FI
          go_wp2
          go_ret
          exact H4.out
        | none =>
          have hlt : (dirF G).length < 1024 := by
            rw [fi, hfn] at hfull
            simp at hfull
            omega
          go_enter Tryz.func17, Tryz.ntmps17
          go_wp2_with fail
          with_reducible refine CA.out.mono ?_
          rintro e u1 ⟨rfl, h1, k1⟩
          have lk := look_name h1.names hml
          rw [hfn] at lk
          dsimp only [Option.map_none, Option.getD_none, Option.isSome_none] at lk
          have ln := fun ty => h1.names.len Tryz.underlying62 HD.out.once (names_mem HD.out) ty
          rw [List.length_map] at ln
          generalize (dirF G).length = dl at ln hlt
          have d1 : decide ((1024 : Int) ≤ (dl : Int)) = false := decide_eq_false (by omega)
          have d2 : decide (1024 ≤ dl) = false := decide_eq_false (by omega)
          have d3 : ¬ (1024 : Int) ≤ (dl : Int) := by omega
          have c0 := h1.c0
          have K1 := hide k1
          have HFB : Hid (fb.length = G.files.length) := by show _ = _; rw [← h1.fbs, List.length_map, h1.len]
          have BE := hide (lbear_any u1 g S G fb fh bn bc at' ct (m + 1) (none, 0, 0) [] h1 GV.out LC.out (by omega) (ownG_nil _ _) (fun j hj => by simp [h3V, Value.ownBlock] at hj))
          clear h1 k1 CA fi hfull hfn HD GV GN LA
          go_wp2_with fail
          with_reducible refine (IN.out _).mono ?_
          rintro e u ⟨rfl, hu⟩
          rw [hu, hm1]
          clear hu
          go_wp2_with fail
          with_reducible refine BE.out.mono ?_
          rintro e u3 ⟨h, rfl, hb, h3, hsf, k3⟩
          have FI := hide (fun u4 S' a' c' => FIN.out u1 u3 u4 h S' a' c' K1.out hb hsf k3)
          have CH := hide (CHG.out u3 h h3 HFB.out)
          clear hb h3 hsf k3 BE FIN CHG
          obtain ⟨hb, hhb⟩ : ∃ hb, h.b = hb := ⟨_, rfl⟩
          rw [hhb] at CH ⊢
          go_wp2_with fail
          with_reducible refine CH.out.mono ?_
          rintro e u4 ⟨rfl, S', a', c', q1, q2, q3⟩
          have H4 := hide (FI.out u4 S' a' c' (by rw [hhb]; exact q1) q2 q3)
          clear q1 q2 q3 CH FI
          go_wp2
          go_ret
          exact H4.out
end Go.Proofs.YthlkmjaflomflaaGreat
