/-
  How great a file system may grow by a call: in plain words. No function is named.
  Conditions: as each theorem says.
-/
import Derived.Test.YthlkmjaflomflaaVfsK
namespace Go.Proofs.Ythlkmjaflomflaa
set_option linter.unusedVariables false

/-- No more than so many of each, together. -/
structure LimB (m : Nat) (F : Fs) : Prop where
  files : F.files.length ≤ m
  names : F.sure.length + F.turns.length ≤ m
  each : ∀ x ∈ F.files, x.sure.length + x.us.length ≤ m
  n : 0 ≤ F.n ∧ F.n ≤ m
theorem LimB.lim {m : Nat} {F : Fs} (h : LimB m F) : Lim m F := ⟨h.files, by have := h.names; omega, by have := h.names; omega, fun x hx => by have := h.each x hx; omega, h.n⟩
theorem LimB.mono {m m' : Nat} {F : Fs} (h : LimB m F) (k : m ≤ m') : LimB m' F := ⟨by have := h.files; omega, by have := h.names; omega, fun x hx => by have := h.each x hx; omega, by have := h.n; omega⟩
theorem limB0 : LimB 0 fs0 := ⟨Nat.le_refl _, Nat.le_refl _, fun x hx => by simp [fs0] at hx, by decide⟩
theorem limB_at {m : Nat} {F : Fs} (h : LimB m F) (k : Nat) : (atF F k).sure.length + (atF F k).us.length ≤ m := by
  unfold atF
  rw [List.getD_eq_getElem?_getD]
  cases e : F.files[k]? with
  | none => simp [emF]
  | some x => exact h.each x (List.mem_of_getElem? e)
theorem LimB.call {m : Nat} {F : Fs} (h : LimB m F) : LimB (m + 1) (callF F).1 := by
  obtain ⟨e1, e2, e3, e4⟩ := callF_same F
  refine ⟨by rw [e1]; have := h.files; omega, by rw [e2, e3]; have := h.names; omega, fun x hx => by rw [e1] at hx; have := h.each x hx; omega, by rw [e4]; have := h.n; omega⟩
theorem LimB.put {m : Nat} {F : Fs} (h : LimB m F) {k : Nat} {x : Fi} (hx : x.sure.length + x.us.length ≤ m) : LimB m { F with files := F.files.set k x } := by
  refine ⟨by dsimp only; rw [List.length_set]; exact h.files, h.names, fun y hy => ?_, h.n⟩
  rcases List.mem_or_eq_of_mem_set hy with q | q
  · exact h.each y q
  · rw [q]; exact hx
theorem LimB.turn {m : Nat} {F : Fs} (h : LimB m F) (t : Tn) : LimB (m + 1) { F with turns := F.turns ++ [t] } :=
  ⟨by have := h.files; dsimp only; omega, by have := h.names; dsimp only; rw [List.length_append, List.length_singleton]; omega, fun x hx => by have := h.each x hx; omega, by have := h.n; dsimp only; omega⟩
theorem LimB.create {m : Nat} {F : Fs} (h : LimB m F) (s : ByteArray) : LimB (m + 2) (createF F s).1 := by
  unfold createF
  have hc := h.call
  rcases hq : callF F with ⟨G, _ | e⟩ <;> rw [hq] at hc <;> dsimp only at hc ⊢
  · split
    · exact hc.mono (by omega)
    · split
      · exact hc.mono (by omega)
      · refine ⟨by have := hc.files; dsimp only; rw [List.length_append, List.length_singleton]; omega, by have := hc.names; dsimp only; rw [List.length_append, List.length_singleton]; omega, fun x hx => ?_, by have := hc.n; dsimp only; omega⟩
        rcases List.mem_append.1 hx with q | q
        · have := hc.each x q; omega
        · obtain rfl := List.mem_singleton.1 q
          simp [emF]
  · exact hc.mono (by omega)
theorem LimB.more {m : Nat} {F : Fs} (h : LimB m F) (k : Nat) (us : List Un) : LimB (m + us.length) (moreF F k us) := by
  unfold moreF
  refine (h.mono (by omega)).put ?_
  dsimp only
  have := limB_at h k
  rw [List.length_append]
  omega
theorem LimB.append {m : Nat} {F : Fs} (h : LimB m F) (s : ByteArray) (b : List Int) : LimB (m + 1 + b.length) (appendF F s b).1 := by
  unfold appendF
  have hc := h.call
  rcases hq : callF F with ⟨G, _ | e⟩ <;> rw [hq] at hc <;> dsimp only at hc ⊢
  · split
    · exact hc.mono (by omega)
    · split
      · exact hc.mono (by omega)
      · rename_i k hk
        split
        · exact hc.mono (by omega)
        · exact (hc.more k _).mono (by unfold moreU; rw [List.length_map]; exact Nat.le_refl _)
  · split
    · exact hc.mono (by omega)
    · rename_i k hk
      split
      · exact (hc.more k _).mono (by unfold moreU; rw [List.length_map, List.length_take]; omega)
      · exact hc.mono (by omega)
theorem LimB.cut {m : Nat} {F : Fs} (h : LimB m F) (s : ByteArray) (z : Int) : LimB (m + 2) (cutF F s z).1 := by
  unfold cutF
  have hc := h.call
  rcases hq : callF F with ⟨G, _ | e⟩ <;> rw [hq] at hc <;> dsimp only at hc ⊢
  · split
    · exact hc.mono (by omega)
    · split
      · exact hc.mono (by omega)
      · rename_i k hk
        split
        · exact hc.mono (by omega)
        · exact (hc.more k _).mono (by simp)
  · exact hc.mono (by omega)
theorem LimB.sync {m : Nat} {F : Fs} (h : LimB m F) (s : ByteArray) : LimB (m + 1) (syncF F s).1 := by
  unfold syncF
  have hc := h.call
  rcases hq : callF F with ⟨G, _ | e⟩ <;> rw [hq] at hc <;> dsimp only at hc ⊢
  · split
    · exact hc
    · split
      · exact hc
      · rename_i k hk
        refine hc.put ?_
        have h1 := limB_at hc k
        have h2 := unsB_len (atF G k).us (atF G k).sure
        unfold bytF
        simp
        omega
  · exact hc
theorem LimB.rename {m : Nat} {F : Fs} (h : LimB m F) (s t : ByteArray) : LimB (m + 2) (renameF F s t).1 := by
  unfold renameF
  have hc := h.call
  rcases hq : callF F with ⟨G, _ | e⟩ <;> rw [hq] at hc <;> dsimp only at hc ⊢
  · split
    · exact hc.mono (by omega)
    · split
      · exact hc.mono (by omega)
      · exact hc.turn _
  · exact hc.mono (by omega)
theorem LimB.remove {m : Nat} {F : Fs} (h : LimB m F) (s : ByteArray) : LimB (m + 2) (removeF F s).1 := by
  unfold removeF
  have hc := h.call
  rcases hq : callF F with ⟨G, _ | e⟩ <;> rw [hq] at hc <;> dsimp only at hc ⊢
  · split
    · exact hc.mono (by omega)
    · split
      · exact hc.mono (by omega)
      · exact hc.turn _
  · exact hc.mono (by omega)
theorem LimB.syncdir {m : Nat} {F : Fs} (h : LimB m F) : LimB (m + 1) (syncdirF F).1 := by
  unfold syncdirF
  have hc := h.call
  rcases hq : callF F with ⟨G, _ | e⟩ <;> rw [hq] at hc <;> dsimp only at hc ⊢
  · refine ⟨hc.files, ?_, hc.each, hc.n⟩
    have h1 := turnsD_len G.turns G.sure
    have h2 := hc.names
    unfold dirF
    simp
    omega
  · exact hc
theorem LimB.arm {m : Nat} {F : Fs} (h : LimB m F) (k a : Int) : LimB m (armF F k a).1 := by
  unfold armF
  split
  · exact h
  · exact ⟨h.files, h.names, h.each, h.n⟩
theorem keptF_len (d : List Dn) : ∀ m, (keptF d m).length ≤ d.length := by
  have hs : ∀ m, (keptF d m).length + (d.filter fun x => decide (m ≤ x.f)).length = d.length := by
    intro m
    induction m with
    | zero => simp [keptF]
    | succ m ih =>
      unfold keptF at ih ⊢
      rw [List.range_succ, List.flatMap_append, List.length_append, List.flatMap_cons, List.flatMap_nil, List.append_nil]
      have : (d.filter fun x => decide (m ≤ x.f)).length = (d.filter fun x => decide (x.f = m)).length + (d.filter fun x => decide (m + 1 ≤ x.f)).length := by
        clear ih
        induction d with
        | nil => rfl
        | cons y t iht =>
          simp only [List.filter_cons]
          by_cases e1 : y.f = m
          · rw [if_pos (by simp; omega), if_pos (by simp [e1]), if_neg (by simp; omega)]
            simp; omega
          · by_cases e2 : m + 1 ≤ y.f
            · rw [if_pos (by simp; omega), if_neg (by simp [e1]), if_pos (by simp; omega)]
              simp; omega
            · rw [if_neg (by simp; omega), if_neg (by simp [e1]), if_neg (by simp; omega)]
              exact iht
      omega
  intro m
  have := hs m
  omega
theorem LimB.crash {m : Nat} {F : Fs} (h : LimB m F) (ops : Int) (ps : List Int) : LimB m (crashF F ops ps) := by
  unfold crashF
  dsimp only
  have h1 := keptF_len (turnsD F.sure (F.turns.take (cutN ops))) F.files.length
  have h2 := turnsD_len (F.turns.take (cutN ops)) F.sure
  rw [List.length_take] at h2
  have h3 := h.names
  have hd : (keptF (turnsD F.sure (F.turns.take (cutN ops))) F.files.length).length ≤ m := by omega
  generalize keptF (turnsD F.sure (F.turns.take (cutN ops))) F.files.length = d at *
  refine ⟨?_, ?_, ?_, by show (0 : Int) ≤ 0 ∧ (0 : Int) ≤ m; omega⟩
  · show (d.mapIdx _).length ≤ m
    rw [List.length_mapIdx]; exact hd
  · show (d.mapIdx _).length + 0 ≤ m
    rw [List.length_mapIdx]; exact hd
  · intro x hx
    obtain ⟨i, hi, rfl⟩ := List.mem_mapIdx.1 hx
    have h4 := limB_at h (d[i]).f
    have h5 := unsB_len ((atF F (d[i]).f).us.take (cutN (pickF ps i))) (atF F (d[i]).f).sure
    rw [List.length_take] at h5
    simp
    omega
end Go.Proofs.Ythlkmjaflomflaa
