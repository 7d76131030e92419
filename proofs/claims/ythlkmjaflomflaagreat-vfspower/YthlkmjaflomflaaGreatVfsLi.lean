/-
  VfsSure: a copy of numbers (a contract, for every world); the calls in plain words.
  Conditions: as each theorem says.
-/
import Derived.Test.YthlkmjaflomflaaGreatVfsLo
import Derived.Test.YthlkmjaflomflaaGreatVfsLg
namespace Go.Proofs.YthlkmjaflomflaaGreat
open Go.RowKit Go.Maps
set_option maxRecDepth 20000
set_option linter.unusedVariables false

def inV (z : Int) : List Value := [.int .i64 z]
theorem inV_len (z : Int) : (inV z).length = 1 := rfl
theorem inV_one1 (z : Int) : ∀ u ∈ inV z, u.oneCell' = true := by
  intro u hu
  simp [inV] at hu
  rw [hu]; rfl
theorem flat_in (zs : List Int) : zs.flatMap inV = zs.map (Value.int .i64) := by
  induction zs with
  | nil => rfl
  | cons z t ih => rw [List.flatMap_cons, ih]; rfl
theorem Tryz.infoI16 : (Tryz.prog.info? 3).map (fun i => (i.zero, i.size, i.bytes)) = some (some (.int .i64 0), 1, 8) := by kernel_rfl
theorem ownI_row {w : World} {base n cap : Nat} {a : Option Addr} {zs : List Int} (h : OwnG 3 1 inV w base a n cap zs) (hn : n ≤ 281474976710656) (hz : ∀ z ∈ zs, (Lit.int .i64 z).wf = true) : Row .i64 w a n zs := by
  have : Own 3 .i64 w base a n cap zs := by
    unfold OwnG at h
    rw [flat_in] at h
    exact h
  exact this.row hn hz
section
variable {α : Type} {e : TypeId} {sz : Nat} {fl : α → List Value}
variable {w w' : World} {base n cap : Nat} {a : Option Addr} {l : List α}
theorem wpList_app_w {P : Program} (hf : ∀ x, (fl x).length = sz) (hsz : 0 < sz) (hone : ∀ x, ∀ u ∈ fl x, u.oneCell' = true) (w : World) {ops : Array Oper} {rest : List Oper} {o : Oper} {a : Act} {Q : Exit → Act → World → Prop} (hgd : o.guard = none) (s x : Operand) (t : TypeId)
    (ho : o.op = .call { callee := .builtin .append, args := #[s, x], argTypes := #[t, t] })
    (base : Nat) (i : TypeInfo) (z : Value) (bytes : Nat) (ht : P.underlying t = some (.slice e)) (hi : P.info? e = some i) (hz : i.zero = some z) (hsize : i.size = sz) (hby : i.bytes = bytes) (hzc : z.cells.size = sz)
    (ao : Option Addr) (n cap : Nat) (l : List α) (hs : a.eval s = .slice ao n cap) (hown : OwnG e sz fl w base ao n cap l)
    (bo : Option Addr) (m c : Nat) (news : List α) (hx : a.eval x = .slice bo m c) (hm : news.length = m) (hrow : ∀ ad, bo = some ad → ∀ j u, (news.flatMap fl)[j]? = some u → w.cell? (ad.add j) = some u) (hbo : bo = none → m = 0 ∧ c = 0)
    (h63 : n + m ≤ 281474976710656) (hbytes : (n + m) * bytes ≤ 140737488355328) (hbase : base ≤ w.heap.size)
    (h : ∀ a' cap' w', OwnG e sz fl w' base a' (n + m) cap' (l ++ news) → w.grownBy w' (Value.slice ao n cap).ownBlock → wpList P ops Q rest (a.put o.dst (.slice a' (n + m) cap')) w') : wpList P ops Q (o :: rest) a w := by
  cases bo with
  | none =>
    obtain ⟨rfl, rfl⟩ := hbo rfl
    have hz : news = [] := List.length_eq_zero_iff.1 hm
    subst hz
    refine wpList_append_own_none hgd s x t ho base e i sz ht hi _ n (l.flatMap fl) hs hown hx ?_
    exact h ao cap w (by rw [List.append_nil]; exact hown) ⟨rfl, rfl, rfl, Nat.le_refl _, fun _ _ _ => rfl⟩
  | some ad =>
    refine wpList_append_own w hgd s x t ho base e i z sz bytes ht hi hz hsize hby hzc hsz _ n (l.flatMap fl) hs hown ad m c (news.flatMap fl) hx (by rw [flatG_len hf, hm]) (hrow ad rfl) (fun u hu => by obtain ⟨y, -, hy⟩ := List.mem_flatMap.1 hu; exact hone y u hy) (by unfold maxLen; omega) hbytes hbase ?_
    intro v' w' h1 h2 _
    rw [← List.flatMap_append] at h1
    obtain ⟨a', cap', rfl, h3⟩ := ownG_form h1
    exact h a' cap' w' h3 h2
end
set_option maxHeartbeats 1000000 in
theorem ints8_any (a : Option Addr) (n cap : Nat) (zs : List Int) (w : World) (hr : Row .i64 w a n zs) (hc : a = none → cap = 0) (hn : n ≤ 17592186044416) :
    Calls Tryz.prog 36 #[.slice a n cap] w fun e w' => ∃ a' cap', e = .returned (.slice a' n cap') ∧ Row .i64 w' a' n zs ∧ Below w.heap.size w w' := by
  obtain ⟨i0, hi, hz0, hz1, hz2⟩ := info_parts Tryz.infoI16
  have hl := hr.1
  have hwf := hr.2.2.1
  cases a with
  | none =>
    obtain rfl := hc rfl
    have h0 := hr.nz rfl
    subst h0
    have hz : zs = [] := List.length_eq_zero_iff.1 hl
    subst hz
    go_enter Tryz.func36, Tryz.ntmps36
    go_wp2_with (at_builtin; refine wpList_app_g inV_len (by decide) inV_one1 _ rfl _ _ 34 rfl w.heap.size i0 (.int .i64 0) 8 Tryz.underlying34 hi hz0 hz1 hz2 rfl none 0 0 [] rfl (ownG_nil _ _) none 0 0 [] rfl rfl (fun ad' e => by cases e) (fun _ => ⟨rfl, rfl⟩) (by omega) (by omega) (Nat.le_refl _) ?_)
    intro a2 c2 w1 o1 g1
    have O1 := hide o1
    have B1 : Hid (Below w.heap.size w w1) := (Below.refl _ w).grown g1 (Nat.le_refl _) (by intro k hk; simp [Value.ownBlock] at hk)
    clear o1 g1
    go_wp2
    go_ret
    exact ⟨a2, c2, by simp, ⟨rfl, by decide, fun z hz => by simp at hz, Or.inl rfl⟩, B1.out⟩
  | some ad =>
    have HR := hide (fun j u (hj : (zs.flatMap inV)[j]? = some u) => hr.cells j u (by rw [flat_in] at hj; exact hj))
    have HW := hide hwf
    clear hr hwf
    go_enter Tryz.func36, Tryz.ntmps36
    go_wp2_with (at_builtin; refine wpList_app_w inV_len (by decide) inV_one1 _ rfl _ _ 34 rfl w.heap.size i0 (.int .i64 0) 8 Tryz.underlying34 hi hz0 hz1 hz2 rfl none 0 0 [] rfl (ownG_nil _ _) (some ad) n cap zs rfl hl (fun ad' e => by cases e; exact HR.out) (fun e => by cases e) (by omega) (by omega) (Nat.le_refl _) ?_)
    intro a2 c2 w1 o1 g1
    have o2 : OwnG 3 1 inV w1 w.heap.size a2 n c2 zs := by
      first
        | exact o1
        | (have := o1; simp only [Nat.zero_add, List.nil_append] at this; exact this)
    have O1 : Hid (Row .i64 w1 a2 n zs) := ownI_row o2 (by omega) HW.out
    have B1 : Hid (Below w.heap.size w w1) := (Below.refl _ w).grown g1 (Nat.le_refl _) (by intro k hk; simp [Value.ownBlock] at hk)
    clear o1 o2 g1 HR
    go_wp2
    go_ret
    exact ⟨a2, c2, by simp, O1.out, B1.out⟩

/-! ### the calls -/
def su2 (data : List Int) : Fs := ⟨[⟨data, []⟩], [], [⟨0, ⟨#[97]⟩, ByteArray.empty, 0⟩], 3, false, 0, 0, false⟩
def su3 (data : List Int) : Fs := ⟨[⟨data, []⟩], [⟨⟨#[97]⟩, 0⟩], [], 4, false, 0, 0, false⟩
def su4 (data more : List Int) : Fs := ⟨[⟨data, moreU more⟩], [⟨⟨#[97]⟩, 0⟩], [], 5, false, 0, 0, false⟩
def su5 (data more : List Int) : Fs := ⟨[⟨data, moreU more⟩, emF], [⟨⟨#[97]⟩, 0⟩], [⟨0, ⟨#[98]⟩, ByteArray.empty, 1⟩], 6, false, 0, 0, false⟩
theorem su_append {data : List Int} (h : data.length ≤ 1073741824) : appendF exF1 ⟨#[97]⟩ data = (oneG data 2 false 0 0, 0) := by
  have := oneG_ok (F := exF1) (b := []) (d := data) (N := 2) (ar := false) (k := 0) (af := 0) (by kernel_rfl) (by simp; omega)
  simpa using this
theorem su_sync (data : List Int) : syncF (oneG data 2 false 0 0) ⟨#[97]⟩ = (su2 data, 0) := by
  have e : syncF (oneG data 2 false 0 0) ⟨#[97]⟩ = ({ su2 data with files := [⟨unsB [] (moreU data), []⟩] }, 0) := by kernel_rfl
  rw [e, unsB_more]
  rfl
theorem su_dir (data : List Int) : syncdirF (su2 data) = (su3 data, 0) := by kernel_rfl
theorem su_more {data more : List Int} (h1 : data.length ≤ 2000) (h2 : more.length ≤ 2000) : appendF (su3 data) ⟨#[97]⟩ more = (su4 data more, 0) := by
  have e : appendF (su3 data) ⟨#[97]⟩ more = if 1073741824 < data.length + more.length then ({ su3 data with n := 5 }, 2) else (su4 data more, 0) := by kernel_rfl
  rw [e, if_neg (by omega)]
theorem su_create (data more : List Int) : createF (su4 data more) ⟨#[98]⟩ = (su5 data more, 0) := by kernel_rfl
theorem su_read (data more : List Int) : readF (su5 data more) ⟨#[97]⟩ = some (data ++ more) := by
  have e : readF (su5 data more) ⟨#[97]⟩ = some (unsB data (moreU more)) := by kernel_rfl
  rw [e, unsB_more]
theorem su_list (data more : List Int) : (listF (su5 data more)).length = 2 := by kernel_rfl
theorem su_take (data more : List Int) (k : Nat) : unsB data ((moreU more).take k) = data ++ more.take k := by
  rw [show (moreU more).take k = moreU (more.take k) from by unfold moreU; rw [List.map_take], unsB_more]
theorem su_crash (data more : List Int) (ops : Int) (ps : List Int) : readF (crashF (su5 data more) ops ps) ⟨#[97]⟩ = some (data ++ more.take (cutN (pickF ps 0))) ∧ (listF (crashF (su5 data more) ops ps)).length = (if 1 ≤ ops then 2 else 1) ∧ (crashF (su5 data more) ops ps).n = 0 := by
  rw [← su_take, crashK_end]
  by_cases h : 1 ≤ ops
  · rw [if_pos h, show (su5 data more).turns.take (cutN ops) = [⟨0, ⟨#[98]⟩, ByteArray.empty, 1⟩] from List.take_of_length_le (by unfold cutN; show 1 ≤ _; omega)]
    exact ⟨by kernel_rfl, by kernel_rfl, by kernel_rfl⟩
  · rw [if_neg h, show cutN ops = 0 by unfold cutN; omega, List.take_zero]
    exact ⟨by kernel_rfl, by kernel_rfl, by kernel_rfl⟩
end Go.Proofs.YthlkmjaflomflaaGreat
