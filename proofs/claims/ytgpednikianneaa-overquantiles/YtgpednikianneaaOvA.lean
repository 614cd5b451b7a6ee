/-
  Samples in memory; slices.Clone of them; which of them alive leaves out.
-/
import Derived.Test.YtgpednikianneaaLaws
import Derived.Test.YtgpednikianneaaOvF
import Derived.Lib.SliceRun
import Derived.Laws.Externs
import Derived.Below
import Derived.Deep.RegionHeld3
import Derived.Deep.RegionWith
import Derived.BigRegion
import Derived.Deep.QuietTactic
import Derived.BigQuiet
import Derived.Deep.CutRange
namespace Go.Proofs.Ytgpednikianneaa
open Go.RowKit

theorem hidJ {p : Prop} (h : p) : Hid p := h
theorem alloc_gb (w : World) (C : Obj) : w.grownBy (w.alloc C) none := World.grownBy_alloc _ _ none
theorem some_lt {W : World} {k : Nat} {o : Obj} (h : W.heap[k]? = some o) : k < W.heap.size := (Array.getElem?_eq_some_iff.1 h).1
/-! ### samples in memory -/
abbrev SmpT := Int × Nat
def smZ : SmpT := (0, 0)
def RdP (w : World) (v : Value) (l : List SmpT) : Prop :=
  ∃ a c, v = .slice a l.length c ∧ l.length ≤ c ∧ c ≤ maxLen ∧ ∀ j, j < l.length → ∃ b o, a = some ⟨b, o, none⟩ ∧ w.cell? ⟨b, o + j * 2, none⟩ = some (.int .i64 (l.getD j smZ).1) ∧ w.cell? ⟨b, o + j * 2 + 1, none⟩ = some (.float .f64 (l.getD j smZ).2)
theorem RdP.keep {w w' : World} {v : Value} {l : List SmpT} (h : RdP w v l) (hg : w.grownBy w' none) : RdP w' v l := by
  obtain ⟨a, c, rfl, h1, h2, h3⟩ := h
  refine ⟨a, c, rfl, h1, h2, fun j hj => ?_⟩
  obtain ⟨b, o, e, c0, c1⟩ := h3 j hj
  have hb := hg.block b (block_lt c0) (by simp)
  exact ⟨b, o, e, (World.cell?_of_block hb).trans c0, (World.cell?_of_block hb).trans c1⟩
/-- samples that a machine can hand in -/
def SmIn (l : List SmpT) : Prop := ∀ x ∈ l, (-9223372036854775808 ≤ x.1 ∧ x.1 ≤ 9223372036854775807) ∧ x.2 < 18446744073709551616
theorem getS_mem {l : List SmpT} {j : Nat} (h : j < l.length) : l.getD j smZ ∈ l := by simp [h]
theorem take_snocS {l : List SmpT} {j : Nat} (h : j < l.length) : l.take (j + 1) = l.take j ++ [l.getD j smZ] := by rw [List.take_succ_eq_append_getElem h]; simp [h]
theorem infoSm : (Try.prog.info? 33).map (fun i => (i.zero, i.size, i.bytes)) = some (some (.agg #[.int .i64 0, .float .f64 0]), 2, 16) := by kernel_rfl
/-- the cells of samples -/
def smC : List SmpT → List Value
  | [] => []
  | x :: l => .int .i64 x.1 :: .float .f64 x.2 :: smC l
theorem smC_len (l : List SmpT) : (smC l).length = l.length * 2 := by
  induction l with
  | nil => rfl
  | cons x l ih => simp only [smC, List.length_cons, ih]; omega
theorem smC_app (l m : List SmpT) : smC (l ++ m) = smC l ++ smC m := by
  induction l with
  | nil => rfl
  | cons x l ih => simp [smC, ih]
theorem smC_at (l : List SmpT) : ∀ j, j < l.length → (smC l)[j * 2]? = some (.int .i64 (l.getD j smZ).1) ∧ (smC l)[j * 2 + 1]? = some (.float .f64 (l.getD j smZ).2) := by
  induction l with
  | nil => intro j hj; simp at hj
  | cons x l ih =>
    intro j hj
    cases j with
    | zero => simp [smC]
    | succ j =>
      have := ih j (by simpa using hj)
      refine ⟨?_, ?_⟩
      · rw [show (j + 1) * 2 = j * 2 + 2 by omega]; simpa [smC] using this.1
      · rw [show (j + 1) * 2 + 1 = j * 2 + 1 + 2 by omega]; simpa [smC] using this.2
theorem smC_one (l : List SmpT) : ∀ u ∈ smC l, u.oneCell' = true := by
  induction l with
  | nil => intro u hu; cases hu
  | cons x l ih =>
    intro u hu
    simp only [smC, List.mem_cons] at hu
    rcases hu with rfl | rfl | hu
    · rfl
    · rfl
    · exact ih u hu
theorem smC_take (l : List SmpT) (k : Nat) : smC (l.take k) = (smC l).take (k * 2) := by
  induction l generalizing k with
  | nil => simp [smC]
  | cons x l ih =>
    cases k with
    | zero => simp [smC]
    | succ k =>
      rw [show (k + 1) * 2 = k * 2 + 1 + 1 by omega]
      simp only [List.take_succ_cons, smC, ih]
theorem smC_set (l : List SmpT) (p : Nat) (x : SmpT) (hp : p < l.length) : smC (l.set p x) = ((smC l).set (p * 2) (.int .i64 x.1)).set (p * 2 + 1) (.float .f64 x.2) := by
  induction l generalizing p with
  | nil => simp at hp
  | cons y l ih =>
    cases p with
    | zero => simp [smC]
    | succ p =>
      rw [show (p + 1) * 2 = p * 2 + 1 + 1 by omega]
      simp only [List.set_cons_succ, smC, ih p (by simpa using hp)]
/-- the cells behind an address -/
def RdC (w : World) (a : Option Addr) (news : List Value) : Prop := ∀ j u, news[j]? = some u → ∃ ad, a = some ad ∧ w.cell? (ad.add j) = some u
theorem RdP.rdc {w : World} {a : Option Addr} {n c : Nat} {l : List SmpT} (h : RdP w (.slice a n c) l) : RdC w a (smC l) := by
  obtain ⟨a', c', he, -, -, h4⟩ := h
  simp only [Value.slice.injEq] at he
  obtain ⟨rfl, -, rfl⟩ := he
  intro j u hj
  have hjl : j < (smC l).length := (List.getElem?_eq_some_iff.1 hj).1
  rw [smC_len] at hjl
  obtain ⟨b, o, rfl, c0, c1⟩ := h4 (j / 2) (by omega)
  have hs := smC_at l (j / 2) (by omega)
  refine ⟨_, rfl, ?_⟩
  rw [Go.WideShapes.add_plain]
  rcases Nat.mod_two_eq_zero_or_one j with hm | hm
  · have e : j / 2 * 2 = j := by omega
    rw [e] at hs c0
    rw [c0, ← hs.1, hj]
  · have e : j / 2 * 2 + 1 = j := by omega
    rw [Nat.add_assoc, e] at c1
    rw [e] at hs
    rw [c1, ← hs.2, hj]
/-- a row of the call's own -/
def OwnP (w : World) (base : Nat) (v : Value) (l : List SmpT) : Prop := w.ownsRow base 33 2 v l.length (smC l)
theorem OwnP.shape {w : World} {base : Nat} {v : Value} {l : List SmpT} (h : OwnP w base v l) : ∃ a c, v = .slice a l.length c := by
  rcases h.2 with ⟨rfl, hn⟩ | ⟨g, cap, cur, rfl, _⟩
  · exact ⟨none, 0, by rw [hn]⟩
  · exact ⟨_, _, rfl⟩
theorem OwnP.rd {W : World} {B : Nat} {v : Value} {l : List SmpT} (h : OwnP W B v l) : RdP W v l := by
  have h0 : W.ownsRow B 33 2 v l.length (smC l) := h
  rcases h.2 with ⟨e, e2⟩ | ⟨b, cap, cur, e, q1, q2, q3, q4, -⟩
  · refine ⟨none, 0, by rw [e, e2], by omega, by simp [maxLen], fun j hj => by omega⟩
  · subst e
    refine ⟨some ⟨b, 0, none⟩, cap, rfl, q3, q4, fun j hj => ⟨b, 0, rfl, ?_, ?_⟩⟩
    · have := World.ownsRow.cells h0 rfl (j * 2) _ (smC_at l j hj).1
      rw [Go.WideShapes.add_plain] at this
      exact this
    · have := World.ownsRow.cells h0 rfl (j * 2 + 1) _ (smC_at l j hj).2
      rw [Go.WideShapes.add_plain] at this
      rw [Nat.add_assoc]
      exact this
theorem OwnP.kept {w w' : World} {base : Nat} {v : Value} {l : List SmpT} {g : Option Nat} (h : OwnP w base v l) (hg : w.grownBy w' g) (hne : v.ownBlock = none ∨ v.ownBlock ≠ g) : OwnP w' base v l := World.ownsRow.kept h hg hne
theorem OwnP.keep {w w' : World} {base : Nat} {v : Value} {l : List SmpT} (h : OwnP w base v l) (hg : w.grownBy w' none) : OwnP w' base v l := by
  refine World.ownsRow.kept h hg ?_
  cases hv : v.ownBlock with
  | none => exact .inl rfl
  | some k => exact .inr (by simp)
theorem OwnP.nil (w : World) (base : Nat) : OwnP w base (.slice none 0 0) [] := World.ownsRow_nil w base _ _
theorem run_appH (w : World) (ty T E : TypeId) (i0 : TypeInfo) (z : Value) (size bytes base : Nat) (hT : Try.prog.underlying T = some (.slice E)) (hi : Try.prog.info? E = some i0) (hz0 : i0.zero = some z) (hz1 : i0.size = size) (hz2 : i0.bytes = bytes) (hzs : z.cells.size = size) (hpos : 0 < size)
    (v : Value) (n : Nat) (xs : List Value) (hown : w.ownsRow base E size v n xs) (a : Option Addr) (m c : Nat) (news : List Value) (hl : news.length = m * size) (hra : RdC w a news) (hnil : a = none → m = 0 ∧ c = 0) (h1 : ∀ u ∈ news, u.oneCell' = true)
    (hsz : n + m ≤ 9223372036854775807) (hszb : (n + m + (n + m) / 4 + 192) * bytes ≤ 281474976710656) (hbase : base ≤ w.heap.size) :
    ∃ v' w', (Builtin.append_ #[T, T] ty #[v, .slice a m c]).run Try.prog w = .ok v' w' ∧ w'.ownsRow base E size v' (n + m) (xs ++ news) ∧ Fr w w' v v' := by
  cases a with
  | none =>
    obtain ⟨rfl, rfl⟩ := hnil rfl
    have hn0 : news = [] := List.eq_nil_of_length_eq_zero (by omega)
    subst hn0
    refine ⟨v, w, run_append_owned_none w base T ty E i0 size hT hi v n _ hown, by simpa using hown, Fr.refl _ _⟩
  | some ad =>
    have hcell : ∀ j u, news[j]? = some u → w.cell? (ad.add j) = some u := fun j u hj => by
      obtain ⟨ad', e, hc⟩ := hra j u hj
      cases e
      exact hc
    obtain ⟨v', w', hr, ho, hg, hiff⟩ := run_append_own_wide (P := Try.prog) w base T ty E i0 z size bytes hT hi hz0 hz1 hz2 hzs hpos v n xs hown
      ad m c news hl hcell h1 (by unfold maxLen; omega) hszb hbase
    refine ⟨v', w', hr, ho, hg, ?_⟩
    intro k hk
    rcases hown.2 with ⟨rfl, hn⟩ | ⟨g, cap, cur, rfl, hbg, hh, hnc, hcm', hcs, htake⟩
    · by_cases hm0 : m = 0
      · have := hiff.2 ⟨rfl, hm0⟩
        subst this
        simp [Value.ownBlock] at hk
      · subst hn
        have hb2 : m * bytes ≤ (0 + m + (0 + m) / 4 + 192) * bytes := Nat.mul_le_mul_right _ (by omega)
        have hn' := run_append_nil (P := Try.prog) w T ty E i0 z hT hi hz0 ad m c news (by rw [hz1]; exact hl) hcell (by omega) (by omega) (by rw [hz2]; omega)
        rw [hr] at hn'
        injection hn' with e1 e2
        subst e1
        simp [Value.ownBlock] at hk
        exact .inr (by omega)
    · by_cases hroom : n + m ≤ cap
      · have hn' := run_append_room (P := Try.prog) w T ty E i0 hT hi g n cap cur hh ad m c news (by rw [hz1]; exact hl) hcell h1 hroom (by rw [hz1, hl, hcs]; exact (by rw [← Nat.add_mul]; exact Nat.mul_le_mul_right _ hroom))
        rw [hr] at hn'
        injection hn' with e1 e2
        subst e1
        exact .inl (by simpa [Value.ownBlock] using hk.symm)
      · have hn' := run_append_grow (P := Try.prog) w T ty E i0 z hT hi hz0 ⟨g, 0, none⟩ n cap xs (by rw [hz1]; exact hown.1) (World.ownsRow.cells hown rfl) ad m c news (by rw [hz1]; exact hl) hcell (by omega) (by omega) (by rw [hz2]; exact growslice_fits_wide (by omega) hszb)
        rw [hr] at hn'
        injection hn' with e1 e2
        subst e1
        simp [Value.ownBlock] at hk
        exact .inr (by omega)
/-- append by a run that is known -/
theorem wp_appRun {w w' : World} {ops : Array Oper} {rest : List Oper} {o : Oper} {a : Act} {Q : Exit → Act → World → Prop} (hgd : o.guard = none) (s x : Operand) (T : TypeId)
    (ho : o.op = .call { callee := .builtin .append, args := #[s, x], argTypes := #[T, T] }) (vs vx v' : Value) (hs : a.eval s = vs) (hx : a.eval x = vx)
    (hr : (Builtin.append_ #[T, T] o.type #[vs, vx]).run Try.prog w = .ok v' w') (h : wpList Try.prog ops Q rest (a.put o.dst v') w') : wpList Try.prog ops Q (o :: rest) a w := by
  refine wpList_plain hgd fun K hK => ?_
  unfold Oper.wp execOp
  simp only [ho, resolve, invoke, builtin, Sem.run_bind, Sem.run_pure, Result.andThen_ok, List.map_toArray, List.map_cons, List.map_nil, hs, hx, hr]
  exact hK _ _ h


theorem fbits_run (b : Nat) (w : World) : (callFunc 20 #[.float .f64 b]).run Try.prog w = .ok (.value (.int .u64 (b : Int))) w := by
  rw [run_callFunc_extern (e := Extern.MathFloatBits.float64bits) Try.func20 (by kernel_rfl) (by kernel_rfl) (by kernel_rfl) (by kernel_rfl)]
  rfl
theorem fromBits_run (b : Nat) (w : World) : (callFunc 12 #[.int .u64 (b : Int)]).run Try.prog w = .ok (.value (.float .f64 b)) w := by
  rw [run_callFunc_extern (e := Extern.MathFloatBits.float64frombits) Try.func12 (by kernel_rfl) (by kernel_rfl) (by kernel_rfl) (by kernel_rfl)]
  rfl
theorem slice_nilP (a : Option Addr) (n c : Nat) (w : World) : (binOp .eql 28 (.slice a n c) (.slice none 0 0)).run Try.prog w = .ok (.bool a.isNone) w := by
  have := Go.Lib.run_eql_slice_nil (P := Try.prog) w 28 33 a n c 0 0 Try.underlying28
  first | exact this | simpa using this
theorem ownP_empty (w : World) : OwnP (w.alloc (.cells #[] 33)) w.heap.size (.slice (some ⟨w.heap.size, 0, none⟩) 0 0) [] := by
  refine ⟨rfl, .inr ⟨w.heap.size, 0, #[], rfl, Nat.le_refl _, Go.heap_alloc_new w _, Nat.le_refl _, by unfold maxLen; omega, rfl, rfl⟩⟩
set_option maxRecDepth 8000 in
set_option maxHeartbeats 1600000 in
theorem cloneP_any (w : World) (v : Value) (l : List SmpT) (hv : RdP w v l) (hl : l.length ≤ 8796093022208) :
    Calls Try.prog 34 #[v] w fun e w' => ∃ a c, e = .returned (.slice a l.length c) ∧ OwnP w' w.heap.size (.slice a l.length c) l ∧ w.grownBy w' none := by
  have HV := hidJ hv
  obtain ⟨a, c, rfl, hc1, hc2, hc3⟩ := hv
  unfold maxLen at hc2
  cases a with
  | none =>
    have hn : l = [] := by
      cases l with
      | nil => rfl
      | cons x t =>
        obtain ⟨b, o, e, -⟩ := hc3 0 (by simp)
        cases e
    subst hn
    have hb := slice_nilP none 0 c
    simp only [Option.isNone_none] at hb
    simp only [List.length_nil]
    clear hc3
    go_enter Try.func34, Try.ntmps34
    go_wp2
    go_ret
    exact ⟨_, _, rfl, World.ownsRow_nil _ _ _ _, gb_refl _ _⟩
  | some ad =>
    obtain ⟨i0, hi, hz0, hz1, hz2⟩ := info_parts infoSm
    have hrd : RdP (w.alloc (.cells #[] 33)) (.slice (some ad) l.length c) l := HV.out.keep (World.grownBy_alloc _ _ none)
    have ho := ownP_empty w
    obtain ⟨v', w', hrun, h2, h3⟩ := run_appH (w.alloc (.cells #[] 33)) 28 28 33 i0 _ 2 16 w.heap.size Try.underlying28 hi hz0 hz1 hz2 rfl (by decide) (.slice (some ⟨w.heap.size, 0, none⟩) 0 0) 0 [] ho (some ad) l.length c (smC l) (smC_len l) hrd.rdc (fun h => by cases h) (smC_one l) (by omega) (by omega) (by simp)
    have HO : Hid (OwnP w' w.heap.size v' l ∧ w.grownBy w' none) := by
      refine ⟨?_, gb_new (World.grownBy_alloc _ _ none) h3.1 (fun k hk => by simp [Value.ownBlock] at hk; omega)⟩
      unfold OwnP
      simpa using h2
    obtain ⟨a2, c2, rfl⟩ : ∃ a c, v' = .slice a l.length c := HO.out.1.shape
    clear h2 h3 ho hrd hc3 hz0 hz1 hz2 hi
    have hb := slice_nilP (some ad) l.length c
    simp only [Option.isNone_some] at hb
    go_enter Try.func34, Try.ntmps34
    have HRun := hidJ hrun
    clear hrun
    go_wp2_with (at_builtin; refine wp_appRun rfl _ _ 28 rfl _ _ _ rfl rfl HRun.out ?_)
    go_wp2
    go_ret
    exact ⟨_, _, rfl, HO.out⟩

/-! ### which samples go -/
/-- is it the stale marker? -/
def stl (x : SmpT) : Bool := decide (x.2 = 9218868437227405314)
/-- what alive leaves -/
def live (l : List SmpT) : List SmpT := l.filter fun x => !stl x
theorem live_le (l : List SmpT) : (live l).length ≤ l.length := List.length_filter_le _ _
set_option maxRecDepth 8000 in
set_option maxHeartbeats 1600000 in
theorem alive1_any (W : World) (x : SmpT) :
    Calls Try.prog 35 #[.agg #[.int .i64 x.1, .float .f64 x.2]] W fun e w' => e = .returned (.bool (stl x)) ∧ W.grownBy w' none := by
  obtain ⟨t, b⟩ := x
  have hst : stl (t, b) = decide ((b : Int) = 9218868437227405314) := by
    unfold stl
    exact decide_eq_decide.2 (by dsimp only; omega)
  rw [hst]
  dsimp only
  have hfb := fbits_run b
  generalize hz : (b : Int) = z at *
  go_enter Try.func35, Try.ntmps35
  go_wp2
  go_ret
  refine ⟨?_, alloc_gb _ _⟩
  first | rfl | (congr 2; first | rfl | (by_cases h : z = 9218868437227405314 <;> simp [h]))
/-- the first that goes; -1: none does -/
def stI (l : List SmpT) : Int := if (l.any stl) = true then ((l.findIdx stl : Nat) : Int) else -1
theorem stI_at {l : List SmpT} {z : Nat} (hz : z < l.length) (hn : ∀ j, j < z → stl (l.getD j smZ) = false) (h : stl (l.getD z smZ) = true) : stI l = z := by
  have e : l.getD z smZ = l[z] := by simp [List.getD, hz]
  rw [e] at h
  have h1 : l.any stl = true := List.any_eq_true.2 ⟨l[z], List.getElem_mem hz, h⟩
  unfold stI
  rw [if_pos h1]
  have : l.findIdx stl = z := by
    rw [List.findIdx_eq hz]
    refine ⟨h, fun j hj => ?_⟩
    have := hn j hj
    have ej : l.getD j smZ = l[j] := by simp [List.getD, show j < l.length by omega]
    rw [ej] at this
    exact this
  rw [this]
theorem stI_none {l : List SmpT} (hn : ∀ j, j < l.length → stl (l.getD j smZ) = false) : stI l = -1 := by
  unfold stI
  rw [if_neg]
  intro h
  obtain ⟨x, hx, h⟩ := List.any_eq_true.1 h
  obtain ⟨j, hj, rfl⟩ := List.mem_iff_getElem.1 hx
  have := hn j hj
  have ej : l.getD j smZ = l[j] := by simp [List.getD, hj]
  rw [ej] at this
  rw [this] at h
  cases h
set_option maxRecDepth 8000 in
set_option maxHeartbeats 3200000 in
theorem indexP_any (w : World) (v : Value) (l : List SmpT) (hv : RdP w v l) :
    Calls Try.prog 63 #[v, .func (.func 35) #[] #[]] w fun e w' => e = .returned (.int .i64 (stI l)) ∧ w.grownBy w' none := by
  have HV := hidJ hv
  obtain ⟨va, vc, rfl, hc1, hc2, -⟩ := hv
  unfold maxLen at hc2
  obtain ⟨RQ, hRQ⟩ : ∃ RQ : Ending → World → Prop, RQ = fun e w' => e = .returned (.int .i64 (stI l)) ∧ w.grownBy w' none := ⟨_, rfl⟩
  have HF : Hid (∀ w' i, i = stI l → w.grownBy w' none → RQ (.returned (.int .i64 i)) w') := fun w' i hi hg => by
    rw [hRQ, hi]
    exact ⟨rfl, hg⟩
  rw [show (fun e w' => e = .returned (.int .i64 (stI l)) ∧ w.grownBy w' none) = (fun e w' => RQ e w') from by rw [hRQ]]
  have HE : Hid (∀ j, j < l.length → ∀ wr, w.grownBy wr none → ∃ g o, va = some ⟨g, o, none⟩ ∧ wr.cell? ⟨g, o + j * 2, none⟩ = some (.int .i64 (l.getD j smZ).1) ∧ wr.cell? ⟨g, o + j * 2 + 1, none⟩ = some (.float .f64 (l.getD j smZ).2) ∧
      Hid (Calls Try.prog 35 #[.agg #[.int .i64 (l.getD j smZ).1, .float .f64 (l.getD j smZ).2]] wr fun e w' => e = .returned (.bool (stl (l.getD j smZ))) ∧ Hid (w.grownBy w' none))) := fun j hj wr hg => by
    obtain ⟨a', c', e0, -, -, h3⟩ := HV.out.keep hg
    obtain ⟨g, o, e1, d0, d1⟩ := h3 j hj
    simp only [Value.slice.injEq] at e0
    refine ⟨g, o, e0.1.trans e1, d0, d1, ?_⟩
    refine (alive1_any wr (l.getD j smZ)).mono ?_
    rintro e w' ⟨q1, q2⟩
    exact ⟨q1, gb_none hg q2⟩
  have H0 : Hid ((∀ j, j < 0 → stl (l.getD j smZ) = false) ∧ w.grownBy w none) := ⟨fun j hj => by omega, gb_refl _ _⟩
  clear hRQ HV
  generalize hN : l.length = N at *
  have HN := hidJ hN
  clear hN
  go_enter Try.func63, Try.ntmps63
  go_wp2
  go_loopw [8] (fun i wr => ∃ z : Nat, z ≤ N ∧ i = .int .i64 z ∧ Hid ((∀ j, j < z → stl (l.getD j smZ) = false) ∧ w.grownBy wr none)) (fun i _ => N - (intOf i).toNat)
  case atStart => exact ⟨0, by omega, rfl, H0.out⟩
  case round =>
    obtain ⟨z, hzN, rfl, hr⟩ := hrel
    clear H0
    by_cases hzl : z < N
    · have hzi : (z : Int) < (N : Int) := by omega
      obtain ⟨g, o, rfl, d0, d1, HC⟩ := HE.out z hzl wr hr.out.2
      have HY : Hid (stl (l.getD z smZ) = true → (z : Int) = stI l) := fun h => (stI_at (by rw [HN.out]; exact hzl) (fun j hj => hr.out.1 j hj) h).symm
      have HNo : Hid (stl (l.getD z smZ) = false → ∀ j, j < z + 1 → stl (l.getD j smZ) = false) := fun h j hj => by
        by_cases e : j = z
        · rw [e]; exact h
        · exact hr.out.1 j (by omega)
      clear hr HE
      generalize (l.getD z smZ).1 = tm at *
      generalize (l.getD z smZ).2 = fl at *
      generalize hb : stl (l.getD z smZ) = bb at *
      clear hb
      go_wp2_with fail
      refine HC.out.mono ?_
      rintro e w1 ⟨rfl, q1⟩
      clear HC d0 d1
      cases bb with
      | true =>
        have HFF := hidJ (HF.out w1 z (HY.out rfl) q1.out)
        clear HY HNo HF
        go_wp2
        exact HFF.out
      | false =>
        have HR := hidJ (And.intro (HNo.out rfl) q1.out)
        clear HY HNo HF
        go_wp2
        go_roundw
        case rel => exact ⟨z + 1, by omega, by go_num, HR.out⟩
        case measure => simp [intOf]; omega
    · have hzi : ¬ (z : Int) < (N : Int) := by omega
      have hzn : z = N := by omega
      subst hzn
      have HFF := hidJ (HF.out wr (-1) (stI_none (fun j hj => hr.out.1 j (by rw [← HN.out]; exact hj))).symm hr.out.2)
      clear hr HF HE
      go_wp2
      exact HFF.out
end Go.Proofs.Ytgpednikianneaa
