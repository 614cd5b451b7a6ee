/-
  The quantile of the fixed list: cmp.Compare and compareValues of floats, slices.Clone and slices.SortFunc of them, Quantile: the walks.
-/
import Derived.Test.YtgpednikianneaaOvV
import Derived.Test.YtgpednikianneaaShelfS
namespace Go.Proofs.Ytgpednikianneaa
open Go.RowKit Go.Shelf Go.Sort

theorem isNaNc_any (w : World) (b : Nat) : Calls Try.prog 46 #[.float .f64 b] w fun e w' => e = .returned (.bool (nanB b)) ∧ w' = w := by
  go_enter Try.func46, Try.ntmps46
  go_wp2
  go_ret
  exact ⟨rfl, rfl⟩
/-- two floats compared: what is no number is the least -/
def cmpF (a b : Nat) : Int := if nanB a = true then (if nanB b = true then 0 else -1) else if nanB b = true then 1 else if (fo a b == some .lt) = true then -1 else if (fo a b == some .gt) = true then 1 else 0
theorem compareF_any (w : World) (a b : Nat) : Calls Try.prog 28 #[.float .f64 a, .float .f64 b] w fun e w' => e = .returned (.int .i64 (cmpF a b)) ∧ w' = w := by
  have HN : Hid (∀ b, Calls Try.prog 46 #[.float .f64 b] w fun e w' => e = .returned (.bool (nanB b)) ∧ w' = w) := fun b => isNaNc_any w b
  have HC : Hid (cmpF a b = if nanB a = true then (if nanB b = true then 0 else -1) else if nanB b = true then 1 else if (fo a b == some .lt) = true then -1 else if (fo a b == some .gt) = true then 1 else 0) := rfl
  have h1 : (FloatKind.f64.format.order a b == some .lt) = (fo a b == some .lt) := rfl
  have h2 : (FloatKind.f64.format.order a b == some .gt) = (fo a b == some .gt) := rfl
  generalize cmpF a b = R at *
  generalize (fo a b == some .lt) = q1 at *
  generalize (fo a b == some .gt) = q2 at *
  go_enter Try.func28, Try.ntmps28
  go_wp2_with fail
  refine (HN.out a).mono ?_
  rintro e w1 ⟨rfl, rfl⟩
  go_wp2_with fail
  refine (HN.out b).mono ?_
  rintro e w1 ⟨rfl, rfl⟩
  generalize nanB a = na at *
  generalize nanB b = nb at *
  have hC := HC.out
  clear HC HN
  cases na <;> cases nb <;> cases q1 <;> cases q2 <;> (simp at hC; subst hC; go_wp2; go_ret; exact ⟨rfl, rfl⟩)
/-- what is not 0 compared -/
theorem compareV_any (w : World) (a b : Nat) (ha : (fo a 0 == some .eq) = false) : Calls Try.prog 18 #[.float .f64 a, .float .f64 b] w fun e w' => e = .returned (.int .i64 (cmpF a b)) ∧ w' = w := by
  have HC := hidJ (compareF_any w a b)
  have h1 : (FloatKind.f64.format.order a 0 == some .eq) = false := ha
  clear ha
  go_enter Try.func18, Try.ntmps18
  go_wp2_with fail
  refine HC.out.mono ?_
  rintro e w1 ⟨rfl, rfl⟩
  clear HC
  go_wp2
  go_ret
  exact ⟨rfl, rfl⟩
/-! ### floats in memory -/
theorem infoFl : (Try.prog.info? 22).map (fun i => (i.zero, i.size, i.bytes)) = some (some (.float .f64 0), 1, 8) := by kernel_rfl
def flV (n : Nat) : Value := .float .f64 n
theorem slice_nilF (a : Option Addr) (n c : Nat) (w : World) : (binOp .eql 23 (.slice a n c) (.slice none 0 0)).run Try.prog w = .ok (.bool a.isNone) w := by
  have := Go.Lib.run_eql_slice_nil (P := Try.prog) w 23 22 a n c 0 0 Try.underlying23
  first | exact this | simpa using this
/-- a row of floats of the call's own -/
def OwnFl (w : World) (base : Nat) (v : Value) (l : List Nat) : Prop := w.ownsRow base 22 1 v l.length (l.map flV)
theorem OwnFl.shape {w : World} {base : Nat} {v : Value} {l : List Nat} (h : OwnFl w base v l) : ∃ a c, v = .slice a l.length c := by
  rcases h.2 with ⟨rfl, hn⟩ | ⟨g, cap, cur, rfl, _⟩
  · exact ⟨none, 0, by rw [hn]⟩
  · exact ⟨_, _, rfl⟩
set_option maxRecDepth 8000 in
set_option maxHeartbeats 1600000 in
theorem cloneF_any (w : World) (ad : Addr) (c : Nat) (l : List Nat) (hrd : RdC w (some ad) (l.map flV)) (hl : l.length ≤ 17592186044416) :
    Calls Try.prog 16 #[.slice (some ad) l.length c] w fun e w' => ∃ v, e = .returned v ∧ OwnFl w' w.heap.size v l ∧ w.grownBy w' none := by
  obtain ⟨i0, hi, hz0, hz1, hz2⟩ := info_parts infoFl
  have hrd2 : RdC (w.alloc (.cells #[] 22)) (some ad) (l.map flV) := fun j u hj => by
    obtain ⟨ad', e, hc⟩ := hrd j u hj
    exact ⟨ad', e, World.grownBy.cell (alloc_gb w _) hc (by simp)⟩
  have ho : (w.alloc (.cells #[] 22)).ownsRow w.heap.size 22 1 (.slice (some ⟨w.heap.size, 0, none⟩) 0 0) 0 [] :=
    ⟨rfl, .inr ⟨w.heap.size, 0, #[], rfl, Nat.le_refl _, Go.heap_alloc_new w _, Nat.le_refl _, by unfold maxLen; omega, rfl, rfl⟩⟩
  obtain ⟨v', w', hrun, h2, h3⟩ := run_appH (w.alloc (.cells #[] 22)) 23 23 22 i0 _ 1 8 w.heap.size Try.underlying23 hi hz0 hz1 hz2 rfl (by decide) (.slice (some ⟨w.heap.size, 0, none⟩) 0 0) 0 [] ho (some ad) l.length c (l.map flV) (by simp) hrd2 (fun h => by cases h) (by intro u hu; obtain ⟨x, _, rfl⟩ := List.mem_map.1 hu; rfl) (by omega) (by omega) (by simp)
  have HO : Hid (OwnFl w' w.heap.size v' l ∧ w.grownBy w' none) := by
    refine ⟨?_, gb_new (World.grownBy_alloc _ _ none) h3.1 (fun k hk => by simp [Value.ownBlock] at hk; omega)⟩
    unfold OwnFl
    simpa using h2
  obtain ⟨a2, c2, rfl⟩ : ∃ a c, v' = .slice a l.length c := HO.out.1.shape
  clear h2 h3 ho hrd2 hrd hz0 hz1 hz2 hi
  have hb := slice_nilF (some ad) l.length c
  simp only [Option.isNone_some] at hb
  go_enter Try.func16, Try.ntmps16
  have HRun := hidJ hrun
  clear hrun
  go_wp2_with (at_builtin; refine wp_appRun rfl _ _ 23 rfl _ _ _ rfl rfl HRun.out ?_)
  go_wp2
  go_ret
  exact ⟨_, rfl, HO.out⟩
/-! ### the fixed list, sorted -/
def f3 (i : Fin 3) : Nat := if i = 0 then 4607182418800017408 else if i = 1 then 4611686018427387904 else 4616189618054758400
def enc3 (i : Fin 3) : Value := flV (f3 i)
def cf3 (i j : Fin 3) : Int := cmpF (f3 i) (f3 j)
theorem swo3 : SWO (ltOf cf3) where
  irrefl := by decide
  trans := by decide
  ntrans := by decide
def fix3 : List (Fin 3) := [0, 1, 2]
theorem sorted3 {d' : Array (Fin 3)} (hp : d'.toList.Perm fix3) (hs : SortedIn (ltOf cf3) 0 d'.size d') : d'.toList = fix3 := by
  refine List.Perm.eq_of_pairwise (le := fun a b : Fin 3 => a ≤ b) (fun a b ha hb h1 h2 => by omega) ?_ (by decide) hp
  rw [List.pairwise_iff_getElem]
  intro i j hi hj hij
  have hi' : i < d'.size := by simpa using hi
  have hj' : j < d'.size := by simpa using hj
  have := hs i j (Nat.zero_le _) hij hj'
  rw [getElem!_pos d' j hj', getElem!_pos d' i hi'] at this
  simp only [Array.getElem_toList]
  generalize d'[i] = x at *
  generalize d'[j] = y at *
  revert this
  revert x y
  decide
theorem one3 : OneCell enc3 := fun _ => rfl
theorem sortW_gb {α : Type} [Inhabited α] {enc : α → Value} (w : World) (g n : Nat) (d' : Array α) (os : Array Obj) : w.grownBy (sortWorld enc w g 0 n d' os) (some g) := by
  refine ⟨rfl, rfl, rfl, ?_, fun k hk hne => ?_⟩
  · simp [sortWorld, putRow, mapBlock, grow, Sort.ahead]
  · have hkg : k ≠ g := fun e => hne (by rw [e])
    simp only [sortWorld, putRow, mapBlock, grow]
    rw [Array.getElem?_append_left (by simpa [Sort.ahead] using hk), Array.getElem?_modify, if_neg (fun e => hkg e.symm)]
    rfl
/-- the sort of the fixed list: its cells are as they were -/
theorem sort3_any (w : World) (base : Nat) (v : Value) (h : OwnFl w base v (fix3.map f3)) :
    ∃ g c, v = .slice (some ⟨g, 0, none⟩) 3 c ∧ Calls Try.prog 17 #[v, .func (.func 18) #[] #[]] w fun e w' => e = .returned (.tuple #[]) ∧ (w'.cell? ⟨g, 0, none⟩ = some (.float .f64 4607182418800017408) ∧ w'.cell? ⟨g, 1, none⟩ = some (.float .f64 4611686018427387904) ∧ w'.cell? ⟨g, 2, none⟩ = some (.float .f64 4616189618054758400)) ∧ w.grownBy w' (some g) ∧ base ≤ g := by
  rcases h.2 with ⟨_, h'⟩ | ⟨g, cap, cur, rfl, hbg, hh, hnc, hcm, hcs, htake⟩
  · exact absurd h' (by decide)
  · refine ⟨g, cap, rfl, ?_⟩
    have hsz3 : (fix3.map f3).length = 3 := rfl
    rw [hsz3] at hnc
    rw [hsz3, Nat.mul_one] at htake
    have hH : Holds enc3 w g 0 fix3.toArray := by
      intro j hj
      have hj' : j < 3 := hj
      refine ⟨?_, by simp [World.frozen?, hh]⟩
      have h1 : (cur.toList.take 3)[j]? = ((fix3.map f3).map flV)[j]? := by rw [htake]
      rw [List.getElem?_take_of_lt hj'] at h1
      simp only [World.cell?, hh, Nat.zero_add]
      simp only [Option.isSome_none, Bool.false_eq_true, if_false]
      rw [← Array.getElem?_toList, h1]
      have : j = 0 ∨ j = 1 ∨ j = 2 := by omega
      rcases this with rfl | rfl | rfl <;> rfl
    have eg : ∀ args w, (callFunc 18 args).run Try.prog w = .ok (.enter 18 args) w := enters_of Try.func18 (by kernel_rfl) rfl
    have hcmp : CmpLays1 Try.prog 18 #[] enc3 cf3 g 0 fix3.toArray.size w := by
      intro m ob dk _ x y
      refine (compareV_any _ (f3 x) (f3 y) (by revert x; decide)).mono ?_
      rintro e w' ⟨h1, h2⟩
      exact ⟨h1, 0, #[], by rw [h2, grow_empty]; rfl⟩
    have hsort := Any.slices_SortFunc Try.sortSt enc3 one3 cf3 swo3 18 #[] g 0 cap fix3.toArray w eg hcmp hH (some_lt hh) (by decide)
    refine Calls.mono hsort ?_
    rintro e w' ⟨rfl, d', nn, ob, hpm, hsr, rfl⟩
    obtain ⟨q1, -, q3⟩ := hpm
    have hsz : d'.size = 3 := q1
    have hd : d'.toList.Perm fix3 := by
      have e1 : d'.extract 0 fix3.toArray.size = d' := by rw [← q1]; simp
      rw [e1] at q3
      simpa using q3
    have hM := sorted3 hd (by rw [hsz]; exact hsr)
    have e2 : d' = fix3.toArray := by rw [← hM]
    subst e2
    have hg : g < w.heap.size := some_lt hh
    have hb : (sortWorld enc3 w g 0 nn fix3.toArray ob).heap[g]? = some (.cells (putCells enc3 0 fix3.toArray cur) 22 (0, 0)) := by
      unfold sortWorld
      rw [heap_grow_old _ _ (by simpa using hg)]
      simp [putRow, mapBlock, Sort.ahead, Array.getElem?_modify, hh, onCells]
    refine ⟨rfl, ⟨?_, ?_, ?_⟩, sortW_gb _ _ _ _ _, hbg⟩
    · rw [World.cell?, hb]; simp [putCells, fix3, show 0 < cur.size by omega]; rfl
    · rw [World.cell?, hb]; simp [putCells, fix3, show 1 < cur.size by omega]; rfl
    · rw [World.cell?, hb]; simp [putCells, fix3, show 2 < cur.size by omega]; rfl
end Go.Proofs.Ytgpednikianneaa
