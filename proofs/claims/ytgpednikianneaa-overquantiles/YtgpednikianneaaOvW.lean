/-
  Values sorted: compareValues of whatever floats, its order, slices.SortFunc: the walks.
-/
import Derived.Test.YtgpednikianneaaOvX
import Derived.Test.YtgpednikianneaaOvI
namespace Go.Proofs.Ytgpednikianneaa
open Go.RowKit Go.Shelf Go.Sort

/-- 1 with the sign of a zero -/
def csg (a : Nat) : Nat := if sgB a = true then 13830554455654793216 else 4607182418800017408
def zroB (a : Nat) : Bool := fo a 0 == some .eq
def cmpV (a b : Nat) : Int := if (zroB a && zroB b) = true then cmpF (csg a) (csg b) else cmpF a b
theorem mg_zero {a : Nat} (h : zroB a = true) : mg a = 0 ∧ nanB a = false := by
  unfold zroB at h
  have h2 : fo a 0 = some .eq := by simpa using h
  obtain ⟨h3, h4⟩ := fo_lt_nan h2
  rw [fo_sv h3 h4, show sv 0 = 0 by decide] at h2
  refine ⟨?_, h3⟩
  have h5 : sv a = 0 := by
    rcases Int.lt_trichotomy (sv a) 0 with h | h | h
    · rw [cmp_lt h] at h2; cases h2
    · exact h
    · rw [cmp_gt h] at h2; cases h2
  have h6 : vl (mg a) = 0 := by
    unfold sv at h5
    split at h5 <;> omega
  have := vl_inj_le (r := mg a) (s := 0) (by rw [h6]; omega)
  omega
theorem zero_is {a : Nat} (ha : a < 18446744073709551616) (h : zroB a = true) : a = 0 ∨ a = 9223372036854775808 := by
  have := (mg_zero h).1
  unfold mg at this
  omega
theorem copysign_any (w : World) (b : Nat) (hb : b = 0 ∨ b = 9223372036854775808) : Calls Try.prog 29 #[.float .f64 4607182418800017408, .float .f64 b] w fun e w' => e = .returned (.float .f64 (csg b)) ∧ w' = w := by
  have h1 : ∀ w, (callFunc 20 #[.float .f64 4607182418800017408]).run Try.prog w = .ok (.value (.int .u64 4607182418800017408)) w := fun w => fbits_run _ w
  rcases hb with rfl | rfl
  · have h2 : ∀ w, (callFunc 20 #[.float .f64 0]).run Try.prog w = .ok (.value (.int .u64 0)) w := fun w => fbits_run _ w
    have h3 : ∀ w, (callFunc 12 #[.int .u64 4607182418800017408]).run Try.prog w = .ok (.value (.float .f64 4607182418800017408)) w := fun w => fromBits_run _ w
    have e1 : bits .andNot .u64 4607182418800017408 9223372036854775808 = 4607182418800017408 := by decide
    have e2 : bits .and .u64 0 9223372036854775808 = 0 := by decide
    have e3 : bits .or .u64 4607182418800017408 0 = 4607182418800017408 := by decide
    have e4 : csg 0 = 4607182418800017408 := by decide
    rw [e4]
    go_enter Try.func29, Try.ntmps29
    go_wp2
    go_ret
    exact ⟨rfl, rfl⟩
  · have h2 : ∀ w, (callFunc 20 #[.float .f64 9223372036854775808]).run Try.prog w = .ok (.value (.int .u64 9223372036854775808)) w := fun w => fbits_run _ w
    have h3 : ∀ w, (callFunc 12 #[.int .u64 13830554455654793216]).run Try.prog w = .ok (.value (.float .f64 13830554455654793216)) w := fun w => fromBits_run _ w
    have e1 : bits .andNot .u64 4607182418800017408 9223372036854775808 = 4607182418800017408 := by decide
    have e2 : bits .and .u64 9223372036854775808 9223372036854775808 = 9223372036854775808 := by decide
    have e3 : bits .or .u64 4607182418800017408 9223372036854775808 = 13830554455654793216 := by decide
    have e4 : csg 9223372036854775808 = 13830554455654793216 := by decide
    rw [e4]
    go_enter Try.func29, Try.ntmps29
    go_wp2
    go_ret
    exact ⟨rfl, rfl⟩
theorem compareVg_any (w : World) (a b : Nat) (ha : a < 18446744073709551616) (hb : b < 18446744073709551616) : Calls Try.prog 18 #[.float .f64 a, .float .f64 b] w fun e w' => e = .returned (.int .i64 (cmpV a b)) ∧ w' = w := by
  have hV : cmpV a b = if (zroB a && zroB b) = true then cmpF (csg a) (csg b) else cmpF a b := rfl
  have HC : Hid (∀ x y, Calls Try.prog 28 #[.float .f64 x, .float .f64 y] w fun e w' => e = .returned (.int .i64 (cmpF x y)) ∧ w' = w) := fun x y => compareF_any w x y
  have h1 : (FloatKind.f64.format.order a 0 == some .eq) = zroB a := rfl
  have h2 : (FloatKind.f64.format.order b 0 == some .eq) = zroB b := rfl
  have HSa : Hid (zroB a = true → Calls Try.prog 29 #[.float .f64 4607182418800017408, .float .f64 a] w fun e w' => e = .returned (.float .f64 (csg a)) ∧ w' = w) := fun h => copysign_any w a (zero_is ha h)
  have HSb : Hid (zroB b = true → Calls Try.prog 29 #[.float .f64 4607182418800017408, .float .f64 b] w fun e w' => e = .returned (.float .f64 (csg b)) ∧ w' = w) := fun h => copysign_any w b (zero_is hb h)
  clear ha hb
  generalize zroB a = za at *
  generalize zroB b = zb at *
  generalize csg a = sa at *
  generalize csg b = sb at *
  cases za with
  | false =>
    have hV : cmpV a b = cmpF a b := by simpa using hV
    rw [hV]
    clear hV HSa HSb
    go_enter Try.func18, Try.ntmps18
    go_wp2_with fail
    refine (HC.out _ _).mono ?_
    rintro e w1 ⟨rfl, rfl⟩
    clear HC
    go_wp2
    go_ret
    exact ⟨rfl, rfl⟩
  | true =>
    cases zb with
    | false =>
      have hV : cmpV a b = cmpF a b := by simpa using hV
      rw [hV]
      clear hV HSa HSb
      go_enter Try.func18, Try.ntmps18
      go_wp2_with fail
      refine (HC.out _ _).mono ?_
      rintro e w1 ⟨rfl, rfl⟩
      clear HC
      go_wp2
      go_ret
      exact ⟨rfl, rfl⟩
    | true =>
      have hV : cmpV a b = cmpF sa sb := by simpa using hV
      rw [hV]
      have HA := hidJ (HSa.out rfl)
      have HB := hidJ (HSb.out rfl)
      clear hV HSa HSb
      go_enter Try.func18, Try.ntmps18
      go_wp2_with fail
      refine HA.out.mono ?_
      rintro e w1 ⟨rfl, rfl⟩
      go_wp2_with fail
      refine HB.out.mono ?_
      rintro e w1 ⟨rfl, rfl⟩
      go_wp2_with fail
      refine (HC.out _ _).mono ?_
      rintro e w1 ⟨rfl, rfl⟩
      clear HC HA HB
      go_wp2
      go_ret
      exact ⟨rfl, rfl⟩
/-! ### its order -/
/-- where a number stands among all: -0 ahead of 0 -/
def kyN (a : Nat) : Int := if mg a = 0 then (if sgB a = true then -1 else 0) else 2 * sv a
theorem cmpV_lt (a b : Nat) : cmpV a b < 0 ↔ (nanB a = true ∧ nanB b = false) ∨ (nanB a = false ∧ nanB b = false ∧ kyN a < kyN b) := by
  have znan : ∀ x, nanB x = true → zroB x = false := fun x hx => by
    cases h : zroB x with
    | false => rfl
    | true => rw [(mg_zero h).2] at hx; cases hx
  unfold cmpV
  cases ha : nanB a with
  | true =>
    rw [znan a ha, Bool.false_and, if_neg (by simp)]
    unfold cmpF
    rw [ha]
    cases nanB b <;> simp
  | false =>
    cases hb : nanB b with
    | true =>
      rw [znan b hb, Bool.and_false, if_neg (by simp)]
      unfold cmpF
      rw [ha, hb]
      simp
    | false =>
      have pos : ∀ r, r ≠ 0 → 0 < vl r := fun r h => by have := vl_lt (show 0 < r by omega); rw [vl_zero] at this; exact this
      have hz : ∀ x, nanB x = false → (zroB x = true ↔ mg x = 0) := fun x hx => ⟨fun h => (mg_zero h).1, fun h => by
        unfold zroB
        rw [fo_sv hx (by decide)]
        have : sv x = 0 := by unfold sv; rw [h, vl_zero]; simp
        rw [this, show sv 0 = 0 by decide]
        rfl⟩
      have hgen : (cmpF a b < 0) ↔ sv a < sv b := by
        unfold cmpF
        rw [ha, hb, fo_sv ha hb]
        rcases Int.lt_trichotomy (sv a) (sv b) with h | h | h
        · rw [cmp_lt h]; simp [h]
        · rw [h, cmp_self]; simp
        · rw [cmp_gt h]
          simp
          omega
      have hsvz : ∀ x, mg x = 0 → sv x = 0 := fun x h => by unfold sv; rw [h, vl_zero]; simp
      have hsvn : ∀ x, mg x ≠ 0 → sv x ≠ 0 := fun x h => by
        have := pos _ h
        unfold sv
        split <;> omega
      by_cases za : mg a = 0
      · by_cases zb : mg b = 0
        · rw [(hz a ha).2 za, (hz b hb).2 zb, Bool.and_true, if_pos rfl]
          unfold kyN csg
          rw [if_pos za, if_pos zb]
          cases sgB a <;> cases sgB b <;> decide
        · have e : zroB b = false := by
            cases h : zroB b with
            | false => rfl
            | true => exact absurd ((hz b hb).1 h) zb
          rw [e, Bool.and_false, if_neg (by simp), hgen]
          unfold kyN
          rw [if_pos za, if_neg zb, hsvz a za]
          have := hsvn b zb
          simp
          split <;> omega
      · have e : zroB a = false := by
          cases h : zroB a with
          | false => rfl
          | true => exact absurd ((hz a ha).1 h) za
        rw [e, Bool.false_and, if_neg (by simp), hgen]
        unfold kyN
        rw [if_neg za]
        have := hsvn a za
        by_cases zb : mg b = 0
        · rw [if_pos zb, hsvz b zb]
          simp
          split <;> omega
        · rw [if_neg zb]
          simp
def cfM (x y : Nat) : Int := cmpV (x % 18446744073709551616) (y % 18446744073709551616)
theorem swoM : SWO (ltOf cfM) where
  irrefl x := by
    unfold ltOf cfM
    rw [decide_eq_false_iff_not, cmpV_lt]
    rintro (⟨h1, h2⟩ | ⟨_, _, h⟩)
    · rw [h1] at h2; cases h2
    · omega
  trans x y z h1 h2 := by
    unfold ltOf cfM at *
    rw [decide_eq_true_eq, cmpV_lt] at *
    rcases h1 with ⟨a1, a2⟩ | ⟨a1, a2, a3⟩ <;> rcases h2 with ⟨b1, b2⟩ | ⟨b1, b2, b3⟩
    · rw [a2] at b1; cases b1
    · exact .inl ⟨a1, b2⟩
    · rw [a2] at b1; cases b1
    · exact .inr ⟨a1, b2, by omega⟩
  ntrans x y z h1 h2 := by
    unfold ltOf cfM at *
    rw [decide_eq_false_iff_not, cmpV_lt] at *
    rintro (⟨c1, c2⟩ | ⟨c1, c2, c3⟩)
    · cases hy : nanB (y % 18446744073709551616) with
      | true => exact h2 (.inl ⟨hy, c2⟩)
      | false => exact h1 (.inl ⟨c1, hy⟩)
    · cases hy : nanB (y % 18446744073709551616) with
      | true => exact h2 (.inl ⟨hy, c2⟩)
      | false =>
        by_cases h : kyN (x % 18446744073709551616) < kyN (y % 18446744073709551616)
        · exact h1 (.inr ⟨c1, hy, h⟩)
        · exact h2 (.inr ⟨hy, c2, by omega⟩)
def encM (x : Nat) : Value := flV (x % 18446744073709551616)
theorem oneM : OneCell encM := fun _ => rfl
theorem mapM {l : List Nat} (h : ∀ x ∈ l, x < 18446744073709551616) : l.map flV = l.map encM := by
  refine List.map_congr_left fun x hx => ?_
  unfold encM
  rw [Nat.mod_eq_of_lt (h x hx)]
/-- a is not behind b -/
def leV (a b : Nat) : Prop := ¬ cmpV b a < 0
/-- the sort of a row of floats -/
theorem sortF_any (w : World) (base : Nat) (v : Value) (l : List Nat) (h : OwnFl w base v l) (hl : l ≠ []) (hin : ∀ x ∈ l, x < 18446744073709551616) (hsz : l.length ≤ 17592186044416) :
    ∃ g c, v = .slice (some ⟨g, 0, none⟩) l.length c ∧ l.length ≤ c ∧ c ≤ maxLen ∧ Calls Try.prog 17 #[v, .func (.func 18) #[] #[]] w fun e w' => e = .returned (.tuple #[]) ∧ ∃ d : List Nat, d.Perm l ∧ d.Pairwise leV ∧ (∀ j, j < l.length → w'.cell? ⟨g, j, none⟩ = some (.float .f64 (d.getD j 0))) ∧ w.grownBy w' (some g) ∧ base ≤ g := by
  rcases h.2 with ⟨_, h'⟩ | ⟨g, cap, cur, rfl, hbg, hh, hnc, hcm, hcs, htake⟩
  · exact absurd (List.eq_nil_of_length_eq_zero h') hl
  · refine ⟨g, cap, rfl, hnc, hcm, ?_⟩
    rw [Nat.mul_one] at htake
    have hH : Holds encM w g 0 l.toArray := by
      intro j hj
      have hj' : j < l.length := by simpa using hj
      refine ⟨?_, by simp [World.frozen?, hh]⟩
      have h1 : (cur.toList.take l.length)[j]? = (l.map encM)[j]? := by rw [htake, mapM hin]
      rw [List.getElem?_take_of_lt hj'] at h1
      simp only [World.cell?, hh, Nat.zero_add]
      simp only [Option.isSome_none, Bool.false_eq_true, if_false]
      rw [← Array.getElem?_toList, h1]
      simp [hj']
    have eg : ∀ args w, (callFunc 18 args).run Try.prog w = .ok (.enter 18 args) w := enters_of Try.func18 (by kernel_rfl) rfl
    have hcmp : CmpLays1 Try.prog 18 #[] encM cfM g 0 l.toArray.size w := by
      intro m ob dk _ x y
      refine (compareVg_any _ (x % 18446744073709551616) (y % 18446744073709551616) (Nat.mod_lt _ (by omega)) (Nat.mod_lt _ (by omega))).mono ?_
      rintro e w' ⟨h1, h2⟩
      exact ⟨h1, 0, #[], by rw [h2, grow_empty]; rfl⟩
    have hsort := Any.slices_SortFunc Try.sortSt encM oneM cfM swoM 18 #[] g 0 cap l.toArray w eg hcmp hH (some_lt hh) (by simp; omega)
    have hsize : l.toArray.size = l.length := by simp
    rw [hsize] at hsort
    refine Calls.mono hsort ?_
    rintro e w' ⟨rfl, d', nn, ob, hpm, hsr, rfl⟩
    obtain ⟨q1, -, q3⟩ := hpm
    have hq : d'.size = l.length := by rw [q1]; simp
    have hd : d'.toList.Perm l := by
      have e1 : d'.extract 0 l.length = d' := by rw [← hsize, ← q1]; simp
      rw [e1] at q3
      simpa using q3
    have hin' : ∀ x ∈ d'.toList, x < 18446744073709551616 := fun x hx => hin x (hd.mem_iff.1 hx)
    have hg : g < w.heap.size := some_lt hh
    have hb : (sortWorld encM w g 0 nn d' ob).heap[g]? = some (.cells (putCells encM 0 d' cur) 22 (0, 0)) := by
      unfold sortWorld
      rw [heap_grow_old _ _ (by simpa using hg)]
      simp [putRow, mapBlock, Sort.ahead, Array.getElem?_modify, hh, onCells]
    refine ⟨rfl, d'.toList, hd, ?_, fun j hj => ?_, sortW_gb _ _ _ _ _, hbg⟩
    · rw [List.pairwise_iff_getElem]
      intro i j hi hj hij
      have hi' : i < d'.size := by simpa using hi
      have hj' : j < d'.size := by simpa using hj
      have := hsr i j (Nat.zero_le _) hij (by omega)
      rw [getElem!_pos d' j hj', getElem!_pos d' i hi'] at this
      unfold ltOf cfM at this
      rw [decide_eq_false_iff_not, Nat.mod_eq_of_lt (hin' _ (by simp)), Nat.mod_eq_of_lt (hin' _ (by simp))] at this
      simp only [Array.getElem_toList]
      exact this
    · rw [World.cell?, hb]
      have hj' : j < d'.size := by omega
      have hm : d'[j] ∈ d'.toList := by simp
      simp [putCells, hj', show j < cur.size by omega, List.getD]
      unfold encM flV
      rw [Nat.mod_eq_of_lt (hin' _ hm)]
end Go.Proofs.Ytgpednikianneaa
