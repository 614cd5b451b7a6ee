/-
  A label set through its text is what it was: plain facts of lists; nothing of the program is in it.
-/
import Derived.Test.YtkcgikgihbglnabDoorLbPr
import Derived.Test.YtkcgikgihbglnabDoorLbPs
namespace Go.Proofs.YtkcgikgihbglnabDoor

theorem gd_at (pre rest : List UInt8) (c : UInt8) : (pre ++ c :: rest).getD pre.length 0 = c := by simp [List.getD]
theorem lt_at (pre rest : List UInt8) (c : UInt8) : pre.length < (pre ++ c :: rest).length := by simp
theorem drop_at (pre rest : List UInt8) : (pre ++ rest).drop pre.length = rest := List.drop_left
theorem skpNo {s : List UInt8} {k : Nat} (h : k < s.length → pisBlank (s.getD k 0) = false) : skp s k = k := by
  unfold skp span
  by_cases hk : k < s.length
  · have e : s.getD k 0 = s[k] := by simp [List.getD, hk]
    rw [List.drop_eq_getElem_cons hk, List.takeWhile_cons, ← e, h hk]
    simp
  · rw [List.drop_eq_nil_of_le (by omega)]
    simp
theorem tk_hit {s : List UInt8} {k : Nat} {c : UInt8} (hk : k < s.length) (h : s.getD k 0 = c) (hb : pisBlank c = false) : tkB s k c = true ∧ tkK s k c = k + 1 := by
  have e : skp s k = k := skpNo (fun _ => by rw [h]; exact hb)
  have hB : tkB s k c = true := by
    unfold tkB
    rw [e, h, decide_eq_true hk]
    simp
  exact ⟨hB, by unfold tkK; rw [if_pos hB, e]⟩
theorem tk_miss {s : List UInt8} {k : Nat} {c d : UInt8} (h : s.getD k 0 = d) (hb : pisBlank d = false) (hcd : d ≠ c) : tkB s k c = false ∧ tkK s k c = k := by
  have e : skp s k = k := skpNo (fun _ => by rw [h]; exact hb)
  have hB : tkB s k c = false := by
    unfold tkB
    rw [e, h, decide_eq_false hcd]
    simp
  exact ⟨hB, by unfold tkK; rw [if_neg (by rw [hB]; simp), e]⟩
theorem tk_end {s : List UInt8} {k : Nat} {c : UInt8} (h : s.length ≤ k) : tkB s k c = false ∧ tkK s k c = k := by
  have e : skp s k = k := skpNo (fun hk => by omega)
  have hB : tkB s k c = false := by
    unfold tkB
    rw [e, decide_eq_false (by omega)]
    simp
  exact ⟨hB, by unfold tkK; rw [if_neg (by rw [hB]; simp), e]⟩
theorem span_app (p : UInt8 → Bool) : ∀ (a : List UInt8) (c : UInt8) (r : List UInt8), (∀ x ∈ a, p x = true) → p c = false → span p (a ++ c :: r) = a.length
  | [], c, r, _, h => by simp [span, h]
  | x :: a, c, r, ha, h => by
    have ih := span_app p a c r (fun y hy => ha y (List.mem_cons_of_mem _ hy)) h
    unfold span at ih ⊢
    rw [List.cons_append, List.takeWhile_cons, if_pos (ha x List.mem_cons_self)]
    simp [ih]
theorem span_whole (p : UInt8 → Bool) : ∀ (a : List UInt8), (∀ x ∈ a, p x = true) → span p a = a.length
  | [], _ => rfl
  | x :: a, ha => by
    have ih := span_whole p a (fun y hy => ha y (List.mem_cons_of_mem _ hy))
    unfold span at ih ⊢
    rw [List.takeWhile_cons, if_pos (ha x List.mem_cons_self)]
    simp [ih]
/-- what a name is -/
theorem isN_all {p : UInt8 → Bool} {a : List UInt8} (h : isN p a = true) : a ≠ [] ∧ ∀ x ∈ a, p x = true := by
  cases a with
  | nil => cases h
  | cons c t =>
    refine ⟨by simp, fun x hx => ?_⟩
    simp only [isN, Bool.and_eq_true, decide_eq_true_eq] at h
    obtain ⟨j, hj, e⟩ := List.getElem_of_mem hx
    have h1 := span_in p (c :: t) j (by rw [h.2]; simpa using hj)
    rw [show (c :: t).getD j 0 = (c :: t)[j] from by rw [List.getD, List.getElem?_eq_getElem hj]; rfl, e] at h1
    exact h1
theorem inName_facts {c : UInt8} (h : pinName c = true) : pisBlank c = false ∧ c ≠ 125 ∧ c ≠ 44 ∧ c ≠ 123 ∧ c.toNat < 128 := by
  unfold pinName at h
  rw [decide_eq_true_eq] at h
  refine ⟨?_, ?_, ?_, ?_, by omega⟩
  · unfold pisBlank; exact decide_eq_false (by omega)
  · rintro rfl; revert h; decide
  · rintro rfl; revert h; decide
  · rintro rfl; revert h; decide
theorem inMetric_facts {c : UInt8} (h : pinMetric c = true) : pisBlank c = false ∧ c ≠ 123 := by
  unfold pinMetric at h
  rw [decide_eq_true_eq] at h
  refine ⟨?_, ?_⟩
  · unfold pisBlank; exact decide_eq_false (by omega)
  · rintro rfl; revert h; decide
/-- a value in quotes is read as it was -/
theorem val_back (rest : List UInt8) : ∀ (v pre acc : List UInt8) (f : Nat), v.length < f → valS f (pre ++ (v.flatMap escB ++ 34 :: rest)) pre.length acc = (acc ++ v, true, pre.length + (v.flatMap escB).length + 1)
  | [], pre, acc, f, hf => by
    obtain ⟨f', rfl⟩ : ∃ f', f = f' + 1 := ⟨f - 1, by omega⟩
    rw [List.flatMap_nil, List.nil_append, valS, if_neg (by simp), if_pos (gd_at _ _ _)]
    simp
  | b :: v, pre, acc, f, hf => by
    obtain ⟨f', rfl⟩ : ∃ f', f = f' + 1 := ⟨f - 1, by omega⟩
    have hf' : v.length < f' := by simp only [List.length_cons] at hf; omega
    rw [List.flatMap_cons]
    by_cases h1 : b.toNat = 92 ∨ b.toNat = 34
    · have e : escB b = [92, b] := by unfold escB; rw [if_pos h1]
      have hb : b = 92 ∨ b = 34 := h1.imp (fun h => UInt8.toNat_inj.1 h) (fun h => UInt8.toNat_inj.1 h)
      rw [e]
      have g0 : (pre ++ ([92, b] ++ v.flatMap escB ++ 34 :: rest)).getD pre.length 0 = 92 := by simp [List.getD]
      have g1 : (pre ++ ([92, b] ++ v.flatMap escB ++ 34 :: rest)).getD (pre.length + 1) 0 = b := by simp [List.getD]
      have hE : escS (pre ++ ([92, b] ++ v.flatMap escB ++ 34 :: rest)) pre.length = (b, true, pre.length) := by
        unfold escS
        rw [if_neg (by simp only [List.length_append, List.length_cons, List.length_nil]; omega), g1, if_pos hb]
      have ih := val_back rest v (pre ++ [92, b]) (acc ++ [b]) f' hf'
      have e2 : pre ++ [92, b] ++ (v.flatMap escB ++ 34 :: rest) = pre ++ ([92, b] ++ v.flatMap escB ++ 34 :: rest) := by simp
      rw [e2] at ih
      rw [valS, if_neg (by simp), g0, if_neg (by decide), if_pos rfl, hE, if_pos rfl]
      have lp : (pre ++ [92, b]).length = pre.length + 2 := by simp
      rw [lp] at ih
      rw [ih]
      simp
      omega
    · by_cases h2 : b.toNat = 10
      · have hb : b = 10 := UInt8.toNat_inj.1 h2
        subst hb
        have e : escB 10 = [92, 110] := by decide
        rw [e]
        have g0 : (pre ++ ([92, 110] ++ v.flatMap escB ++ 34 :: rest)).getD pre.length 0 = 92 := by simp [List.getD]
        have g1 : (pre ++ ([92, 110] ++ v.flatMap escB ++ 34 :: rest)).getD (pre.length + 1) 0 = 110 := by simp [List.getD]
        have hE : escS (pre ++ ([92, 110] ++ v.flatMap escB ++ 34 :: rest)) pre.length = (10, true, pre.length) := by
          unfold escS
          rw [if_neg (by simp only [List.length_append, List.length_cons, List.length_nil]; omega), g1, if_neg (by decide), if_pos rfl]
        have ih := val_back rest v (pre ++ [92, 110]) (acc ++ [10]) f' hf'
        have e2 : pre ++ [92, 110] ++ (v.flatMap escB ++ 34 :: rest) = pre ++ ([92, 110] ++ v.flatMap escB ++ 34 :: rest) := by simp
        rw [e2] at ih
        rw [valS, if_neg (by simp), g0, if_neg (by decide), if_pos rfl, hE, if_pos rfl]
        have lp : (pre ++ [92, 110]).length = pre.length + 2 := by simp
        rw [lp] at ih
        rw [ih]
        simp
        omega
      · have e : escB b = [b] := by unfold escB; rw [if_neg h1, if_neg h2]
        rw [e]
        have g0 : (pre ++ ([b] ++ v.flatMap escB ++ 34 :: rest)).getD pre.length 0 = b := by simp [List.getD]
        have ih := val_back rest v (pre ++ [b]) (acc ++ [b]) f' hf'
        have e2 : pre ++ [b] ++ (v.flatMap escB ++ 34 :: rest) = pre ++ ([b] ++ v.flatMap escB ++ 34 :: rest) := by simp
        rw [e2] at ih
        have n1 : ¬ b = 34 := fun h => h1 (.inr (by rw [h]; rfl))
        have n2 : ¬ b = 92 := fun h => h1 (.inl (by rw [h]; rfl))
        rw [valS, if_neg (by simp), g0, if_neg n1, if_neg n2]
        have lp : (pre ++ [b]).length = pre.length + 1 := by simp
        rw [lp] at ih
        rw [ih]
        simp
        omega
/-- a label in braces is read as it was -/
theorem lab_back (pre rest : List UInt8) (x : LbT) (hn : nameB x.1 = true) : labS (pre ++ (itemB x ++ rest)) pre.length = (x.1, x.2, true, pre.length + (itemB x).length) := by
  have hN : isN pinName x.1 = true := by
    unfold nameB at hn
    rw [Bool.and_eq_true] at hn
    exact hn.2
  have hA := (isN_all hN).2
  have e : itemB x ++ rest = x.1 ++ 61 :: (34 :: (x.2.flatMap escB ++ 34 :: rest)) := by simp [itemB, quoS, quoP]
  rw [e]
  have hm : nmS (pre ++ (x.1 ++ 61 :: (34 :: (x.2.flatMap escB ++ 34 :: rest)))) pre.length = x.1 := by
    unfold nmS
    rw [drop_at, span_app pinName _ _ _ hA (by decide), List.take_left]
  have e1 : pre ++ (x.1 ++ 61 :: (34 :: (x.2.flatMap escB ++ 34 :: rest))) = (pre ++ x.1) ++ 61 :: (34 :: (x.2.flatMap escB ++ 34 :: rest)) := by simp
  have e2 : pre ++ (x.1 ++ 61 :: (34 :: (x.2.flatMap escB ++ 34 :: rest))) = (pre ++ x.1 ++ [61]) ++ 34 :: (x.2.flatMap escB ++ 34 :: rest) := by simp
  have e3 : pre ++ (x.1 ++ 61 :: (34 :: (x.2.flatMap escB ++ 34 :: rest))) = (pre ++ x.1 ++ [61, 34]) ++ (x.2.flatMap escB ++ 34 :: rest) := by simp
  have t1 := tk_hit (s := (pre ++ x.1) ++ 61 :: (34 :: (x.2.flatMap escB ++ 34 :: rest))) (k := (pre ++ x.1).length) (c := 61) (lt_at _ _ _) (gd_at _ _ _) (by decide)
  have t2 := tk_hit (s := (pre ++ x.1 ++ [61]) ++ 34 :: (x.2.flatMap escB ++ 34 :: rest)) (k := (pre ++ x.1 ++ [61]).length) (c := 34) (lt_at _ _ _) (gd_at _ _ _) (by decide)
  rw [← e1] at t1
  rw [← e2] at t2
  have hv := val_back rest x.2 (pre ++ x.1 ++ [61, 34]) [] ((pre ++ (x.1 ++ 61 :: (34 :: (x.2.flatMap escB ++ 34 :: rest)))).length + 1) (by
    have : x.2.length ≤ (x.2.flatMap escB).length := by
      clear hn hN hA e hm e1 e2 e3 t1 t2
      generalize x.2 = v
      induction v with
      | nil => simp
      | cons b v ih =>
        rw [List.flatMap_cons, List.length_append, List.length_cons]
        have : 1 ≤ (escB b).length := by
          unfold escB
          split
          · simp
          · split <;> simp
        omega
    simp only [List.length_append, List.length_cons]
    omega)
  rw [← e3] at hv
  have l1 : (pre ++ x.1).length = pre.length + x.1.length := by simp
  have l2 : (pre ++ x.1 ++ [61]).length = pre.length + x.1.length + 1 := by simp only [List.length_append, List.length_cons, List.length_nil]
  have l3 : (pre ++ x.1 ++ [61, 34]).length = pre.length + x.1.length + 1 + 1 := by simp only [List.length_append, List.length_cons, List.length_nil]
  rw [l1] at t1
  rw [l2] at t2
  rw [l3] at hv
  unfold labS
  rw [hm, if_neg (by rw [hn]; simp), t1.1, if_neg (by simp), t1.2, t2.1, if_neg (by simp), t2.2, hv]
  simp [itemB, quoS, quoP]
  omega
/-- labels in braces -/
def tailI (t : List LbT) : List UInt8 := t.flatMap fun y => 44 :: itemB y
theorem join_item (x : LbT) (t : List LbT) : joinI (x :: t) (x :: t).length = itemB x ++ tailI t := by
  unfold joinI
  rw [List.take_length, List.map_cons, Lib.join_cons]
  congr 1
  unfold tailI Lib.joinTail
  rw [List.map_map, List.flatMap_def]
  rfl
theorem item_first {x : LbT} (hn : nameB x.1 = true) : ∃ c r, itemB x = c :: r ∧ pinName c = true := by
  unfold nameB at hn
  rw [Bool.and_eq_true] at hn
  have h := isN_all hn.2
  cases hx : x.1 with
  | nil => exact absurd hx h.1
  | cons c t =>
    refine ⟨c, t ++ [61] ++ quoS x.2, ?_, h.2 c (by rw [hx]; exact List.mem_cons_self)⟩
    unfold itemB
    rw [hx]
    rfl
theorem labs_back (rest : List UInt8) : ∀ (t : List LbT) (x : LbT) (pre : List UInt8) (acc : List LbT) (f : Nat), t.length < f → nameB x.1 = true → (∀ y ∈ t, nameB y.1 = true) →
    labsS f (pre ++ (itemB x ++ (tailI t ++ 125 :: rest))) pre.length acc = (acc ++ x :: t, true, pre.length + (itemB x ++ tailI t).length + 1)
  | [], x, pre, acc, f, hf, hn, _ => by
    obtain ⟨f', rfl⟩ : ∃ f', f = f' + 1 := ⟨f - 1, by omega⟩
    obtain ⟨c, r, hi, hc⟩ := item_first hn
    obtain ⟨q1, q2, q3, q4, q5⟩ := inName_facts hc
    have hl := lab_back pre (tailI [] ++ 125 :: rest) x hn
    have g0 : (pre ++ (itemB x ++ (tailI [] ++ 125 :: rest))).getD pre.length 0 = c := by rw [hi]; simp [List.getD]
    have t0 := tk_miss (c := 125) g0 q1 q2
    have e1 : pre ++ (itemB x ++ (tailI [] ++ 125 :: rest)) = (pre ++ itemB x) ++ 125 :: rest := by simp [tailI]
    have t1 := tk_miss (s := (pre ++ itemB x) ++ 125 :: rest) (k := (pre ++ itemB x).length) (c := 44) (gd_at _ _ _) (by decide) (by decide)
    have t2 := tk_hit (s := (pre ++ itemB x) ++ 125 :: rest) (k := (pre ++ itemB x).length) (c := 125) (lt_at _ _ _) (gd_at _ _ _) (by decide)
    rw [← e1] at t1 t2
    rw [List.length_append] at t1 t2
    rw [labsS_step, t0.1, if_neg (by simp), t0.2, hl]
    dsimp only
    rw [if_neg (by simp), t1.1, if_pos rfl, t1.2, t2.1, t2.2]
    simp [tailI]
  | y :: t, x, pre, acc, f, hf, hn, ht => by
    obtain ⟨f', rfl⟩ : ∃ f', f = f' + 1 := ⟨f - 1, by omega⟩
    obtain ⟨c, r, hi, hc⟩ := item_first hn
    obtain ⟨q1, q2, q3, q4, q5⟩ := inName_facts hc
    have hl := lab_back pre (tailI (y :: t) ++ 125 :: rest) x hn
    have g0 : (pre ++ (itemB x ++ (tailI (y :: t) ++ 125 :: rest))).getD pre.length 0 = c := by rw [hi]; simp [List.getD]
    have t0 := tk_miss (c := 125) g0 q1 q2
    have e1 : pre ++ (itemB x ++ (tailI (y :: t) ++ 125 :: rest)) = (pre ++ itemB x) ++ 44 :: (itemB y ++ (tailI t ++ 125 :: rest)) := by simp [tailI]
    have t1 := tk_hit (s := (pre ++ itemB x) ++ 44 :: (itemB y ++ (tailI t ++ 125 :: rest))) (k := (pre ++ itemB x).length) (c := 44) (lt_at _ _ _) (gd_at _ _ _) (by decide)
    rw [← e1] at t1
    rw [List.length_append] at t1
    have ih := labs_back rest t y (pre ++ itemB x ++ [44]) (acc ++ [x]) f' (by simp only [List.length_cons] at hf; omega) (ht y List.mem_cons_self) (fun z hz => ht z (List.mem_cons_of_mem _ hz))
    have e2 : pre ++ itemB x ++ [44] ++ (itemB y ++ (tailI t ++ 125 :: rest)) = pre ++ (itemB x ++ (tailI (y :: t) ++ 125 :: rest)) := by simp [tailI]
    have lp : (pre ++ itemB x ++ [44]).length = pre.length + (itemB x).length + 1 := by simp only [List.length_append, List.length_cons, List.length_nil]
    rw [e2, lp] at ih
    rw [labsS_step, t0.1, if_neg (by simp), t0.2, hl]
    dsimp only
    rw [if_neg (by simp), t1.1, if_neg (by simp), t1.2, ih]
    simp [tailI]
    omega
end Go.Proofs.YtkcgikgihbglnabDoor
