/-
  Alerts in words: rising lists of them; what Put, Sweep, Firing and Get come to; the bytes of a label set tell it. Plain facts; no walk.
-/
import Derived.Test.YtmgbcmogdjhacaaDoorLbCm
import Derived.Test.YtmgbcmogdjhacaaDoorLbBy
namespace Go.Proofs.YtmgbcmogdjhacaaDoor
open Go.RowKit Go.Shelf Go.Sort

/-- an alert -/
structure AlR where
  lbs : List LbT
  st : Int
  en : Int
def alZ : AlR := ⟨[], 0, 0⟩
/-- rising by label set -/
def riseA (M : List AlR) : Prop := M.Pairwise fun a b => cmpLs a.lbs b.lbs < 0
def ltA (M : List AlR) (x : List LbT) : List AlR := M.filter fun a => decide (cmpLs a.lbs x < 0)
def gtA (M : List AlR) (x : List LbT) : List AlR := M.filter fun a => decide (0 < cmpLs a.lbs x)
/-- an alert in its place -/
def addA (M : List AlR) (a : AlR) : List AlR := ltA M a.lbs ++ a :: gtA M a.lbs
def findA (M : List AlR) (x : List LbT) : Option AlR := M.find? fun a => decide (a.lbs = x)
/-- all of its label sets are right -/
def goodA (M : List AlR) : Prop := ∀ a ∈ M, (rightS a.lbs).1 = 0

theorem findA_none {M : List AlR} {x : List LbT} : findA M x = none ↔ ∀ a ∈ M, a.lbs ≠ x := by
  unfold findA
  rw [List.find?_eq_none]
  simp
theorem findA_some {M : List AlR} {x : List LbT} {o : AlR} (h : findA M x = some o) : o ∈ M ∧ o.lbs = x := by
  unfold findA at h
  exact ⟨List.mem_of_find?_eq_some h, by simpa using List.find?_some h⟩
theorem rise_uniq {M : List AlR} (h : riseA M) {a b : AlR} (ha : a ∈ M) (hb : b ∈ M) (e : a.lbs = b.lbs) : a = b := by
  unfold riseA at h
  induction M with
  | nil => cases ha
  | cons x t ih =>
    rw [List.pairwise_cons] at h
    rcases List.mem_cons.1 ha with ha' | ha'
    · rcases List.mem_cons.1 hb with hb' | hb'
      · rw [ha', hb']
      · have := h.1 b hb'
        rw [← ha', e, (cmpLs_zero _ _).2 rfl] at this
        omega
    · rcases List.mem_cons.1 hb with hb' | hb'
      · have := h.1 a ha'
        rw [← hb', e, (cmpLs_zero _ _).2 rfl] at this
        omega
      · exact ih h.2 ha' hb'
theorem findA_mem {M : List AlR} (h : riseA M) {a : AlR} (ha : a ∈ M) : findA M a.lbs = some a := by
  cases hf : findA M a.lbs with
  | none => exact absurd rfl (findA_none.1 hf a ha)
  | some o =>
    obtain ⟨h1, h2⟩ := findA_some hf
    rw [rise_uniq h h1 ha h2]
theorem mem_addA {M : List AlR} {a b : AlR} : b ∈ addA M a ↔ b = a ∨ (b ∈ M ∧ b.lbs ≠ a.lbs) := by
  unfold addA ltA gtA
  simp only [List.mem_append, List.mem_filter, List.mem_cons, decide_eq_true_eq]
  have hz := cmpLs_zero b.lbs a.lbs
  constructor
  · rintro (⟨h1, h2⟩ | h | ⟨h1, h2⟩)
    · exact .inr ⟨h1, fun e => by rw [hz.2 e] at h2; omega⟩
    · exact .inl h
    · exact .inr ⟨h1, fun e => by rw [hz.2 e] at h2; omega⟩
  · rintro (h | ⟨h1, h2⟩)
    · exact .inr (.inl h)
    · have : cmpLs b.lbs a.lbs ≠ 0 := fun e => h2 (hz.1 e)
      by_cases h3 : cmpLs b.lbs a.lbs < 0
      · exact .inl ⟨h1, h3⟩
      · exact .inr (.inr ⟨h1, by omega⟩)
theorem rise_addA {M : List AlR} (h : riseA M) (a : AlR) : riseA (addA M a) := by
  unfold riseA addA
  rw [List.pairwise_append]
  refine ⟨List.Pairwise.filter _ h, List.pairwise_cons.2 ⟨fun b hb => ?_, List.Pairwise.filter _ h⟩, fun x hx y hy => ?_⟩
  · have := (List.mem_filter.1 hb).2
    simp only [decide_eq_true_eq] at this
    rw [cmpLs_neg]
    omega
  · have h1 := (List.mem_filter.1 hx).2
    simp only [decide_eq_true_eq] at h1
    rcases List.mem_cons.1 hy with rfl | hy
    · exact h1
    · have h2 := (List.mem_filter.1 hy).2
      simp only [decide_eq_true_eq] at h2
      exact cmpLs_lt_trans _ _ _ h1 (by rw [cmpLs_neg]; omega)
theorem good_addA {M : List AlR} (h : goodA M) {a : AlR} (ha : (rightS a.lbs).1 = 0) : goodA (addA M a) := fun b hb => by
  rcases mem_addA.1 hb with rfl | hb
  · exact ha
  · exact h b hb.1
theorem findA_addA {M : List AlR} (h : riseA M) (a : AlR) (x : List LbT) : findA (addA M a) x = if x = a.lbs then some a else findA M x := by
  by_cases hx : x = a.lbs
  · rw [if_pos hx, hx]
    exact findA_mem (rise_addA h a) (mem_addA.2 (.inl rfl))
  · rw [if_neg hx]
    cases hf : findA M x with
    | none =>
      rw [findA_none]
      intro b hb e
      rcases mem_addA.1 hb with rfl | hb
      · exact hx e.symm
      · exact findA_none.1 hf b hb.1 e
    | some o =>
      obtain ⟨h1, h2⟩ := findA_some hf
      rw [← h2]
      exact findA_mem (rise_addA h a) (mem_addA.2 (.inr ⟨h1, fun e => hx (h2.symm.trans e)⟩))
theorem filter3 (M : List AlR) (x : List LbT) : (ltA M x).length + (gtA M x).length + (M.filter fun a => decide (a.lbs = x)).length = M.length := by
  unfold ltA gtA
  induction M with
  | nil => rfl
  | cons a t ih =>
    have hz := cmpLs_zero a.lbs x
    by_cases h0 : a.lbs = x
    · have e0 : decide (a.lbs = x) = true := decide_eq_true h0
      have e1 : decide (cmpLs a.lbs x < 0) = false := decide_eq_false (by rw [hz.2 h0]; omega)
      have e2 : decide (0 < cmpLs a.lbs x) = false := decide_eq_false (by rw [hz.2 h0]; omega)
      simp only [List.filter_cons, e0, e1, e2, if_true, Bool.false_eq_true, if_false, List.length_cons]
      omega
    · have e0 : decide (a.lbs = x) = false := decide_eq_false h0
      have h1 : cmpLs a.lbs x ≠ 0 := fun e => h0 (hz.1 e)
      by_cases h2 : cmpLs a.lbs x < 0
      · have e1 : decide (cmpLs a.lbs x < 0) = true := decide_eq_true h2
        have e2 : decide (0 < cmpLs a.lbs x) = false := decide_eq_false (by omega)
        simp only [List.filter_cons, e0, e1, e2, if_true, Bool.false_eq_true, if_false, List.length_cons]
        omega
      · have e1 : decide (cmpLs a.lbs x < 0) = false := decide_eq_false h2
        have e2 : decide (0 < cmpLs a.lbs x) = true := decide_eq_true (by omega)
        simp only [List.filter_cons, e0, e1, e2, if_true, Bool.false_eq_true, if_false, List.length_cons]
        omega
theorem filter_one {M : List AlR} (h : riseA M) {a : AlR} (ha : a ∈ M) : (M.filter fun b => decide (b.lbs = a.lbs)).length = 1 := by
  have hp := List.Pairwise.filter (fun b : AlR => decide (b.lbs = a.lbs)) h
  have hm : a ∈ M.filter fun b => decide (b.lbs = a.lbs) := List.mem_filter.2 ⟨ha, by simp⟩
  generalize hF : (M.filter fun b => decide (b.lbs = a.lbs)) = F at *
  match F with
  | [] => cases hm
  | [_] => rfl
  | x :: y :: t =>
    exfalso
    have hx : x ∈ M.filter fun b => decide (b.lbs = a.lbs) := by rw [hF]; simp
    have hy : y ∈ M.filter fun b => decide (b.lbs = a.lbs) := by rw [hF]; simp
    have e1 := (List.mem_filter.1 hx).2
    have e2 := (List.mem_filter.1 hy).2
    simp only [decide_eq_true_eq] at e1 e2
    rw [List.pairwise_cons] at hp
    have := hp.1 y (by simp)
    rw [e1, e2, (cmpLs_zero _ _).2 rfl] at this
    omega
theorem len_addA {M : List AlR} (h : riseA M) (a : AlR) : (addA M a).length = if (findA M a.lbs).isSome then M.length else M.length + 1 := by
  have h3 := filter3 M a.lbs
  have hl : (addA M a).length = (ltA M a.lbs).length + ((gtA M a.lbs).length + 1) := by unfold addA; simp
  cases hf : findA M a.lbs with
  | none =>
    have : (M.filter fun b => decide (b.lbs = a.lbs)) = [] := by
      rw [List.filter_eq_nil_iff]
      intro b hb
      simpa using findA_none.1 hf b hb
    rw [this] at h3
    simp only [List.length_nil] at h3
    simp only [Option.isSome_none, Bool.false_eq_true, if_false]
    omega
  | some o =>
    obtain ⟨h1, h2⟩ := findA_some hf
    have := filter_one h h1
    rw [h2] at this
    rw [this] at h3
    simp only [Option.isSome_some, if_true]
    omega

/-! ### what an alert that comes becomes -/
def isT (t : Int) : Prop := 0 ≤ t ∧ t ≤ 1125899906842624
instance (t : Int) : Decidable (isT t) := by unfold isT; infer_instance
def isB (t : Int) : Prop := 0 ≤ t ∧ t ≤ 1126999418470400
instance (t : Int) : Decidable (isB t) := by unfold isB; infer_instance
def enD (R now : Int) (a : AlR) : Int := if a.en = 0 then now + R else a.en
def stD (now : Int) (a : AlR) : Int := if a.st = 0 then now else a.st
/-- its error -/
def dateE (R now : Int) (a : AlR) : Int :=
  if ¬ isT now then 1 else if (rightS a.lbs).1 ≠ 0 ∨ a.lbs = [] then 41
  else if ¬ isB a.st ∨ ¬ isB a.en ∨ (a.en ≠ 0 ∧ a.en < a.st) then 1
  else if enD R now a < stD now a then 1 else 0
theorem dateE_ok {R now : Int} {a : AlR} (h : dateE R now a = 0) : isT now ∧ (rightS a.lbs).1 = 0 ∧ a.lbs ≠ [] ∧ isB a.st ∧ isB a.en ∧ stD now a ≤ enD R now a := by
  unfold dateE at h
  by_cases h1 : isT now
  · rw [if_neg (fun f => f h1)] at h
    by_cases h2 : (rightS a.lbs).1 ≠ 0 ∨ a.lbs = []
    · rw [if_pos h2] at h; omega
    · rw [if_neg h2] at h
      by_cases h3 : ¬ isB a.st ∨ ¬ isB a.en ∨ (a.en ≠ 0 ∧ a.en < a.st)
      · rw [if_pos h3] at h; omega
      · rw [if_neg h3] at h
        by_cases h4 : enD R now a < stD now a
        · rw [if_pos h4] at h; omega
        · refine ⟨h1, Decidable.byContradiction fun f => h2 (.inl f), fun f => h2 (.inr f), Decidable.byContradiction fun f => h3 (.inl f), Decidable.byContradiction fun f => h3 (.inr (.inl f)), by omega⟩
  · rw [if_pos h1] at h; omega
theorem dateE_in (R now : Int) (a : AlR) : dateE R now a = 0 ∨ dateE R now a = 1 ∨ dateE R now a = 41 := by
  unfold dateE
  split
  · simp
  · split
    · simp
    · split
      · simp
      · split <;> simp
/-- the alert that then stands there -/
def newA (R now : Int) (a : AlR) (M : List AlR) : AlR :=
  ⟨a.lbs, match findA M a.lbs with | some o => if now < o.en ∧ o.st < stD now a then o.st else stD now a | none => stD now a, enD R now a⟩
def putE (R most now : Int) (a : AlR) (M : List AlR) : Int :=
  if dateE R now a ≠ 0 then dateE R now a else if findA M a.lbs = none ∧ most ≤ (M.length : Int) then 8 else 0
def putM (R most now : Int) (a : AlR) (M : List AlR) : List AlR := if putE R most now a M = 0 then addA M (newA R now a M) else M
theorem putE_ok {R most now : Int} {a : AlR} {M : List AlR} (h : putE R most now a M = 0) : dateE R now a = 0 ∧ ¬ (findA M a.lbs = none ∧ most ≤ (M.length : Int)) := by
  unfold putE at h
  by_cases h1 : dateE R now a = 0
  · rw [if_neg (by simpa using h1)] at h
    by_cases h2 : findA M a.lbs = none ∧ most ≤ (M.length : Int)
    · rw [if_pos h2] at h; omega
    · exact ⟨h1, h2⟩
  · rw [if_pos h1] at h
    exact absurd h h1
/-- the set stands well -/
def okM (most : Int) (M : List AlR) : Prop := riseA M ∧ goodA M ∧ (∀ a ∈ M, a.lbs ≠ [] ∧ 0 ≤ a.st ∧ a.st ≤ a.en ∧ a.en ≤ 1126999418470400) ∧ (M.length : Int) ≤ most ∧ most ≤ 500
theorem okM_put {R most now : Int} {a : AlR} {M : List AlR} (hR : 1 ≤ R ∧ R ≤ 1099511627776) (h : okM most M) : okM most (putM R most now a M) := by
  unfold putM
  by_cases hE : putE R most now a M = 0
  · rw [if_pos hE]
    obtain ⟨h1, h2⟩ := putE_ok hE
    obtain ⟨t1, t2, t3, t4, t5, t6⟩ := dateE_ok h1
    obtain ⟨m1, m2, m3, m4, m5⟩ := h
    unfold isT at t1
    unfold isB at t4 t5
    have hst : 0 ≤ stD now a := by unfold stD; split <;> omega
    have hen : enD R now a ≤ 1126999418470400 := by unfold enD; split <;> omega
    refine ⟨rise_addA m1 _, good_addA m2 t2, fun b hb => ?_, ?_, m5⟩
    · rcases mem_addA.1 hb with rfl | hb
      · refine ⟨t3, ?_, ?_, hen⟩
        · show 0 ≤ (newA R now a M).st
          unfold newA
          dsimp only
          split
          · rename_i o ho
            have := m3 o (findA_some ho).1
            split <;> omega
          · exact hst
        · show (newA R now a M).st ≤ enD R now a
          unfold newA
          dsimp only
          split
          · split <;> omega
          · exact t6
      · exact m3 b hb.1
    · rw [len_addA m1]
      have e : (newA R now a M).lbs = a.lbs := rfl
      rw [e]
      cases hf : findA M a.lbs with
      | none => simp only [Option.isSome_none, Bool.false_eq_true, if_false]; have : ¬ most ≤ (M.length : Int) := fun f => h2 ⟨hf, f⟩; omega
      | some o => simp only [Option.isSome_some, if_true]; exact m4
  · rw [if_neg hE]
    exact h
/-! ### what is swept, what fires -/
def sweepM (now keep : Int) (M : List AlR) : List AlR := M.filter fun a => decide (now - keep < a.en)
def fireM (now : Int) (M : List AlR) : List AlR := M.filter fun a => decide (a.st ≤ now) && decide (now < a.en)
theorem okM_filter {most : Int} {M : List AlR} (p : AlR → Bool) (h : okM most M) : okM most (M.filter p) := by
  obtain ⟨m1, m2, m3, m4, m5⟩ := h
  refine ⟨List.Pairwise.filter _ m1, fun a ha => m2 a (List.mem_filter.1 ha).1, fun a ha => m3 a (List.mem_filter.1 ha).1, ?_, m5⟩
  have := List.length_filter_le p M
  omega
/-! ### a label set's bytes tell it -/
def keyB (ls : List LbT) : List UInt8 := putAt [] ls ls.length
theorem uv_inj : ∀ (n m : Nat) (x y : List UInt8), uv n ++ x = uv m ++ y → n = m ∧ x = y := by
  intro n
  induction n using Nat.strongRecOn with
  | _ n ih =>
    intro m x y h
    by_cases hn : n < 128
    · rw [uv_small hn] at h
      by_cases hm : m < 128
      · rw [uv_small hm] at h
        injection h with h1 h2
        refine ⟨?_, h2⟩
        have := congrArg UInt8.toNat h1
        simp only [UInt8.toNat_ofNat'] at this
        omega
      · rw [uv_big hm] at h
        injection h with h1 h2
        exfalso
        have := congrArg UInt8.toNat h1
        rw [lowB_nat] at this
        simp only [UInt8.toNat_ofNat'] at this
        omega
    · rw [uv_big hn] at h
      by_cases hm : m < 128
      · rw [uv_small hm] at h
        injection h with h1 h2
        exfalso
        have := congrArg UInt8.toNat h1
        rw [lowB_nat] at this
        simp only [UInt8.toNat_ofNat'] at this
        omega
      · rw [uv_big hm] at h
        injection h with h1 h2
        obtain ⟨h3, h4⟩ := ih (n / 128) (by omega) (m / 128) x y h2
        refine ⟨?_, h4⟩
        have := congrArg UInt8.toNat h1
        rw [lowB_nat, lowB_nat] at this
        omega
theorem lbB_inj {x y : LbT} {r s : List UInt8} (h : lbB x ++ r = lbB y ++ s) : x = y ∧ r = s := by
  unfold lbB at h
  simp only [List.append_assoc] at h
  obtain ⟨h1, h2⟩ := uv_inj _ _ _ _ h
  obtain ⟨h3, h4⟩ := List.append_inj h2 h1
  obtain ⟨h5, h6⟩ := uv_inj _ _ _ _ h4
  obtain ⟨h7, h8⟩ := List.append_inj h6 h5
  exact ⟨Prod.ext h3 h7, h8⟩
theorem flat_inj : ∀ (a b : List LbT), a.length = b.length → a.flatMap lbB = b.flatMap lbB → a = b
  | [], [], _, _ => rfl
  | [], _ :: _, h, _ => by simp at h
  | _ :: _, [], h, _ => by simp at h
  | x :: a, y :: b, h, e => by
    simp only [List.flatMap_cons] at e
    obtain ⟨h1, h2⟩ := lbB_inj e
    rw [h1, flat_inj a b (by simpa using h) h2]
theorem keyB_inj {a b : List LbT} (h : keyB a = keyB b) : a = b := by
  unfold keyB putAt at h
  simp only [List.nil_append, List.take_length] at h
  obtain ⟨h1, h2⟩ := uv_inj _ _ _ _ h
  exact flat_inj a b h1 h2
theorem keyB_len {ls : List LbT} (h : (rightS ls).1 = 0) : (keyB ls).length ≤ 6000 := by
  have h1 := put_len [] h ls.length (Nat.le_refl _)
  have h2 := (right_short h).1
  unfold keyB
  have : ls.length * 340 ≤ 16 * 340 := Nat.mul_le_mul_right _ h2
  simp only [List.length_nil] at h1
  omega
end Go.Proofs.YtmgbcmogdjhacaaDoor
