/-
  A label set through its text, and through its bytes, is what it was: plain facts of lists; nothing of the program is in it.
-/
import Derived.Test.YtkcgikgihbglnabDoorLbBk
import Derived.Test.YtkcgikgihbglnabDoorVmD
import Derived.Test.YtkcgikgihbglnabDoorVmB
namespace Go.Proofs.YtkcgikgihbglnabDoor

theorem skp_len (s : List UInt8) : skp s s.length = s.length := skpNo (fun h => absurd h (Nat.lt_irrefl _))
theorem met_all {a : List UInt8} (h : metricB a = true) : a.length ≤ 256 ∧ a ≠ [] ∧ ∀ x ∈ a, pinMetric x = true := by
  unfold metricB at h
  rw [Bool.and_eq_true, decide_eq_true_eq] at h
  exact ⟨h.1, isN_all h.2⟩
/-- a name alone -/
theorem set_back1 {a : List UInt8} (ha : metricB a = true) : setS a 0 = ([(mnB, a)], true, a.length) := by
  obtain ⟨-, hne, hall⟩ := met_all ha
  have h0 : skp a 0 = 0 := skpNo (fun hk => by
    cases a with
    | nil => exact absurd rfl hne
    | cons c t => exact (inMetric_facts (hall c List.mem_cons_self)).1)
  have hm : mtS a 0 = a := by
    unfold mtS
    rw [List.drop_zero, span_whole _ _ hall, List.take_length]
  have ht := tk_end (s := a) (k := a.length) (c := 123) (Nat.le_refl _)
  unfold setS
  rw [h0, hm, if_neg hne, if_neg (by rw [ha]; simp), Nat.zero_add, ht.1, if_neg (by simp), ht.2, skp_len]
  simp
/-- labels in braces, perhaps with a name ahead -/
theorem set_back2 {a : List UInt8} {x : LbT} {t : List LbT} (ha : a = [] ∨ metricB a = true) (hx : nameB x.1 = true) (ht : ∀ y ∈ t, nameB y.1 = true) :
    (setS (a ++ [123] ++ joinI (x :: t) (x :: t).length ++ [125]) 0).1 = (if a = [] then [] else [(mnB, a)]) ++ (x :: t) ∧ (setS (a ++ [123] ++ joinI (x :: t) (x :: t).length ++ [125]) 0).2.1 = true := by
  have hall : ∀ c ∈ a, pinMetric c = true := by
    rcases ha with rfl | h
    · intro c hc; cases hc
    · exact (met_all h).2.2
  rw [join_item]
  have e0 : a ++ [123] ++ (itemB x ++ tailI t) ++ [125] = a ++ 123 :: (itemB x ++ (tailI t ++ 125 :: [])) := by simp
  rw [e0]
  have hs0 : skp (a ++ 123 :: (itemB x ++ (tailI t ++ 125 :: []))) 0 = 0 := skpNo (fun _ => by
    cases a with
    | nil => exact (by decide : pisBlank 123 = false)
    | cons c r => exact (inMetric_facts (hall c List.mem_cons_self)).1)
  have hm : mtS (a ++ 123 :: (itemB x ++ (tailI t ++ 125 :: []))) 0 = a := by
    unfold mtS
    rw [List.drop_zero, span_app _ _ _ _ hall (by decide), List.take_left]
  have hk := tk_hit (s := a ++ 123 :: (itemB x ++ (tailI t ++ 125 :: []))) (k := a.length) (c := 123) (lt_at _ _ _) (gd_at _ _ _) (by decide)
  have hl := labs_back [] t x (a ++ [123]) [] ((a ++ 123 :: (itemB x ++ (tailI t ++ 125 :: []))).length + 1) (by
    have : t.length ≤ (tailI t).length := by
      clear ha hall e0 hs0 hm hk hx ht
      unfold tailI
      induction t with
      | nil => simp
      | cons y t ih => rw [List.flatMap_cons, List.length_append, List.length_cons, List.length_cons]; omega
    simp only [List.length_append, List.length_cons]
    omega) hx ht
  have e1 : a ++ [123] ++ (itemB x ++ (tailI t ++ 125 :: [])) = a ++ 123 :: (itemB x ++ (tailI t ++ 125 :: [])) := by simp
  rw [e1] at hl
  have e2 : (a ++ [123]).length + (itemB x ++ tailI t).length + 1 = (a ++ 123 :: (itemB x ++ (tailI t ++ 125 :: []))).length := by simp; omega
  have lp : (a ++ [123]).length = a.length + 1 := by simp
  rw [e2, lp, List.nil_append] at hl
  have hbr : ∀ ac, braS (a ++ 123 :: (itemB x ++ (tailI t ++ 125 :: []))) a.length ac = (ac ++ (x :: t), true, (a ++ 123 :: (itemB x ++ (tailI t ++ 125 :: []))).length) := fun ac => by
    unfold braS
    rw [hk.2, hl]
    dsimp only
    rw [if_neg (by simp), skp_len]
    simp
  unfold setS
  rw [hs0, hm, Nat.zero_add]
  by_cases hae : a = []
  · have hk1 := hk.1
    have hb1 := hbr []
    rw [if_pos hae, if_pos hae]
    rw [show a.length = 0 by rw [hae]; rfl] at hk1 hb1
    rw [hk1, if_pos rfl, hb1]
    exact ⟨rfl, rfl⟩
  · have hmb : metricB a = true := ha.resolve_left hae
    rw [if_neg hae, if_neg hae, if_neg (by rw [hmb]; simp), hk.1, if_pos rfl, hbr]
    exact ⟨rfl, rfl⟩

/-! ### what a right label set is -/
theorem right_one {ls : List LbT} (h : (rightS ls).1 = 0) : ∀ x ∈ ls, oneE x.1 x.2 = 0 := by
  intro x hx
  unfold rightS at h
  by_cases h16 : 16 < ls.length
  · rw [if_pos h16] at h; cases h
  · rw [if_neg h16] at h
    obtain ⟨j, hj, rfl⟩ := List.getElem_of_mem hx
    have he := firstAt_ok ls _ _ h j (by omega) (by omega)
    have e1 : ls.getD j ([], []) = ls[j] := by simp [List.getD, hj]
    unfold errAt at he
    rw [e1] at he
    by_cases h3 : oneE ls[j].1 ls[j].2 = 0
    · exact h3
    · rw [if_pos h3] at he
      exact absurd he h3
theorem one_facts {n v : List UInt8} (h : oneE n v = 0) : nameB n = true ∧ v ≠ [] ∧ v.length ≤ 256 ∧ Go.Lib.validD v = true := by
  unfold oneE at h
  by_cases h1 : nameB n = false
  · rw [if_pos h1] at h; cases h
  · rw [if_neg h1] at h
    by_cases h2 : v = []
    · rw [if_pos h2] at h; cases h
    · rw [if_neg h2] at h
      by_cases h3 : 256 < v.length
      · rw [if_pos h3] at h; cases h
      · rw [if_neg h3] at h
        by_cases h4 : Go.Lib.validD v = false
        · rw [if_pos h4] at h; cases h
        · exact ⟨by simpa using h1, h2, by omega, by simpa using h4⟩
def riseN (a : List LbT) : Prop := a.Pairwise fun x y => x.1 < y.1
theorem rise_of_adj : ∀ {a : List LbT}, (∀ j, 0 < j → j < a.length → (a.getD (j - 1) ([], [])).1 < (a.getD j ([], [])).1) → riseN a
  | [], _ => List.Pairwise.nil
  | x :: a, h => by
    have ih : riseN a := rise_of_adj (fun j h1 h2 => by
      have := h (j + 1) (by omega) (by simpa using h2)
      obtain ⟨k, rfl⟩ : ∃ k, j = k + 1 := ⟨j - 1, by omega⟩
      simpa using this)
    refine List.pairwise_cons.2 ⟨fun z hz => ?_, ih⟩
    cases a with
    | nil => cases hz
    | cons y a =>
      have h1 : x.1 < y.1 := by simpa using h 1 (by omega) (by simp)
      rcases List.mem_cons.1 hz with rfl | hz
      · exact h1
      · exact List.lt_trans h1 ((List.pairwise_cons.1 ih).1 z hz)
theorem right_rise {ls : List LbT} (h : (rightS ls).1 = 0) : ls.length ≤ 16 ∧ riseN ls := by
  unfold rightS at h
  by_cases h16 : 16 < ls.length
  · rw [if_pos h16] at h; cases h
  · rw [if_neg h16] at h
    refine ⟨by omega, rise_of_adj fun j h1 h2 => ?_⟩
    have he := firstAt_ok ls _ _ h j (by omega) (by omega)
    unfold errAt at he
    by_cases h3 : oneE (ls.getD j ([], [])).1 (ls.getD j ([], [])).2 = 0
    · rw [if_neg (by simpa using h3)] at he
      by_cases h4 : (ls.getD (j - 1) ([], [])).1 < (ls.getD j ([], [])).1
      · exact h4
      · rw [if_pos ⟨h1, h4⟩] at he; cases he
    · rw [if_pos h3] at he
      exact absurd he h3
theorem rise_srt {a : List LbT} (h : riseN a) : srtN a := h.imp fun hab hba => List.lt_irrefl _ (List.lt_trans hab hba)
theorem rise_nd {a : List LbT} (h : riseN a) : ndN a := h.imp fun hab e => by rw [e] at hab; exact List.lt_irrefl _ hab
/-- turned about, what is right is made of itself -/
theorem made_back {a ls : List LbT} (hp : a.Perm ls) (h : (rightS ls).1 = 0) : madeS a = (ls, 0, 0) := by
  have hr := (right_rise h).2
  have hnd := rise_nd hr
  have hna : ndN a := (ndN_perm hp).2 hnd
  have hf : fullL ls = ls := List.filter_eq_self.2 fun x hx => by
    have := (one_facts (right_one h x hx)).2.1
    cases hv : x.2 with
    | nil => exact absurd hv this
    | cons _ _ => rfl
  have e : sortN (fullL a) = ls := by
    have e1 : sortN (fullL a) = sortN (fullL ls) := sort_uniq ((sortN_perm _).trans (full_perm hp)) (sortN_srt _) (full_nd hnd)
    rw [e1, hf]
    exact (sort_uniq (.refl ls) (rise_srt hr) hnd).symm
  rw [madeS_nd hna, e, if_pos h]
theorem get_perm (nm : List UInt8) : ∀ {ls : List LbT}, ndN ls → getL ls nm ≠ [] → ((nm, getL ls nm) :: pickL (p_Without [nm]) ls).Perm ls
  | [], _, h => absurd rfl h
  | x :: t, hn, h => by
    have hn' := List.pairwise_cons.1 hn
    have hW : ∀ s, p_Without [nm] s = !decide (s = nm) := fun s => by unfold p_Without hasN; simp
    rw [getL] at h ⊢
    by_cases e : x.1 = nm
    · have hp : pickL (p_Without [nm]) (x :: t) = t := by
        unfold pickL
        rw [List.filter_cons_of_neg (by rw [hW, e]; simp)]
        exact List.filter_eq_self.2 fun y hy => by
          rw [hW, decide_eq_false (fun h2 => hn'.1 y hy (by rw [e, h2]))]
          rfl
      rw [if_pos e, hp, ← e]
    · rw [if_neg e] at h ⊢
      have ih := get_perm nm hn'.2 h
      have hp : pickL (p_Without [nm]) (x :: t) = x :: pickL (p_Without [nm]) t := by
        unfold pickL
        rw [List.filter_cons_of_pos (by rw [hW, decide_eq_false e]; rfl)]
      rw [hp]
      exact (List.Perm.swap x _ _).trans (ih.cons x)
/-- through its text a right label set is what it was -/
theorem parse_back {ls : List LbT} (h : (rightS ls).1 = 0) : parseS (printS ls).1 = (ls, 0, 0) ∧ (printS ls).2 = 0 := by
  have hnm : ∀ y ∈ ls, nameB y.1 = true := fun y hy => (one_facts (right_one h y hy)).1
  have hfew := right_fewL h
  have hnd := rise_nd (right_rise h).2
  have key : ∀ s : List UInt8, s.length ≤ 65536 → (setS s 0).2.1 = true → (setS s 0).1.Perm ls → parseS s = (ls, 0, 0) := fun s h1 h2 h3 => by
    unfold parseS
    rw [if_neg (by omega), h2, if_neg (by simp)]
    exact made_back h3 h
  unfold printS
  rw [if_neg (by simpa using h)]
  by_cases hM : metricB (getL ls mnB) = true
  · have hA : aheadP ls = getL ls mnB := by unfold aheadP; rw [if_pos hM]
    have hR : restP ls = pickL (p_Without [mnB]) ls := by unfold restP; rw [if_pos hM]
    obtain ⟨hl, hne, -⟩ := met_all hM
    have hperm := get_perm mnB hnd hne
    have hrf : fewL (restP ls) := by rw [hR]; exact hfew.pick _
    rw [hA]
    cases hr : restP ls with
    | nil =>
      rw [if_pos ⟨hM, rfl⟩]
      rw [← hR, hr] at hperm
      have hs := set_back1 hM
      exact ⟨key _ (by show (getL ls mnB).length ≤ 65536; omega) (by show (setS (getL ls mnB) 0).2.1 = true; rw [hs]) (by show (setS (getL ls mnB) 0).1.Perm ls; rw [hs]; exact hperm), rfl⟩
    | cons x t =>
      rw [if_neg (by rintro ⟨_, h2⟩; cases h2)]
      rw [← hR, hr] at hperm
      have hin : ∀ y ∈ x :: t, nameB y.1 = true := fun y hy => hnm y (by rw [← hr, hR] at hy; exact (List.mem_filter.1 hy).1)
      have hs := set_back2 (a := getL ls mnB) (x := x) (t := t) (.inr hM) (hin x List.mem_cons_self) (fun y hy => hin y (List.mem_cons_of_mem _ hy))
      rw [if_neg hne] at hs
      have hj := joinI_len hrf (restP ls).length (Nat.le_refl _)
      have hrl := hrf.1
      rw [hr] at hj hrl
      refine ⟨key _ ?_ hs.2 (by rw [hs.1]; exact hperm), rfl⟩
      simp only [List.length_append, List.length_cons, List.length_nil] at hj hrl ⊢
      omega
  · have hA : aheadP ls = [] := by unfold aheadP; rw [if_neg hM]
    have hR : restP ls = ls := by unfold restP; rw [if_neg hM]
    rw [hA, hR, if_neg (fun h2 => hM h2.1)]
    cases hr : ls with
    | nil =>
      have hs : setS ([] ++ [123] ++ joinI [] ([] : List LbT).length ++ [125]) 0 = ([], true, 2) := by decide
      rw [hr] at key
      exact ⟨key _ (by decide) (by show (setS ([] ++ [123] ++ joinI [] ([] : List LbT).length ++ [125]) 0).2.1 = true; rw [hs]) (by show (setS ([] ++ [123] ++ joinI [] ([] : List LbT).length ++ [125]) 0).1.Perm []; rw [hs]), rfl⟩
    | cons x t =>
      rw [hr] at hnm
      have hs := set_back2 (a := []) (x := x) (t := t) (.inl rfl) (hnm x List.mem_cons_self) (fun y hy => hnm y (List.mem_cons_of_mem _ hy))
      rw [if_pos rfl] at hs
      have hj := joinI_len hfew ls.length (Nat.le_refl _)
      have hrl := hfew.1
      rw [hr] at hj hrl key
      refine ⟨key _ ?_ hs.2 (by show (setS ([] ++ [123] ++ joinI (x :: t) (x :: t).length ++ [125]) 0).1.Perm (x :: t); rw [hs.1]; first | done | exact List.Perm.refl _), rfl⟩
      simp only [List.length_append, List.length_cons, List.length_nil] at hj hrl ⊢
      omega

/-! ### through bytes -/
theorem name_valid {n : List UInt8} (h : nameB n = true) : Go.Lib.validD n = true := by
  unfold nameB at h
  rw [Bool.and_eq_true] at h
  have hA := (isN_all h.2).2
  have := Go.Lib.validD_ascii n.length n (fun b hb => (inName_facts (hA b (List.mem_of_mem_take hb))).2.2.2.2)
  rw [this, List.drop_length]
  rfl
theorem name_len {n : List UInt8} (h : nameB n = true) : n.length ≤ 64 := by
  unfold nameB at h
  rw [Bool.and_eq_true, decide_eq_true_eq] at h
  exact h.1
theorem tSpec_at (pre t rest : List UInt8) (m : Int) (hm : (t.length : Int) ≤ m) (ht : t.length ≤ 256) (hv : Go.Lib.validD t = true) : tSpec (pre ++ (uv t.length ++ t ++ rest)) (pre.length : Int) m = (t, (((pre ++ (uv t.length ++ t)).length : Nat) : Int), 0) := by
  have h := uSpec_uv pre (t ++ rest) t.length (by omega)
  rw [← List.append_assoc (uv t.length)] at h
  have e : ((pre ++ (uv t.length ++ t ++ rest)).drop (((pre.length + (uv t.length).length : Nat) : Int)).toNat).take t.length = t := by
    rw [Int.toNat_natCast, show pre ++ (uv t.length ++ t ++ rest) = (pre ++ uv t.length) ++ (t ++ rest) by simp, show pre.length + (uv t.length).length = (pre ++ uv t.length).length by simp, List.drop_left, List.take_left]
  unfold tSpec
  rw [h]
  simp only [e, hv]
  rw [if_neg (by simp only [List.length_append]; omega), if_neg (by simp), if_neg (by omega), if_neg (by simp only [List.length_append]; omega), if_neg (by simp)]
  simp
  omega
theorem one_back (pre rest : List UInt8) (x : LbT) (h : oneE x.1 x.2 = 0) : oneS (pre ++ (lbB x ++ rest)) (pre.length : Int) = (x.1, x.2, (((pre ++ lbB x).length : Nat) : Int), 0) := by
  obtain ⟨h1, h2, h3, h4⟩ := one_facts h
  have hl := name_len h1
  have t1 := tSpec_at pre x.1 (uv x.2.length ++ x.2 ++ rest) 64 (by omega) (by omega) (name_valid h1)
  have t2 := tSpec_at (pre ++ (uv x.1.length ++ x.1)) x.2 rest 256 (by omega) h3 h4
  have e1 : pre ++ (uv x.1.length ++ x.1 ++ (uv x.2.length ++ x.2 ++ rest)) = pre ++ (lbB x ++ rest) := by simp [lbB]
  have e2 : pre ++ (uv x.1.length ++ x.1) ++ (uv x.2.length ++ x.2 ++ rest) = pre ++ (lbB x ++ rest) := by simp [lbB]
  rw [e1] at t1
  rw [e2] at t2
  have e3 : pre ++ (uv x.1.length ++ x.1) ++ (uv x.2.length ++ x.2) = pre ++ lbB x := by simp [lbB]
  rw [e3] at t2
  unfold oneS
  rw [t1]
  dsimp only
  rw [if_neg (by simp), t2]
  simp
theorem readN_back (rest : List UInt8) : ∀ (ls : List LbT) (pre : List UInt8) (acc : List LbT), (∀ x ∈ ls, oneE x.1 x.2 = 0) → readN (pre ++ (ls.flatMap lbB ++ rest)) ls.length (pre.length : Int) acc = (acc ++ ls, (((pre ++ ls.flatMap lbB).length : Nat) : Int), 0)
  | [], pre, acc, _ => by simp [readN]
  | x :: t, pre, acc, h => by
    have h1 := one_back pre (t.flatMap lbB ++ rest) x (h x List.mem_cons_self)
    have ih := readN_back rest t (pre ++ lbB x) (acc ++ [x]) (fun y hy => h y (List.mem_cons_of_mem _ hy))
    have e1 : pre ++ ((x :: t).flatMap lbB ++ rest) = pre ++ (lbB x ++ (t.flatMap lbB ++ rest)) := by simp
    have e2 : pre ++ lbB x ++ (t.flatMap lbB ++ rest) = pre ++ (lbB x ++ (t.flatMap lbB ++ rest)) := by simp
    rw [e2] at ih
    rw [e1, List.length_cons, readN, h1]
    dsimp only
    rw [if_neg (by simp), ih]
    simp
/-- through its bytes a right label set is what it was -/
theorem read_back (b : List UInt8) {ls : List LbT} (h : (rightS ls).1 = 0) : readS (putAt b ls ls.length) (b.length : Int) = (ls, (((putAt b ls ls.length).length : Nat) : Int), 0) := by
  have hl := (right_rise h).1
  have e0 : putAt b ls ls.length = b ++ (uv ls.length ++ ls.flatMap lbB) := by unfold putAt; rw [List.take_length]; simp
  have hu := uSpec_uv b (ls.flatMap lbB) ls.length (by omega)
  have hr := readN_back [] ls (b ++ uv ls.length) [] (right_one h)
  rw [List.append_nil, List.nil_append, List.append_assoc, List.length_append] at hr
  unfold readS
  rw [e0, hu]
  dsimp only
  rw [if_neg (by simp), if_neg (by omega), hr]
  dsimp only
  rw [if_neg (by simp), if_neg (by simpa using h)]
end Go.Proofs.YtkcgikgihbglnabDoor
