/-
  Records of marks: what is written and read, in words.
-/
import Derived.Test.YtbnieljkadcaoaaGreatDoorVmD
import Derived.Test.YtbnieljkadcaoaaGreatDoorVmB
import Derived.Test.YtbnieljkadcaoaaGreatDoorNf7
namespace Go.Proofs.YtbnieljkadcaoaaGreatDoor
open Go.RowKit

theorem isN_all {p : UInt8 → Bool} {a : List UInt8} (h : isN p a = true) : a ≠ [] ∧ ∀ x ∈ a, p x = true := by
  cases a with
  | nil => cases h
  | cons c t =>
    refine ⟨by simp, fun x hx => ?_⟩
    simp only [isN, Bool.and_eq_true, decide_eq_true_eq] at h
    obtain ⟨j, hj, e⟩ := List.getElem_of_mem hx
    have h1 := span_in p (c :: t) j (by rw [h.2]; simpa using hj)
    rw [show (c :: t).getD j 0 = (c :: t)[j] from by rw [List.getD, List.getElem?_eq_getElem hj]; rfl, e] at h1
    exact h1
theorem inName_facts {c : UInt8} (h : pinName c = true) : pisBlank c = false ∧ c ≠ 125 ∧ c ≠ 44 ∧ c ≠ 123 ∧ c.toNat < 128 := by
  unfold pinName at h
  rw [decide_eq_true_eq] at h
  refine ⟨?_, ?_, ?_, ?_, by omega⟩
  · unfold pisBlank; exact decide_eq_false (by omega)
  · rintro rfl; revert h; decide
  · rintro rfl; revert h; decide
  · rintro rfl; revert h; decide
theorem firstAt_ok (ls : List LbT) : ∀ (f i : Nat), (firstAt ls f i).1 = 0 → ∀ j, i ≤ j → j < i + f → errAt ls j = 0
  | 0, i, _, j, h1, h2 => by omega
  | f + 1, i, h, j, h1, h2 => by
    rw [firstAt] at h
    by_cases he : errAt ls i = 0
    · rw [if_neg (by simpa using he)] at h
      by_cases hj : j = i
      · rw [hj]; exact he
      · exact firstAt_ok ls f (i + 1) h j (by omega) (by omega)
    · rw [if_pos he] at h
      exact absurd h he
theorem right_one {ls : List LbT} (h : (rightS ls).1 = 0) : ∀ x ∈ ls, oneE x.1 x.2 = 0 := by
  intro x hx
  unfold rightS at h
  by_cases h16 : 16 < ls.length
  · rw [if_pos h16] at h; cases h
  · rw [if_neg h16] at h
    obtain ⟨j, hj, rfl⟩ := List.getElem_of_mem hx
    have he := firstAt_ok ls _ _ h j (by omega) (by omega)
    have e1 : ls.getD j ([], []) = ls[j] := by simp [List.getD, hj]
    unfold errAt at he
    rw [e1] at he
    by_cases h3 : oneE ls[j].1 ls[j].2 = 0
    · exact h3
    · rw [if_pos h3] at he
      exact absurd he h3
theorem one_facts {n v : List UInt8} (h : oneE n v = 0) : nameB n = true ∧ v ≠ [] ∧ v.length ≤ 256 ∧ Go.Lib.validD v = true := by
  unfold oneE at h
  by_cases h1 : nameB n = false
  · rw [if_pos h1] at h; cases h
  · rw [if_neg h1] at h
    by_cases h2 : v = []
    · rw [if_pos h2] at h; cases h
    · rw [if_neg h2] at h
      by_cases h3 : 256 < v.length
      · rw [if_pos h3] at h; cases h
      · rw [if_neg h3] at h
        by_cases h4 : Go.Lib.validD v = false
        · rw [if_pos h4] at h; cases h
        · exact ⟨by simpa using h1, h2, by omega, by simpa using h4⟩
theorem name_valid {n : List UInt8} (h : nameB n = true) : Go.Lib.validD n = true := by
  unfold nameB at h
  rw [Bool.and_eq_true] at h
  have hA := (isN_all h.2).2
  have := Go.Lib.validD_ascii n.length n (fun b hb => (inName_facts (hA b (List.mem_of_mem_take hb))).2.2.2.2)
  rw [this, List.drop_length]
  rfl
theorem name_len {n : List UInt8} (h : nameB n = true) : n.length ≤ 64 := by
  unfold nameB at h
  rw [Bool.and_eq_true, decide_eq_true_eq] at h
  exact h.1
theorem tSpec_at (pre t rest : List UInt8) (m : Int) (hm : (t.length : Int) ≤ m) (ht : t.length ≤ 1000000) (hv : Go.Lib.validD t = true) : tSpec (pre ++ (uv t.length ++ t ++ rest)) (pre.length : Int) m = (t, (((pre ++ (uv t.length ++ t)).length : Nat) : Int), 0) := by
  have h := uSpec_uv pre (t ++ rest) t.length (by omega)
  rw [← List.append_assoc (uv t.length)] at h
  have e : ((pre ++ (uv t.length ++ t ++ rest)).drop (((pre.length + (uv t.length).length : Nat) : Int)).toNat).take t.length = t := by
    rw [Int.toNat_natCast, show pre ++ (uv t.length ++ t ++ rest) = (pre ++ uv t.length) ++ (t ++ rest) by simp, show pre.length + (uv t.length).length = (pre ++ uv t.length).length by simp, List.drop_left, List.take_left]
  unfold tSpec
  rw [h]
  simp only [e, hv]
  rw [if_neg (by simp only [List.length_append]; omega), if_neg (by simp), if_neg (by omega), if_neg (by simp only [List.length_append]; omega), if_neg (by simp)]
  simp
  omega
theorem one_back (pre rest : List UInt8) (x : LbT) (h : oneE x.1 x.2 = 0) : oneS (pre ++ (lbB x ++ rest)) (pre.length : Int) = (x.1, x.2, (((pre ++ lbB x).length : Nat) : Int), 0) := by
  obtain ⟨h1, h2, h3, h4⟩ := one_facts h
  have hl := name_len h1
  have t1 := tSpec_at pre x.1 (uv x.2.length ++ x.2 ++ rest) 64 (by omega) (by omega) (name_valid h1)
  have t2 := tSpec_at (pre ++ (uv x.1.length ++ x.1)) x.2 rest 256 (by omega) (by omega) h4
  have e1 : pre ++ (uv x.1.length ++ x.1 ++ (uv x.2.length ++ x.2 ++ rest)) = pre ++ (lbB x ++ rest) := by simp [lbB]
  have e2 : pre ++ (uv x.1.length ++ x.1) ++ (uv x.2.length ++ x.2 ++ rest) = pre ++ (lbB x ++ rest) := by simp [lbB]
  rw [e1] at t1
  rw [e2] at t2
  have e3 : pre ++ (uv x.1.length ++ x.1) ++ (uv x.2.length ++ x.2) = pre ++ lbB x := by simp [lbB]
  rw [e3] at t2
  unfold oneS
  rw [t1]
  dsimp only
  rw [if_neg (by simp), t2]
  simp
theorem readN_back (rest : List UInt8) : ∀ (ls : List LbT) (pre : List UInt8) (acc : List LbT), (∀ x ∈ ls, oneE x.1 x.2 = 0) → readN (pre ++ (ls.flatMap lbB ++ rest)) ls.length (pre.length : Int) acc = (acc ++ ls, (((pre ++ ls.flatMap lbB).length : Nat) : Int), 0)
  | [], pre, acc, _ => by simp [readN]
  | x :: t, pre, acc, h => by
    have h1 := one_back pre (t.flatMap lbB ++ rest) x (h x List.mem_cons_self)
    have ih := readN_back rest t (pre ++ lbB x) (acc ++ [x]) (fun y hy => h y (List.mem_cons_of_mem _ hy))
    have e1 : pre ++ ((x :: t).flatMap lbB ++ rest) = pre ++ (lbB x ++ (t.flatMap lbB ++ rest)) := by simp
    have e2 : pre ++ lbB x ++ (t.flatMap lbB ++ rest) = pre ++ (lbB x ++ (t.flatMap lbB ++ rest)) := by simp
    rw [e2] at ih
    rw [e1, List.length_cons, readN, h1]
    dsimp only
    rw [if_neg (by simp), ih]
    simp
/-- the mark that is none -/
def mZ0 : MkR := ⟨[], [], 0, [], []⟩

/-- the bytes of a label set, of several, of a mark -/
def setB (ls : List LbT) : List UInt8 := uv ls.length ++ ls.flatMap lbB
def setsB (lss : List (List LbT)) : List UInt8 := uv lss.length ++ lss.flatMap setB
def recB (m : MkR) : List UInt8 := uv m.rcv.length ++ m.rcv ++ (uv m.key.length ++ m.key) ++ uv (zz m.tim) ++ setsB m.fir ++ setsB m.res
/-- one part read, behind a fault or not: what it is, the place behind it, the fault -/
def textF (l : List UInt8) (p f m : Int) : List UInt8 × Int × Int := if f ≠ 0 then ([], p, f) else tSpec l p m
def intF (l : List UInt8) (p f : Int) : Int × Int × Int := if f ≠ 0 then (0, p, f) else (uz (uSpec l p).1, (uSpec l p).2.1, (uSpec l p).2.2)
def countF (l : List UInt8) (p f : Int) (m : Nat) : Nat × Int × Int := if f ≠ 0 then (0, p, f) else if (uSpec l p).2.2 = 0 ∧ m < (uSpec l p).1 then (0, (uSpec l p).2.1, 7) else uSpec l p
def labsF (l : List UInt8) (p f : Int) : List LbT × Int × Int := if f ≠ 0 then ([], p, f) else readS l p
def labsN (l : List UInt8) : Nat → Int → Int → List (List LbT) → List (List LbT) × Int × Int
  | 0, p, f, acc => (acc, p, f)
  | n + 1, p, f, acc => labsN l n (labsF l p f).2.1 (labsF l p f).2.2 (acc ++ [(labsF l p f).1])
def setsF (l : List UInt8) (p f : Int) : List (List LbT) × Int × Int := labsN l (countF l p f 500).1 (countF l p f 500).2.1 (countF l p f 500).2.2 []
/-- all of a record's parts, as they are read one after another -/
def partsM (l : List UInt8) : MkR × Int × Int :=
  let a := textF l 0 0 64
  let b := textF l a.2.1 a.2.2 65536
  let c := intF l b.2.1 b.2.2
  let d := setsF l c.2.1 c.2.2
  let e := setsF l d.2.1 d.2.2
  (⟨a.1, b.1, c.1, d.1, e.1⟩, e.2.1, e.2.2)
/-- what a record says -/
def readM (l : List UInt8) : MkR × Int := if (partsM l).2.2 = 0 ∧ (partsM l).2.1 = (l.length : Int) ∧ rightM (partsM l).1 = 0 then ((partsM l).1, 0) else (mZ0, 3)
theorem textF_f {l : List UInt8} {p f m : Int} (h : f ≠ 0) : (textF l p f m).2.2 ≠ 0 := by unfold textF; rw [if_pos h]; exact h
theorem intF_f {l : List UInt8} {p f : Int} (h : f ≠ 0) : (intF l p f).2.2 ≠ 0 := by unfold intF; rw [if_pos h]; exact h
theorem labsN_f (l : List UInt8) : ∀ (n : Nat) (p f : Int) (acc : List (List LbT)), f ≠ 0 → (labsN l n p f acc).2.2 ≠ 0
  | 0, _, _, _, h => h
  | n + 1, p, f, acc, h => by
    rw [labsN]
    exact labsN_f l n _ _ _ (by unfold labsF; rw [if_pos h]; exact h)
theorem setsF_f {l : List UInt8} {p f : Int} (h : f ≠ 0) : (setsF l p f).2.2 ≠ 0 := by
  unfold setsF
  refine labsN_f l _ _ _ _ ?_
  unfold countF
  rw [if_pos h]
  exact h
theorem labsN_len (l : List UInt8) : ∀ (n : Nat) (p f : Int) (acc : List (List LbT)), (labsN l n p f acc).1.length = acc.length + n
  | 0, _, _, _ => rfl
  | n + 1, p, f, acc => by rw [labsN, labsN_len l n]; simp; omega
theorem countF_le (l : List UInt8) (p f : Int) (m : Nat) : (countF l p f m).1 ≤ m := by
  unfold countF
  split
  · exact Nat.zero_le _
  · split
    · exact Nat.zero_le _
    · rename_i h
      by_cases h2 : (uSpec l p).2.2 = 0
      · have := fun h3 => h ⟨h2, h3⟩
        omega
      · have : (uSpec l p).1 = 0 := by
          unfold uSpec at h2 ⊢
          split
          · rfl
          · rename_i h4
            rw [if_neg h4] at h2
            unfold uRes at h2 ⊢
            split
            · rfl
            · rename_i h5
              rw [h5] at h2
              simp at h2
        omega
/-- what was written is read -/
theorem readS_at (pre rest : List UInt8) {ls : List LbT} (h : (rightS ls).1 = 0) : readS (pre ++ (setB ls ++ rest)) (pre.length : Int) = (ls, (((pre ++ setB ls).length : Nat) : Int), 0) := by
  have hl : ls.length ≤ 16 := by
    unfold rightS at h
    by_cases h16 : 16 < ls.length
    · rw [if_pos h16] at h
      cases h
    · omega
  have e0 : pre ++ (setB ls ++ rest) = pre ++ (uv ls.length ++ (ls.flatMap lbB ++ rest)) := by unfold setB; simp
  have hu := uSpec_uv pre (ls.flatMap lbB ++ rest) ls.length (by omega)
  have hr := readN_back rest ls (pre ++ uv ls.length) [] (right_one h)
  rw [List.nil_append, List.append_assoc, List.length_append] at hr
  unfold readS
  rw [e0, hu]
  dsimp only
  rw [if_neg (by simp), if_neg (by omega), hr]
  dsimp only
  rw [if_neg (by simp), if_neg (by simpa using h)]
  unfold setB
  simp
theorem labsN_at (rest : List UInt8) : ∀ (lss : List (List LbT)) (pre : List UInt8) (acc : List (List LbT)), (∀ ls ∈ lss, (rightS ls).1 = 0) → labsN (pre ++ (lss.flatMap setB ++ rest)) lss.length (pre.length : Int) 0 acc = (acc ++ lss, (((pre ++ lss.flatMap setB).length : Nat) : Int), 0)
  | [], pre, acc, _ => by simp [labsN]
  | x :: t, pre, acc, h => by
    have h1 := readS_at pre (t.flatMap setB ++ rest) (h x List.mem_cons_self)
    have ih := labsN_at rest t (pre ++ setB x) (acc ++ [x]) (fun y hy => h y (List.mem_cons_of_mem _ hy))
    have e1 : pre ++ ((x :: t).flatMap setB ++ rest) = pre ++ (setB x ++ (t.flatMap setB ++ rest)) := by simp
    have e2 : pre ++ setB x ++ (t.flatMap setB ++ rest) = pre ++ (setB x ++ (t.flatMap setB ++ rest)) := by simp
    rw [e2] at ih
    have e3 : labsF (pre ++ (setB x ++ (t.flatMap setB ++ rest))) (pre.length : Int) 0 = (x, (((pre ++ setB x).length : Nat) : Int), 0) := by
      unfold labsF
      rw [if_neg (by simp), h1]
    rw [e1, List.length_cons, labsN, e3]
    dsimp only
    rw [ih]
    simp
theorem setsF_at (pre rest : List UInt8) {lss : List (List LbT)} (hl : lss.length ≤ 500) (h : ∀ ls ∈ lss, (rightS ls).1 = 0) : setsF (pre ++ (setsB lss ++ rest)) (pre.length : Int) 0 = (lss, (((pre ++ setsB lss).length : Nat) : Int), 0) := by
  have e0 : pre ++ (setsB lss ++ rest) = pre ++ (uv lss.length ++ (lss.flatMap setB ++ rest)) := by unfold setsB; simp
  have hu := uSpec_uv pre (lss.flatMap setB ++ rest) lss.length (by omega)
  have hr := labsN_at rest lss (pre ++ uv lss.length) [] h
  rw [List.nil_append, List.append_assoc, List.length_append] at hr
  have hc : countF (pre ++ (uv lss.length ++ (lss.flatMap setB ++ rest))) (pre.length : Int) 0 500 = (lss.length, ((pre.length + (uv lss.length).length : Nat) : Int), 0) := by
    unfold countF
    rw [if_neg (by simp), hu]
    dsimp only
    rw [if_neg (by omega)]
  unfold setsF
  rw [e0, hc]
  dsimp only
  rw [hr]
  unfold setsB
  simp

theorem uz_zz {n : Int} (hl : -9223372036854775808 ≤ n) (hh : n ≤ 9223372036854775807) : uz (zz n) = n ∧ zz n < 18446744073709551616 := by
  unfold uz zz
  split
  · constructor
    · split <;> omega
    · omega
  · constructor
    · split <;> omega
    · omega
theorem intF_at (pre rest : List UInt8) {n : Int} (hl : -9223372036854775808 ≤ n) (hh : n ≤ 9223372036854775807) : intF (pre ++ (uv (zz n) ++ rest)) (pre.length : Int) 0 = (n, (((pre ++ uv (zz n)).length : Nat) : Int), 0) := by
  have h := uz_zz hl hh
  have hu := uSpec_uv pre rest (zz n) h.2
  unfold intF
  rw [if_neg (by simp), hu]
  dsimp only
  rw [h.1]
  simp
theorem textF_at (pre t rest : List UInt8) (m : Int) (hm : (t.length : Int) ≤ m) (ht : t.length ≤ 1000000) (hv : Go.Lib.validD t = true) : textF (pre ++ (uv t.length ++ t ++ rest)) (pre.length : Int) 0 m = (t, (((pre ++ (uv t.length ++ t)).length : Nat) : Int), 0) := by
  unfold textF
  rw [if_neg (by simp)]
  exact tSpec_at pre t rest m hm ht hv
theorem readM_back {m : MkR} (h : rightM m = 0) (hr : m.rcv.length ≤ 64 ∧ Go.Lib.validD m.rcv = true) (hk : m.key.length ≤ 65536 ∧ Go.Lib.validD m.key = true) (ht : 0 ≤ m.tim ∧ m.tim ≤ 1125899906842624) (hf : m.fir.length ≤ 500 ∧ ∀ ls ∈ m.fir, (rightS ls).1 = 0) (hs : m.res.length ≤ 500 ∧ ∀ ls ∈ m.res, (rightS ls).1 = 0) : readM (recB m) = (m, 0) := by
  have t1 := textF_at [] m.rcv (uv m.key.length ++ m.key ++ uv (zz m.tim) ++ setsB m.fir ++ setsB m.res) 64 (by omega) (by omega) hr.2
  have t2 := textF_at (uv m.rcv.length ++ m.rcv) m.key (uv (zz m.tim) ++ setsB m.fir ++ setsB m.res) 65536 (by omega) (by omega) hk.2
  have t3 := intF_at (uv m.rcv.length ++ m.rcv ++ (uv m.key.length ++ m.key)) (setsB m.fir ++ setsB m.res) (n := m.tim) (by omega) (by omega)
  have t4 := setsF_at (uv m.rcv.length ++ m.rcv ++ (uv m.key.length ++ m.key) ++ uv (zz m.tim)) (setsB m.res) hf.1 hf.2
  have t5 := setsF_at (uv m.rcv.length ++ m.rcv ++ (uv m.key.length ++ m.key) ++ uv (zz m.tim) ++ setsB m.fir) [] hs.1 hs.2
  have e1 : [] ++ (uv m.rcv.length ++ m.rcv ++ (uv m.key.length ++ m.key ++ uv (zz m.tim) ++ setsB m.fir ++ setsB m.res)) = recB m := by simp [recB]
  have e2 : uv m.rcv.length ++ m.rcv ++ (uv m.key.length ++ m.key ++ (uv (zz m.tim) ++ setsB m.fir ++ setsB m.res)) = recB m := by simp [recB]
  have e3 : uv m.rcv.length ++ m.rcv ++ (uv m.key.length ++ m.key) ++ (uv (zz m.tim) ++ (setsB m.fir ++ setsB m.res)) = recB m := by simp [recB]
  have e4 : uv m.rcv.length ++ m.rcv ++ (uv m.key.length ++ m.key) ++ uv (zz m.tim) ++ (setsB m.fir ++ setsB m.res) = recB m := by simp [recB]
  have e5 : uv m.rcv.length ++ m.rcv ++ (uv m.key.length ++ m.key) ++ uv (zz m.tim) ++ setsB m.fir ++ (setsB m.res ++ []) = recB m := by simp [recB]
  rw [e1] at t1
  rw [e2] at t2
  rw [e3] at t3
  rw [e4] at t4
  rw [e5] at t5
  rw [List.length_nil, List.nil_append] at t1
  have hp : partsM (recB m) = (m, ((recB m).length : Int), 0) := by
    unfold partsM
    simp only [Int.natCast_zero] at t1
    simp only [t1, t2, t3, t4, t5]
    rfl
  unfold readM
  rw [hp]
  dsimp only
  rw [if_pos ⟨rfl, rfl, h⟩]
end Go.Proofs.YtbnieljkadcaoaaGreatDoor
