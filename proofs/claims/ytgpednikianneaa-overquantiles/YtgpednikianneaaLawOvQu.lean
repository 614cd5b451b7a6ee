/-
  OverQuantiles: the law's walk.
-/
import Derived.Test.YtgpednikianneaaOvRf
namespace Go.Proofs.Ytgpednikianneaa
open Go.RowKit Go.Shelf Go.Sort
attribute [local go_sem] fwor_cell fwor_frozen fwor_size

/-! ### floats that are handed in -/
def RdL (w : World) (v : Value) (l : List Nat) : Prop :=
  ∃ a c, v = .slice a l.length c ∧ (l.length ≤ c ∧ (a = none → c = 0)) ∧ c ≤ maxLen ∧ ∀ j, j < l.length → ∃ b o, a = some ⟨b, o, none⟩ ∧ w.cell? ⟨b, o + j, none⟩ = some (.float .f64 (l.getD j 0))
theorem RdL.keep {w w' : World} {v : Value} {l : List Nat} (h : RdL w v l) (hg : w.grownBy w' none) : RdL w' v l := by
  obtain ⟨a, c, rfl, h1, h2, h3⟩ := h
  refine ⟨a, c, rfl, h1, h2, fun j hj => ?_⟩
  obtain ⟨b, o, e, c0⟩ := h3 j hj
  exact ⟨b, o, e, World.grownBy.cell hg c0 (by simp)⟩
theorem OwnFl.rd {w : World} {base : Nat} {v : Value} {l : List Nat} (h : OwnFl w base v l) : RdL w v l := by
  rcases h.2 with ⟨rfl, hn⟩ | ⟨g, cap, cur, rfl, hbg, hh, hnc, hcm, hcs, htake⟩
  · exact ⟨none, 0, by rw [hn], ⟨by omega, fun _ => rfl⟩, by simp [maxLen], fun j hj => by omega⟩
  · refine ⟨some ⟨g, 0, none⟩, cap, rfl, ⟨hnc, fun h => by cases h⟩, hcm, fun j hj => ⟨g, 0, rfl, ?_⟩⟩
    have h0 : OwnFl w base (.slice (some ⟨g, 0, none⟩) l.length cap) l := h
    have := World.ownsRow.cells h0 rfl j (.float .f64 (l.getD j 0)) (by simp [List.getD, hj]; rfl)
    rw [Go.WideShapes.add_plain] at this
    exact this
theorem RdL.rdc {w : World} {a : Option Addr} {n c : Nat} {l : List Nat} (h : RdL w (.slice a n c) l) (hl : 1 ≤ l.length) : ∃ b o, a = some ⟨b, o, none⟩ ∧ RdC w (some ⟨b, o, none⟩) (l.map flV) := by
  obtain ⟨a', c', e, h1, h2, h3⟩ := h
  simp only [Value.slice.injEq] at e
  obtain ⟨rfl, rfl, rfl⟩ := e
  obtain ⟨b, o, rfl, -⟩ := h3 0 (by omega)
  refine ⟨b, o, rfl, fun j u hj => ⟨_, rfl, ?_⟩⟩
  have hjl : j < l.length := by
    have := (List.getElem?_eq_some_iff.1 hj).1
    simpa using this
  obtain ⟨b', o', e, c0⟩ := h3 j hjl
  simp only [Option.some.injEq, Addr.mk.injEq, and_true] at e
  obtain ⟨rfl, rfl⟩ := e
  rw [Go.WideShapes.add_plain, c0]
  rw [List.getElem?_map, List.getElem?_eq_getElem hjl] at hj
  simp only [Option.map_some, Option.some.injEq] at hj
  subst hj
  simp [List.getD, hjl, flV]
/-! ### one answer, the empty row too -/
def QuE (q : Nat) (l : List Nat) (x : Nat) : Prop := (l = [] ∧ x = 9221120237041090561) ∨ (l ≠ [] ∧ QuP q l x)
theorem quE_any (w : World) (q : Nat) (v : Value) (l : List Nat) (hv : RdL w v l) (hin : ∀ x ∈ l, x < 18446744073709551616) (hsz : l.length ≤ 17592186044416) :
    Calls Try.prog 7 #[.float .f64 q, v] w fun e w' => ∃ x, e = .returned (.float .f64 x) ∧ Hid (QuE q l x ∧ w.grownBy w' none) := by
  obtain ⟨a, c, rfl, h1, h2, h3⟩ := id hv
  by_cases hl : l = []
  · subst hl
    have h3 : ∀ w, (callFunc 12 #[.int .u64 9221120237041090561]).run Try.prog w = .ok (.value (.float .f64 9221120237041090561)) w := fun w => fromBits_run _ w
    clear hv hin hsz
    simp only [List.length_nil]
    go_enter Try.func7, Try.ntmps7
    go_wp2
    go_ret
    exact ⟨_, rfl, .inl ⟨rfl, rfl⟩, gb_refl _ _⟩
  · obtain ⟨b, o, rfl, hrd⟩ := hv.rdc (List.length_pos_iff.2 hl)
    refine (quant_any w ⟨b, o, none⟩ c q l hrd hl hin hsz).mono ?_
    rintro e w' ⟨x, q1, q2, q3⟩
    exact ⟨x, q1, .inr ⟨hl, q2⟩, q3⟩
theorem qrefE_any (w : World) (q : Nat) (v : Value) (l : List Nat) (hv : RdL w v l) (hin : ∀ x ∈ l, x < 18446744073709551616) (hsz : l.length ≤ 17592186044416) :
    Calls Try.prog 21 #[.float .f64 q, v] w fun e w' => ∃ x, e = .returned (.float .f64 x) ∧ Hid (QuE q l x ∧ w.grownBy w' none) := by
  obtain ⟨a, c, rfl, h1, h2, h3⟩ := id hv
  by_cases hl : l = []
  · subst hl
    have h3 : ∀ w, (callFunc 12 #[.int .u64 9221120237041090561]).run Try.prog w = .ok (.value (.float .f64 9221120237041090561)) w := fun w => fromBits_run _ w
    clear hv hin hsz
    simp only [List.length_nil]
    go_enter Try.func21, Try.ntmps21
    go_wp2
    go_ret
    exact ⟨_, rfl, .inl ⟨rfl, rfl⟩, gb_refl _ _⟩
  · obtain ⟨b, o, rfl, hrd⟩ := hv.rdc (List.length_pos_iff.2 hl)
    refine (qref_any w b o c q l hrd hl hin hsz).mono ?_
    rintro e w' ⟨x, q1, q2, q3⟩
    exact ⟨x, q1, .inr ⟨hl, q2⟩, q3⟩
theorem qref17_any (w : World) (q : Nat) (v : Value) (l : List Nat) (hv : RdL w v l) (hin : ∀ x ∈ l, x < 18446744073709551616) (hsz : l.length ≤ 17592186044416) :
    Calls Try.prog 9 #[.float .f64 q, v] w fun e w' => ∃ x, e = .returned (.float .f64 x) ∧ Hid (QuE q l x ∧ w.grownBy w' none) := by
  have HQ := hidJ (qrefE_any w q v l hv hin hsz)
  obtain ⟨a, c, rfl, -⟩ := hv
  generalize l.length = N at *
  go_enter Try.func9, Try.ntmps9
  go_wp2_with fail
  refine HQ.out.mono ?_
  rintro e w1 ⟨x, rfl, q1⟩
  clear HQ
  go_wp2
  go_ret
  exact ⟨_, rfl, q1⟩
theorem QuP.same {q : Nat} {l m : List Nat} {x y : Nat} (hin : ∀ x ∈ l, x < 18446744073709551616) (hp : l.Perm m) (h1 : QuP q l x) (h2 : QuP q m y) : x = y := by
  unfold QuP at h1 h2
  rcases h1 with ⟨a1, rfl⟩ | ⟨a1, a2, rfl⟩ | ⟨a1, a2, a3, rfl⟩ | ⟨a1, a2, a3, s, a4, a5, a6⟩ <;>
    rcases h2 with ⟨b1, rfl⟩ | ⟨b1, b2, rfl⟩ | ⟨b1, b2, b3, rfl⟩ | ⟨b1, b2, b3, t, b4, b5, b6⟩ <;> first | rfl | (simp_all; done) | skip
  rw [a6, b6, quaC_one (sorted_one hin a4 a5 (b4.trans hp.symm) b5)]
theorem QuE.same {q : Nat} {l m : List Nat} {x y : Nat} (hin : ∀ x ∈ l, x < 18446744073709551616) (hp : l.Perm m) (h1 : QuE q l x) (h2 : QuE q m y) : x = y := by
  rcases h1 with ⟨h1, rfl⟩ | ⟨h1, h3⟩
  · subst h1
    rcases h2 with ⟨_, rfl⟩ | ⟨h2, _⟩
    · rfl
    · exact absurd hp.symm.eq_nil h2
  · rcases h2 with ⟨rfl, _⟩ | ⟨h2, h4⟩
    · exact absurd hp.eq_nil h1
    · exact QuP.same hin hp h3 h4
/-! ### the least and the most -/
def FinB (x : Nat) : Prop := nanB x = false ∧ mg x < 9218868437227405312
/-- behind z of the values -/
def LM (l : List Nat) (z a b : Nat) : Prop := (∀ j, j < z → FinB (l.getD j 0)) ∧ (∃ j, j < max z 1 ∧ a = l.getD j 0) ∧ (∃ j, j < max z 1 ∧ b = l.getD j 0) ∧ ∀ j, j < z → sv a ≤ sv (l.getD j 0) ∧ sv (l.getD j 0) ≤ sv b
theorem sv_lt_iff {x y : Nat} (hx : FinB x) (hy : FinB y) : (fo x y == some .lt) = decide (sv x < sv y) := by
  rw [fo_sv hx.1 hy.1]
  rcases Int.lt_trichotomy (sv x) (sv y) with h | h | h
  · rw [cmp_lt h, decide_eq_true h]; rfl
  · rw [h, cmp_self, decide_eq_false (by omega)]; rfl
  · rw [cmp_gt h, decide_eq_false (by omega)]; rfl
theorem sv_gt_iff {x y : Nat} (hx : FinB x) (hy : FinB y) : (fo x y == some .gt) = decide (sv y < sv x) := by
  rw [fo_sv hx.1 hy.1]
  rcases Int.lt_trichotomy (sv x) (sv y) with h | h | h
  · rw [cmp_lt h, decide_eq_false (by omega)]; rfl
  · rw [h, cmp_self, decide_eq_false (by omega)]; rfl
  · rw [cmp_gt h, decide_eq_true h]; rfl
theorem LM.start (l : List Nat) : LM l 0 (l.getD 0 0) (l.getD 0 0) := ⟨fun j hj => by omega, ⟨0, by omega, rfl⟩, ⟨0, by omega, rfl⟩, fun j hj => by omega⟩
theorem LM.next {l : List Nat} {z a b : Nat} (h : LM l z a b) (hx : FinB (l.getD z 0)) : LM l (z + 1) (if (fo (l.getD z 0) a == some .lt) = true then l.getD z 0 else a) (if (fo (l.getD z 0) b == some .gt) = true then l.getD z 0 else b) := by
  obtain ⟨h1, ⟨ja, ha, ea⟩, ⟨jb, hb, eb⟩, h4⟩ := h
  have fin : ∀ j, j < max z 1 → FinB (l.getD j 0) := fun j hj => by
    by_cases e : j < z
    · exact h1 j e
    · have : j = z := by omega
      rw [this]
      exact hx
  have fa : FinB a := by rw [ea]; exact fin _ ha
  have fb : FinB b := by rw [eb]; exact fin _ hb
  have hz0 : z = 0 → a = l.getD z 0 ∧ b = l.getD z 0 := fun hz => by
    have e1 : ja = z := by omega
    have e2 : jb = z := by omega
    exact ⟨by rw [ea, e1], by rw [eb, e2]⟩
  rw [sv_lt_iff hx fa, sv_gt_iff hx fb]
  refine ⟨fun j hj => ?_, ?_, ?_, fun j hj => ?_⟩
  · by_cases e : j = z
    · rw [e]; exact hx
    · exact h1 j (by omega)
  · by_cases hd : sv (l.getD z 0) < sv a
    · rw [if_pos (decide_eq_true hd)]
      exact ⟨z, by omega, rfl⟩
    · rw [if_neg (by simpa using hd)]
      exact ⟨ja, by omega, ea⟩
  · by_cases hd : sv b < sv (l.getD z 0)
    · rw [if_pos (decide_eq_true hd)]
      exact ⟨z, by omega, rfl⟩
    · rw [if_neg (by simpa using hd)]
      exact ⟨jb, by omega, eb⟩
  · have hj' : j = z ∨ j < z := by omega
    have ho : j < z → sv a ≤ sv (l.getD j 0) ∧ sv (l.getD j 0) ≤ sv b := fun h => h4 j h
    constructor
    · by_cases hd : sv (l.getD z 0) < sv a
      · rw [if_pos (decide_eq_true hd)]
        rcases hj' with e | e
        · rw [e]; exact Int.le_refl _
        · have := (ho e).1; omega
      · rw [if_neg (by simpa using hd)]
        rcases hj' with e | e
        · rw [e]; omega
        · exact (ho e).1
    · by_cases hd : sv b < sv (l.getD z 0)
      · rw [if_pos (decide_eq_true hd)]
        rcases hj' with e | e
        · rw [e]; exact Int.le_refl _
        · have := (ho e).2; omega
      · rw [if_neg (by simpa using hd)]
        rcases hj' with e | e
        · rw [e]; omega
        · exact (ho e).2
theorem ends_ok {l : List Nat} {a b : Nat} (hl : l ≠ []) (hsz : l.length ≤ 17592186044416) (hin : ∀ x ∈ l, x < 18446744073709551616) (h : LM l l.length a b) :
    (∀ v, QuE 0 l v → (fo v a == some .eq) = true) ∧ (∀ v, QuE 4607182418800017408 l v → (fo v b == some .eq) = true) := by
  have hlen : 1 ≤ l.length := List.length_pos_iff.2 hl
  obtain ⟨h1, ⟨ja, ha, ea⟩, ⟨jb, hb, eb⟩, h4⟩ := h
  have hall : ∀ x ∈ l, FinB x ∧ sv a ≤ sv x ∧ sv x ≤ sv b := fun x hx => by
    obtain ⟨j, hj, rfl⟩ := List.mem_iff_getElem.1 hx
    have e : l.getD j 0 = l[j] := by simp [List.getD, hj]
    rw [← e]
    exact ⟨h1 j hj, h4 j hj⟩
  have ma : a ∈ l := by rw [ea]; simp [List.getD, show ja < l.length by omega]
  have mb : b ∈ l := by rw [eb]; simp [List.getD, show jb < l.length by omega]
  have lows : ∀ s : List Nat, s.Perm l → s.Pairwise leV → ∀ i, i < s.length → ∀ k, i ≤ k → k < s.length → sv (s.getD i 0) ≤ sv (s.getD k 0) := fun s hp hs i hi k hik hk => by
    have ei : s.getD i 0 = s[i] := by simp [List.getD, hi]
    have ek : s.getD k 0 = s[k] := by simp [List.getD, hk]
    rw [ei, ek]
    by_cases e : i = k
    · subst e; exact Int.le_refl _
    · exact sv_le (hall _ (hp.mem_iff.1 (List.getElem_mem hi))).1.1 (hall _ (hp.mem_iff.1 (List.getElem_mem hk))).1.1 (List.pairwise_iff_getElem.1 hs i k hi hk (by omega))
  have mem : ∀ s : List Nat, s.Perm l → ∀ i, i < s.length → s.getD i 0 ∈ l := fun s hp i hi => by
    have ei : s.getD i 0 = s[i] := by simp [List.getD, hi]
    rw [ei]
    exact hp.mem_iff.1 (List.getElem_mem hi)
  have idx : ∀ s : List Nat, s.Perm l → ∀ x ∈ l, ∃ i, i < s.length ∧ s.getD i 0 = x := fun s hp x hx => by
    obtain ⟨i, hi, e⟩ := List.mem_iff_getElem.1 (hp.mem_iff.2 hx)
    exact ⟨i, hi, by rw [← e]; simp [List.getD, hi]⟩
  constructor
  · intro v hv
    rcases hv with ⟨h, _⟩ | ⟨_, hv⟩
    · exact absurd h hl
    · rcases hv with ⟨h, _⟩ | ⟨_, h, _⟩ | ⟨_, _, h, _⟩ | ⟨_, _, _, s, hp, hs, hv⟩
      · exact absurd h (by decide)
      · exact absurd h (by decide)
      · exact absurd h (by decide)
      · have hsl := hp.length_eq
        have m0 := mem s hp 0 (by omega)
        have m1 := mem s hp (min (0 + 1) (s.length - 1)) (by omega)
        unfold quaC at hv
        obtain ⟨-, e2, e3⟩ := qu_zero (M := s.length - 1) (by omega)
        rw [e2, e3] at hv
        obtain ⟨n1, n2⟩ := end_is (hin _ m0) (hall _ m0).1.2 (hall _ m1).1.2
        rw [← hv] at n1 n2
        obtain ⟨i, hi, ei⟩ := idx s hp a ma
        have hle := lows s hp hs 0 (by omega) i (by omega) hi
        rw [ei] at hle
        have := (hall _ m0).2.1
        exact fo_of_sv (cz_num n1) n1 (hall a ma).1.1 (by rw [n2]; omega)
  · intro v hv
    rcases hv with ⟨h, _⟩ | ⟨_, hv⟩
    · exact absurd h hl
    · rcases hv with ⟨h, _⟩ | ⟨_, h, _⟩ | ⟨_, _, h, _⟩ | ⟨_, _, _, s, hp, hs, hv⟩
      · exact absurd h (by decide)
      · exact absurd h (by decide)
      · exact absurd h (by decide)
      · have hsl := hp.length_eq
        obtain ⟨-, e2, e3⟩ := qu_one (M := s.length - 1) (by omega)
        have m0 := mem s hp (s.length - 1) (by omega)
        have m1 := mem s hp (min (s.length - 1 + 1) (s.length - 1)) (by omega)
        unfold quaC at hv
        rw [e2, e3] at hv
        obtain ⟨n1, n2⟩ := end_is (hin _ m0) (hall _ m0).1.2 (hall _ m1).1.2
        rw [← hv] at n1 n2
        obtain ⟨i, hi, ei⟩ := idx s hp b mb
        have hle := lows s hp hs i hi (s.length - 1) (by omega) (by omega)
        rw [ei] at hle
        have := (hall _ m0).2.2
        exact fo_of_sv (cz_num n1) n1 (hall b mb).1.1 (by rw [n2]; omega)
end Go.Proofs.Ytgpednikianneaa
