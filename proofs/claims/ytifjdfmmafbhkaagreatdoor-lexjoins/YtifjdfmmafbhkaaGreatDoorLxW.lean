/-
  Lists of tokens that are read; lex.Same: the walks.
-/
import Derived.Test.YtifjdfmmafbhkaaGreatDoorLxV
namespace Go.Proofs.YtifjdfmmafbhkaaGreatDoor
open Go.RowKit

/-- the value is a slice that reads as these tokens -/
def RdT (w : World) (v : Value) (l : List Tok) : Prop := ∃ a c, v = .slice a l.length c ∧ l.length ≤ c ∧ c ≤ maxLen ∧ ∀ i, i < l.length → ∃ b o, a = some ⟨b, o, none⟩ ∧ w.cell? ⟨b, o + i * 3, none⟩ = some (.int .i64 (l.getD i tkD).1) ∧ w.cell? ⟨b, o + i * 3 + 1, none⟩ = some (.string (ByteArray.mk ⟨(l.getD i tkD).2.1⟩)) ∧ w.cell? ⟨b, o + i * 3 + 2, none⟩ = some (.int .i64 (l.getD i tkD).2.2)
theorem OwnT.rd {w : World} {base : Nat} {v : Value} {l : List Tok} (h : OwnT w base v l) : RdT w v l := by
  by_cases hl : l = []
  · subst hl
    rcases h.2 with ⟨rfl, -⟩ | ⟨g, cap, cur, rfl, hg, hh, hnc, hcm, hcs, ht⟩
    · exact ⟨none, 0, rfl, Nat.le_refl _, by unfold maxLen; omega, fun i hi => absurd hi (Nat.not_lt_zero _)⟩
    · exact ⟨_, cap, rfl, hnc, hcm, fun i hi => absurd hi (Nat.not_lt_zero _)⟩
  · have hcm : ∀ g n cap, v = .slice (some ⟨g, 0, none⟩) n cap → cap ≤ maxLen := fun g n cap e => by
      rcases h.2 with ⟨rfl, -⟩ | ⟨g', cap', cur, rfl, -, -, -, hcm, -⟩
      · cases e
      · cases e; exact hcm
    obtain ⟨g, cap, rfl, h1, h2, h3, h4⟩ := h.form hl
    refine ⟨_, cap, rfl, h3, hcm _ _ _ rfl, fun i hi => ⟨g, 0, rfl, ?_⟩⟩
    rw [Nat.zero_add]
    exact h4 i hi
theorem cell_keep {w W : World} {b o : Nat} {v : Value} (hg : w.grownBy W none) (h : w.cell? ⟨b, o, none⟩ = some v) : W.cell? ⟨b, o, none⟩ = some v := (World.cell?_of_block (hg.block b (block_lt h) (by simp))).trans h
theorem RdT.keep {w w' : World} {v : Value} {l : List Tok} (h : RdT w v l) (hg : w.grownBy w' none) : RdT w' v l := by
  obtain ⟨a, c, rfl, h1, h2, h3⟩ := h
  refine ⟨a, c, rfl, h1, h2, fun i hi => ?_⟩
  obtain ⟨b, o, e, c1, c2, c3⟩ := h3 i hi
  exact ⟨b, o, e, (World.cell?_of_block (hg.block b (block_lt c1) (by simp))).trans c1, (World.cell?_of_block (hg.block b (block_lt c1) (by simp))).trans c2, (World.cell?_of_block (hg.block b (block_lt c1) (by simp))).trans c3⟩
theorem RdT.take {w : World} {a : Option Addr} {c : Nat} {l : List Tok} (h : RdT w (.slice a l.length c) l) (i : Nat) (hi : i ≤ l.length) : RdT w (.slice a i c) (l.take i) := by
  obtain ⟨a', c', e, h1, h2, h3⟩ := h
  injection e with e1 e2 e3
  subst e1 e3
  have hlt : (l.take i).length = i := by rw [List.length_take]; omega
  refine ⟨a, c, by rw [hlt], by omega, h2, fun j hj => ?_⟩
  rw [hlt] at hj
  have := h3 j (by omega)
  rw [show (l.take i).getD j tkD = l.getD j tkD by simp [List.getD, hj]]
  exact this
/-- are two tokens alike but for their places? -/
def tkEq (t u : Tok) : Bool := decide (t.1 = u.1) && decide (t.2.1 = u.2.1)
def sameB : List Tok → List Tok → Bool
  | [], [] => true
  | t :: a, u :: b => tkEq t u && sameB a b
  | _, _ => false
theorem sameB_len (a b : List Tok) (h : a.length ≠ b.length) : sameB a b = false := by
  induction a generalizing b with
  | nil => cases b with | nil => exact absurd rfl h | cons u b => rfl
  | cons t a ih =>
    cases b with
    | nil => rfl
    | cons u b =>
      show (tkEq t u && sameB a b) = false
      rw [ih b (by simpa using h), Bool.and_false]
theorem sameB_from (a b : List Tok) (hl : a.length = b.length) (i : Nat) (hi : i < a.length) : sameB (a.drop i) (b.drop i) = (tkEq (a.getD i tkD) (b.getD i tkD) && sameB (a.drop (i + 1)) (b.drop (i + 1))) := by
  rw [List.drop_eq_getElem_cons hi, List.drop_eq_getElem_cons (show i < b.length by omega)]
  show (tkEq _ _ && _) = _
  simp [List.getD, List.getElem?_eq_getElem hi, List.getElem?_eq_getElem (show i < b.length by omega)]
theorem sameB_refl (a : List Tok) : sameB a a = true := by
  induction a with
  | nil => rfl
  | cons t a ih =>
    show (tkEq t t && sameB a a) = true
    rw [ih]
    simp [tkEq]
theorem ret_boolD {P Q : Prop} [Decidable P] [Decidable Q] (h : P ↔ Q) : decide P = decide Q := by simp [h]
set_option maxHeartbeats 1600000 in
theorem same1_any (w : World) (t u : Tok) :
    Calls Tryz.prog 21 #[.agg #[.int .i64 t.1, .string (ByteArray.mk ⟨t.2.1⟩), .int .i64 t.2.2], .agg #[.int .i64 u.1, .string (ByteArray.mk ⟨u.2.1⟩), .int .i64 u.2.2]] w fun e w' => e = .returned (.bool (tkEq t u)) ∧ w.grownBy w' none := by
  obtain ⟨k1, t1, a1⟩ := t
  obtain ⟨k2, t2, a2⟩ := u
  dsimp only
  have hE := hidJ (show tkEq (k1, t1, a1) (k2, t2, a2) = (decide (k1 = k2) && decide (t1 = t2)) from rfl)
  have hs : ((ByteArray.mk ⟨t1⟩).toList == (ByteArray.mk ⟨t2⟩).toList) = decide (t1 = t2) := by rw [mk_toList, mk_toList, Bool.eq_iff_iff]; simp
  have hs2 : (ByteArray.mk ⟨t1⟩ = ByteArray.mk ⟨t2⟩) ↔ t1 = t2 := ⟨fun h => by injection h with h; injection h, fun h => by rw [h]⟩
  generalize tkEq (k1, t1, a1) (k2, t2, a2) = E at *
  have q0 := alloc_at w (.cells #[.int .i64 k1, .string (ByteArray.mk ⟨t1⟩), .int .i64 a1] 24)
  have q1 := heap_alloc2_new w (.cells #[.int .i64 k1, .string (ByteArray.mk ⟨t1⟩), .int .i64 a1] 24) (.cells #[.int .i64 k2, .string (ByteArray.mk ⟨t2⟩), .int .i64 a2] 24)
  have q2 := heap_alloc2_old w (.cells #[.int .i64 k1, .string (ByteArray.mk ⟨t1⟩), .int .i64 a1] 24) (.cells #[.int .i64 k2, .string (ByteArray.mk ⟨t2⟩), .int .i64 a2] 24)
  have HG : Hid (w.grownBy ((w.alloc (.cells #[.int .i64 k1, .string (ByteArray.mk ⟨t1⟩), .int .i64 a1] 24)).alloc (.cells #[.int .i64 k2, .string (ByteArray.mk ⟨t2⟩), .int .i64 a2] 24)) none) := gb_none (World.grownBy_alloc _ _ _) (World.grownBy_alloc _ _ _)
  obtain ⟨c0, c1, -⟩ := blk_cells q2
  obtain ⟨d0, d1, -⟩ := blk_cells q1
  clear q0 q1 q2
  by_cases c : k1 = k2
  · subst c
    have hE2 : E = decide (t1 = t2) := by rw [hE.out]; simp
    subst hE2
    clear hE
    go_enter Tryz.func21, Tryz.ntmps21
    go_wp2
    go_ret
    refine ⟨ret_bool ?_, HG.out⟩
    rw [Bool.eq_iff_iff]
    simp
  · have c2 : (k1 == k2) = false := by rw [beq_eq_false_iff_ne]; exact c
    have hE2 : E = false := by rw [hE.out, decide_eq_false c]; rfl
    subst hE2
    clear hE hs hs2
    go_enter Tryz.func21, Tryz.ntmps21
    go_wp2
    go_ret
    exact ⟨rfl, HG.out⟩
set_option maxRecDepth 8000 in
set_option maxHeartbeats 3200000 in
theorem equalFunc_any (w : World) (va vb : Value) (a b : List Tok) (ha : RdT w va a) (hb : RdT w vb b) :
    Calls Tryz.prog 20 #[va, vb, .func (.func 21) #[] #[]] w fun e w' => e = .returned (.bool (sameB a b)) ∧ w.grownBy w' none := by
  have HA := hidJ ha
  have HB := hidJ hb
  obtain ⟨aa, ca, rfl, ha1, ha2, ha3⟩ := ha
  obtain ⟨ab, cb, rfl, hb1, hb2, hb3⟩ := hb
  unfold maxLen at ha2 hb2
  have hla := fun W ty => len_tokens W ty aa a.length ca
  have hlb := fun W ty => len_tokens W ty ab b.length cb
  by_cases hl : a.length = b.length
  · have hli : ((a.length : Nat) : Int) = (b.length : Int) := by omega
    have HL := hidJ hl
    obtain ⟨R, hR⟩ : ∃ R, sameB (a.drop 0) (b.drop 0) = R := ⟨_, rfl⟩
    have hR0 : sameB a b = R := by rw [← hR, List.drop_zero, List.drop_zero]
    rw [hR0]
    have HR := hidJ hR
    clear hR hR0
    obtain ⟨n, hn⟩ : ∃ n, a.length = n := ⟨_, rfl⟩
    have hnb : b.length = n := by omega
    have HN := hidJ (And.intro hn hnb)
    rw [hn] at hla ha1 ha3 hli
    rw [hnb] at hlb hb1 hb3 hli
    rw [hn, hnb]
    clear hn hnb hl
    go_enter Tryz.func20, Tryz.ntmps20
    go_wp2_with fail
    go_loopg [17] (n + 1) (fun gk v17 wr => ∃ i : Nat, v17 = .int .i64 (i : Int) ∧ n < i + gk ∧ i ≤ n ∧ Hid (sameB (a.drop i) (b.drop i) = R ∧ w.grownBy wr none))
    case atStart => exact ⟨0, rfl, by omega, by omega, HR.out, gb_refl _ _⟩
    case round =>
      obtain ⟨i, rfl, hg, hin, hr⟩ := hrel
      by_cases hlt : i < n
      · obtain ⟨k, rfl⟩ : ∃ k, gk = k + 1 := ⟨gk - 1, by omega⟩
        have hli2 : (i : Int) < (n : Int) := by omega
        obtain ⟨ba, oa, ea, xa0, xa1, xa2⟩ := ha3 i hlt
        obtain ⟨bb, ob, eb, xb0, xb1, xb2⟩ := hb3 i hlt
        subst ea eb
        have HSt := hidJ (sameB_from a b HL.out i (by rw [HN.out.1]; exact hlt))
        have HG := hidJ hr.out.2
        have HE := hidJ hr.out.1
        have HS1 := hidJ (fun W => same1_any W (a.getD i tkD) (b.getD i tkD))
        clear hr ha3 hb3 HR HA HB
        generalize a.getD i tkD = ta at *
        generalize b.getD i tkD = tb at *
        obtain ⟨k1, t1, a1⟩ := ta
        obtain ⟨k2, t2, a2⟩ := tb
        dsimp only at *
        have HG1 : w.grownBy (wr.alloc (.cells #[.int .i64 k1, .string (ByteArray.mk ⟨t1⟩), .int .i64 a1] 24)) none := gb_none HG.out (World.grownBy_alloc _ _ _)
        have ya0 := cell_keep HG.out xa0
        have ya1 := cell_keep HG.out xa1
        have ya2 := cell_keep HG.out xa2
        have yb0 := cell_keep HG1 xb0
        have yb1 := cell_keep HG1 xb1
        have yb2 := cell_keep HG1 xb2
        have q1 := heap_alloc2_new wr (.cells #[.int .i64 k1, .string (ByteArray.mk ⟨t1⟩), .int .i64 a1] 24) (.cells #[.int .i64 k2, .string (ByteArray.mk ⟨t2⟩), .int .i64 a2] 24)
        have q2 := heap_alloc2_old wr (.cells #[.int .i64 k1, .string (ByteArray.mk ⟨t1⟩), .int .i64 a1] 24) (.cells #[.int .i64 k2, .string (ByteArray.mk ⟨t2⟩), .int .i64 a2] 24)
        obtain ⟨c0, c1, c2, -⟩ := blk_cells q2
        obtain ⟨d0, d1, d2, -⟩ := blk_cells q1
        have HG2 := hidJ (show w.grownBy ((wr.alloc (.cells #[.int .i64 k1, .string (ByteArray.mk ⟨t1⟩), .int .i64 a1] 24)).alloc (.cells #[.int .i64 k2, .string (ByteArray.mk ⟨t2⟩), .int .i64 a2] 24)) none from gb_none HG1 (World.grownBy_alloc _ _ _))
        clear xa0 xa1 xa2 xb0 xb1 xb2 q1 q2 HG1 HG
        go_wp2_with fail
        refine (HS1.out _).mono ?_
        rintro e w3 ⟨rfl, hg3⟩
        have H3 := hidJ (gb_none HG2.out hg3)
        clear hg3 HS1 HG2 ya0 ya1 ya2 yb0 yb1 yb2 c0 c1 c2 d0 d1 d2
        have HE2 := hidJ (HE.out.symm.trans HSt.out)
        clear HE HSt
        generalize tkEq (k1, t1, a1) (k2, t2, a2) = E at *
        cases E with
        | false =>
          have hR : R = false := by rw [HE2.out, Bool.false_and]
          subst hR
          go_wp2
          go_ret
          exact ⟨rfl, H3.out⟩
        | true =>
          have hR := HE2.out
          rw [Bool.true_and] at hR
          have HR3 := hidJ hR.symm
          clear hR HE2
          go_wp2
          go_roundg k
          case measure => omega
          case rel => exact ⟨i + 1, by go_num, by omega, by omega, HR3.out, H3.out⟩
      · obtain rfl : i = n := by omega
        have hR : R = true := by
          rw [← hr.out.1, List.drop_eq_nil_of_le (by rw [HN.out.1]; exact Nat.le_refl _), List.drop_eq_nil_of_le (by rw [HN.out.2]; exact Nat.le_refl _)]
          rfl
        subst hR
        have HG := hidJ hr.out.2
        clear hr HR
        go_wp2
        go_ret
        exact ⟨rfl, HG.out⟩
  · have hli : ((a.length : Int) == (b.length : Int)) = false := by rw [beq_eq_false_iff_ne]; omega
    have hli2 : ¬ (a.length : Int) = (b.length : Int) := by omega
    rw [sameB_len a b hl]
    go_enter Tryz.func20, Tryz.ntmps20
    go_wp2
    go_ret
    exact ⟨rfl, gb_refl _ _⟩
theorem same_any (w : World) (va vb : Value) (a b : List Tok) (ha : RdT w va a) (hb : RdT w vb b) :
    Calls Tryz.prog 8 #[va, vb] w fun e w' => e = .returned (.bool (sameB a b)) ∧ w.grownBy w' none := by
  have HE := hidJ (equalFunc_any w va vb a b ha hb)
  obtain ⟨aa, ca, rfl, -⟩ := ha
  obtain ⟨ab, cb, rfl, -⟩ := hb
  generalize sameB a b = B at *
  go_enter Tryz.func8, Tryz.ntmps8
  go_wp2_with fail
  refine HE.out.mono ?_
  rintro e w1 ⟨rfl, hg1⟩
  have H1 := hidJ hg1
  clear hg1 HE
  go_wp2
  go_ret
  exact ⟨rfl, H1.out⟩
end Go.Proofs.YtifjdfmmafbhkaaGreatDoor
