/-
  LabelsBack: a label set through text and through bytes is what it was: the walk.
-/
import Derived.Test.YtkcgikgihbglnabDoorLbBk2
import Derived.Test.YtkcgikgihbglnabDoorLbPi
import Derived.Test.YtkcgikgihbglnabDoorVmE
import Derived.Test.YtkcgikgihbglnabDoorMgE
import Derived.Test.YtkcgikgihbglnabDoorLbSame
namespace Go.Proofs.YtkcgikgihbglnabDoor
open Go.RowKit

theorem putAt_len (b : List UInt8) {ls : List LbT} (h : (rightS ls).1 = 0) : (putAt b ls ls.length).length ≤ b.length + 10 + 340 * 16 := by
  have hl := (right_rise h).1
  have h1 := uv_short (n := ls.length) (by omega)
  have key : ∀ t : List LbT, (∀ x ∈ t, oneE x.1 x.2 = 0) → (t.flatMap lbB).length ≤ 340 * t.length := fun t => by
    induction t with
    | nil => intro _; simp
    | cons x t ih =>
      intro ht
      have ih := ih (fun y hy => ht y (List.mem_cons_of_mem _ hy))
      obtain ⟨q1, -, q3, -⟩ := one_facts (ht x List.mem_cons_self)
      have q2 := name_len q1
      have u1 := uv_short (n := x.1.length) (by omega)
      have u2 := uv_short (n := x.2.length) (by omega)
      rw [List.flatMap_cons, List.length_append, List.length_cons]
      have : (lbB x).length ≤ 340 := by
        unfold lbB
        simp only [List.length_append]
        omega
      omega
  have := key ls (right_one h)
  unfold putAt
  rw [List.take_length]
  simp only [List.length_append]
  omega

set_option maxRecDepth 8000 in
set_option maxHeartbeats 6400000 in
theorem lbBack_walk (w : World) (v vb : Value) (ls : List LbT) (b : List UInt8) (hv : RdL w v ls) (hl : LbIn ls) (hb : Rd w vb b) (hlb : b.length ≤ 140737488351232) (hT : U8S w) :
    Calls Tryd.prog 3 #[v, vb] w fun e w' => e = .returned (.bool true) ∧ Below w.heap.size w w' := by
  have HV : Hid (RdL w v ls ∧ LbIn ls ∧ U8S w ∧ Rd w vb b) := ⟨hv, hl, hT, hb⟩
  obtain ⟨a, c, rfl⟩ : ∃ a c, v = .slice a ls.length c := by obtain ⟨a, c, h, _⟩ := hv; exact ⟨a, c, h⟩
  obtain ⟨ba, bc, rfl, -, -, -, -⟩ := hb
  clear hv hl hT
  have HR : Hid (∀ W, w.grownBy W none → Calls Tryd.prog 5 #[.slice a ls.length c] W fun e w' => e = .returned (.tuple #[.int .i64 (rightS ls).1, .int .i64 ((rightS ls).2 : Int)]) ∧ W.grownBy w' none) := fun W hg => right_any W _ ls (HV.out.1.keep hg) HV.out.2.1 (HV.out.2.2.1.keep hg)
  have HP : Hid (∀ W, w.grownBy W none → Calls Tryd.prog 6 #[.slice a ls.length c] W fun e w' => e = .returned (.tuple #[.string (ByteArray.mk ⟨(printS ls).1⟩), .int .i64 (printS ls).2]) ∧ W.grownBy w' none) := fun W hg => print_any W _ ls (HV.out.1.keep hg) HV.out.2.1 (HV.out.2.2.1.keep hg)
  have HU : Hid (∀ W, w.grownBy W none → Calls Tryd.prog 7 #[.slice ba b.length bc, .slice a ls.length c] W fun e w' => ∃ v', e = .returned (.tuple #[v', .int .i64 (putS b ls).2]) ∧ Own w' W.heap.size v' (putS b ls).1 ∧ W.grownBy w' none) := fun W hg => put_any W _ _ b ls (HV.out.2.2.2.keep hg) (by omega) (HV.out.1.keep hg) HV.out.2.1 (HV.out.2.2.1.keep hg)
  have HSame : Hid (∀ W u1, RdL W u1 ls → w.grownBy W none → Calls Tryd.prog 11 #[u1, .slice a ls.length c] W fun e w' => e = .returned (.bool true) ∧ W.grownBy w' none) := fun W u1 h1 hg => by
    have := sameL_any W u1 (.slice a ls.length c) ls ls h1 (HV.out.1.keep hg)
    rwa [decide_eq_true rfl] at this
  by_cases hr : (rightS ls).1 = 0
  · obtain ⟨hpb, hp0⟩ := parse_back hr
    have hrb := read_back b hr
    have hpl := putAt_len b hr
    have hpu : putS b ls = (putAt b ls ls.length, 0) := by unfold putS; rw [if_pos hr]
    have HPa : Hid (∀ W, w.grownBy W none → Calls Tryd.prog 9 #[.string (ByteArray.mk ⟨(printS ls).1⟩)] W fun e w' => ∃ v', e = .returned (.tuple #[v', .int .i64 0, .int .i64 0]) ∧ OwnL w' W.heap.size v' ls ∧ W.grownBy w' none) := fun W hg => by
      have := parse_any W (printS ls).1 (HV.out.2.2.1.keep hg)
      rw [hpb] at this
      exact this
    have HRe : Hid (∀ W u, Rd W u (putAt b ls ls.length) → w.grownBy W none → Calls Tryd.prog 10 #[u, .int .i64 (b.length : Int)] W fun e w' => ∃ v', e = .returned (.tuple #[v', .int .i64 (((putAt b ls ls.length).length : Nat) : Int), .int .i64 0]) ∧ OwnL w' W.heap.size v' ls ∧ W.grownBy w' none) := fun W u hu hg => by
      have := read_any W u (putAt b ls ls.length) (b.length : Int) hu (by omega) (HV.out.2.2.1.keep hg)
      rw [hrb] at this
      exact this
    rw [hr] at HR
    rw [hp0] at HP
    rw [hpu] at HU
    dsimp only at HU
    clear hpb hp0 hrb hpu hr
    generalize (rightS ls).2 = ri at *
    generalize ByteArray.mk ⟨(printS ls).1⟩ = sp at *
    generalize putAt b ls ls.length = Q at *
    have hql : (Q.length : Int) ≤ 140737488361232 := by omega
    go_enter Tryd.func3, Tryd.ntmps3
    go_wp2_with fail
    refine (HR.out _ (gb_refl _ _)).mono ?_
    rintro e w1 ⟨rfl, hg1⟩
    have H1 : Hid (w.grownBy w1 none) := hg1
    clear hg1 HR
    go_wp2_with fail
    refine (HP.out _ H1.out).mono ?_
    rintro e w2 ⟨rfl, hg2⟩
    have H2 : Hid (w.grownBy w2 none) := gb_none H1.out hg2
    clear hg2 HP H1
    go_wp2_with fail
    refine (HU.out _ H2.out).mono ?_
    rintro e w3 ⟨vp, rfl, hop, hg3⟩
    obtain ⟨pa, pc, rfl⟩ := hop.shape
    have H3 : Hid (Own w3 w2.heap.size (.slice pa Q.length pc) Q ∧ w.grownBy w3 none) := ⟨hop, gb_none H2.out hg3⟩
    clear hg3 hop HU H2
    go_wp2_with fail
    refine (HPa.out _ H3.out.2).mono ?_
    rintro e w4 ⟨vm, rfl, hom, hg4⟩
    have H4 : Hid (Own w4 w2.heap.size (.slice pa Q.length pc) Q ∧ w.grownBy w4 none ∧ OwnL w4 w3.heap.size vm ls) := ⟨H3.out.1.keep hg4, gb_none H3.out.2 hg4, hom⟩
    clear hg4 hom HPa H3
    go_wp2_with fail
    refine (HRe.out _ _ H4.out.1.rd H4.out.2.1).mono ?_
    rintro e w5 ⟨vn, rfl, hon, hg5⟩
    have H5 : Hid (w.grownBy w5 none ∧ OwnL w5 w3.heap.size vm ls ∧ OwnL w5 w4.heap.size vn ls) := ⟨gb_none H4.out.2.1 hg5, H4.out.2.2.keep hg5, hon⟩
    clear hg5 hon HRe H4
    go_wp2_with fail
    refine (HSame.out _ _ H5.out.2.1.rd H5.out.1).mono ?_
    rintro e w6 ⟨rfl, hg6⟩
    have H6 : Hid (w.grownBy w6 none ∧ OwnL w6 w4.heap.size vn ls) := ⟨gb_none H5.out.1 hg6, H5.out.2.2.keep hg6⟩
    clear hg6 H5
    go_wp2_with fail
    refine (HSame.out _ _ H6.out.2.rd H6.out.1).mono ?_
    rintro e w7 ⟨rfl, hg7⟩
    have H7 : Hid (w.grownBy w7 none) := gb_none H6.out.1 hg7
    clear hg7 H6
    go_wp2_with fail
    refine (awakeL_any _ (HV.out.2.2.1.keep H7.out)).mono ?_
    rintro e wc ⟨rfl, hgc⟩
    have Hc : Hid (Below w.heap.size w wc) := gb_below (gb_none H7.out hgc)
    clear hgc H7
    go_wp2
    go_ret
    exact ⟨rfl, Hc.out⟩
  · have hps : printS ls = ([], (rightS ls).1) := by unfold printS; rw [if_pos hr]
    have hpu : putS b ls = ([], (rightS ls).1) := by unfold putS; rw [if_neg hr]
    rw [hps] at HP
    rw [hpu] at HU
    dsimp only at HU HP
    clear hps hpu
    have e0 : (ByteArray.mk ⟨([] : List UInt8)⟩).toList.isEmpty = true := by rw [ByteArray.toList_eq]; rfl
    have e0' : (ByteArray.mk ⟨([] : List UInt8)⟩).toList = [] := by rw [ByteArray.toList_eq]
    generalize ByteArray.mk ⟨([] : List UInt8)⟩ = sn at *
    generalize (rightS ls).1 = E at *
    generalize (rightS ls).2 = ri at *
    have hrb : (E == 0) = false := by rw [beq_eq_false_iff_ne]; exact hr
    go_enter Tryd.func3, Tryd.ntmps3
    go_wp2_with fail
    refine (HR.out _ (gb_refl _ _)).mono ?_
    rintro e w1 ⟨rfl, hg1⟩
    have H1 : Hid (w.grownBy w1 none) := hg1
    clear hg1 HR
    go_wp2_with fail
    refine (HP.out _ H1.out).mono ?_
    rintro e w2 ⟨rfl, hg2⟩
    have H2 : Hid (w.grownBy w2 none) := gb_none H1.out hg2
    clear hg2 HP H1
    go_wp2_with fail
    refine (HU.out _ H2.out).mono ?_
    rintro e w3 ⟨vp, rfl, hop, hg3⟩
    obtain ⟨pa, pc, rfl⟩ := hop.shape
    have H3 : Hid (w.grownBy w3 none) := gb_none H2.out hg3
    clear hg3 hop HU H2
    go_wp2_with fail
    refine (awakeL_any _ (HV.out.2.2.1.keep H3.out)).mono ?_
    rintro e wc ⟨rfl, hgc⟩
    have Hc : Hid (Below w.heap.size w wc) := gb_below (gb_none H3.out hgc)
    clear hgc H3
    go_wp2
    go_ret
    exact ⟨rfl, Hc.out⟩
end Go.Proofs.YtkcgikgihbglnabDoor
