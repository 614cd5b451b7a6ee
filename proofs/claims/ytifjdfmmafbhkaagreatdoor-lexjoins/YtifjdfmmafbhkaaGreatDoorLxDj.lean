/-
  Are two lists of tokens alike, places too: the law's whole.
-/
import Derived.Test.YtifjdfmmafbhkaaGreatDoorLxW
import Derived.Deep.QuietTactic
namespace Go.Proofs.YtifjdfmmafbhkaaGreatDoor
open Go.RowKit

set_option maxRecDepth 8000 in
set_option maxHeartbeats 3200000 in
theorem whole_any (w : World) (va vb : Value) (a b : List Tok) (ha : RdT w va a) (hb : RdT w vb b) :
    Calls Tryz.prog 10 #[va, vb] w fun e w' => e = .returned (.bool (decide (a = b))) ∧ w.grownBy w' none := by
  obtain ⟨aa, ca, rfl, ha1, ha2, ha3⟩ := ha
  obtain ⟨ab, cb, rfl, hb1, hb2, hb3⟩ := hb
  unfold maxLen at ha2 hb2
  have hla := fun W ty => len_tokens W ty aa a.length ca
  have hlb := fun W ty => len_tokens W ty ab b.length cb
  obtain ⟨R, hR⟩ : ∃ R, decide (a = b) = R := ⟨_, rfl⟩
  rw [hR]
  have HR := hidJ hR
  clear hR
  by_cases hl : a.length = b.length
  · have HL := hidJ hl
    obtain ⟨n, hn⟩ : ∃ n, a.length = n := ⟨_, rfl⟩
    have hnb : b.length = n := by omega
    have HN := hidJ (And.intro hn hnb)
    rw [hn] at hla ha1 ha3
    rw [hnb] at hlb hb1 hb3
    rw [hn, hnb]
    clear hn hnb hl
    go_enter Tryz.func10, Tryz.ntmps10
    go_wp2_with fail
    go_loopg [5] (n + 1) (fun gk v5 wr => ∃ i : Nat, v5 = .int .i64 (i : Int) ∧ n < i + gk ∧ i ≤ n ∧ Hid ((∀ j, j < i → a.getD j tkD = b.getD j tkD) ∧ w.grownBy wr none))
    case atStart => exact ⟨0, rfl, by omega, by omega, fun j hj => absurd hj (by omega), gb_refl _ _⟩
    case round =>
      obtain ⟨i, rfl, hg, hin, hr⟩ := hrel
      by_cases hlt : i < n
      · obtain ⟨k, rfl⟩ : ∃ k, gk = k + 1 := ⟨gk - 1, by omega⟩
        have hli2 : (i : Int) < (n : Int) := by omega
        obtain ⟨ba, oa, ea, xa0, xa1, xa2⟩ := ha3 i hlt
        obtain ⟨bb, ob, eb, xb0, xb1, xb2⟩ := hb3 i hlt
        subst ea eb
        have HG := hidJ hr.out.2
        have HJ := hidJ hr.out.1
        have HTa : Hid (∀ t, a.getD i tkD = t → t ≠ b.getD i tkD → R = false) := fun t h1 h2 => by
          rw [← HR.out]
          exact decide_eq_false (fun e => h2 (by rw [← h1, e]))
        have hta := hidJ (show ∃ t, t = a.getD i tkD from ⟨_, rfl⟩)
        have ya0 := cell_keep HG.out xa0
        have ya1 := cell_keep HG.out xa1
        have ya2 := cell_keep HG.out xa2
        have yb0 := cell_keep HG.out xb0
        have yb1 := cell_keep HG.out xb1
        have yb2 := cell_keep HG.out xb2
        clear hr ha3 hb3 xa0 xa1 xa2 xb0 xb1 xb2 hta
        generalize hA : a.getD i tkD = ta at *
        generalize hB : b.getD i tkD = tb at *
        have HA := hidJ hA
        have HB := hidJ hB
        clear hA hB
        obtain ⟨k1, t1, a1⟩ := ta
        obtain ⟨k2, t2, a2⟩ := tb
        dsimp only at *
        by_cases hE : ((k1, t1, a1) : Tok) = (k2, t2, a2)
        · obtain ⟨rfl, e2⟩ := Prod.mk.inj hE
          obtain ⟨rfl, rfl⟩ := Prod.mk.inj e2
          clear hE e2
          go_wp2_with fail
          go_quiet (fail)
          have hgd : wr.grownBy (wr.drewN nq) none := ⟨rfl, rfl, rfl, Nat.le_refl _, fun _ _ _ => rfl⟩
          have HR2 := hidJ (gb_none HG.out hgd)
          clear hgd ya0 ya1 ya2 yb0 yb1 yb2
          generalize wr.drewN nq = W3 at *
          go_wp2
          go_roundg k
          case measure => omega
          case rel => exact ⟨i + 1, by go_num, by omega, by omega, fun j hj => by
            by_cases h : j < i
            · exact HJ.out j h
            · obtain rfl : j = i := by omega
              rw [HA.out, HB.out], HR2.out⟩
        · by_cases e1 : k1 = k2
          · subst e1
            by_cases e2 : t1 = t2
            · subst e2
              have e3 : ¬ a1 = a2 := fun e => hE (by rw [e])
              have e3b : (a1 == a2) = false := by rw [beq_eq_false_iff_ne]; exact e3
              go_wp2_with fail
              go_quiet (fail)
              have hgd : wr.grownBy (wr.drewN nq) none := ⟨rfl, rfl, rfl, Nat.le_refl _, fun _ _ _ => rfl⟩
              have HR2 := hidJ (gb_none HG.out hgd)
              have hRf : R = false := by
                rw [← HR.out]
                exact decide_eq_false (fun e => hE (by rw [← HA.out, ← HB.out, e]))
              subst hRf
              clear hgd
              generalize wr.drewN nq = W3 at *
              go_wp2
              go_ret
              exact ⟨rfl, HR2.out⟩
            · have e2b : (t1 == t2) = false := by rw [beq_eq_false_iff_ne]; exact e2
              have e2c : ((ByteArray.mk ⟨t1⟩).toList == (ByteArray.mk ⟨t2⟩).toList) = false := by rw [mk_toList, mk_toList]; exact e2b
              have e2d : ¬ (ByteArray.mk ⟨t1⟩ = ByteArray.mk ⟨t2⟩) := fun h => e2 (by injection h with h; injection h)
              go_wp2_with fail
              go_quiet (fail)
              have hgd : wr.grownBy (wr.drewN nq) none := ⟨rfl, rfl, rfl, Nat.le_refl _, fun _ _ _ => rfl⟩
              have HR2 := hidJ (gb_none HG.out hgd)
              have hRf : R = false := by
                rw [← HR.out]
                exact decide_eq_false (fun e => hE (by rw [← HA.out, ← HB.out, e]))
              subst hRf
              clear hgd
              generalize wr.drewN nq = W3 at *
              go_wp2
              go_ret
              exact ⟨rfl, HR2.out⟩
          · have e1b : (k1 == k2) = false := by rw [beq_eq_false_iff_ne]; exact e1
            go_wp2_with fail
            go_quiet (fail)
            have hgd : wr.grownBy (wr.drewN nq) none := ⟨rfl, rfl, rfl, Nat.le_refl _, fun _ _ _ => rfl⟩
            have HR2 := hidJ (gb_none HG.out hgd)
            have hRf : R = false := by
              rw [← HR.out]
              exact decide_eq_false (fun e => hE (by rw [← HA.out, ← HB.out, e]))
            subst hRf
            clear hgd
            generalize wr.drewN nq = W3 at *
            go_wp2
            go_ret
            exact ⟨rfl, HR2.out⟩
      · obtain rfl : i = n := by omega
        have hRt : R = true := by
          rw [← HR.out]
          refine decide_eq_true (List.ext_getElem (by rw [HN.out.1, HN.out.2]) (fun j h1 h2 => ?_))
          have := hr.out.1 j (by rw [← HN.out.1]; exact h1)
          rw [List.getD, List.getD, List.getElem?_eq_getElem h1, List.getElem?_eq_getElem h2] at this
          exact this
        subst hRt
        have HG := hidJ hr.out.2
        clear hr
        go_wp2
        go_ret
        exact ⟨rfl, HG.out⟩
  · have hli : ((a.length : Int) == (b.length : Int)) = false := by rw [beq_eq_false_iff_ne]; omega
    have hli2 : ¬ (a.length : Int) = (b.length : Int) := by omega
    have hRf : R = false := by
      rw [← HR.out]
      exact decide_eq_false (fun e => hl (by rw [e]))
    subst hRf
    go_enter Tryz.func10, Tryz.ntmps10
    go_wp2
    go_ret
    exact ⟨rfl, gb_refl _ _⟩
end Go.Proofs.YtifjdfmmafbhkaaGreatDoor
