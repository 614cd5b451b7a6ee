/-
  The document's Quote: the walk.
-/
import Derived.Test.YtifjdfmmafbhkaaGreatDoorLxGA
import Derived.Test.YtifjdfmmafbhkaaGreatDoorLxDa
import Derived.Test.YtifjdfmmafbhkaaGreatDoorLxZd
import Derived.Test.YtifjdfmmafbhkaaGreatDoorLxGJ
import Derived.Deep.RegionHeld3
namespace Go.Proofs.YtifjdfmmafbhkaaGreatDoor
open Go.RowKit

theorem step_appU {w : World} {ops : Array Oper} {o : Oper} {a : Act} {K : Act → World → Prop} {Q : Exit → Act → World → Prop} {E : Prop} (hgd : o.guard = none) (s x : Operand)
    (ho : o.op = .call { callee := .builtin .append, args := #[s, x], argTypes := #[36, 36] }) (base : Nat) (v xv : Value) (l m : List UInt8) (hs : a.eval s = v) (hx : a.eval x = xv) (hown : Own w base v l) (hr : Rd w xv m)
    (hsz : l.length + m.length ≤ 175921860444160) (hbase : base ≤ w.heap.size) (h : ∀ v' w', Own w' base v' (l ++ m) → Fr w w' v v' → K (a.put o.dst v') w') :
    if Region.wanted o (yielded ops a.tmps) = true then Oper.wp Tryz.prog o a w K Q else E := by
  have hw : Region.wanted o (yielded ops a.tmps) = true := by simp [Region.wanted, hgd]
  rw [if_pos hw]
  obtain ⟨v', w', hrun, h2, h3⟩ := run_app w o.type base v l hown xv m hr hsz hbase
  unfold Oper.wp execOp
  simp only [ho, resolve, invoke, builtin, Sem.run_bind, Sem.run_pure, Result.andThen_ok, List.map_toArray, List.map_cons, List.map_nil, hs, hx, hrun]
  exact h v' w' h2 h3
theorem own_lit (w : World) (base : Nat) (bs : List UInt8) (hb : base ≤ w.heap.size) (hm : bs.length ≤ 1000) : Own (w.alloc (.cells (bs.map bv).toArray 5)) base (.slice (some ⟨w.heap.size, 0, none⟩) bs.length bs.length) bs :=
  ⟨by simp, .inr ⟨w.heap.size, bs.length, _, rfl, hb, Go.heap_alloc_new w _, Nat.le_refl _, by unfold maxLen; omega, by simp, by simp [List.take_of_length_le]⟩⟩
theorem quB_take (l : LxS) (i : Nat) (h : i < l.length) : quB (l.take (i + 1)) = quB (l.take i) ++ qcB (byN l i) := by
  unfold quB byN
  rw [List.take_succ_eq_append_getElem h, List.flatMap_append]
  simp [List.getD, List.getElem?_eq_getElem h]
/-- what has been written ahead of place i -/
def QuS (l : LxS) (i : Nat) (acc : LxS) : Prop := acc = 34 :: quB (l.take i)
theorem QuS.step {l : LxS} {i : Nat} {acc m : LxS} (h : QuS l i acc) (hi : i < l.length) (hm : qcB (byN l i) = m) : QuS l (i + 1) (acc ++ m) := by
  unfold QuS at h ⊢
  rw [quB_take l i hi, hm, h]
  rfl
set_option maxRecDepth 8000 in
set_option maxHeartbeats 6400000 in
theorem refQuote_any (w : World) (l : LxS) (hl : l.length ≤ 200000000) :
    Calls Tryz.prog 7 #[.string (ByteArray.mk ⟨l⟩)] w fun e w' => e = .returned (quV (quW l)) ∧ w.grownBy w' none := by
  have hz : (ByteArray.mk ⟨l⟩).size = l.length := rfl
  have HU := hidJ (utf8_same w l (by omega))
  have HW : Hid (quW l = if Lib.validD l = true then (34 :: (quB l ++ [34]), 0) else ([], 12)) := rfl
  generalize quW l = R at *
  cases hv : Lib.validD l with
  | false =>
    rw [hv] at HU
    have hR := HW.out
    rw [hv, if_neg (by decide)] at hR
    subst hR
    clear HW hv
    dsimp only [quV]
    go_enter Tryz.func7, Tryz.ntmps7
    go_wp2_with fail
    refine HU.out.mono ?_
    rintro e w1 ⟨rfl, hw⟩
    have hw := hw.symm
    subst hw
    go_wp2
    go_ret2
    exact ⟨rfl, gb_refl _ _⟩
  | true =>
    rw [hv] at HU
    have hR := HW.out
    rw [hv, if_pos rfl] at hR
    have HR := hidJ hR
    clear HW hv hR
    go_enter Tryz.func7, Tryz.ntmps7
    go_wp2_with fail
    refine HU.out.mono ?_
    rintro e w1 ⟨rfl, hw⟩
    have hw := hw.symm
    subst hw
    clear HU
    have H0 := hidJ (show Own (w.alloc (.cells #[.int .u8 34] 5)) w.heap.size (.slice (some ⟨w.heap.size, 0, none⟩) 1 1) [34] ∧ w.grownBy (w.alloc (.cells #[.int .u8 34] 5)) none from ⟨own_lit w w.heap.size [34] (Nat.le_refl _) (by decide), World.grownBy_alloc _ _ none⟩)
    go_wp2_with fail
    go_loopg [4, 5] (l.length + 1) (fun gk v4 v5 wr => ∃ (i : Nat) (acc : LxS) (v : Value), v4 = v ∧ v5 = .int .i64 (i : Int) ∧ i ≤ l.length ∧ l.length < i + gk ∧ acc.length ≤ 4 * i + 1 ∧ Hid (QuS l i acc ∧ Own wr w.heap.size v acc ∧ w.grownBy wr none))
    case atStart => exact ⟨0, [34], _, rfl, rfl, by omega, by omega, by simp, rfl, H0.out.1, H0.out.2⟩
    case round =>
      obtain ⟨i, acc, v, rfl, rfl, hil, hg, hac, hr⟩ := hrel
      have HT := hidJ hr.out.1
      have HO := hidJ hr.out.2
      clear hr H0
      by_cases hlt : i < l.length
      · obtain ⟨k, rfl⟩ : ∃ k, gk = k + 1 := ⟨gk - 1, by omega⟩
        have hli : (i : Int) < (l.length : Int) := by omega
        obtain ⟨x, hx, hxi⟩ := byte_at l i hlt
        have hx256 := x.toNat_lt
        have HS := hidJ (fun m h => HT.out.step hlt (m := m) h)
        rw [← hx] at HS
        clear HT hx
        by_cases hc92 : x.toNat = 92
        · have x92i : (x.toNat : Int) = 92 := by omega
          have HE := hidJ (HS.out [92, 92] (by rw [hc92]; rfl))
          clear HS hc92
          as_aux_lemma =>
            go_wp2_with (at_builtin; refine wp_app rfl _ _ rfl w.heap.size _ _ acc [92, 92] rfl rfl (HO.out.1.keep (World.grownBy_alloc _ _ _)) (Rd_lit _ [92, 92] 2 rfl (by simp) _ rfl) ?c1a1 ?c2a1 ?_)
            case c1a1 => first | omega | (simp; omega)
            case c2a1 => have := HO.out.2.size; first | omega | (simp; omega)
            intro v2 w2 ho2 hf2
            have H2 := hidJ (show Own w2 w.heap.size v2 (acc ++ [92, 92]) ∧ w.grownBy w2 none from ⟨ho2, Fr.new (gb_none HO.out.2 (World.grownBy_alloc _ _ _)) hf2 (fun k hk => (HO.out.1.lt k hk).1)⟩)
            clear ho2 hf2 HO
            go_wp2
            go_roundg k
            case measure => omega
            case rel => exact ⟨i + 1, acc ++ [92, 92], v2, rfl, by go_num, by omega, by omega, by rw [List.length_append]; simp only [List.length_cons, List.length_nil]; omega, HE.out, H2.out.1, H2.out.2⟩
        · have x92i : ¬ (x.toNat : Int) = 92 := by omega
          have x92j : ((x.toNat : Int) == 92) = false := by rw [beq_eq_false_iff_ne]; exact x92i
          by_cases hc34 : x.toNat = 34
          · have x34i : (x.toNat : Int) = 34 := by omega
            have HE := hidJ (HS.out [92, 34] (by rw [hc34]; rfl))
            clear HS hc34
            as_aux_lemma =>
              go_wp2_with (at_builtin; refine wp_app rfl _ _ rfl w.heap.size _ _ acc [92, 34] rfl rfl (HO.out.1.keep (World.grownBy_alloc _ _ _)) (Rd_lit _ [92, 34] 2 rfl (by simp) _ rfl) ?c1a2 ?c2a2 ?_)
              case c1a2 => first | omega | (simp; omega)
              case c2a2 => have := HO.out.2.size; first | omega | (simp; omega)
              intro v2 w2 ho2 hf2
              have H2 := hidJ (show Own w2 w.heap.size v2 (acc ++ [92, 34]) ∧ w.grownBy w2 none from ⟨ho2, Fr.new (gb_none HO.out.2 (World.grownBy_alloc _ _ _)) hf2 (fun k hk => (HO.out.1.lt k hk).1)⟩)
              clear ho2 hf2 HO
              go_wp2
              go_roundg k
              case measure => omega
              case rel => exact ⟨i + 1, acc ++ [92, 34], v2, rfl, by go_num, by omega, by omega, by rw [List.length_append]; simp only [List.length_cons, List.length_nil]; omega, HE.out, H2.out.1, H2.out.2⟩
          · have x34i : ¬ (x.toNat : Int) = 34 := by omega
            have x34j : ((x.toNat : Int) == 34) = false := by rw [beq_eq_false_iff_ne]; exact x34i
            by_cases hc10 : x.toNat = 10
            · have x10i : (x.toNat : Int) = 10 := by omega
              have HE := hidJ (HS.out [92, 110] (by rw [hc10]; rfl))
              clear HS hc10
              as_aux_lemma =>
                go_wp2_with (at_builtin; refine wp_app rfl _ _ rfl w.heap.size _ _ acc [92, 110] rfl rfl (HO.out.1.keep (World.grownBy_alloc _ _ _)) (Rd_lit _ [92, 110] 2 rfl (by simp) _ rfl) ?c1a3 ?c2a3 ?_)
                case c1a3 => first | omega | (simp; omega)
                case c2a3 => have := HO.out.2.size; first | omega | (simp; omega)
                intro v2 w2 ho2 hf2
                have H2 := hidJ (show Own w2 w.heap.size v2 (acc ++ [92, 110]) ∧ w.grownBy w2 none from ⟨ho2, Fr.new (gb_none HO.out.2 (World.grownBy_alloc _ _ _)) hf2 (fun k hk => (HO.out.1.lt k hk).1)⟩)
                clear ho2 hf2 HO
                go_wp2
                go_roundg k
                case measure => omega
                case rel => exact ⟨i + 1, acc ++ [92, 110], v2, rfl, by go_num, by omega, by omega, by rw [List.length_append]; simp only [List.length_cons, List.length_nil]; omega, HE.out, H2.out.1, H2.out.2⟩
            · have x10i : ¬ (x.toNat : Int) = 10 := by omega
              have x10j : ((x.toNat : Int) == 10) = false := by rw [beq_eq_false_iff_ne]; exact x10i
              by_cases hc9 : x.toNat = 9
              · have x9i : (x.toNat : Int) = 9 := by omega
                have HE := hidJ (HS.out [92, 116] (by rw [hc9]; rfl))
                clear HS hc9
                as_aux_lemma =>
                  go_wp2_with (at_builtin; refine wp_app rfl _ _ rfl w.heap.size _ _ acc [92, 116] rfl rfl (HO.out.1.keep (World.grownBy_alloc _ _ _)) (Rd_lit _ [92, 116] 2 rfl (by simp) _ rfl) ?c1a4 ?c2a4 ?_)
                  case c1a4 => first | omega | (simp; omega)
                  case c2a4 => have := HO.out.2.size; first | omega | (simp; omega)
                  intro v2 w2 ho2 hf2
                  have H2 := hidJ (show Own w2 w.heap.size v2 (acc ++ [92, 116]) ∧ w.grownBy w2 none from ⟨ho2, Fr.new (gb_none HO.out.2 (World.grownBy_alloc _ _ _)) hf2 (fun k hk => (HO.out.1.lt k hk).1)⟩)
                  clear ho2 hf2 HO
                  go_wp2
                  go_roundg k
                  case measure => omega
                  case rel => exact ⟨i + 1, acc ++ [92, 116], v2, rfl, by go_num, by omega, by omega, by rw [List.length_append]; simp only [List.length_cons, List.length_nil]; omega, HE.out, H2.out.1, H2.out.2⟩
              · have x9i : ¬ (x.toNat : Int) = 9 := by omega
                have x9j : ((x.toNat : Int) == 9) = false := by rw [beq_eq_false_iff_ne]; exact x9i
                by_cases hc13 : x.toNat = 13
                · have x13i : (x.toNat : Int) = 13 := by omega
                  have HE := hidJ (HS.out [92, 114] (by rw [hc13]; rfl))
                  clear HS hc13
                  as_aux_lemma =>
                    go_wp2_with (at_builtin; refine wp_app rfl _ _ rfl w.heap.size _ _ acc [92, 114] rfl rfl (HO.out.1.keep (World.grownBy_alloc _ _ _)) (Rd_lit _ [92, 114] 2 rfl (by simp) _ rfl) ?c1a5 ?c2a5 ?_)
                    case c1a5 => first | omega | (simp; omega)
                    case c2a5 => have := HO.out.2.size; first | omega | (simp; omega)
                    intro v2 w2 ho2 hf2
                    have H2 := hidJ (show Own w2 w.heap.size v2 (acc ++ [92, 114]) ∧ w.grownBy w2 none from ⟨ho2, Fr.new (gb_none HO.out.2 (World.grownBy_alloc _ _ _)) hf2 (fun k hk => (HO.out.1.lt k hk).1)⟩)
                    clear ho2 hf2 HO
                    go_wp2
                    go_roundg k
                    case measure => omega
                    case rel => exact ⟨i + 1, acc ++ [92, 114], v2, rfl, by go_num, by omega, by omega, by rw [List.length_append]; simp only [List.length_cons, List.length_nil]; omega, HE.out, H2.out.1, H2.out.2⟩
                · have x13i : ¬ (x.toNat : Int) = 13 := by omega
                  have x13j : ((x.toNat : Int) == 13) = false := by rw [beq_eq_false_iff_ne]; exact x13i
                  by_cases h127 : x.toNat = 127
                  · have HE := hidJ (HS.out [92, 120, 55, 102] (by rw [h127]; rfl))
                    have x127i : (x.toNat : Int) = 127 := by omega
                    have hw7 : IntKind.u8.wrap 7 = 7 := by decide
                    have hw15 : IntKind.u8.wrap 15 = 15 := by decide
                    have HOw := hidJ (fun W (h : wr.grownBy W none) => HO.out.1.keep h)
                    have hb0 := hidJ HO.out.2.size
                    obtain ⟨a4, n4, c4, e4⟩ : ∃ a n c, u4 = Value.slice a n c := by
                      obtain ⟨a, c, e⟩ := HO.out.1.shape
                      exact ⟨a, _, c, e⟩
                    subst e4
                    clear HS hc92 hc34 hc10 hc9 hc13 h127
                    as_aux_lemma =>
                      go_wp2_with fail
                      go_region_law (refine step_appU rfl (.tmp 60) (.tmp 67) rfl w.heap.size (.slice a4 n4 c4) (.slice (some ⟨wr.heap.size, 0, none⟩) 4 4) acc [92, 120, 55, 102] (by simp [Act.eval]) (by simp [Act.eval]) (HOw.out _ (by first | exact World.grownBy_alloc _ _ none | exact gb_none (gb_drew _ none) (World.grownBy_alloc _ _ none) | exact gb_none (World.grownBy_alloc _ _ none) (gb_drew _ none))) (by first | exact Rd_lit _ [92, 120, 55, 102] 4 rfl (by simp) _ rfl | exact (Rd_lit _ [92, 120, 55, 102] 4 rfl (by simp) _ rfl).keep (gb_drew _ none)) (by simp only [List.length_cons, List.length_nil]; omega) (by have := hb0.out; first | omega | (simp; omega)) ?_; intro v2 w2 ho2 hf2; have H2 := hidJ (show Own w2 w.heap.size v2 (acc ++ [92, 120, 55, 102]) ∧ w.grownBy w2 none from ⟨ho2, Fr.new (gb_none HO.out.2 (by first | exact World.grownBy_alloc _ _ none | exact gb_none (gb_drew _ none) (World.grownBy_alloc _ _ none) | exact gb_none (World.grownBy_alloc _ _ none) (gb_drew _ none))) hf2 (fun k hk => (HO.out.1.lt k hk).1)⟩))
                      all_goals clear ho2 hf2
                      all_goals go_wp2
                      all_goals go_roundg k
                      all_goals first
                        | exact ⟨i + 1, acc ++ [92, 120, 55, 102], v2, rfl, by go_num, by omega, by omega, by rw [List.length_append]; simp only [List.length_cons, List.length_nil]; omega, HE.out, H2.out.1, H2.out.2⟩
                        | omega
                  · have x127i : ¬ (x.toNat : Int) = 127 := by omega
                    have x127j : ((x.toNat : Int) == 127) = false := by rw [beq_eq_false_iff_ne]; exact x127i
                    by_cases hcx : x.toNat < 32
                    · obtain ⟨q, hqd⟩ : ∃ q, x.toNat / 16 = q := ⟨_, rfl⟩
                      obtain ⟨m, hmd⟩ : ∃ m, x.toNat % 16 = m := ⟨_, rfl⟩
                      have HE := hidJ (HS.out [92, 120, hexd q, hexd m] (by unfold qcB; rw [if_neg hc10, if_neg hc9, if_neg hc13, if_pos (.inl hcx), hqd, hmd]))
                      have hq2 : (x.toNat : Int) / 16 = (q : Int) := by omega
                      have hm2 : (x.toNat : Int) % 16 = (m : Int) := by omega
                      have hq3 : (x.toNat : Int).tdiv 16 = (q : Int) := by rw [Int.tdiv_eq_ediv_of_nonneg (by omega)]; exact hq2
                      have hm3 : (x.toNat : Int).tmod 16 = (m : Int) := by rw [Int.tmod_eq_emod_of_nonneg (by omega)]; exact hm2
                      have hq16 : q < 16 := by omega
                      have hm16 : m < 16 := by omega
                      have hq16i : (q : Int) < 16 := by omega
                      have hm16i : (m : Int) < 16 := by omega
                      have hwq : IntKind.u8.wrap (q : Int) = (q : Int) := by simp [IntKind.wrap, IntKind.signed, IntKind.bits]; omega
                      have hwm : IntKind.u8.wrap (m : Int) = (m : Int) := by simp [IntKind.wrap, IntKind.signed, IntKind.bits]; omega
                      have i1 := idx16 q hq16
                      have i2 := idx16 m hm16
                      have h32 : (x.toNat : Int) < 32 := by omega
                      have HOw := hidJ (fun W (h : wr.grownBy W none) => HO.out.1.keep h)
                      have hb0 := hidJ HO.out.2.size
                      obtain ⟨a4, n4, c4, e4⟩ : ∃ a n c, u4 = Value.slice a n c := by
                        obtain ⟨a, c, e⟩ := HO.out.1.shape
                        exact ⟨a, _, c, e⟩
                      subst e4
                      clear HS hc92 hc34 hc10 hc9 hc13 hcx hqd hmd
                      as_aux_lemma =>
                        go_wp2_with fail
                        go_region_law (refine step_appU rfl (.tmp 60) (.tmp 67) rfl w.heap.size (.slice a4 n4 c4) (.slice (some ⟨wr.heap.size, 0, none⟩) 4 4) acc [92, 120, hexd q, hexd m] (by simp [Act.eval]) (by simp [Act.eval]) (HOw.out _ (by first | exact World.grownBy_alloc _ _ none | exact gb_none (gb_drew _ none) (World.grownBy_alloc _ _ none) | exact gb_none (World.grownBy_alloc _ _ none) (gb_drew _ none))) (by first | exact Rd_lit _ [92, 120, hexd q, hexd m] 4 rfl (by simp) _ rfl | exact (Rd_lit _ [92, 120, hexd q, hexd m] 4 rfl (by simp) _ rfl).keep (gb_drew _ none)) (by simp only [List.length_cons, List.length_nil]; omega) (by have := hb0.out; first | omega | (simp; omega)) ?_; intro v2 w2 ho2 hf2; have H2 := hidJ (show Own w2 w.heap.size v2 (acc ++ [92, 120, hexd q, hexd m]) ∧ w.grownBy w2 none from ⟨ho2, Fr.new (gb_none HO.out.2 (by first | exact World.grownBy_alloc _ _ none | exact gb_none (gb_drew _ none) (World.grownBy_alloc _ _ none) | exact gb_none (World.grownBy_alloc _ _ none) (gb_drew _ none))) hf2 (fun k hk => (HO.out.1.lt k hk).1)⟩))
                        all_goals clear ho2 hf2
                        all_goals go_wp2
                        all_goals go_roundg k
                        all_goals first
                          | exact ⟨i + 1, acc ++ [92, 120, hexd q, hexd m], v2, rfl, by go_num, by omega, by omega, by rw [List.length_append]; simp only [List.length_cons, List.length_nil]; omega, HE.out, H2.out.1, H2.out.2⟩
                          | omega
                    · have HE := hidJ (HS.out [x] (by unfold qcB; rw [if_neg hc10, if_neg hc9, if_neg hc13, if_neg (by omega), if_neg (by omega), UInt8.ofNat_toNat]))
                      have h32 : ¬ (x.toNat : Int) < 32 := by omega
                      clear HS hc92 hc34 hc10 hc9 hc13 hcx h127
                      as_aux_lemma =>
                        go_wp2_with (at_builtin; refine wp_app rfl _ _ rfl w.heap.size _ _ acc [x] rfl rfl (HO.out.1.keep (World.grownBy_alloc _ _ _)) (Rd_lit _ [x] 1 rfl (by simp) _ rfl) ?c1a6 ?c2a6 ?_)
                        case c1a6 => first | omega | (simp; omega)
                        case c2a6 => have := HO.out.2.size; first | omega | (simp; omega)
                        intro v2 w2 ho2 hf2
                        have H2 := hidJ (show Own w2 w.heap.size v2 (acc ++ [x]) ∧ w.grownBy w2 none from ⟨ho2, Fr.new (gb_none HO.out.2 (World.grownBy_alloc _ _ _)) hf2 (fun k hk => (HO.out.1.lt k hk).1)⟩)
                        clear ho2 hf2 HO
                        go_wp2
                        go_roundg k
                        case measure => omega
                        case rel => exact ⟨i + 1, acc ++ [x], v2, rfl, by go_num, by omega, by omega, by rw [List.length_append]; simp only [List.length_cons, List.length_nil]; omega, HE.out, H2.out.1, H2.out.2⟩

      · obtain rfl : i = l.length := by omega
        have hli : ¬ (l.length : Int) < (l.length : Int) := by omega
        have HE := hidJ (show acc ++ [34] = R.1 ∧ R.2 = 0 from by
          have h := HT.out
          unfold QuS at h
          rw [List.take_length] at h
          rw [HR.out, h]
          exact ⟨rfl, rfl⟩)
        have HW0 := hidJ HR.out
        clear HR HT
        go_wp2_with (at_builtin; refine wp_app rfl _ _ rfl w.heap.size _ _ acc [34] rfl rfl (HO.out.1.keep (World.grownBy_alloc _ _ _)) (Rd_lit _ [34] 1 rfl (by simp) _ rfl) ?c1z ?c2z ?_)
        case c1z => first | omega | (simp; omega)
        case c2z => have := HO.out.2.size; first | omega | (simp; omega)
        intro v2 w2 ho2 hf2
        have H2 := hidJ (show Own w2 w.heap.size v2 (acc ++ [34]) ∧ w.grownBy w2 none from ⟨ho2, Fr.new (gb_none HO.out.2 (World.grownBy_alloc _ _ _)) hf2 (fun k hk => (HO.out.1.lt k hk).1)⟩)
        have hcv := run_strB8 ho2.rd
        clear ho2 hf2 HO
        generalize acc ++ [34] = RS at *
        obtain rfl : R = (RS, 0) := Prod.ext HE.out.1.symm HE.out.2
        clear HE HW0
        go_wp2
        go_ret2
        exact ⟨rfl, H2.out.2⟩
end Go.Proofs.YtifjdfmmafbhkaaGreatDoor
