/-
  The document's full, twice: the walks.
-/
import Derived.Test.YtknlnllcpdiglaaDoorLbMd
import Derived.Test.YtknlnllcpdiglaaDoorLbSp
namespace Go.Proofs.YtknlnllcpdiglaaDoor
open Go.RowKit

/-- one label in a new box, to be appended -/
theorem box_rdc (w : World) (x y : ByteArray) : RdC (w.alloc (.cells #[.string x, .string y] 56)) (some ⟨w.heap.size, 0, none⟩) [.string x, .string y] := by
  intro j u hj
  refine ⟨_, rfl, ?_⟩
  rw [Go.WideShapes.add_plain]
  have ha := Go.heap_alloc_new w (.cells #[.string x, .string y] 56)
  simp only [World.cell?, ha]
  simpa using hj
theorem box_rdc1 (w : World) (C : Obj) (x y : ByteArray) : RdC ((w.alloc C).alloc (.cells #[.string x, .string y] 56)) (some ⟨w.heap.size + 1, 0, none⟩) [.string x, .string y] := by
  have h := box_rdc (w.alloc C) x y
  rwa [World.size_alloc] at h
theorem two_one (x y : ByteArray) : ∀ u ∈ [Value.string x, Value.string y], u.oneCell' = true := by
  intro u hu
  simp only [List.mem_cons, List.not_mem_nil, or_false] at hu
  rcases hu with rfl | rfl <;> rfl
theorem OwnL.snoc {w : World} {base : Nat} {v : Value} {ls : List LbT} {x y : List UInt8} (h : w.ownsRow base 56 2 v (ls.length + 1) (lbf ls ++ [.string (ByteArray.mk ⟨x⟩), .string (ByteArray.mk ⟨y⟩)])) : OwnL w base v (ls ++ [(x, y)]) := by
  unfold OwnL
  rw [List.length_append, lbf_append]
  exact h
theorem OwnL.nil (w : World) (base : Nat) : OwnL w base (.slice none 0 0) [] := World.ownsRow_nil w base _ _

set_option maxRecDepth 8000 in
set_option maxHeartbeats 3200000 in
theorem refFull_any (w : World) (v : Value) (ls : List LbT) (hv : RdL w v ls) (hl : ls.length ≤ 4398046511104) :
    Calls Tryd.prog 51 #[v] w fun e w' => ∃ v', e = .returned v' ∧ OwnL w' w.heap.size v' (fullL ls) ∧ w.grownBy w' none := by
  have HV : Hid (RdL w v ls) := hv
  obtain ⟨a, c, rfl, hc1, hc2, hc3, hc4⟩ := hv
  unfold maxLen at hc2
  clear hc3 hc4
  obtain ⟨i0, hi, hz0, hz1, hz2⟩ := info_parts infoLb
  have HI : Hid (Tryd.prog.info? 56 = some i0 ∧ i0.zero = some (.agg #[.string ⟨#[]⟩, .string ⟨#[]⟩]) ∧ i0.size = 2 ∧ i0.bytes = 32) := ⟨hi, hz0, hz1, hz2⟩
  clear hi hz0 hz1 hz2
  go_enter Tryd.func51, Tryd.ntmps51
  go_wp2
  go_loopw [3, 8] (fun u i wr => ∃ z : Nat, z ≤ ls.length ∧ i = .int .i64 z ∧ Hid (OwnL wr w.heap.size u (fullL (ls.take z)) ∧ w.grownBy wr none)) (fun _ i _ => ls.length - (intOf i).toNat)
  case atStart => exact ⟨0, by omega, rfl, OwnL.nil _ _, gb_refl _ _⟩
  case round =>
    obtain ⟨z, hzN, rfl, hr⟩ := hrel
    by_cases hzl : z < ls.length
    · obtain ⟨a', c', he, -, -, h3, -⟩ := HV.out.keep hr.out.2
      simp only [Value.slice.injEq] at he
      obtain ⟨rfl, -, rfl⟩ := he
      obtain ⟨b, o, rfl, c0, c1⟩ := h3 z hzl
      have hzi : (z : Int) < (ls.length : Int) := by omega
      have hbl : ¬ b = wr.heap.size := by have := block_lt c0; omega
      have hbl2 : ¬ wr.heap.size = b := by omega
      have hstep := full_take_step hzl
      have hle : (fullL (ls.take z)).length ≤ 4398046511104 := by have := full_len (ls.take z); simp at this; omega
      clear h3
      by_cases hn : (ls.getD z ([], [])).2 = []
      · rw [hn] at c1
        rw [if_pos hn, List.append_nil] at hstep
        have HE : Hid (∀ C, OwnL (wr.alloc C) w.heap.size u3 (fullL (ls.take (z + 1))) ∧ w.grownBy (wr.alloc C) none) := fun C => ⟨by rw [hstep]; exact hr.out.1.keep (World.grownBy_alloc _ _ none), gb_none hr.out.2 (World.grownBy_alloc _ _ none)⟩
        clear hr hstep hn HV
        generalize ByteArray.mk ⟨(ls.getD z ([], [])).1⟩ = sn at *
        go_wp2
        go_roundw
        case rel => exact ⟨z + 1, by omega, by simp, HE.out _⟩
        case measure => simp [intOf]; omega
      · obtain ⟨e1, e2, e3⟩ := empty_facts hn
        rw [if_neg hn] at hstep
        have HE : Hid (OwnL wr w.heap.size u3 (fullL (ls.take z)) ∧ w.grownBy wr none ∧ fullL (ls.take (z + 1)) = fullL (ls.take z) ++ [((ls.getD z ([], [])).1, (ls.getD z ([], [])).2)]) := ⟨hr.out.1, hr.out.2, hstep⟩
        clear hr hstep hn HV
        generalize hsn : (ls.getD z ([], [])).1 = tn at *
        generalize hsv : (ls.getD z ([], [])).2 = tv at *
        clear hsn hsv
        go_wp2_with (at_builtin; refine wp_appH rfl _ _ 22 56 rfl i0 _ 2 32 w.heap.size Tryd.underlying22 HI.out.1 HI.out.2.1 HI.out.2.2.1 HI.out.2.2.2 rfl (by decide) _ (fullL (ls.take z)).length (lbf (fullL (ls.take z))) (some ⟨wr.heap.size + 1, 0, none⟩) 1 1 [.string (ByteArray.mk ⟨tn⟩), .string (ByteArray.mk ⟨tv⟩)] rfl rfl (World.ownsRow.alloc (World.ownsRow.alloc HE.out.1 _) _) rfl (box_rdc1 wr _ _ _) (fun h => by cases h) (two_one _ _) (by omega) (by omega) (by have := HE.out.2.1.size; simp; omega) ?_)
        intro v1 w1 ho1 hf1
        have hg1 : wr.grownBy w1 u3.ownBlock := gb_trans (gb_any (gb_none (World.grownBy_alloc wr (.cells #[.string (ByteArray.mk ⟨tn⟩), .string (ByteArray.mk ⟨tv⟩)] 56) none) (World.grownBy_alloc _ (.cells #[.string (ByteArray.mk ⟨tn⟩), .string (ByteArray.mk ⟨tv⟩)] 56) none)) _) hf1.1 (fun k hk _ => hk.symm)
        have H1 : Hid (OwnL w1 w.heap.size v1 (fullL (ls.take (z + 1))) ∧ w.grownBy w1 none) := ⟨by rw [HE.out.2.2]; exact OwnL.snoc ho1, gb_new HE.out.2.1 hg1 (fun k hk => (HE.out.1.lt k hk).1)⟩
        clear ho1 hf1 hg1 HE
        go_wp2
        go_roundw
        case rel => exact ⟨z + 1, by omega, by simp, H1.out⟩
        case measure => simp [intOf]; omega
    · have hzi : ¬ (z : Int) < (ls.length : Int) := by omega
      have HE : Hid (OwnL wr w.heap.size u3 (fullL ls) ∧ w.grownBy wr none) := ⟨by have := hr.out.1; rwa [List.take_of_length_le (by omega)] at this, hr.out.2⟩
      clear hr
      go_wp2
      go_ret
      exact ⟨_, rfl, HE.out⟩
end Go.Proofs.YtknlnllcpdiglaaDoor
