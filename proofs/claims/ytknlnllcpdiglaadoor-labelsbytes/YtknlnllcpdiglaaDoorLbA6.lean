/-
  The labels that awake prints: Print: the walk.
-/
import Derived.Test.YtknlnllcpdiglaaDoorLbA5
import Derived.Test.YtknlnllcpdiglaaDoorLbG
import Derived.Test.YtknlnllcpdiglaaDoorLbQ
import Derived.Test.YtknlnllcpdiglaaDoorLbJ
namespace Go.Proofs.YtknlnllcpdiglaaDoor
open Go.RowKit Go.Shelf

set_option maxRecDepth 8000 in
set_option maxHeartbeats 3200000 in
theorem print_awake (w : World) (v : Value) (hv : RdL w v [(mnB, upB), (jobB, xB)]) (hT : U8S w) :
    Calls Tryd.prog 33 #[v] w fun e w' => e = .returned (.tuple #[.string (ByteArray.mk ⟨[117, 112, 123, 106, 111, 98, 61, 34, 120, 34, 125]⟩), .int .i64 0]) ∧ w.grownBy w' none := by
  have HV : Hid (RdL w v [(mnB, upB), (jobB, xB)] ∧ U8S w) := ⟨hv, hT⟩
  have HR : Hid (Calls Tryd.prog 10 #[v] w fun e w' => e = .returned (.tuple #[.int .i64 0, .int .i64 0]) ∧ Hid (w.grownBy w' none)) :=
    (right_any w v _ hv awLs_in hT).mono fun e w' ⟨h1, h2⟩ => ⟨by rw [h1, awLs_right]; rfl, h2⟩
  have HG : Hid (∀ W, w.grownBy W none → Calls Tryd.prog 21 #[v, .string (ByteArray.mk ⟨mnB⟩)] W fun e w' => e = .returned (.string (ByteArray.mk ⟨upB⟩)) ∧ Hid (w.grownBy w' none)) := fun W hW =>
    (get_at W v [(mnB, upB), (jobB, xB)] mnB 0 (hv.keep hW) (by simp) rfl (fun j hj => by omega)).mono fun e w' ⟨h1, h2⟩ => ⟨h1, gb_none hW h2⟩
  have HM : Hid (∀ W, w.grownBy W none → Calls Tryd.prog 14 #[.string (ByteArray.mk ⟨upB⟩)] W fun e w' => e = .returned (.bool true) ∧ Hid (w.grownBy w' none)) := fun W hW =>
    (metric_any W upB (by decide)).mono fun e w' ⟨h1, h2⟩ => ⟨by rw [h1, show metricB upB = true by decide], gb_none hW h2⟩
  have HQ : Hid (∀ W, Calls Tryd.prog 64 #[.string (ByteArray.mk ⟨xB⟩)] W fun e w' => e = .returned (.string (ByteArray.mk ⟨[34, 120, 34]⟩)) ∧ W.grownBy w' none) := fun W =>
    quoted_plain W xB (by decide) (fun j hj => by
      have : j = 0 := by simp [xB] at hj; exact hj
      subst this
      decide)
  obtain ⟨a, c, rfl, hc1, hc2, -, -⟩ := hv
  unfold maxLen at hc2
  clear hT
  have f1 : ((ByteArray.mk #[106, 111, 98]).toList == (ByteArray.mk #[95, 95, 110, 97, 109, 101, 95, 95]).toList) = false := by rw [ByteArray.toList_eq, ByteArray.toList_eq]; decide
  have f1' : ¬ (ByteArray.mk #[106, 111, 98]).toList = (ByteArray.mk #[95, 95, 110, 97, 109, 101, 95, 95]).toList := by rw [ByteArray.toList_eq, ByteArray.toList_eq]; decide
  have f2 : (ByteArray.mk #[117, 112]).toList.isEmpty = false := by rw [ByteArray.toList_eq]; decide
  have f2' : ¬ (ByteArray.mk #[117, 112]).toList = [] := by rw [ByteArray.toList_eq]; decide
  go_enter Tryd.func33, Tryd.ntmps33
  go_wp2_with fail
  refine HR.out.mono ?_
  rintro e w1 ⟨rfl, H1⟩
  clear HR
  go_wp2_with fail
  refine (HG.out _ H1.out).mono ?_
  rintro e w2 ⟨rfl, H2⟩
  clear HG H1
  go_wp2_with fail
  refine (HM.out _ H2.out).mono ?_
  rintro e w3 ⟨rfl, H3⟩
  clear HM H2
  go_wp2
  go_loopw [7, 25] (fun u i wr => Hid (w.grownBy wr none) ∧ ((i = .int .i64 0 ∧ u = .slice none 0 0) ∨ (i = .int .i64 1 ∧ u = .slice none 0 0) ∨ (i = .int .i64 2 ∧ ∃ b cp, u = .slice (some ⟨b, 0, none⟩) 1 cp ∧ wr.cell? ⟨b, 0, none⟩ = some (.string (ByteArray.mk ⟨[106, 111, 98, 61, 34, 120, 34]⟩))))) (fun _ i _ => 2 - (intOf i).toNat)
  case atStart => exact ⟨H3.out, .inl ⟨rfl, rfl⟩⟩
  case round =>
    obtain ⟨hr, hi⟩ := hrel
    obtain ⟨a', c', he, -, -, h3, -⟩ := HV.out.1.keep hr.out
    simp only [Value.slice.injEq] at he
    obtain ⟨rfl, -, rfl⟩ := he
    rcases hi with ⟨rfl, rfl⟩ | ⟨rfl, rfl⟩ | ⟨rfl, b, cp, rfl, hcell⟩
    · obtain ⟨b, o, rfl, c0, c1⟩ := h3 0 (by simp)
      replace c0 : wr.cell? ⟨b, o, none⟩ = some (.string (ByteArray.mk #[95, 95, 110, 97, 109, 101, 95, 95])) := c0
      replace c1 : wr.cell? ⟨b, o + 1, none⟩ = some (.string (ByteArray.mk #[117, 112])) := c1
      have HE : Hid (∀ C, w.grownBy (wr.alloc C) none) := fun C => gb_none hr.out (World.grownBy_alloc _ _ none)
      have hbl : ¬ b = wr.heap.size := by have := block_lt c0; omega
      have hbl2 : ¬ wr.heap.size = b := by omega
      clear h3 hr
      go_wp2
      go_roundw
      case rel => exact ⟨HE.out _, .inr (.inl ⟨rfl, rfl⟩)⟩
      case measure => decide
    · obtain ⟨b, o, rfl, c0, c1⟩ := h3 1 (by simp)
      replace c0 : wr.cell? ⟨b, o + 2, none⟩ = some (.string (ByteArray.mk #[106, 111, 98])) := c0
      replace c1 : wr.cell? ⟨b, o + 2 + 1, none⟩ = some (.string (ByteArray.mk #[120])) := c1
      have hbl : ¬ b = wr.heap.size := by have := block_lt c0; omega
      have hbl2 : ¬ wr.heap.size = b := by omega
      clear h3
      go_wp2
      have hb1 := Go.heap_alloc_new wr (.cells #[.string (ByteArray.mk #[106, 111, 98]), .string (ByteArray.mk #[120])] 56)
      have HW1 : Hid (w.grownBy (wr.alloc (.cells #[.string (ByteArray.mk #[106, 111, 98]), .string (ByteArray.mk #[120])] 56)) none) := gb_none hr.out (World.grownBy_alloc _ _ none)
      clear c0 c1 hr
      generalize wr.alloc (.cells #[.string (ByteArray.mk #[106, 111, 98]), .string (ByteArray.mk #[120])] 56) = W1 at *
      have q0 : W1.cell? ⟨wr.heap.size, 0, none⟩ = some (.string (ByteArray.mk #[106, 111, 98])) := by rw [World.cell?, hb1]; rfl
      have q1 : W1.cell? ⟨wr.heap.size, 1, none⟩ = some (.string (ByteArray.mk #[120])) := by rw [World.cell?, hb1]; rfl
      clear hb1
      generalize wr.heap.size = b1 at *
      have HQ2 : Hid (∀ W, (W.cell? ⟨b1, 0, none⟩ = some (.string (ByteArray.mk #[106, 111, 98])) ∧ W.cell? ⟨b1, 1, none⟩ = some (.string (ByteArray.mk #[120]))) → w.grownBy W none → Calls Tryd.prog 64 #[.string (ByteArray.mk #[120])] W fun e w' => e = .returned (.string (ByteArray.mk #[34, 120, 34])) ∧ w'.cell? ⟨b1, 0, none⟩ = some (.string (ByteArray.mk #[106, 111, 98])) ∧ w'.cell? ⟨b1, 1, none⟩ = some (.string (ByteArray.mk #[120])) ∧ Hid (w.grownBy w' none)) := fun W hS hW =>
        (HQ.out W).mono fun e w' ⟨h1, h2⟩ => ⟨h1, (World.cell?_of_block (h2.block b1 (block_lt hS.1) (by simp))).trans hS.1, (World.cell?_of_block (h2.block b1 (block_lt hS.2) (by simp))).trans hS.2, gb_none hW h2⟩
      clear HQ
      go_region_held3 (fun w' => w'.cell? ⟨b1, 0, none⟩ = some (.string (ByteArray.mk #[106, 111, 98])) ∧ w'.cell? ⟨b1, 1, none⟩ = some (.string (ByteArray.mk #[120]))) (go_keep)
        (first | (go_at_call 64; refine (HQ2.out _ (by first | exact ⟨q0, q1⟩ | assumption) (by first | exact HW1.out | exact gb_none HW1.out (gb_drew _ none))).mono ?_; rintro e w2 ⟨rfl, d0, d1, H2⟩))
      have HZ : Hid (∀ (A : Obj) (cs : Array Value) (t : TypeId), w.grownBy ((w2.alloc A).alloc (.cells (#[.string (ByteArray.mk #[106, 111, 98] ++ ByteArray.mk #[61] ++ ByteArray.mk #[34, 120, 34])] ++ cs) t)).drew none ∧ ((w2.alloc A).alloc (.cells (#[.string (ByteArray.mk #[106, 111, 98] ++ ByteArray.mk #[61] ++ ByteArray.mk #[34, 120, 34])] ++ cs) t)).drew.cell? ⟨w2.heap.size + 1, 0, none⟩ = some (.string (ByteArray.mk ⟨[106, 111, 98, 61, 34, 120, 34]⟩))) := fun A cs t => by
        refine ⟨gb_none (gb_none (gb_none H2.out (World.grownBy_alloc _ _ none)) (World.grownBy_alloc _ _ none)) (gb_drew _ none), ?_⟩
        have hn := Go.heap_alloc_new (w2.alloc A) (.cells (#[.string (ByteArray.mk #[106, 111, 98] ++ ByteArray.mk #[61] ++ ByteArray.mk #[34, 120, 34])] ++ cs) t)
        have hsz : (w2.alloc A).heap.size = w2.heap.size + 1 := by simp
        rw [hsz] at hn
        show ((w2.alloc A).alloc (.cells (#[.string (ByteArray.mk #[106, 111, 98] ++ ByteArray.mk #[61] ++ ByteArray.mk #[34, 120, 34])] ++ cs) t)).cell? ⟨w2.heap.size + 1, 0, none⟩ = _
        simp only [World.cell?, hn]
        rw [Array.getElem?_append_left (by simp)]
        have hx : ByteArray.mk #[106, 111, 98] ++ ByteArray.mk #[61] ++ ByteArray.mk #[34, 120, 34] = ByteArray.mk ⟨[106, 111, 98, 61, 34, 120, 34]⟩ := by rfl
        rw [hx]
        rfl
      go_wp2
      go_roundw
      case rel => exact ⟨(HZ.out _ _ _).1, .inr (.inr ⟨rfl, _, _, rfl, (HZ.out _ _ _).2⟩)⟩
      case measure => decide
    · clear h3
      go_wp2_with fail
      have HJ : Hid (Calls Tryd.prog 65 #[.slice (some ⟨b, 0, none⟩) 1 cp, .string (ByteArray.mk #[44])] wr fun e w' => e = .returned (.string (ByteArray.mk #[106, 111, 98, 61, 34, 120, 34])) ∧ Hid (w.grownBy w' none)) :=
        (join_one wr b cp _ _ hcell).mono fun e w' ⟨h1, h2⟩ => ⟨h1, gb_none hr.out h2⟩
      refine HJ.out.mono ?_
      rintro e w4 ⟨rfl, H4⟩
      clear HJ hcell hr
      go_wp2
      go_ret2
      exact ⟨rfl, H4.out⟩
end Go.Proofs.YtknlnllcpdiglaaDoor
