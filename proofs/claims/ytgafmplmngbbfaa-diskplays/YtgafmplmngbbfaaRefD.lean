/-
  A file taken out of the document's disk: the walk.
-/
import Derived.Test.YtgafmplmngbbfaaRefC
namespace Go.Proofs.Ytgafmplmngbbfaa
open Go.RowKit Go.Maps Go.WideMaps

theorem three_set0 (w : World) (g : Nat) (x y z v : Value) (t : TypeId) (h : w.heap[g]? = some (.cells #[x, y, z] t)) : (w.setCell ⟨g, 0, none⟩ v).heap[g]? = some (.cells #[v, y, z] t) := by
  simp [World.setCell, Array.getElem?_modify, h]
theorem three_set1 (w : World) (g : Nat) (x y z v : Value) (t : TypeId) (h : w.heap[g]? = some (.cells #[x, y, z] t)) : (w.setCell ⟨g, 1, none⟩ v).heap[g]? = some (.cells #[x, v, z] t) := by
  simp [World.setCell, Array.getElem?_modify, h]
theorem three_set2 (w : World) (g : Nat) (x y z v : Value) (t : TypeId) (h : w.heap[g]? = some (.cells #[x, y, z] t)) : (w.setCell ⟨g, 2, none⟩ v).heap[g]? = some (.cells #[x, y, v] t) := by
  simp [World.setCell, Array.getElem?_modify, h]

theorem outR_end {w w2 : World} {S : Nat → Prop} {gr k : Nat} {v u2 z : Value} {rs : List RF} (HW : RefW w S gr v rs) (hgrl : gr < w.heap.size) (hg2 : w.grownBy w2 none) (hblk2 : w2.heap[gr]? = some (.cells #[z] 28)) (hnb2 : ∀ b, u2.ownBlock = some b → w.heap.size + 2 ≤ b)
    (hrow : w2.ownsRow 0 56 3 u2 (rs.take k ++ rs.drop (k + 1)).length (rff (rs.take k ++ rs.drop (k + 1)))) (x y t : Value) :
    Ch w ((((w2.setCell ⟨gr, 0, none⟩ u2).setCell ⟨w.heap.size, 0, none⟩ x).setCell ⟨w.heap.size, 1, none⟩ y).setCell ⟨w.heap.size, 2, none⟩ t) (fun k => k = gr) ∧ ∃ v', RefW ((((w2.setCell ⟨gr, 0, none⟩ u2).setCell ⟨w.heap.size, 0, none⟩ x).setCell ⟨w.heap.size, 1, none⟩ y).setCell ⟨w.heap.size, 2, none⟩ t) (Gr S w ((((w2.setCell ⟨gr, 0, none⟩ u2).setCell ⟨w.heap.size, 0, none⟩ x).setCell ⟨w.heap.size, 1, none⟩ y).setCell ⟨w.heap.size, 2, none⟩ t)) gr v' (rs.take k ++ rs.drop (k + 1)) := by
  have c3 : ∀ W i u, Ch W (World.setCell W ⟨w.heap.size, i, none⟩ u) (fun k => k = w.heap.size) := fun W i u => Ch.of_gb (gb_set0 W w.heap.size i u) (fun k hk _ => by cases hk; rfl)
  have hnew : Ch (w2.setCell ⟨gr, 0, none⟩ u2) ((((w2.setCell ⟨gr, 0, none⟩ u2).setCell ⟨w.heap.size, 0, none⟩ x).setCell ⟨w.heap.size, 1, none⟩ y).setCell ⟨w.heap.size, 2, none⟩ t) (fun k => k = w.heap.size) := ((c3 _ 0 x).trans (c3 _ 1 y) (fun _ _ h => h)).trans (c3 _ 2 t) (fun _ _ h => h)
  have hch0 : Ch w (w2.setCell ⟨gr, 0, none⟩ u2) (fun k => k = gr) := (Ch.of_gb (S := fun k => k = gr) hg2 (fun k hk => by cases hk)).trans (Ch.of_gb (S := fun k => k = gr) (gb_set0 w2 gr 0 u2) (fun k hk _ => by cases hk; rfl)) (fun _ _ h => h)
  generalize ((((w2.setCell ⟨gr, 0, none⟩ u2).setCell ⟨w.heap.size, 0, none⟩ x).setCell ⟨w.heap.size, 1, none⟩ y).setCell ⟨w.heap.size, 2, none⟩ t) = W at *
  have hch : Ch w W (fun k => k = gr) := hch0.trans hnew (fun k hk e => by have e' : k = w.heap.size := e; omega)
  have hs2 := hg2.size
  have hsz : (w2.setCell ⟨gr, 0, none⟩ u2).heap.size = w2.heap.size := by simp [World.setCell]
  have hblk : ∀ b, b < w2.heap.size → b ≠ gr → b ≠ w.heap.size → W.heap[b]? = w2.heap[b]? := fun b hb h1 h2 => by
    rw [hnew.block (by omega) h2]
    exact Below.heap_setCell _ _ _ _ h1
  have hmem : ∀ q ∈ rs.take k ++ rs.drop (k + 1), q ∈ rs := fun q hq => by
    rcases List.mem_append.1 hq with h | h
    · exact List.mem_of_mem_take h
    · exact List.mem_of_mem_drop h
  refine ⟨hch, u2, ?_, ?_, .inl HW.inB, fun b hb => .inr ⟨by have := hnb2 b hb; omega, by have := (hrow.lt b hb).2; have := hnew.size; omega⟩, fun q hq => ?_, fun q hq => HW.fits q (hmem q hq), ?_, ?_⟩
  · rw [hnew.block (by omega) (fun e => by have e' : gr = w.heap.size := e; omega)]
    simp [World.setCell, Array.getElem?_modify, hblk2]
  · refine row_via hrow (fun b hb => hblk b (hrow.lt b hb).2 (fun e => ?_) (fun e => ?_))
    · have := hnb2 b hb; omega
    · have := hnb2 b hb; omega
  · have h := HW.each q (hmem q hq)
    refine ⟨h.1.ch hch (fun b hb _ e => (HW.ne_val (hmem q hq)).1 (by rw [hb, e])), fun b hb => ?_⟩
    obtain ⟨h1, cur, fr, h2⟩ := h.2 b hb
    exact ⟨.inl h1, cur, fr, by rw [hch.block (some_lt h2) (fun e => (HW.ne_val (hmem q hq)).1 (by rw [hb, e]))]; exact h2⟩
  · refine HW.srt.sublist ?_
    conv => rhs; rw [← List.take_append_drop k rs]
    exact List.Sublist.append (List.Sublist.refl _) (List.drop_sublist_drop_left _ (Nat.le_succ k))
  · have := HW.most
    rw [List.length_append, List.length_take, List.length_drop]
    omega

set_option maxRecDepth 8000 in
set_option maxHeartbeats 3200000 in
theorem outR_any (w : World) (S : Nat → Prop) (gr : Nat) (v : Value) (rs : List RF) (k : Nat) (h : RefW w S gr v rs) (hk : k < rs.length) :
    Calls Try.prog 54 #[.pointer (some ⟨gr, 0, none⟩), .int .i64 (k : Int)] w fun e w' => e = .returned (.agg #[.string (ByteArray.mk ⟨(rs.getD k rfZ).name⟩), (rs.getD k rfZ).val, .int .i64 ((rs.getD k rfZ).synced : Int)]) ∧ Ch w w' (fun k => k = gr) ∧ ∃ v', RefW w' (Gr S w w') gr v' (rs.take k ++ rs.drop (k + 1)) := by
  have HW : Hid (RefW w S gr v rs) := h
  obtain ⟨i0, hi, hz0, hz1, hz2⟩ := info_parts infoF
  have HO : Hid (∀ u ∈ rff rs, u.oneCell' = true) := by
    intro u hu
    obtain ⟨q, hq, hu⟩ := List.mem_flatMap.1 hu
    simp only [rfc, List.mem_cons, List.not_mem_nil, or_false] at hu
    rcases hu with rfl | rfl | rfl
    · rfl
    · exact (h.each q hq).one
    · rfl
  obtain ⟨g, cap, hv, hcp, hcm, hcells⟩ := h.cells (by intro e; rw [e] at hk; simp at hk)
  subst hv
  have HBox : Hid (w.cell? ⟨gr, 0, none⟩ = some (.slice (some ⟨g, 0, none⟩) rs.length cap)) := by show w.cell? ⟨gr, 0, none⟩ = _; simp [World.cell?, h.box]
  have hbox : ∀ o, (w.alloc o).cell? ⟨gr, 0, none⟩ = some (.slice (some ⟨g, 0, none⟩) rs.length cap) := fun o => cell_keep HBox.out (World.grownBy_alloc _ _ none)
  have hbox2 : ∀ o o', ((w.alloc o).alloc o').cell? ⟨gr, 0, none⟩ = some (.slice (some ⟨g, 0, none⟩) rs.length cap) := fun o o' => cell_keep (hbox o) (World.grownBy_alloc _ _ none)
  have HA : Hid (∀ k, RdC w (some ⟨g, 0, none⟩) (rff (rs.take k)) ∧ (k ≤ rs.length → RdC w (some ⟨g, k * 3, none⟩) (rff (rs.drop k)))) := by
    have hc := World.ownsRow.cells h.row rfl
    intro k
    refine ⟨fun j u hj => ⟨_, rfl, hc j u ?_⟩, fun hk j u hj => ⟨_, rfl, ?_⟩⟩
    · rw [← rff_take, List.getElem?_take] at hj
      split at hj
      · exact hj
      · cases hj
    · rw [← rff_drop rs k hk, List.getElem?_drop] at hj
      have := hc (k * 3 + j) u hj
      rw [Go.WideShapes.add_plain] at this ⊢
      simpa using this
  obtain ⟨c0, c1, c2⟩ := hcells k hk
  have HV : Hid (∃ va vl vc, (rs.getD k rfZ).val = .slice va vl vc) := by obtain ⟨⟨a, c, e, _⟩, _⟩ := h.each _ (getD_mem hk); exact ⟨a, _, c, e⟩
  obtain ⟨va, vl, vc, hval⟩ := HV.out
  rw [hval] at c1 ⊢
  have hcm2 : (cap : Int) ≤ 9223372036854775807 := by unfold maxLen at hcm; omega
  have hcp2 : (rs.length : Int) ≤ (cap : Int) := by omega
  have HM : Hid (rs.length ≤ 256) := h.most
  have d0 : ∀ o, (w.alloc o).cell? ⟨g, k * 3, none⟩ = _ := fun o => cell_keep c0 (World.grownBy_alloc _ _ none)
  have d1 : ∀ o, (w.alloc o).cell? ⟨g, k * 3 + 1, none⟩ = _ := fun o => cell_keep c1 (World.grownBy_alloc _ _ none)
  have d2 : ∀ o, (w.alloc o).cell? ⟨g, k * 3 + 2, none⟩ = _ := fun o => cell_keep c2 (World.grownBy_alloc _ _ none)
  clear hcm hcp h hcells hval HV c0 c1 c2
  generalize hsr : ByteArray.mk ⟨(rs.getD k rfZ).name⟩ = sr at *
  clear hsr
  generalize hSY : (rs.getD k rfZ).synced = SY at *
  clear hSY
  generalize hL : rs.length = L at *
  have HL : Hid (rs.length = L) := hL
  clear hL
  have hkL : (k : Int) < (L : Int) := by omega
  go_enter Try.func54, Try.ntmps54
  have hkc : (k : Int) ≤ (cap : Int) := by omega
  go_wp2_with (at_builtin; refine wp_appG rfl _ _ 26 56 rfl i0 _ 3 48 0 Try.underlying26 hi hz0 hz1 hz2 rfl (by decide) (by decide) _ 0 [] (some ⟨g, 0, none⟩) k cap (rff (rs.take k)) rfl rfl (World.ownsRow_nil _ _ _ _) ?a1 ?a2 ?a3 ?a4 ?a5 ?a6 ?_)
  case a1 => rw [rff_len, List.length_take, HL.out]; omega
  case a2 => exact (HA.out k).1.keep (gb_none (World.grownBy_alloc _ _ none) (World.grownBy_alloc _ _ none))
  case a3 => intro h; cases h
  case a4 => exact fun u hu => HO.out u (by rw [← rff_take] at hu; exact List.mem_of_mem_take hu)
  case a5 => have := HM.out; omega
  case a6 => exact Nat.zero_le _
  intro v1 w1 ho1 hf1
  have hg1 : w.grownBy w1 none := gb_none (gb_none (World.grownBy_alloc _ _ none) (World.grownBy_alloc _ _ none)) hf1.1
  have hr1 : w1.heap[w.heap.size]? = some (.cells #[.string { data := #[] }, .slice none 0 0, .int .i64 0] 56) := by
    rw [hf1.1.block w.heap.size (by simp; omega) (by simp [Value.ownBlock])]
    rw [(World.grownBy_alloc (w.alloc _) _ none).block w.heap.size (by simp) (by simp)]
    exact alloc_at _ _
  have hs1 : w1.heap[w.heap.size + 1]? = some (.cells #[.string sr, .slice va vl vc, .int .i64 (SY : Int)] 56) := by
    rw [hf1.1.block (w.heap.size + 1) (by simp) (by simp [Value.ownBlock])]
    have := alloc_at (w.alloc (.cells #[.string { data := #[] }, .slice none 0 0, .int .i64 0] 56)) (.cells #[.string sr, .slice va vl vc, .int .i64 (SY : Int)] 56)
    rw [World.size_alloc] at this
    exact this
  have hbox1 : w1.cell? ⟨gr, 0, none⟩ = some (.slice (some ⟨g, 0, none⟩) L cap) := cell_keep HBox.out hg1
  have hnb1 : ∀ b, v1.ownBlock = some b → w.heap.size + 2 ≤ b := fun b hb => by
    rcases hf1.2 b hb with h | h
    · simp [Value.ownBlock] at h
    · simpa using h
  have H1 : Hid (w1.ownsRow 0 56 3 v1 k (rff (rs.take k)) ∧ w.grownBy w1 none ∧ (∀ b, v1.ownBlock = some b → w.heap.size + 2 ≤ b) ∧ w1.heap[w.heap.size]? = some (.cells #[.string { data := #[] }, .slice none 0 0, .int .i64 0] 56) ∧ w1.heap[w.heap.size + 1]? = some (.cells #[.string sr, .slice va vl vc, .int .i64 (SY : Int)] 56)) := ⟨by simpa using ho1, hg1, hnb1, hr1, hs1⟩
  clear ho1 hf1 hg1 hnb1 hr1 hs1 d0 d1 d2
  by_cases hk1 : k + 1 = cap
  · have HKC : Hid (k + 1 = cap ∧ L = k + 1) := ⟨hk1, by omega⟩
    have HN0 : Hid (rff (rs.drop (k + 1)) = []) := by
      show rff (rs.drop (k + 1)) = []
      rw [List.drop_of_length_le (by rw [HL.out]; omega)]
      rfl
    have hm0 : L - cap = 0 := by omega
    have HLen : Hid ((rs.take k ++ rs.drop (k + 1)).length = k + 0) := by
      show (rs.take k ++ rs.drop (k + 1)).length = k + 0
      rw [List.length_append, List.length_take, List.length_drop, HL.out]; omega
    go_wp2_with (at_builtin; refine wp_appG rfl _ _ 26 56 rfl i0 _ 3 48 0 Try.underlying26 hi hz0 hz1 hz2 rfl (by decide) (by decide) _ k (rff (rs.take k)) (some ⟨g, 0, none⟩) 0 _ (rff (rs.drop (k + 1))) rfl rfl H1.out.1 ?b1 ?b2 ?b3 ?b4 ?b5 ?b6 ?_)
    case b1 => rw [HN0.out]; rfl
    case b2 => rw [HN0.out]; intro j u hj; simp at hj
    case b4 => rw [HN0.out]; intro u hu; cases hu
    case b5 => have := HM.out; omega
    case b6 => exact Nat.zero_le _
    intro v2 w2 ho2 hf2
    obtain ⟨a2, n2, c2, hv2⟩ : ∃ a n c, v2 = .slice a n c := by
      rcases ho2.2 with ⟨h, _⟩ | ⟨_, _, _, h, _⟩
      · exact ⟨_, _, _, h⟩
      · exact ⟨_, _, _, h⟩
    subst hv2
    have hsz1 := H1.out.2.1.size
    have hg2 : w.grownBy w2 none := gb_new H1.out.2.1 hf2.1 (fun b hb => by have := H1.out.2.2.1 b hb; omega)
    have hgrl := some_lt HW.out.box
    have hblk2 : w2.heap[gr]? = some (.cells #[.slice (some ⟨g, 0, none⟩) L cap] 28) := by rw [hg2.block gr hgrl (by simp)]; exact HW.out.box
    have hbx2 : w2.cell? ⟨gr, 0, none⟩ = some (.slice (some ⟨g, 0, none⟩) L cap) := cell_keep HBox.out hg2
    have hfr2 : w2.frozen? ⟨gr, 0, none⟩ = false := by simp [World.frozen?, hblk2]
    have hr2 : w2.heap[w.heap.size]? = some (.cells #[.string { data := #[] }, .slice none 0 0, .int .i64 0] 56) := by
      rw [hf2.1.block w.heap.size (some_lt H1.out.2.2.2.1) (fun e => by have := H1.out.2.2.1 _ e.symm; omega)]
      exact H1.out.2.2.2.1
    have hs2 : w2.heap[w.heap.size + 1]? = some (.cells #[.string sr, .slice va vl vc, .int .i64 (SY : Int)] 56) := by
      rw [hf2.1.block (w.heap.size + 1) (some_lt H1.out.2.2.2.2) (fun e => by have := H1.out.2.2.1 _ e.symm; omega)]
      exact H1.out.2.2.2.2
    have hnb2 : ∀ b, (Value.slice a2 n2 c2).ownBlock = some b → w.heap.size + 2 ≤ b := fun b hb => by
      rcases hf2.2 b hb with h | h
      · exact H1.out.2.2.1 b h.symm
      · have := some_lt H1.out.2.2.2.2; omega
    have hr3 : (w2.setCell ⟨gr, 0, none⟩ (.slice a2 n2 c2)).heap[w.heap.size]? = some (.cells #[.string { data := #[] }, .slice none 0 0, .int .i64 0] 56) := by
      rw [Below.heap_setCell _ _ _ _ (fun e => by have e' : w.heap.size = gr := e; omega)]; exact hr2
    have hs3 : (w2.setCell ⟨gr, 0, none⟩ (.slice a2 n2 c2)).heap[w.heap.size + 1]? = some (.cells #[.string sr, .slice va vl vc, .int .i64 (SY : Int)] 56) := by
      rw [Below.heap_setCell _ _ _ _ (fun e => by have e' : w.heap.size + 1 = gr := e; omega)]; exact hs2
    have e0 : (w2.setCell ⟨gr, 0, none⟩ (.slice a2 n2 c2)).cell? ⟨w.heap.size + 1, 0, none⟩ = some (.string sr) := by simp [World.cell?, hs3]
    have e1 : (w2.setCell ⟨gr, 0, none⟩ (.slice a2 n2 c2)).cell? ⟨w.heap.size + 1, 1, none⟩ = some (.slice va vl vc) := by simp [World.cell?, hs3]
    have e2 : (w2.setCell ⟨gr, 0, none⟩ (.slice a2 n2 c2)).cell? ⟨w.heap.size + 1, 2, none⟩ = some (.int .i64 (SY : Int)) := by simp [World.cell?, hs3]
    have p0 : (w2.setCell ⟨gr, 0, none⟩ (.slice a2 n2 c2)).cell? ⟨w.heap.size, 0, none⟩ = some (.string { data := #[] }) := by simp [World.cell?, hr3]
    have f0 : (w2.setCell ⟨gr, 0, none⟩ (.slice a2 n2 c2)).frozen? ⟨w.heap.size, 0, none⟩ = false := by simp [World.frozen?, hr3]
    have hr4 := three_set0 _ _ _ _ _ (.string sr) _ hr3
    have p1 : ((w2.setCell ⟨gr, 0, none⟩ (.slice a2 n2 c2)).setCell ⟨w.heap.size, 0, none⟩ (.string sr)).cell? ⟨w.heap.size, 1, none⟩ = some (.slice none 0 0) := by simp only [World.cell?, hr4]; simp
    have f1 : ((w2.setCell ⟨gr, 0, none⟩ (.slice a2 n2 c2)).setCell ⟨w.heap.size, 0, none⟩ (.string sr)).frozen? ⟨w.heap.size, 1, none⟩ = false := by simp only [World.frozen?, hr4]; simp
    have hr5 := three_set1 _ _ _ _ _ (.slice va vl vc) _ hr4
    have p2 : (((w2.setCell ⟨gr, 0, none⟩ (.slice a2 n2 c2)).setCell ⟨w.heap.size, 0, none⟩ (.string sr)).setCell ⟨w.heap.size, 1, none⟩ (.slice va vl vc)).cell? ⟨w.heap.size, 2, none⟩ = some (.int .i64 0) := by simp only [World.cell?, hr5]; simp
    have f2 : (((w2.setCell ⟨gr, 0, none⟩ (.slice a2 n2 c2)).setCell ⟨w.heap.size, 0, none⟩ (.string sr)).setCell ⟨w.heap.size, 1, none⟩ (.slice va vl vc)).frozen? ⟨w.heap.size, 2, none⟩ = false := by simp only [World.frozen?, hr5]; simp
    have hr6 := three_set2 _ _ _ _ _ (.int .i64 (SY : Int)) _ hr5
    have q0 : ((((w2.setCell ⟨gr, 0, none⟩ (.slice a2 n2 c2)).setCell ⟨w.heap.size, 0, none⟩ (.string sr)).setCell ⟨w.heap.size, 1, none⟩ (.slice va vl vc)).setCell ⟨w.heap.size, 2, none⟩ (.int .i64 (SY : Int))).cell? ⟨w.heap.size, 0, none⟩ = some (.string sr) := by simp only [World.cell?, hr6]; simp
    have q1 : ((((w2.setCell ⟨gr, 0, none⟩ (.slice a2 n2 c2)).setCell ⟨w.heap.size, 0, none⟩ (.string sr)).setCell ⟨w.heap.size, 1, none⟩ (.slice va vl vc)).setCell ⟨w.heap.size, 2, none⟩ (.int .i64 (SY : Int))).cell? ⟨w.heap.size, 1, none⟩ = some (.slice va vl vc) := by simp only [World.cell?, hr6]; simp
    have q2 : ((((w2.setCell ⟨gr, 0, none⟩ (.slice a2 n2 c2)).setCell ⟨w.heap.size, 0, none⟩ (.string sr)).setCell ⟨w.heap.size, 1, none⟩ (.slice va vl vc)).setCell ⟨w.heap.size, 2, none⟩ (.int .i64 (SY : Int))).cell? ⟨w.heap.size, 2, none⟩ = some (.int .i64 (SY : Int)) := by simp only [World.cell?, hr6]; simp
    have H4 : Hid (((((w2.setCell ⟨gr, 0, none⟩ (.slice a2 n2 c2)).setCell ⟨w.heap.size, 0, none⟩ (.string sr)).setCell ⟨w.heap.size, 1, none⟩ (.slice va vl vc)).setCell ⟨w.heap.size, 2, none⟩ (.int .i64 (SY : Int))).heap[w.heap.size]? = some (.cells #[.string sr, .slice va vl vc, .int .i64 (SY : Int)] 56) ∧ Ch w ((((w2.setCell ⟨gr, 0, none⟩ (.slice a2 n2 c2)).setCell ⟨w.heap.size, 0, none⟩ (.string sr)).setCell ⟨w.heap.size, 1, none⟩ (.slice va vl vc)).setCell ⟨w.heap.size, 2, none⟩ (.int .i64 (SY : Int))) (fun k => k = gr) ∧ ∃ v', RefW ((((w2.setCell ⟨gr, 0, none⟩ (.slice a2 n2 c2)).setCell ⟨w.heap.size, 0, none⟩ (.string sr)).setCell ⟨w.heap.size, 1, none⟩ (.slice va vl vc)).setCell ⟨w.heap.size, 2, none⟩ (.int .i64 (SY : Int))) (Gr S w ((((w2.setCell ⟨gr, 0, none⟩ (.slice a2 n2 c2)).setCell ⟨w.heap.size, 0, none⟩ (.string sr)).setCell ⟨w.heap.size, 1, none⟩ (.slice va vl vc)).setCell ⟨w.heap.size, 2, none⟩ (.int .i64 (SY : Int)))) gr v' (rs.take k ++ rs.drop (k + 1))) := by
      refine ⟨hr6, ?_⟩
      have hrow : w2.ownsRow 0 56 3 (.slice a2 n2 c2) (rs.take k ++ rs.drop (k + 1)).length (rff (rs.take k ++ rs.drop (k + 1))) := by
        rw [rff_append, show (rs.take k ++ rs.drop (k + 1)).length = _ from HLen.out]
        first | exact ho2 | (have ho2' := ho2; rw [show rff (rs.drop cap) = rff (rs.drop (k + 1)) from by rw [← HKC.out.1]] at ho2'; exact ho2')
      exact outR_end HW.out hgrl hg2 hblk2 hnb2 hrow _ _ _
    clear ho2 hf2 hg2 hnb2 hblk2 hr2 hs2 hr3 hs3 hr4 hr5 hr6 hsz1 hgrl q0 q1 q2
    go_wp2
    refine bodyPost_ret (results_cell_row rfl _ _ w.heap.size _ _ _ _ rfl H4.out.1 Try.underlying56 rfl (by simp [hi, hz1])) rfl ?_
    exact ⟨rfl, H4.out.2⟩

  · have hk2 : (k : Int) + 1 < (cap : Int) := by omega
    have HLen : Hid ((rs.take k ++ rs.drop (k + 1)).length = k + (L - (k + 1))) := by
      show (rs.take k ++ rs.drop (k + 1)).length = k + (L - (k + 1))
      rw [List.length_append, List.length_take, List.length_drop, HL.out]; omega
    have hk3 : (k : Int) + 1 ≤ (L : Int) := by omega
    go_wp2_with (at_builtin; refine wp_appG rfl _ _ 26 56 rfl i0 _ 3 48 0 Try.underlying26 hi hz0 hz1 hz2 rfl (by decide) (by decide) _ k (rff (rs.take k)) (some ⟨g, (k + 1) * 3, none⟩) (L - (k + 1)) _ (rff (rs.drop (k + 1))) rfl rfl H1.out.1 ?d1 ?d2 ?d3 ?d4 ?d5 ?d6 ?_)
    case d1 => rw [rff_len, List.length_drop, HL.out]
    case d2 => exact ((HA.out (k + 1)).2 (by omega)).keep H1.out.2.1
    case d3 => intro h; cases h
    case d4 => exact fun u hu => HO.out u (by rw [← rff_drop rs (k + 1) (by rw [HL.out]; omega)] at hu; exact List.mem_of_mem_drop hu)
    case d5 => have := HM.out; omega
    case d6 => exact Nat.zero_le _
    intro v2 w2 ho2 hf2
    obtain ⟨a2, n2, c2, hv2⟩ : ∃ a n c, v2 = .slice a n c := by
      rcases ho2.2 with ⟨h, _⟩ | ⟨_, _, _, h, _⟩
      · exact ⟨_, _, _, h⟩
      · exact ⟨_, _, _, h⟩
    subst hv2
    have hsz1 := H1.out.2.1.size
    have hg2 : w.grownBy w2 none := gb_new H1.out.2.1 hf2.1 (fun b hb => by have := H1.out.2.2.1 b hb; omega)
    have hgrl := some_lt HW.out.box
    have hblk2 : w2.heap[gr]? = some (.cells #[.slice (some ⟨g, 0, none⟩) L cap] 28) := by rw [hg2.block gr hgrl (by simp)]; exact HW.out.box
    have hbx2 : w2.cell? ⟨gr, 0, none⟩ = some (.slice (some ⟨g, 0, none⟩) L cap) := cell_keep HBox.out hg2
    have hfr2 : w2.frozen? ⟨gr, 0, none⟩ = false := by simp [World.frozen?, hblk2]
    have hr2 : w2.heap[w.heap.size]? = some (.cells #[.string { data := #[] }, .slice none 0 0, .int .i64 0] 56) := by
      rw [hf2.1.block w.heap.size (some_lt H1.out.2.2.2.1) (fun e => by have := H1.out.2.2.1 _ e.symm; omega)]
      exact H1.out.2.2.2.1
    have hs2 : w2.heap[w.heap.size + 1]? = some (.cells #[.string sr, .slice va vl vc, .int .i64 (SY : Int)] 56) := by
      rw [hf2.1.block (w.heap.size + 1) (some_lt H1.out.2.2.2.2) (fun e => by have := H1.out.2.2.1 _ e.symm; omega)]
      exact H1.out.2.2.2.2
    have hnb2 : ∀ b, (Value.slice a2 n2 c2).ownBlock = some b → w.heap.size + 2 ≤ b := fun b hb => by
      rcases hf2.2 b hb with h | h
      · exact H1.out.2.2.1 b h.symm
      · have := some_lt H1.out.2.2.2.2; omega
    have hr3 : (w2.setCell ⟨gr, 0, none⟩ (.slice a2 n2 c2)).heap[w.heap.size]? = some (.cells #[.string { data := #[] }, .slice none 0 0, .int .i64 0] 56) := by
      rw [Below.heap_setCell _ _ _ _ (fun e => by have e' : w.heap.size = gr := e; omega)]; exact hr2
    have hs3 : (w2.setCell ⟨gr, 0, none⟩ (.slice a2 n2 c2)).heap[w.heap.size + 1]? = some (.cells #[.string sr, .slice va vl vc, .int .i64 (SY : Int)] 56) := by
      rw [Below.heap_setCell _ _ _ _ (fun e => by have e' : w.heap.size + 1 = gr := e; omega)]; exact hs2
    have e0 : (w2.setCell ⟨gr, 0, none⟩ (.slice a2 n2 c2)).cell? ⟨w.heap.size + 1, 0, none⟩ = some (.string sr) := by simp [World.cell?, hs3]
    have e1 : (w2.setCell ⟨gr, 0, none⟩ (.slice a2 n2 c2)).cell? ⟨w.heap.size + 1, 1, none⟩ = some (.slice va vl vc) := by simp [World.cell?, hs3]
    have e2 : (w2.setCell ⟨gr, 0, none⟩ (.slice a2 n2 c2)).cell? ⟨w.heap.size + 1, 2, none⟩ = some (.int .i64 (SY : Int)) := by simp [World.cell?, hs3]
    have p0 : (w2.setCell ⟨gr, 0, none⟩ (.slice a2 n2 c2)).cell? ⟨w.heap.size, 0, none⟩ = some (.string { data := #[] }) := by simp [World.cell?, hr3]
    have f0 : (w2.setCell ⟨gr, 0, none⟩ (.slice a2 n2 c2)).frozen? ⟨w.heap.size, 0, none⟩ = false := by simp [World.frozen?, hr3]
    have hr4 := three_set0 _ _ _ _ _ (.string sr) _ hr3
    have p1 : ((w2.setCell ⟨gr, 0, none⟩ (.slice a2 n2 c2)).setCell ⟨w.heap.size, 0, none⟩ (.string sr)).cell? ⟨w.heap.size, 1, none⟩ = some (.slice none 0 0) := by simp only [World.cell?, hr4]; simp
    have f1 : ((w2.setCell ⟨gr, 0, none⟩ (.slice a2 n2 c2)).setCell ⟨w.heap.size, 0, none⟩ (.string sr)).frozen? ⟨w.heap.size, 1, none⟩ = false := by simp only [World.frozen?, hr4]; simp
    have hr5 := three_set1 _ _ _ _ _ (.slice va vl vc) _ hr4
    have p2 : (((w2.setCell ⟨gr, 0, none⟩ (.slice a2 n2 c2)).setCell ⟨w.heap.size, 0, none⟩ (.string sr)).setCell ⟨w.heap.size, 1, none⟩ (.slice va vl vc)).cell? ⟨w.heap.size, 2, none⟩ = some (.int .i64 0) := by simp only [World.cell?, hr5]; simp
    have f2 : (((w2.setCell ⟨gr, 0, none⟩ (.slice a2 n2 c2)).setCell ⟨w.heap.size, 0, none⟩ (.string sr)).setCell ⟨w.heap.size, 1, none⟩ (.slice va vl vc)).frozen? ⟨w.heap.size, 2, none⟩ = false := by simp only [World.frozen?, hr5]; simp
    have hr6 := three_set2 _ _ _ _ _ (.int .i64 (SY : Int)) _ hr5
    have q0 : ((((w2.setCell ⟨gr, 0, none⟩ (.slice a2 n2 c2)).setCell ⟨w.heap.size, 0, none⟩ (.string sr)).setCell ⟨w.heap.size, 1, none⟩ (.slice va vl vc)).setCell ⟨w.heap.size, 2, none⟩ (.int .i64 (SY : Int))).cell? ⟨w.heap.size, 0, none⟩ = some (.string sr) := by simp only [World.cell?, hr6]; simp
    have q1 : ((((w2.setCell ⟨gr, 0, none⟩ (.slice a2 n2 c2)).setCell ⟨w.heap.size, 0, none⟩ (.string sr)).setCell ⟨w.heap.size, 1, none⟩ (.slice va vl vc)).setCell ⟨w.heap.size, 2, none⟩ (.int .i64 (SY : Int))).cell? ⟨w.heap.size, 1, none⟩ = some (.slice va vl vc) := by simp only [World.cell?, hr6]; simp
    have q2 : ((((w2.setCell ⟨gr, 0, none⟩ (.slice a2 n2 c2)).setCell ⟨w.heap.size, 0, none⟩ (.string sr)).setCell ⟨w.heap.size, 1, none⟩ (.slice va vl vc)).setCell ⟨w.heap.size, 2, none⟩ (.int .i64 (SY : Int))).cell? ⟨w.heap.size, 2, none⟩ = some (.int .i64 (SY : Int)) := by simp only [World.cell?, hr6]; simp
    have H4 : Hid (((((w2.setCell ⟨gr, 0, none⟩ (.slice a2 n2 c2)).setCell ⟨w.heap.size, 0, none⟩ (.string sr)).setCell ⟨w.heap.size, 1, none⟩ (.slice va vl vc)).setCell ⟨w.heap.size, 2, none⟩ (.int .i64 (SY : Int))).heap[w.heap.size]? = some (.cells #[.string sr, .slice va vl vc, .int .i64 (SY : Int)] 56) ∧ Ch w ((((w2.setCell ⟨gr, 0, none⟩ (.slice a2 n2 c2)).setCell ⟨w.heap.size, 0, none⟩ (.string sr)).setCell ⟨w.heap.size, 1, none⟩ (.slice va vl vc)).setCell ⟨w.heap.size, 2, none⟩ (.int .i64 (SY : Int))) (fun k => k = gr) ∧ ∃ v', RefW ((((w2.setCell ⟨gr, 0, none⟩ (.slice a2 n2 c2)).setCell ⟨w.heap.size, 0, none⟩ (.string sr)).setCell ⟨w.heap.size, 1, none⟩ (.slice va vl vc)).setCell ⟨w.heap.size, 2, none⟩ (.int .i64 (SY : Int))) (Gr S w ((((w2.setCell ⟨gr, 0, none⟩ (.slice a2 n2 c2)).setCell ⟨w.heap.size, 0, none⟩ (.string sr)).setCell ⟨w.heap.size, 1, none⟩ (.slice va vl vc)).setCell ⟨w.heap.size, 2, none⟩ (.int .i64 (SY : Int)))) gr v' (rs.take k ++ rs.drop (k + 1))) := by
      refine ⟨hr6, ?_⟩
      have hrow : w2.ownsRow 0 56 3 (.slice a2 n2 c2) (rs.take k ++ rs.drop (k + 1)).length (rff (rs.take k ++ rs.drop (k + 1))) := by
        rw [rff_append, show (rs.take k ++ rs.drop (k + 1)).length = _ from HLen.out]
        first | exact ho2 | (have ho2' := ho2; rw [show rff (rs.drop cap) = rff (rs.drop (k + 1)) from by rw [← HKC.out.1]] at ho2'; exact ho2')
      exact outR_end HW.out hgrl hg2 hblk2 hnb2 hrow _ _ _
    clear ho2 hf2 hg2 hnb2 hblk2 hr2 hs2 hr3 hs3 hr4 hr5 hr6 hsz1 hgrl q0 q1 q2
    go_wp2
    refine bodyPost_ret (results_cell_row rfl _ _ w.heap.size _ _ _ _ rfl H4.out.1 Try.underlying56 rfl (by simp [hi, hz1])) rfl ?_
    exact ⟨rfl, H4.out.2⟩

end Go.Proofs.Ytgafmplmngbbfaa
