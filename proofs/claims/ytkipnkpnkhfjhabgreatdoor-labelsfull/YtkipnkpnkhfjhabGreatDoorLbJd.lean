/-
  The document's numbering: what Drop comes to: the walk.
-/
import Derived.Test.YtkipnkpnkhfjhabGreatDoorLbJq
namespace Go.Proofs.YtkipnkpnkhfjhabGreatDoor
open Go.RowKit

theorem RdC.keepI {w w' : World} {a : Option Addr} {news : List Value} (h : RdC w a news) (hg : w.grownBy w' none) : RdC w' a news := by
  intro j u hj
  obtain ⟨ad, rfl, hc⟩ := h j u hj
  refine ⟨ad, rfl, ?_⟩
  rw [← hc]
  have hlt : (ad.add j).block < w.heap.size := by
    by_cases hb : (ad.add j).block < w.heap.size
    · exact hb
    · exfalso
      have : w.heap[(ad.add j).block]? = none := by simp; omega
      simp [World.cell?, this] at hc
  exact World.cell?_of_block (hg.block _ hlt (by simp))
/-- a set less -/
theorem dropI_end {w w2 : World} {S : Nat → Prop} {gr k last : Nat} {v u2 : Value} {rs : List IdR} (HW : RefI w S gr v rs last) (hg2 : w.grownBy w2 none) (hnb2 : ∀ b, u2.ownBlock = some b → w.heap.size ≤ b)
    (hrow : w2.ownsRow 0 41 2 u2 (rs.take k ++ rs.drop (k + 1)).length (idf (rs.take k ++ rs.drop (k + 1)))) :
    RefI (w2.setCell ⟨gr, 0, none⟩ u2) (Gr S w (w2.setCell ⟨gr, 0, none⟩ u2)) gr u2 (rs.take k ++ rs.drop (k + 1)) last ∧ Ch w (w2.setCell ⟨gr, 0, none⟩ u2) S := by
  have hgr : gr < w.heap.size := some_lt HW.box
  have hch : Ch w (w2.setCell ⟨gr, 0, none⟩ u2) (fun k => k = gr) := (Ch.of_gb (S := fun k => k = gr) hg2 (fun k hk => by cases hk)).trans (Ch.of_gb (S := fun k => k = gr) (gb_setI w2 gr 0 u2) (fun k hk _ => by cases hk; rfl)) (fun _ _ h => h)
  have hmem : ∀ q ∈ rs.take k ++ rs.drop (k + 1), q ∈ rs := fun q hq => by
    rcases List.mem_append.1 hq with h | h
    · exact List.mem_of_mem_take h
    · exact List.mem_of_mem_drop h
  have hbox : w2.heap[gr]? = _ := (hg2.block gr hgr (by simp)).trans HW.box
  refine ⟨⟨?_, ?_, .inl HW.inB, fun b hb => .inr ⟨hnb2 b hb, by have := (hrow.lt b hb).2; simpa using this⟩, fun q hq => ?_, ?_, fun q hq => HW.upto q (hmem q hq), ?_⟩, hch.mono (fun k _ hk => by have hk' : k = gr := hk; rw [hk']; exact HW.inB)⟩
  · have := heap_setCell_same w2 gr 0 _ _ u2 hbox
    rw [this]
    rfl
  · refine row_via hrow (fun b hb => Below.heap_setCell _ _ _ _ (fun e => ?_))
    have e' : b = gr := e
    have := hnb2 b hb
    omega
  · have h := HW.each q (hmem q hq)
    have hno : ∀ b, q.val.ownBlock = some b → ¬ b = gr := fun b hb e => (HW.ne_val (hmem q hq)).1 (by rw [hb, e])
    refine ⟨h.1.ch hch (fun b hb _ => hno b hb), fun b hb => ?_⟩
    obtain ⟨h1, cur, fr, h2⟩ := h.2 b hb
    exact ⟨.inl h1, cur, fr, by rw [hch.block (some_lt h2) (hno b hb)]; exact h2⟩
  · refine HW.rise.sublist ?_
    conv => rhs; rw [← List.take_append_drop k rs]
    exact List.Sublist.append (List.Sublist.refl _) (List.drop_sublist_drop_left _ (Nat.le_succ k))
  · have := HW.most
    rw [List.length_append, List.length_take, List.length_drop]
    omega
/-- what Drop answers, and the sets behind it -/
def dropI (rs : List IdR) (ls : List LbT) : Int × List IdR := if (numI rs ls).2 = true then (0, rs.take (posI rs ls).toNat ++ rs.drop ((posI rs ls).toNat + 1)) else (5, rs)

set_option maxRecDepth 8000 in
set_option maxHeartbeats 6400000 in
theorem refDrop_ids (w : World) (S : Nat → Prop) (gr last : Nat) (v u : Value) (rs : List IdR) (ls : List LbT) (h : RefI w S gr v rs last) (hu : RdL w u ls) :
    Calls Tryz.prog 14 #[.pointer (some ⟨gr, 0, none⟩), u] w fun e w' => e = .returned (.int .i64 (dropI rs ls).1) ∧ (∃ v', RefI w' (Gr S w w') gr v' (dropI rs ls).2 last) ∧ Ch w w' S := by
  have HPo := refPos_any w S gr last v u rs ls h hu
  have HW : Hid (RefI w S gr v rs last) := h
  have HSM : Hid (∀ w', w.grownBy w' none → (∃ v', RefI w' (Gr S w w') gr v' rs last) ∧ Ch w w' S) := fun w' hg => ⟨⟨v, (h.keep hg).mono (fun _ _ => .inl)⟩, Ch.of_gb hg (fun k hk => by cases hk)⟩
  have hm := h.most
  obtain ⟨ua, uc, rfl⟩ : ∃ a c, u = .slice a ls.length c := by obtain ⟨a, c, h, _⟩ := hu; exact ⟨a, c, h⟩
  clear hu
  rcases posI_cases rs ls with ⟨hp, hno⟩ | ⟨k, hp, hk, he, hno⟩
  · have hd : dropI rs ls = (5, rs) := by unfold dropI; rw [numI_none hno]; rfl
    rw [hp] at HPo
    rw [hd]
    dsimp only
    have HPo : Hid (Calls Tryz.prog 32 #[.pointer (some ⟨gr, 0, none⟩), .slice ua ls.length uc] w fun e w' => e = .returned (.int .i64 (-1)) ∧ w.grownBy w' none) := HPo
    clear h hp hno hd
    go_enter Tryz.func14, Tryz.ntmps14
    go_wp2_with fail
    refine HPo.out.mono ?_
    rintro e w1 ⟨rfl, hg1⟩
    have H1 : Hid (w.grownBy w1 none) := hg1
    clear HPo hg1
    go_wp2
    go_ret
    exact ⟨rfl, HSM.out _ H1.out⟩
  · have hd : dropI rs ls = (0, rs.take k ++ rs.drop (k + 1)) := by unfold dropI; rw [numI_some hk he hno, hp]; rfl
    rw [hp] at HPo
    rw [hd]
    dsimp only
    have HPo : Hid (Calls Tryz.prog 32 #[.pointer (some ⟨gr, 0, none⟩), .slice ua ls.length uc] w fun e w' => e = .returned (.int .i64 (k : Int)) ∧ w.grownBy w' none) := HPo
    have HO : Hid (∀ u ∈ idf rs, u.oneCell' = true) := by
      intro u hu
      obtain ⟨q, hq, hu⟩ := List.mem_flatMap.1 hu
      simp only [idc, List.mem_cons, List.not_mem_nil, or_false] at hu
      rcases hu with rfl | rfl
      · rfl
      · exact (h.each q hq).one
    obtain ⟨g, cap, hv, hcp, hcm, hgl, -⟩ := h.cells (by intro e; rw [e] at hk; simp at hk)
    subst hv
    have HA : Hid (∀ k, RdC w (some ⟨g, 0, none⟩) (idf (rs.take k)) ∧ (k ≤ rs.length → RdC w (some ⟨g, k * 2, none⟩) (idf (rs.drop k)))) := by
      have hc := World.ownsRow.cells h.row rfl
      intro k
      refine ⟨fun j u hj => ⟨_, rfl, hc j u ?_⟩, fun hk j u hj => ⟨_, rfl, ?_⟩⟩
      · rw [← idf_take, List.getElem?_take] at hj
        split at hj
        · exact hj
        · cases hj
      · rw [← idf_drop rs k hk, List.getElem?_drop] at hj
        have := hc (k * 2 + j) u hj
        rw [Go.WideShapes.add_plain] at this ⊢
        simpa using this
    have HCC : Hid (∀ W, w.grownBy W none → W.cell? ⟨gr, 0, none⟩ = some (.slice (some ⟨g, 0, none⟩) rs.length cap) ∧ W.frozen? ⟨gr, 0, none⟩ = false) := fun W hW => ⟨(HW.out.keep hW).boxes.1, (HW.out.keep hW).boxes.2.2.1⟩
    obtain ⟨i0, hi, hz0, hz1, hz2⟩ := info_parts infoId
    have hcm2 : (cap : Int) ≤ 9223372036854775807 := by unfold maxLen at hcm; omega
    have hcp2 : (rs.length : Int) ≤ (cap : Int) := by omega
    have HEND : Hid (∀ w2 u2, w.grownBy w2 none → (∀ b, u2.ownBlock = some b → w.heap.size ≤ b) → w2.ownsRow 0 41 2 u2 (rs.take k ++ rs.drop (k + 1)).length (idf (rs.take k ++ rs.drop (k + 1))) → RefI (w2.setCell ⟨gr, 0, none⟩ u2) (Gr S w (w2.setCell ⟨gr, 0, none⟩ u2)) gr u2 (rs.take k ++ rs.drop (k + 1)) last ∧ Ch w (w2.setCell ⟨gr, 0, none⟩ u2) S) := fun w2 u2 h1 h2 h3 => dropI_end HW.out h1 h2 h3
    clear h hp hno he hd hcm
    generalize hL : rs.length = L at *
    have HL : Hid (rs.length = L) := hL
    clear hL
    have hkL : (k : Int) < (L : Int) := by omega
    have hk0 : ¬ (k : Int) < 0 := by omega
    have hkc : (k : Int) ≤ (cap : Int) := by omega
    go_enter Tryz.func14, Tryz.ntmps14
    go_wp2_with fail
    refine HPo.out.mono ?_
    rintro e w1 ⟨rfl, hg1⟩
    have H1 : Hid (w.grownBy w1 none) := hg1
    obtain ⟨cB, -⟩ := HCC.out w1 hg1
    clear HPo hg1
    go_wp2_with (at_builtin; refine wp_appH rfl _ _ 26 41 rfl i0 _ 2 32 0 Tryz.underlying26 hi hz0 hz1 hz2 rfl (by decide) _ 0 [] (some ⟨g, 0, none⟩) k cap (idf (rs.take k)) rfl rfl (World.ownsRow_nil _ _ _ _) ?a1 ?a2 ?a3 ?a4 ?a5 ?a6 ?a7 ?_)
    case a1 => rw [idf_len, List.length_take, HL.out]; omega
    case a2 => exact (HA.out k).1.keepI H1.out
    case a3 => intro h; cases h
    case a4 => exact fun u hu => HO.out u (by rw [← idf_take] at hu; exact List.mem_of_mem_take hu)
    case a5 => omega
    case a6 => omega
    case a7 => exact Nat.zero_le _
    intro v1 w2 ho2 hf2
    have hg2 : w.grownBy w2 none := gb_none H1.out hf2.1
    have hnb : ∀ b, v1.ownBlock = some b → w.heap.size ≤ b := fun b hb => by
      rcases hf2.2 b hb with h | h
      · simp [Value.ownBlock] at h
      · exact Nat.le_trans H1.out.size h
    have H2 : Hid (w2.ownsRow 0 41 2 v1 k (idf (rs.take k)) ∧ w.grownBy w2 none ∧ (∀ b, v1.ownBlock = some b → w.heap.size ≤ b)) := ⟨by simpa using ho2, hg2, hnb⟩
    obtain ⟨cB2, fB2⟩ := HCC.out w2 hg2
    clear ho2 hf2 hg2 hnb H1 cB
    by_cases hk1 : k + 1 = cap
    · have HN0 : Hid (idf (rs.drop (k + 1)) = []) := by
        show idf (rs.drop (k + 1)) = []
        rw [List.drop_of_length_le (by rw [HL.out]; omega)]
        rfl
      have hm0 : L - cap = 0 := by omega
      have HLen : Hid ((rs.take k ++ rs.drop (k + 1)).length = k + 0) := by
        show (rs.take k ++ rs.drop (k + 1)).length = k + 0
        rw [List.length_append, List.length_take, List.length_drop, HL.out]; omega
      go_wp2_with (at_builtin; refine wp_appH rfl _ _ 26 41 rfl i0 _ 2 32 0 Tryz.underlying26 hi hz0 hz1 hz2 rfl (by decide) _ k (idf (rs.take k)) (some ⟨g, 0, none⟩) 0 _ (idf (rs.drop (k + 1))) rfl rfl H2.out.1 ?b1 ?b2 ?b3 ?b4 ?b5 ?b6 ?b7 ?_)
      case b1 => rw [HN0.out]; rfl
      case b2 => rw [HN0.out]; intro j u hj; simp at hj
      case b4 => rw [HN0.out]; intro u hu; cases hu
      case b5 => omega
      case b6 => omega
      case b7 => exact Nat.zero_le _
      intro u2 w3 ho3 hf3
      obtain ⟨ua2, un2, uc2, rfl⟩ : ∃ a n c, u2 = .slice a n c := by
        rcases ho3.2 with ⟨h, _⟩ | ⟨_, _, _, h, _⟩
        · exact ⟨_, _, _, h⟩
        · exact ⟨_, _, _, h⟩
      have hg3 : w.grownBy w3 none := gb_new H2.out.2.1 hf3.1 (fun b hb => H2.out.2.2 b hb)
      have hnb3 : ∀ b, (Value.slice ua2 un2 uc2).ownBlock = some b → w.heap.size ≤ b := fun b hb => by
        rcases hf3.2 b hb with h | h
        · exact H2.out.2.2 b h.symm
        · exact Nat.le_trans H2.out.2.1.size h
      have H3 := hid' (HEND.out w3 _ hg3 hnb3 (by rw [HLen.out, idf_append]; first | exact ho3 | (rw [hk1]; exact ho3)))
      obtain ⟨cB3, fB3⟩ := HCC.out w3 hg3
      clear ho3 hf3 hg3 hnb3 cB2 fB2
      go_wp2
      go_ret
      exact ⟨rfl, ⟨_, H3.out.1⟩, H3.out.2⟩
    · have hk2 : (k : Int) + 1 < (cap : Int) := by omega
      have HLen : Hid ((rs.take k ++ rs.drop (k + 1)).length = k + (L - (k + 1))) := by
        show (rs.take k ++ rs.drop (k + 1)).length = k + (L - (k + 1))
        rw [List.length_append, List.length_take, List.length_drop, HL.out]; omega
      have hk3 : (k : Int) + 1 ≤ (L : Int) := by omega
      go_wp2_with (at_builtin; refine wp_appH rfl _ _ 26 41 rfl i0 _ 2 32 0 Tryz.underlying26 hi hz0 hz1 hz2 rfl (by decide) _ k (idf (rs.take k)) (some ⟨g, (k + 1) * 2, none⟩) (L - (k + 1)) _ (idf (rs.drop (k + 1))) rfl rfl H2.out.1 ?d1 ?d2 ?d3 ?d4 ?d5 ?d6 ?d7 ?_)
      case d1 => rw [idf_len, List.length_drop, HL.out]
      case d2 => exact ((HA.out (k + 1)).2 (by omega)).keepI H2.out.2.1
      case d3 => intro h; cases h
      case d4 => exact fun u hu => HO.out u (by rw [← idf_drop rs (k + 1) (by rw [HL.out]; omega)] at hu; exact List.mem_of_mem_drop hu)
      case d5 => omega
      case d6 => omega
      case d7 => exact Nat.zero_le _
      intro u2 w3 ho3 hf3
      obtain ⟨ua2, un2, uc2, rfl⟩ : ∃ a n c, u2 = .slice a n c := by
        rcases ho3.2 with ⟨h, _⟩ | ⟨_, _, _, h, _⟩
        · exact ⟨_, _, _, h⟩
        · exact ⟨_, _, _, h⟩
      have hg3 : w.grownBy w3 none := gb_new H2.out.2.1 hf3.1 (fun b hb => H2.out.2.2 b hb)
      have hnb3 : ∀ b, (Value.slice ua2 un2 uc2).ownBlock = some b → w.heap.size ≤ b := fun b hb => by
        rcases hf3.2 b hb with h | h
        · exact H2.out.2.2 b h.symm
        · exact Nat.le_trans H2.out.2.1.size h
      have H3 := hid' (HEND.out w3 _ hg3 hnb3 (by rw [HLen.out, idf_append]; first | exact ho3 | (rw [hk1]; exact ho3)))
      obtain ⟨cB3, fB3⟩ := HCC.out w3 hg3
      clear ho3 hf3 hg3 hnb3 cB2 fB2
      go_wp2
      go_ret
      exact ⟨rfl, ⟨_, H3.out.1⟩, H3.out.2⟩
end Go.Proofs.YtkipnkpnkhfjhabGreatDoor
