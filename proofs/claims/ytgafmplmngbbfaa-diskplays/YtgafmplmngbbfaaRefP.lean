/-
  A file put into the document's disk in its place: the walk.
-/
import Derived.Test.YtgafmplmngbbfaaRefO
namespace Go.Proofs.Ytgafmplmngbbfaa
open Go.RowKit Go.Maps Go.WideMaps

theorem infoF : (Try.prog.info? 56).map (fun i => (i.zero, i.size, i.bytes)) = some (some (.agg #[.string ⟨#[]⟩, .slice none 0 0, .int .i64 0]), 3, 48) := by kernel_rfl
theorem str_gt (a b : Bs) : (Op.bytesLess (ByteArray.mk ⟨a⟩).toList (ByteArray.mk ⟨b⟩).toList || (ByteArray.mk ⟨a⟩).toList == (ByteArray.mk ⟨b⟩).toList) = decide (a ≤ b) := by
  rw [str_eq, ByteArray.toList_eq, ByteArray.toList_eq]
  show (Op.bytesLess a b || decide (a = b)) = decide (a ≤ b)
  rw [bytesLess_eq, Bool.eq_iff_iff]
  simp only [Bool.or_eq_true, decide_eq_true_eq]
  constructor
  · rintro (h | rfl)
    · exact List.le_of_lt h
    · exact List.le_refl _
  · intro h
    by_cases e : a = b
    · exact .inr e
    · left
      rcases List.le_total b a with h' | h'
      · exact absurd (List.le_antisymm h h') e
      · exact List.not_le.1 (fun hba => e (List.le_antisymm h hba))

theorem RdC.keep {w w' : World} {a : Option Addr} {news : List Value} (h : RdC w a news) (hg : w.grownBy w' none) : RdC w' a news := by
  intro j u hj
  obtain ⟨ad, rfl, hc⟩ := h j u hj
  refine ⟨ad, rfl, ?_⟩
  rw [← hc]
  have hlt : (ad.add j).block < w.heap.size := by
    by_cases hb : (ad.add j).block < w.heap.size
    · exact hb
    · exfalso
      have : w.heap[(ad.add j).block]? = none := by simp; omega
      simp [World.cell?, this] at hc
  exact World.cell?_of_block (hg.block _ hlt (by simp))
theorem gb_drewN (w : World) (m : Nat) (g : Option Nat) : w.grownBy (w.drewN m) g := ⟨rfl, rfl, rfl, Nat.le_refl _, fun _ _ _ => rfl⟩

set_option maxRecDepth 8000 in
set_option maxHeartbeats 3200000 in
theorem putR_any (w : World) (S : Nat → Prop) (gr : Nat) (v : Value) (rs : List RF) (r : RF) (h : RefW w S gr v rs) (hr : Rb w S r.val r.bytes) (hf : nameOk r.name = true ∧ r.synced ≤ r.bytes.length ∧ r.bytes.length ≤ 1048576) (hno : ∀ q ∈ rs, q.name ≠ r.name) (hlt : rs.length < 256) (hne : v ≠ .slice none 0 0) :
    Calls Try.prog 50 #[.pointer (some ⟨gr, 0, none⟩), .agg #[.string (ByteArray.mk ⟨r.name⟩), r.val, .int .i64 (r.synced : Int)]] w fun e w' => e = .returned (.tuple #[]) ∧ Ch w w' (fun k => k = gr) ∧ ∃ v' K, RefW w' (Gr S w w') gr v' (rs.take K ++ r :: rs.drop K) := by
  have HW : Hid (RefW w S gr v rs) := h
  obtain ⟨i0, hi, hz0, hz1, hz2⟩ := info_parts infoF
  have HO : Hid (∀ u ∈ rff rs, u.oneCell' = true) := by
    intro u hu
    obtain ⟨q, hq, hu⟩ := List.mem_flatMap.1 hu
    simp only [rfc, List.mem_cons, List.not_mem_nil, or_false] at hu
    rcases hu with rfl | rfl | rfl
    · rfl
    · exact (h.each q hq).one
    · rfl
  obtain ⟨g, cap, hv, hcp, hcm, hgl, hcells⟩ := h.cells' hne
  subst hv
  have HBox : Hid (w.cell? ⟨gr, 0, none⟩ = some (.slice (some ⟨g, 0, none⟩) rs.length cap)) := by show w.cell? ⟨gr, 0, none⟩ = _; simp [World.cell?, h.box]
  have hbox : ∀ o, (w.alloc o).cell? ⟨gr, 0, none⟩ = some (.slice (some ⟨g, 0, none⟩) rs.length cap) := fun o => cell_keep HBox.out (World.grownBy_alloc _ _ none)
  have HC : Hid (∀ j, j < rs.length → w.cell? ⟨g, j * 3, none⟩ = some (.string (ByteArray.mk ⟨(rs.getD j rfZ).name⟩)) ∧ w.cell? ⟨g, j * 3 + 1, none⟩ = some (rs.getD j rfZ).val ∧ w.cell? ⟨g, j * 3 + 2, none⟩ = some (.int .i64 ((rs.getD j rfZ).synced : Int))) := hcells
  obtain ⟨va, vc, hval⟩ : ∃ va vc, r.val = .slice va r.bytes.length vc := by obtain ⟨⟨a, c, e, _⟩, _⟩ := hr; exact ⟨a, c, e⟩
  have HA : Hid (∀ k, RdC w (some ⟨g, 0, none⟩) (rff (rs.take k)) ∧ (k ≤ rs.length → RdC w (some ⟨g, k * 3, none⟩) (rff (rs.drop k)))) := by
    have hc := World.ownsRow.cells h.row rfl
    intro k
    refine ⟨fun j u hj => ⟨_, rfl, hc j u ?_⟩, fun hk j u hj => ⟨_, rfl, ?_⟩⟩
    · rw [← rff_take, List.getElem?_take] at hj
      split at hj
      · exact hj
      · cases hj
    · rw [← rff_drop rs k hk, List.getElem?_drop] at hj
      have := hc (k * 3 + j) u hj
      rw [Go.WideShapes.add_plain] at this ⊢
      simpa using this
  have HR : Hid (Rb w S r.val r.bytes ∧ (nameOk r.name = true ∧ r.synced ≤ r.bytes.length ∧ r.bytes.length ≤ 1048576) ∧ (∀ q ∈ rs, q.name ≠ r.name) ∧ rs.length < 256 ∧ r.val = .slice va r.bytes.length vc) := ⟨hr, hf, hno, hlt, hval⟩
  rw [hval]
  have hcm2 : (cap : Int) ≤ 9223372036854775807 := by unfold maxLen at hcm; omega
  have hcp2 : (rs.length : Int) ≤ (cap : Int) := by omega
  clear hcm hcp
  clear h hr hno hcells hval hne
  generalize hsr : ByteArray.mk ⟨r.name⟩ = sr at *
  have HSr : Hid (ByteArray.mk ⟨r.name⟩ = sr) := hsr
  clear hsr
  generalize hL : rs.length = L at *
  have HL : Hid (rs.length = L) := hL
  clear hL
  generalize hBL : r.bytes.length = BL at *
  have HBL : Hid (r.bytes.length = BL) := hBL
  clear hBL hf
  generalize hSY : r.synced = SY at *
  have HSY : Hid (r.synced = SY) := hSY
  clear hSY
  go_enter Try.func50, Try.ntmps50
  go_wp2
  go_loopw [4] (fun i wr => ∃ k m : Nat, k ≤ L ∧ i = .int .i64 (k : Int) ∧ wr = (w.alloc (.cells #[.string sr, .slice va BL vc, .int .i64 (SY : Int)] 56)).drewN m ∧ Hid (∀ j, k ≤ j → j < L → ¬ (rs.getD j rfZ).name ≤ r.name)) (fun i _ => (intOf i).toNat)
  case atStart => exact ⟨L, 0, by omega, rfl, rfl, fun j h1 h2 => by omega⟩
  case round =>
    obtain ⟨k, m, hk, rfl, rfl, HJ⟩ := hrel
    by_cases hex : k = 0 ∨ (0 < k ∧ (rs.getD (k - 1) rfZ).name ≤ r.name)
    · have HX : Hid (∀ j, j < k → (rs.getD j rfZ).name < r.name) := by
        intro j hj
        rcases hex with h0 | ⟨h0, hle⟩
        · omega
        · have hjr : j < rs.length := by rw [HL.out]; omega
          have hkr : k - 1 < rs.length := by rw [HL.out]; omega
          have hlast : (rs.getD (k - 1) rfZ).name < r.name := by
            rcases List.le_total r.name (rs.getD (k - 1) rfZ).name with h | h
            · exact absurd (List.le_antisymm hle h) (HR.out.2.2.1 _ (getD_mem hkr))
            · exact List.not_le.1 (fun h' => HR.out.2.2.1 _ (getD_mem hkr) (List.le_antisymm hle h'))
          by_cases e : j = k - 1
          · rw [e]; exact hlast
          · have := List.pairwise_iff_getElem.1 HW.out.srt j (k - 1) hjr hkr (by omega)
            have h1 : (rs.getD j rfZ).name < (rs.getD (k - 1) rfZ).name := by simpa [hjr, hkr] using this
            exact List.lt_trans h1 hlast
      have HJX : Hid (∀ j, k ≤ j → j < L → ¬ (rs.getD j rfZ).name ≤ r.name) := HJ.out
      have hkc : (k : Int) ≤ (cap : Int) := by omega
      rcases hex with h0 | ⟨h0, hle⟩
      · have hk0 : decide (0 < k) = false := by simp; omega
        clear h0 HJ
        go_wp2_with fail
        go_region
        go_wp2_with (at_builtin; refine wp_appG rfl _ _ 26 56 rfl i0 _ 3 48 0 Try.underlying26 hi hz0 hz1 hz2 rfl (by decide) (by decide) _ 0 [] (some ⟨g, 0, none⟩) k cap (rff (rs.take k)) rfl rfl (World.ownsRow_nil _ _ _ _) ?a1p ?a2p ?a3p ?a4p ?a5p ?a6p ?_)
        case a1p => rw [rff_len, List.length_take, HL.out]; omega
        case a2p => exact (HA.out k).1.keep (gb_none (World.grownBy_alloc _ _ none) (gb_drewN _ _ none))
        case a3p => intro h; cases h
        case a4p => exact fun u hu => HO.out u (by rw [← rff_take] at hu; exact List.mem_of_mem_take hu)
        case a5p => omega
        case a6p => exact Nat.zero_le _
        intro v1 w1 ho1 hf1
        have hg1 : w.grownBy w1 none := gb_none (gb_none (World.grownBy_alloc _ _ none) (gb_drewN _ _ none)) hf1.1
        have hbk1 : w1.heap[w.heap.size]? = some (.cells #[.string sr, .slice va BL vc, .int .i64 (SY : Int)] 56) := by
          rw [hf1.1.block w.heap.size (by simp [World.drewN]) (by simp [Value.ownBlock])]
          exact alloc_at _ _
        have e0 : w1.cell? ⟨w.heap.size, 0, none⟩ = some (.string sr) := by simp [World.cell?, hbk1]
        have e1 : w1.cell? ⟨w.heap.size, 1, none⟩ = some (.slice va BL vc) := by simp [World.cell?, hbk1]
        have e2 : w1.cell? ⟨w.heap.size, 2, none⟩ = some (.int .i64 (SY : Int)) := by simp [World.cell?, hbk1]
        have hnb1 : ∀ b, v1.ownBlock = some b → w.heap.size < b := fun b hb => by
          rcases hf1.2 b hb with h | h
          · simp [Value.ownBlock] at h
          · have : w.heap.size + 1 ≤ b := by simpa [World.drewN] using h
            omega
        have H1 : Hid (w1.ownsRow 0 56 3 v1 k (rff (rs.take k)) ∧ w.grownBy w1 none ∧ ∀ b, v1.ownBlock = some b → w.heap.size < b) := ⟨ho1, hg1, hnb1⟩
        clear ho1 hf1 hg1 hbk1 hnb1
        go_wp2_with (at_builtin; refine wp_appG rfl _ _ 26 56 rfl i0 _ 3 48 0 Try.underlying26 hi hz0 hz1 hz2 rfl (by decide) (by decide) _ k (rff (rs.take k)) (some ⟨w1.heap.size, 0, none⟩) 1 1 [.string sr, .slice va BL vc, .int .i64 (SY : Int)] rfl rfl (World.ownsRow.alloc H1.out.1 _) ?b1p ?b2p ?b3p ?b4p ?b5p ?b6p ?_)
        case b1p => rfl
        case b2p =>
          intro j u hj
          refine ⟨_, rfl, ?_⟩
          rw [Go.WideShapes.add_plain]
          have ha := alloc_at w1 (.cells #[.string sr, .slice va BL vc, .int .i64 (SY : Int)] 56)
          simp only [World.cell?, ha]
          simpa using hj
        case b3p => intro h; cases h
        case b4p =>
          intro u hu
          simp only [List.mem_cons, List.not_mem_nil, or_false] at hu
          rcases hu with rfl | rfl | rfl <;> rfl
        case b5p => omega
        case b6p => exact Nat.zero_le _
        intro v2 w2 ho2 hf2
        have hz1' := H1.out.2.1.size
        have hg2 : w.grownBy w2 none := gb_new (gb_none H1.out.2.1 (World.grownBy_alloc _ _ none)) hf2.1 (fun b hb => by have := H1.out.2.2 b hb; omega)
        have hbox2 : w2.cell? ⟨gr, 0, none⟩ = some (.slice (some ⟨g, 0, none⟩) L cap) := cell_keep HBox.out hg2
        have hnb2 : ∀ b, v2.ownBlock = some b → w.heap.size ≤ b := fun b hb => by
          rcases hf2.2 b hb with h | h
          · exact Nat.le_of_lt (H1.out.2.2 b h.symm)
          · simp at h; omega
        have H2 : Hid (w2.ownsRow 0 56 3 v2 (k + 1) (rff (rs.take k) ++ [.string sr, .slice va BL vc, .int .i64 (SY : Int)]) ∧ w.grownBy w2 none ∧ ∀ b, v2.ownBlock = some b → w.heap.size ≤ b) := ⟨ho2, hg2, hnb2⟩
        clear ho2 hf2 hg2 hnb2 H1 e0 e1 e2 hz1'
        by_cases hkc : k = cap
        · have HKC : Hid (k = cap ∧ L = k) := ⟨hkc, by omega⟩
          have HN0 : Hid (rff (rs.drop k) = []) := by
            show rff (rs.drop k) = []
            rw [List.drop_of_length_le (by rw [HL.out]; omega)]
            rfl
          have hkc2 : cap - k = 0 := by omega
          have hLk2 : L - k = 0 := by omega
          clear hkc
          go_wp2_with (at_builtin; refine wp_appG rfl _ _ 26 56 rfl i0 _ 3 48 0 Try.underlying26 hi hz0 hz1 hz2 rfl (by decide) (by decide) _ (k + 1) _ (some ⟨g, 0, none⟩) 0 _ (rff (rs.drop k)) rfl rfl H2.out.1 ?d1pA ?d2pA ?d3pA ?d4pA ?d5pA ?d6pA ?_)
          case d2pA => rw [HN0.out]; intro j u hj; simp at hj
          case d1pA => rw [HN0.out]; rfl
          case d4pA => exact fun u hu => HO.out u (by rw [← rff_drop rs k (by rw [HL.out]; omega)] at hu; exact List.mem_of_mem_drop hu)
          case d5pA => omega
          case d6pA => exact Nat.zero_le _
          intro v3 w3 ho3 hf3
          have hg3 : w.grownBy w3 none := gb_new H2.out.2.1 hf3.1 (fun b hb => by have := H2.out.2.2 b hb; omega)
          have hbox3 : w3.cell? ⟨gr, 0, none⟩ = some (.slice (some ⟨g, 0, none⟩) L cap) := cell_keep HBox.out hg3
          have hgrl := some_lt HW.out.box
          have hblk3 : w3.heap[gr]? = some (.cells #[.slice (some ⟨g, 0, none⟩) L cap] 28) := by rw [hg3.block gr hgrl (by simp)]; exact HW.out.box
          have hfr3 : w3.frozen? ⟨gr, 0, none⟩ = false := by simp [World.frozen?, hblk3]
          have hnb3 : ∀ b, v3.ownBlock = some b → w.heap.size ≤ b := fun b hb => by
            rcases hf3.2 b hb with h | h
            · exact H2.out.2.2 b h.symm
            · have := H2.out.2.1.size; omega
          have H4 : Hid (Ch w (w3.setCell ⟨gr, 0, none⟩ v3) (fun k => k = gr) ∧ ∃ v' K, RefW (w3.setCell ⟨gr, 0, none⟩ v3) (Gr S w (w3.setCell ⟨gr, 0, none⟩ v3)) gr v' (rs.take K ++ r :: rs.drop K)) := by
            have hch : Ch w (w3.setCell ⟨gr, 0, none⟩ v3) (fun k => k = gr) := (Ch.of_gb (S := fun k => k = gr) hg3 (fun k hk => by cases hk)).trans (Ch.of_gb (S := fun k => k = gr) (gb_set0 w3 gr 0 v3) (fun k hk _ => by cases hk; rfl)) (fun _ _ h => h)
            have hsz : (w3.setCell ⟨gr, 0, none⟩ v3).heap.size = w3.heap.size := by simp [World.setCell]
            refine ⟨hch, v3, k, ?_⟩
            have hrow : w3.ownsRow 0 56 3 v3 (rs.take k ++ r :: rs.drop k).length (rff (rs.take k ++ r :: rs.drop k)) := by
              have e1 : (rs.take k ++ r :: rs.drop k).length = k + 1 + 0 := by
                rw [List.length_append, List.length_cons, List.length_take, List.length_drop, HL.out]; have := HKC.out; omega
              have e2 : rff (rs.take k ++ r :: rs.drop k) = rff (rs.take k) ++ (.string sr :: .slice va BL vc :: .int .i64 (SY : Int) :: rff (rs.drop k)) := by
                have e3 : rff (r :: rs.drop k) = .string (ByteArray.mk ⟨r.name⟩) :: r.val :: .int .i64 (r.synced : Int) :: rff (rs.drop k) := rfl
                rw [rff_append, e3, HSr.out, HR.out.2.2.2.2, HSY.out]
              rw [e1, e2]
              simpa using ho3
            have hmem : ∀ q ∈ rs.take k ++ r :: rs.drop k, q ∈ rs ∨ q = r := fun q hq => by
              rcases List.mem_append.1 hq with h | h
              · exact .inl (List.mem_of_mem_take h)
              · rcases List.mem_cons.1 h with h | h
                · exact .inr h
                · exact .inl (List.mem_of_mem_drop h)
            have toG : ∀ {k : Nat}, k < w.heap.size → S k → Gr S w (w3.setCell ⟨gr, 0, none⟩ v3) k := fun _ h => .inl h
            have hRb : ∀ {q : RF}, Rb w S q.val q.bytes → q.val.ownBlock ≠ some gr → Rb (w3.setCell ⟨gr, 0, none⟩ v3) (Gr S w (w3.setCell ⟨gr, 0, none⟩ v3)) q.val q.bytes := by
              intro q hq hne
              refine ⟨hq.1.ch hch (fun b hb _ e => hne (by rw [hb, e])), fun b hb => ?_⟩
              obtain ⟨h1, cur, fr, h2⟩ := hq.2 b hb
              exact ⟨.inl h1, cur, fr, by rw [hch.block (some_lt h2) (fun e => hne (by rw [hb, e]))]; exact h2⟩
            have hrne : r.val.ownBlock ≠ some gr := fun e => by
              obtain ⟨_, cur, fr, h2⟩ := HR.out.1.2 gr e
              rw [HW.out.box] at h2
              simp at h2
            refine ⟨?_, ?_, .inl HW.out.inB, fun b hb => .inr ⟨hnb3 b hb, by rw [hsz]; exact (hrow.lt b hb).2⟩, fun q hq => ?_, fun q hq => ?_, ?_, ?_⟩
            · simp [World.setCell, Array.getElem?_modify, hblk3]
            · refine row_via hrow (fun b hb => Below.heap_setCell _ _ _ _ (fun e => ?_))
              have h1 := hnb3 b hb
              have h2 : b = gr := e
              omega
            · rcases hmem q hq with h | rfl
              · exact hRb (HW.out.each q h) (HW.out.ne_val h).1
              · exact hRb HR.out.1 hrne
            · rcases hmem q hq with h | rfl
              · exact HW.out.fits q h
              · have := HR.out.2.1
                rw [← HSY.out, ← HBL.out] at this
                exact this
            · refine List.pairwise_append.2 ⟨HW.out.srt.sublist (List.take_sublist _ _), List.pairwise_cons.2 ⟨fun q hq => ?_, HW.out.srt.sublist (List.drop_sublist _ _)⟩, fun p hp q hq => ?_⟩
              · obtain ⟨j, hj, rfl⟩ := List.mem_iff_getElem.1 hq
                rw [List.length_drop, HL.out] at hj
                have h1 := HJX.out (k + j) (by omega) (by omega)
                have h2 : k + j < rs.length := by rw [HL.out]; omega
                simp only [List.getElem_drop]
                have h3 : (rs.getD (k + j) rfZ).name = (rs[k + j]'h2).name := by simp [h2]
                rw [h3] at h1
                exact List.not_le.1 h1
              · obtain ⟨i, hi, rfl⟩ := List.mem_iff_getElem.1 hp
                rw [List.length_take, HL.out] at hi
                have h2 : i < rs.length := by rw [HL.out]; omega
                have h1 := HX.out i (by omega)
                have h3 : (rs.getD i rfZ).name = (rs[i]'h2).name := by simp [h2]
                rw [h3] at h1
                simp only [List.getElem_take]
                rcases List.mem_cons.1 hq with rfl | hq
                · exact h1
                · obtain ⟨j, hj, rfl⟩ := List.mem_iff_getElem.1 hq
                  rw [List.length_drop, HL.out] at hj
                  simp only [List.getElem_drop]
                  exact List.pairwise_iff_getElem.1 HW.out.srt i (k + j) h2 (by rw [HL.out]; omega) (by omega)
            · rw [List.length_append, List.length_cons, List.length_take, List.length_drop, HL.out]; omega
          obtain ⟨a3, c3, hv3⟩ : ∃ a3 c3, v3 = .slice a3 (k + 1 + 0) c3 := by
            rcases ho3.2 with ⟨h, hn⟩ | ⟨g3, cap3, cur3, h, _⟩
            · exact ⟨none, 0, by rw [h, hn]⟩
            · exact ⟨_, _, h⟩
          clear ho3 hf3 hg3 hblk3 hnb3 H2 hgrl
          subst hv3
          go_wp2
          go_end0
          exact ⟨rfl, H4.out⟩

        · have hkc2 : (k : Int) < (cap : Int) := by omega
          go_wp2_with (at_builtin; refine wp_appG rfl _ _ 26 56 rfl i0 _ 3 48 0 Try.underlying26 hi hz0 hz1 hz2 rfl (by decide) (by decide) _ (k + 1) _ (some ⟨g, k * 3, none⟩) (L - k) _ (rff (rs.drop k)) rfl rfl H2.out.1 ?d1pB ?d2pB ?d3pB ?d4pB ?d5pB ?d6pB ?_)
          case d2pB => exact ((HA.out k).2 (by omega)).keep H2.out.2.1
          case d1pB => rw [rff_len, List.length_drop, HL.out]
          case d3pB => intro h; cases h
          case d4pB => exact fun u hu => HO.out u (by rw [← rff_drop rs k (by rw [HL.out]; omega)] at hu; exact List.mem_of_mem_drop hu)
          case d5pB => omega
          case d6pB => exact Nat.zero_le _
          intro v3 w3 ho3 hf3
          have hg3 : w.grownBy w3 none := gb_new H2.out.2.1 hf3.1 (fun b hb => by have := H2.out.2.2 b hb; omega)
          have hbox3 : w3.cell? ⟨gr, 0, none⟩ = some (.slice (some ⟨g, 0, none⟩) L cap) := cell_keep HBox.out hg3
          have hgrl := some_lt HW.out.box
          have hblk3 : w3.heap[gr]? = some (.cells #[.slice (some ⟨g, 0, none⟩) L cap] 28) := by rw [hg3.block gr hgrl (by simp)]; exact HW.out.box
          have hfr3 : w3.frozen? ⟨gr, 0, none⟩ = false := by simp [World.frozen?, hblk3]
          have hnb3 : ∀ b, v3.ownBlock = some b → w.heap.size ≤ b := fun b hb => by
            rcases hf3.2 b hb with h | h
            · exact H2.out.2.2 b h.symm
            · have := H2.out.2.1.size; omega
          have H4 : Hid (Ch w (w3.setCell ⟨gr, 0, none⟩ v3) (fun k => k = gr) ∧ ∃ v' K, RefW (w3.setCell ⟨gr, 0, none⟩ v3) (Gr S w (w3.setCell ⟨gr, 0, none⟩ v3)) gr v' (rs.take K ++ r :: rs.drop K)) := by
            have hch : Ch w (w3.setCell ⟨gr, 0, none⟩ v3) (fun k => k = gr) := (Ch.of_gb (S := fun k => k = gr) hg3 (fun k hk => by cases hk)).trans (Ch.of_gb (S := fun k => k = gr) (gb_set0 w3 gr 0 v3) (fun k hk _ => by cases hk; rfl)) (fun _ _ h => h)
            have hsz : (w3.setCell ⟨gr, 0, none⟩ v3).heap.size = w3.heap.size := by simp [World.setCell]
            refine ⟨hch, v3, k, ?_⟩
            have hrow : w3.ownsRow 0 56 3 v3 (rs.take k ++ r :: rs.drop k).length (rff (rs.take k ++ r :: rs.drop k)) := by
              have e1 : (rs.take k ++ r :: rs.drop k).length = k + 1 + (L - k) := by
                rw [List.length_append, List.length_cons, List.length_take, List.length_drop, HL.out]; omega
              have e2 : rff (rs.take k ++ r :: rs.drop k) = rff (rs.take k) ++ (.string sr :: .slice va BL vc :: .int .i64 (SY : Int) :: rff (rs.drop k)) := by
                have e3 : rff (r :: rs.drop k) = .string (ByteArray.mk ⟨r.name⟩) :: r.val :: .int .i64 (r.synced : Int) :: rff (rs.drop k) := rfl
                rw [rff_append, e3, HSr.out, HR.out.2.2.2.2, HSY.out]
              rw [e1, e2]
              simpa using ho3
            have hmem : ∀ q ∈ rs.take k ++ r :: rs.drop k, q ∈ rs ∨ q = r := fun q hq => by
              rcases List.mem_append.1 hq with h | h
              · exact .inl (List.mem_of_mem_take h)
              · rcases List.mem_cons.1 h with h | h
                · exact .inr h
                · exact .inl (List.mem_of_mem_drop h)
            have toG : ∀ {k : Nat}, k < w.heap.size → S k → Gr S w (w3.setCell ⟨gr, 0, none⟩ v3) k := fun _ h => .inl h
            have hRb : ∀ {q : RF}, Rb w S q.val q.bytes → q.val.ownBlock ≠ some gr → Rb (w3.setCell ⟨gr, 0, none⟩ v3) (Gr S w (w3.setCell ⟨gr, 0, none⟩ v3)) q.val q.bytes := by
              intro q hq hne
              refine ⟨hq.1.ch hch (fun b hb _ e => hne (by rw [hb, e])), fun b hb => ?_⟩
              obtain ⟨h1, cur, fr, h2⟩ := hq.2 b hb
              exact ⟨.inl h1, cur, fr, by rw [hch.block (some_lt h2) (fun e => hne (by rw [hb, e]))]; exact h2⟩
            have hrne : r.val.ownBlock ≠ some gr := fun e => by
              obtain ⟨_, cur, fr, h2⟩ := HR.out.1.2 gr e
              rw [HW.out.box] at h2
              simp at h2
            refine ⟨?_, ?_, .inl HW.out.inB, fun b hb => .inr ⟨hnb3 b hb, by rw [hsz]; exact (hrow.lt b hb).2⟩, fun q hq => ?_, fun q hq => ?_, ?_, ?_⟩
            · simp [World.setCell, Array.getElem?_modify, hblk3]
            · refine row_via hrow (fun b hb => Below.heap_setCell _ _ _ _ (fun e => ?_))
              have h1 := hnb3 b hb
              have h2 : b = gr := e
              omega
            · rcases hmem q hq with h | rfl
              · exact hRb (HW.out.each q h) (HW.out.ne_val h).1
              · exact hRb HR.out.1 hrne
            · rcases hmem q hq with h | rfl
              · exact HW.out.fits q h
              · have := HR.out.2.1
                rw [← HSY.out, ← HBL.out] at this
                exact this
            · refine List.pairwise_append.2 ⟨HW.out.srt.sublist (List.take_sublist _ _), List.pairwise_cons.2 ⟨fun q hq => ?_, HW.out.srt.sublist (List.drop_sublist _ _)⟩, fun p hp q hq => ?_⟩
              · obtain ⟨j, hj, rfl⟩ := List.mem_iff_getElem.1 hq
                rw [List.length_drop, HL.out] at hj
                have h1 := HJX.out (k + j) (by omega) (by omega)
                have h2 : k + j < rs.length := by rw [HL.out]; omega
                simp only [List.getElem_drop]
                have h3 : (rs.getD (k + j) rfZ).name = (rs[k + j]'h2).name := by simp [h2]
                rw [h3] at h1
                exact List.not_le.1 h1
              · obtain ⟨i, hi, rfl⟩ := List.mem_iff_getElem.1 hp
                rw [List.length_take, HL.out] at hi
                have h2 : i < rs.length := by rw [HL.out]; omega
                have h1 := HX.out i (by omega)
                have h3 : (rs.getD i rfZ).name = (rs[i]'h2).name := by simp [h2]
                rw [h3] at h1
                simp only [List.getElem_take]
                rcases List.mem_cons.1 hq with rfl | hq
                · exact h1
                · obtain ⟨j, hj, rfl⟩ := List.mem_iff_getElem.1 hq
                  rw [List.length_drop, HL.out] at hj
                  simp only [List.getElem_drop]
                  exact List.pairwise_iff_getElem.1 HW.out.srt i (k + j) h2 (by rw [HL.out]; omega) (by omega)
            · rw [List.length_append, List.length_cons, List.length_take, List.length_drop, HL.out]; omega
          obtain ⟨a3, c3, hv3⟩ : ∃ a3 c3, v3 = .slice a3 (k + 1 + (L - k)) c3 := by
            rcases ho3.2 with ⟨h, hn⟩ | ⟨g3, cap3, cur3, h, _⟩
            · exact ⟨none, 0, by rw [h, hn]⟩
            · exact ⟨_, _, h⟩
          clear ho3 hf3 hg3 hblk3 hnb3 H2 hgrl
          subst hv3
          go_wp2
          go_end0
          exact ⟨rfl, H4.out⟩


      · obtain ⟨k', hk'⟩ : ∃ k', k = k' + 1 := ⟨k - 1, by omega⟩
        have hkk : (k : Int) - 1 = (k' : Int) := by omega
        have hpos : decide (0 < k) = true := by simp; omega
        have hk'L : (k' : Int) < (L : Int) := by omega
        have hle' : (rs.getD k' rfZ).name ≤ r.name := by
          have e : k - 1 = k' := by omega
          rw [e] at hle
          exact hle
        have c0 : ∀ o, (w.alloc o).cell? ⟨g, k' * 3, none⟩ = some (.string (ByteArray.mk ⟨(rs.getD k' rfZ).name⟩)) := fun o => cell_keep (HC.out k' (by omega)).1 (World.grownBy_alloc _ _ none)
        have hq : ∀ s', ByteArray.mk ⟨(rs.getD k' rfZ).name⟩ = s' → (Op.bytesLess s'.toList sr.toList || s'.toList == sr.toList) = true := fun s' h => by
          have := str_gt (rs.getD k' rfZ).name r.name
          rw [h, HSr.out, decide_eq_true hle'] at this
          exact this
        generalize hnk : ByteArray.mk ⟨(rs.getD k' rfZ).name⟩ = sk at *
        have q1 := hq sk rfl
        have HKK : Hid (k = k' + 1) := hk'
        clear hq hnk hle hle' HJ hk' h0
        go_wp2_with fail
        go_region
        have HQ1 : Hid ((Op.bytesLess sk.toList sr.toList || sk.toList == sr.toList) = true) := q1
        clear c0 hkk hk'L
        go_wp2_with (at_builtin; refine wp_appG rfl _ _ 26 56 rfl i0 _ 3 48 0 Try.underlying26 hi hz0 hz1 hz2 rfl (by decide) (by decide) _ 0 [] (some ⟨g, 0, none⟩) k cap (rff (rs.take k)) rfl rfl (World.ownsRow_nil _ _ _ _) ?a1q ?a2q ?a3q ?a4q ?a5q ?a6q ?_)
        case a1q => rw [rff_len, List.length_take, HL.out]; omega
        case a2q => exact (HA.out k).1.keep (gb_none (World.grownBy_alloc _ _ none) (gb_drewN _ _ none))
        case a3q => intro h; cases h
        case a4q => exact fun u hu => HO.out u (by rw [← rff_take] at hu; exact List.mem_of_mem_take hu)
        case a5q => omega
        case a6q => exact Nat.zero_le _
        intro v1 w1 ho1 hf1
        have hg1 : w.grownBy w1 none := gb_none (gb_none (World.grownBy_alloc _ _ none) (gb_drewN _ _ none)) hf1.1
        have hbk1 : w1.heap[w.heap.size]? = some (.cells #[.string sr, .slice va BL vc, .int .i64 (SY : Int)] 56) := by
          rw [hf1.1.block w.heap.size (by simp [World.drewN]) (by simp [Value.ownBlock])]
          exact alloc_at _ _
        have e0 : w1.cell? ⟨w.heap.size, 0, none⟩ = some (.string sr) := by simp [World.cell?, hbk1]
        have e1 : w1.cell? ⟨w.heap.size, 1, none⟩ = some (.slice va BL vc) := by simp [World.cell?, hbk1]
        have e2 : w1.cell? ⟨w.heap.size, 2, none⟩ = some (.int .i64 (SY : Int)) := by simp [World.cell?, hbk1]
        have hnb1 : ∀ b, v1.ownBlock = some b → w.heap.size < b := fun b hb => by
          rcases hf1.2 b hb with h | h
          · simp [Value.ownBlock] at h
          · have : w.heap.size + 1 ≤ b := by simpa [World.drewN] using h
            omega
        have H1 : Hid (w1.ownsRow 0 56 3 v1 k (rff (rs.take k)) ∧ w.grownBy w1 none ∧ ∀ b, v1.ownBlock = some b → w.heap.size < b) := ⟨ho1, hg1, hnb1⟩
        clear ho1 hf1 hg1 hbk1 hnb1
        go_wp2_with (at_builtin; refine wp_appG rfl _ _ 26 56 rfl i0 _ 3 48 0 Try.underlying26 hi hz0 hz1 hz2 rfl (by decide) (by decide) _ k (rff (rs.take k)) (some ⟨w1.heap.size, 0, none⟩) 1 1 [.string sr, .slice va BL vc, .int .i64 (SY : Int)] rfl rfl (World.ownsRow.alloc H1.out.1 _) ?b1q ?b2q ?b3q ?b4q ?b5q ?b6q ?_)
        case b1q => rfl
        case b2q =>
          intro j u hj
          refine ⟨_, rfl, ?_⟩
          rw [Go.WideShapes.add_plain]
          have ha := alloc_at w1 (.cells #[.string sr, .slice va BL vc, .int .i64 (SY : Int)] 56)
          simp only [World.cell?, ha]
          simpa using hj
        case b3q => intro h; cases h
        case b4q =>
          intro u hu
          simp only [List.mem_cons, List.not_mem_nil, or_false] at hu
          rcases hu with rfl | rfl | rfl <;> rfl
        case b5q => omega
        case b6q => exact Nat.zero_le _
        intro v2 w2 ho2 hf2
        have hz1' := H1.out.2.1.size
        have hg2 : w.grownBy w2 none := gb_new (gb_none H1.out.2.1 (World.grownBy_alloc _ _ none)) hf2.1 (fun b hb => by have := H1.out.2.2 b hb; omega)
        have hbox2 : w2.cell? ⟨gr, 0, none⟩ = some (.slice (some ⟨g, 0, none⟩) L cap) := cell_keep HBox.out hg2
        have hnb2 : ∀ b, v2.ownBlock = some b → w.heap.size ≤ b := fun b hb => by
          rcases hf2.2 b hb with h | h
          · exact Nat.le_of_lt (H1.out.2.2 b h.symm)
          · simp at h; omega
        have H2 : Hid (w2.ownsRow 0 56 3 v2 (k + 1) (rff (rs.take k) ++ [.string sr, .slice va BL vc, .int .i64 (SY : Int)]) ∧ w.grownBy w2 none ∧ ∀ b, v2.ownBlock = some b → w.heap.size ≤ b) := ⟨ho2, hg2, hnb2⟩
        clear ho2 hf2 hg2 hnb2 H1 e0 e1 e2 hz1'
        by_cases hkc : k = cap
        · have HKC : Hid (k = cap ∧ L = k) := ⟨hkc, by omega⟩
          have HN0 : Hid (rff (rs.drop k) = []) := by
            show rff (rs.drop k) = []
            rw [List.drop_of_length_le (by rw [HL.out]; omega)]
            rfl
          have hkc2 : cap - k = 0 := by omega
          have hLk2 : L - k = 0 := by omega
          clear hkc
          go_wp2_with (at_builtin; refine wp_appG rfl _ _ 26 56 rfl i0 _ 3 48 0 Try.underlying26 hi hz0 hz1 hz2 rfl (by decide) (by decide) _ (k + 1) _ (some ⟨g, 0, none⟩) 0 _ (rff (rs.drop k)) rfl rfl H2.out.1 ?d1qA ?d2qA ?d3qA ?d4qA ?d5qA ?d6qA ?_)
          case d2qA => rw [HN0.out]; intro j u hj; simp at hj
          case d1qA => rw [HN0.out]; rfl
          case d4qA => exact fun u hu => HO.out u (by rw [← rff_drop rs k (by rw [HL.out]; omega)] at hu; exact List.mem_of_mem_drop hu)
          case d5qA => omega
          case d6qA => exact Nat.zero_le _
          intro v3 w3 ho3 hf3
          have hg3 : w.grownBy w3 none := gb_new H2.out.2.1 hf3.1 (fun b hb => by have := H2.out.2.2 b hb; omega)
          have hbox3 : w3.cell? ⟨gr, 0, none⟩ = some (.slice (some ⟨g, 0, none⟩) L cap) := cell_keep HBox.out hg3
          have hgrl := some_lt HW.out.box
          have hblk3 : w3.heap[gr]? = some (.cells #[.slice (some ⟨g, 0, none⟩) L cap] 28) := by rw [hg3.block gr hgrl (by simp)]; exact HW.out.box
          have hfr3 : w3.frozen? ⟨gr, 0, none⟩ = false := by simp [World.frozen?, hblk3]
          have hnb3 : ∀ b, v3.ownBlock = some b → w.heap.size ≤ b := fun b hb => by
            rcases hf3.2 b hb with h | h
            · exact H2.out.2.2 b h.symm
            · have := H2.out.2.1.size; omega
          have H4 : Hid (Ch w (w3.setCell ⟨gr, 0, none⟩ v3) (fun k => k = gr) ∧ ∃ v' K, RefW (w3.setCell ⟨gr, 0, none⟩ v3) (Gr S w (w3.setCell ⟨gr, 0, none⟩ v3)) gr v' (rs.take K ++ r :: rs.drop K)) := by
            have hch : Ch w (w3.setCell ⟨gr, 0, none⟩ v3) (fun k => k = gr) := (Ch.of_gb (S := fun k => k = gr) hg3 (fun k hk => by cases hk)).trans (Ch.of_gb (S := fun k => k = gr) (gb_set0 w3 gr 0 v3) (fun k hk _ => by cases hk; rfl)) (fun _ _ h => h)
            have hsz : (w3.setCell ⟨gr, 0, none⟩ v3).heap.size = w3.heap.size := by simp [World.setCell]
            refine ⟨hch, v3, k, ?_⟩
            have hrow : w3.ownsRow 0 56 3 v3 (rs.take k ++ r :: rs.drop k).length (rff (rs.take k ++ r :: rs.drop k)) := by
              have e1 : (rs.take k ++ r :: rs.drop k).length = k + 1 + 0 := by
                rw [List.length_append, List.length_cons, List.length_take, List.length_drop, HL.out]; have := HKC.out; omega
              have e2 : rff (rs.take k ++ r :: rs.drop k) = rff (rs.take k) ++ (.string sr :: .slice va BL vc :: .int .i64 (SY : Int) :: rff (rs.drop k)) := by
                have e3 : rff (r :: rs.drop k) = .string (ByteArray.mk ⟨r.name⟩) :: r.val :: .int .i64 (r.synced : Int) :: rff (rs.drop k) := rfl
                rw [rff_append, e3, HSr.out, HR.out.2.2.2.2, HSY.out]
              rw [e1, e2]
              simpa using ho3
            have hmem : ∀ q ∈ rs.take k ++ r :: rs.drop k, q ∈ rs ∨ q = r := fun q hq => by
              rcases List.mem_append.1 hq with h | h
              · exact .inl (List.mem_of_mem_take h)
              · rcases List.mem_cons.1 h with h | h
                · exact .inr h
                · exact .inl (List.mem_of_mem_drop h)
            have toG : ∀ {k : Nat}, k < w.heap.size → S k → Gr S w (w3.setCell ⟨gr, 0, none⟩ v3) k := fun _ h => .inl h
            have hRb : ∀ {q : RF}, Rb w S q.val q.bytes → q.val.ownBlock ≠ some gr → Rb (w3.setCell ⟨gr, 0, none⟩ v3) (Gr S w (w3.setCell ⟨gr, 0, none⟩ v3)) q.val q.bytes := by
              intro q hq hne
              refine ⟨hq.1.ch hch (fun b hb _ e => hne (by rw [hb, e])), fun b hb => ?_⟩
              obtain ⟨h1, cur, fr, h2⟩ := hq.2 b hb
              exact ⟨.inl h1, cur, fr, by rw [hch.block (some_lt h2) (fun e => hne (by rw [hb, e]))]; exact h2⟩
            have hrne : r.val.ownBlock ≠ some gr := fun e => by
              obtain ⟨_, cur, fr, h2⟩ := HR.out.1.2 gr e
              rw [HW.out.box] at h2
              simp at h2
            refine ⟨?_, ?_, .inl HW.out.inB, fun b hb => .inr ⟨hnb3 b hb, by rw [hsz]; exact (hrow.lt b hb).2⟩, fun q hq => ?_, fun q hq => ?_, ?_, ?_⟩
            · simp [World.setCell, Array.getElem?_modify, hblk3]
            · refine row_via hrow (fun b hb => Below.heap_setCell _ _ _ _ (fun e => ?_))
              have h1 := hnb3 b hb
              have h2 : b = gr := e
              omega
            · rcases hmem q hq with h | rfl
              · exact hRb (HW.out.each q h) (HW.out.ne_val h).1
              · exact hRb HR.out.1 hrne
            · rcases hmem q hq with h | rfl
              · exact HW.out.fits q h
              · have := HR.out.2.1
                rw [← HSY.out, ← HBL.out] at this
                exact this
            · refine List.pairwise_append.2 ⟨HW.out.srt.sublist (List.take_sublist _ _), List.pairwise_cons.2 ⟨fun q hq => ?_, HW.out.srt.sublist (List.drop_sublist _ _)⟩, fun p hp q hq => ?_⟩
              · obtain ⟨j, hj, rfl⟩ := List.mem_iff_getElem.1 hq
                rw [List.length_drop, HL.out] at hj
                have h1 := HJX.out (k + j) (by omega) (by omega)
                have h2 : k + j < rs.length := by rw [HL.out]; omega
                simp only [List.getElem_drop]
                have h3 : (rs.getD (k + j) rfZ).name = (rs[k + j]'h2).name := by simp [h2]
                rw [h3] at h1
                exact List.not_le.1 h1
              · obtain ⟨i, hi, rfl⟩ := List.mem_iff_getElem.1 hp
                rw [List.length_take, HL.out] at hi
                have h2 : i < rs.length := by rw [HL.out]; omega
                have h1 := HX.out i (by omega)
                have h3 : (rs.getD i rfZ).name = (rs[i]'h2).name := by simp [h2]
                rw [h3] at h1
                simp only [List.getElem_take]
                rcases List.mem_cons.1 hq with rfl | hq
                · exact h1
                · obtain ⟨j, hj, rfl⟩ := List.mem_iff_getElem.1 hq
                  rw [List.length_drop, HL.out] at hj
                  simp only [List.getElem_drop]
                  exact List.pairwise_iff_getElem.1 HW.out.srt i (k + j) h2 (by rw [HL.out]; omega) (by omega)
            · rw [List.length_append, List.length_cons, List.length_take, List.length_drop, HL.out]; omega
          obtain ⟨a3, c3, hv3⟩ : ∃ a3 c3, v3 = .slice a3 (k + 1 + 0) c3 := by
            rcases ho3.2 with ⟨h, hn⟩ | ⟨g3, cap3, cur3, h, _⟩
            · exact ⟨none, 0, by rw [h, hn]⟩
            · exact ⟨_, _, h⟩
          clear ho3 hf3 hg3 hblk3 hnb3 H2 hgrl
          subst hv3
          go_wp2
          go_end0
          exact ⟨rfl, H4.out⟩

        · have hkc2 : (k : Int) < (cap : Int) := by omega
          go_wp2_with (at_builtin; refine wp_appG rfl _ _ 26 56 rfl i0 _ 3 48 0 Try.underlying26 hi hz0 hz1 hz2 rfl (by decide) (by decide) _ (k + 1) _ (some ⟨g, k * 3, none⟩) (L - k) _ (rff (rs.drop k)) rfl rfl H2.out.1 ?d1qB ?d2qB ?d3qB ?d4qB ?d5qB ?d6qB ?_)
          case d2qB => exact ((HA.out k).2 (by omega)).keep H2.out.2.1
          case d1qB => rw [rff_len, List.length_drop, HL.out]
          case d3qB => intro h; cases h
          case d4qB => exact fun u hu => HO.out u (by rw [← rff_drop rs k (by rw [HL.out]; omega)] at hu; exact List.mem_of_mem_drop hu)
          case d5qB => omega
          case d6qB => exact Nat.zero_le _
          intro v3 w3 ho3 hf3
          have hg3 : w.grownBy w3 none := gb_new H2.out.2.1 hf3.1 (fun b hb => by have := H2.out.2.2 b hb; omega)
          have hbox3 : w3.cell? ⟨gr, 0, none⟩ = some (.slice (some ⟨g, 0, none⟩) L cap) := cell_keep HBox.out hg3
          have hgrl := some_lt HW.out.box
          have hblk3 : w3.heap[gr]? = some (.cells #[.slice (some ⟨g, 0, none⟩) L cap] 28) := by rw [hg3.block gr hgrl (by simp)]; exact HW.out.box
          have hfr3 : w3.frozen? ⟨gr, 0, none⟩ = false := by simp [World.frozen?, hblk3]
          have hnb3 : ∀ b, v3.ownBlock = some b → w.heap.size ≤ b := fun b hb => by
            rcases hf3.2 b hb with h | h
            · exact H2.out.2.2 b h.symm
            · have := H2.out.2.1.size; omega
          have H4 : Hid (Ch w (w3.setCell ⟨gr, 0, none⟩ v3) (fun k => k = gr) ∧ ∃ v' K, RefW (w3.setCell ⟨gr, 0, none⟩ v3) (Gr S w (w3.setCell ⟨gr, 0, none⟩ v3)) gr v' (rs.take K ++ r :: rs.drop K)) := by
            have hch : Ch w (w3.setCell ⟨gr, 0, none⟩ v3) (fun k => k = gr) := (Ch.of_gb (S := fun k => k = gr) hg3 (fun k hk => by cases hk)).trans (Ch.of_gb (S := fun k => k = gr) (gb_set0 w3 gr 0 v3) (fun k hk _ => by cases hk; rfl)) (fun _ _ h => h)
            have hsz : (w3.setCell ⟨gr, 0, none⟩ v3).heap.size = w3.heap.size := by simp [World.setCell]
            refine ⟨hch, v3, k, ?_⟩
            have hrow : w3.ownsRow 0 56 3 v3 (rs.take k ++ r :: rs.drop k).length (rff (rs.take k ++ r :: rs.drop k)) := by
              have e1 : (rs.take k ++ r :: rs.drop k).length = k + 1 + (L - k) := by
                rw [List.length_append, List.length_cons, List.length_take, List.length_drop, HL.out]; omega
              have e2 : rff (rs.take k ++ r :: rs.drop k) = rff (rs.take k) ++ (.string sr :: .slice va BL vc :: .int .i64 (SY : Int) :: rff (rs.drop k)) := by
                have e3 : rff (r :: rs.drop k) = .string (ByteArray.mk ⟨r.name⟩) :: r.val :: .int .i64 (r.synced : Int) :: rff (rs.drop k) := rfl
                rw [rff_append, e3, HSr.out, HR.out.2.2.2.2, HSY.out]
              rw [e1, e2]
              simpa using ho3
            have hmem : ∀ q ∈ rs.take k ++ r :: rs.drop k, q ∈ rs ∨ q = r := fun q hq => by
              rcases List.mem_append.1 hq with h | h
              · exact .inl (List.mem_of_mem_take h)
              · rcases List.mem_cons.1 h with h | h
                · exact .inr h
                · exact .inl (List.mem_of_mem_drop h)
            have toG : ∀ {k : Nat}, k < w.heap.size → S k → Gr S w (w3.setCell ⟨gr, 0, none⟩ v3) k := fun _ h => .inl h
            have hRb : ∀ {q : RF}, Rb w S q.val q.bytes → q.val.ownBlock ≠ some gr → Rb (w3.setCell ⟨gr, 0, none⟩ v3) (Gr S w (w3.setCell ⟨gr, 0, none⟩ v3)) q.val q.bytes := by
              intro q hq hne
              refine ⟨hq.1.ch hch (fun b hb _ e => hne (by rw [hb, e])), fun b hb => ?_⟩
              obtain ⟨h1, cur, fr, h2⟩ := hq.2 b hb
              exact ⟨.inl h1, cur, fr, by rw [hch.block (some_lt h2) (fun e => hne (by rw [hb, e]))]; exact h2⟩
            have hrne : r.val.ownBlock ≠ some gr := fun e => by
              obtain ⟨_, cur, fr, h2⟩ := HR.out.1.2 gr e
              rw [HW.out.box] at h2
              simp at h2
            refine ⟨?_, ?_, .inl HW.out.inB, fun b hb => .inr ⟨hnb3 b hb, by rw [hsz]; exact (hrow.lt b hb).2⟩, fun q hq => ?_, fun q hq => ?_, ?_, ?_⟩
            · simp [World.setCell, Array.getElem?_modify, hblk3]
            · refine row_via hrow (fun b hb => Below.heap_setCell _ _ _ _ (fun e => ?_))
              have h1 := hnb3 b hb
              have h2 : b = gr := e
              omega
            · rcases hmem q hq with h | rfl
              · exact hRb (HW.out.each q h) (HW.out.ne_val h).1
              · exact hRb HR.out.1 hrne
            · rcases hmem q hq with h | rfl
              · exact HW.out.fits q h
              · have := HR.out.2.1
                rw [← HSY.out, ← HBL.out] at this
                exact this
            · refine List.pairwise_append.2 ⟨HW.out.srt.sublist (List.take_sublist _ _), List.pairwise_cons.2 ⟨fun q hq => ?_, HW.out.srt.sublist (List.drop_sublist _ _)⟩, fun p hp q hq => ?_⟩
              · obtain ⟨j, hj, rfl⟩ := List.mem_iff_getElem.1 hq
                rw [List.length_drop, HL.out] at hj
                have h1 := HJX.out (k + j) (by omega) (by omega)
                have h2 : k + j < rs.length := by rw [HL.out]; omega
                simp only [List.getElem_drop]
                have h3 : (rs.getD (k + j) rfZ).name = (rs[k + j]'h2).name := by simp [h2]
                rw [h3] at h1
                exact List.not_le.1 h1
              · obtain ⟨i, hi, rfl⟩ := List.mem_iff_getElem.1 hp
                rw [List.length_take, HL.out] at hi
                have h2 : i < rs.length := by rw [HL.out]; omega
                have h1 := HX.out i (by omega)
                have h3 : (rs.getD i rfZ).name = (rs[i]'h2).name := by simp [h2]
                rw [h3] at h1
                simp only [List.getElem_take]
                rcases List.mem_cons.1 hq with rfl | hq
                · exact h1
                · obtain ⟨j, hj, rfl⟩ := List.mem_iff_getElem.1 hq
                  rw [List.length_drop, HL.out] at hj
                  simp only [List.getElem_drop]
                  exact List.pairwise_iff_getElem.1 HW.out.srt i (k + j) h2 (by rw [HL.out]; omega) (by omega)
            · rw [List.length_append, List.length_cons, List.length_take, List.length_drop, HL.out]; omega
          obtain ⟨a3, c3, hv3⟩ : ∃ a3 c3, v3 = .slice a3 (k + 1 + (L - k)) c3 := by
            rcases ho3.2 with ⟨h, hn⟩ | ⟨g3, cap3, cur3, h, _⟩
            · exact ⟨none, 0, by rw [h, hn]⟩
            · exact ⟨_, _, h⟩
          clear ho3 hf3 hg3 hblk3 hnb3 H2 hgrl
          subst hv3
          go_wp2
          go_end0
          exact ⟨rfl, H4.out⟩


    · obtain ⟨k', rfl⟩ : ∃ k', k = k' + 1 := ⟨k - 1, by omega⟩
      have hle : ¬ (rs.getD k' rfZ).name ≤ r.name := fun h => hex (.inr (by simpa using h))
      have hpos : (0 : Int) < ((k' + 1 : Nat) : Int) := by omega
      have c0 : ∀ o, (w.alloc o).cell? ⟨g, k' * 3, none⟩ = some (.string (ByteArray.mk ⟨(rs.getD k' rfZ).name⟩)) := fun o => cell_keep (HC.out k' (by omega)).1 (World.grownBy_alloc _ _ none)
      have HJ2 : Hid (∀ j, k' ≤ j → j < L → ¬ (rs.getD j rfZ).name ≤ r.name) := fun j h1 h2 => by
        by_cases e : j = k'
        · rw [e]; exact hle
        · exact HJ.out j (by omega) h2
      have hq : ∀ s', ByteArray.mk ⟨(rs.getD k' rfZ).name⟩ = s' → (Op.bytesLess s'.toList sr.toList = false ∧ (s'.toList == sr.toList) = false) := fun s' h => by
        have := str_gt (rs.getD k' rfZ).name r.name
        rw [h, HSr.out, decide_eq_false hle] at this
        simpa using this
      generalize hnk : ByteArray.mk ⟨(rs.getD k' rfZ).name⟩ = sk at *
      obtain ⟨q1, q2⟩ := hq sk rfl
      clear hq hnk hle HJ hex
      go_wp2_with fail
      go_region
      all_goals (try go_wp2)
      go_roundw
      case rel => exact ⟨k', m + 1, by omega, rfl, rfl, HJ2⟩
      case measure => simp [intOf]

set_option maxRecDepth 8000 in
set_option maxHeartbeats 3200000 in
theorem putR_nil (w : World) (S : Nat → Prop) (gr : Nat) (r : RF) (h : RefW w S gr (.slice none 0 0) []) (hr : Rb w S r.val r.bytes) (hf : nameOk r.name = true ∧ r.synced ≤ r.bytes.length ∧ r.bytes.length ≤ 1048576) :
    Calls Try.prog 50 #[.pointer (some ⟨gr, 0, none⟩), .agg #[.string (ByteArray.mk ⟨r.name⟩), r.val, .int .i64 (r.synced : Int)]] w fun e w' => e = .returned (.tuple #[]) ∧ Ch w w' (fun k => k = gr) ∧ ∃ v', RefW w' (Gr S w w') gr v' [r] := by
  have HW : Hid (RefW w S gr (.slice none 0 0) []) := h
  obtain ⟨i0, hi, hz0, hz1, hz2⟩ := info_parts infoF
  have HBox : Hid (w.cell? ⟨gr, 0, none⟩ = some (.slice none 0 0)) := by show w.cell? ⟨gr, 0, none⟩ = _; simp [World.cell?, h.box]
  have hbox : ∀ o, (w.alloc o).cell? ⟨gr, 0, none⟩ = some (.slice none 0 0) := fun o => cell_keep HBox.out (World.grownBy_alloc _ _ none)
  obtain ⟨va, vc, hval⟩ : ∃ va vc, r.val = .slice va r.bytes.length vc := by obtain ⟨⟨a, c, e, _⟩, _⟩ := hr; exact ⟨a, c, e⟩
  have HR : Hid (Rb w S r.val r.bytes ∧ (nameOk r.name = true ∧ r.synced ≤ r.bytes.length ∧ r.bytes.length ≤ 1048576) ∧ r.val = .slice va r.bytes.length vc) := ⟨hr, hf, hval⟩
  rw [hval]
  clear h hr hval hf
  generalize hsr : ByteArray.mk ⟨r.name⟩ = sr at *
  have HSr : Hid (ByteArray.mk ⟨r.name⟩ = sr) := hsr
  clear hsr
  generalize hBL : r.bytes.length = BL at *
  have HBL : Hid (r.bytes.length = BL) := hBL
  clear hBL
  generalize hSY : r.synced = SY at *
  have HSY : Hid (r.synced = SY) := hSY
  clear hSY
  go_enter Try.func50, Try.ntmps50
  go_wp2
  go_loopw [4] (fun i wr => i = .int .i64 0 ∧ wr = w.alloc (.cells #[.string sr, .slice va BL vc, .int .i64 (SY : Int)] 56)) (fun _ _ => 0)
  case atStart => exact ⟨rfl, rfl⟩
  case round =>
    obtain ⟨rfl, rfl⟩ := hrel
    go_wp2_with fail
    go_region
    go_wp2_with (at_builtin; refine wp_appG rfl _ _ 26 56 rfl i0 _ 3 48 0 Try.underlying26 hi hz0 hz1 hz2 rfl (by decide) (by decide) _ 0 [] none 0 0 [] rfl rfl (World.ownsRow_nil _ _ _ _) rfl (fun j u hj => by simp at hj) (fun _ => ⟨rfl, rfl⟩) (fun u hu => by cases hu) (by omega) (Nat.zero_le _) ?_)
    intro v1 w1 ho1 hf1
    have hg1 : w.grownBy w1 none := gb_none (gb_none (World.grownBy_alloc _ _ none) (gb_drew _ none)) hf1.1
    have hbk1 : w1.heap[w.heap.size]? = some (.cells #[.string sr, .slice va BL vc, .int .i64 (SY : Int)] 56) := by
      rw [hf1.1.block w.heap.size (by simp) (by simp [Value.ownBlock])]
      exact alloc_at _ _
    have e0 : w1.cell? ⟨w.heap.size, 0, none⟩ = some (.string sr) := by simp [World.cell?, hbk1]
    have e1 : w1.cell? ⟨w.heap.size, 1, none⟩ = some (.slice va BL vc) := by simp [World.cell?, hbk1]
    have e2 : w1.cell? ⟨w.heap.size, 2, none⟩ = some (.int .i64 (SY : Int)) := by simp [World.cell?, hbk1]
    have hnb1 : ∀ b, v1.ownBlock = some b → w.heap.size < b := fun b hb => by
      rcases hf1.2 b hb with h | h
      · simp [Value.ownBlock] at h
      · have : w.heap.size + 1 ≤ b := by simpa using h
        omega
    have H1 : Hid (w1.ownsRow 0 56 3 v1 0 [] ∧ w.grownBy w1 none ∧ ∀ b, v1.ownBlock = some b → w.heap.size < b) := ⟨by simpa using ho1, hg1, hnb1⟩
    clear ho1 hf1 hg1 hbk1 hnb1
    go_wp2_with (at_builtin; refine wp_appG rfl _ _ 26 56 rfl i0 _ 3 48 0 Try.underlying26 hi hz0 hz1 hz2 rfl (by decide) (by decide) _ 0 [] (some ⟨w1.heap.size, 0, none⟩) 1 1 [.string sr, .slice va BL vc, .int .i64 (SY : Int)] rfl rfl (World.ownsRow.alloc H1.out.1 _) ?b1 ?b2 ?b3 ?b4 ?b5 ?b6 ?_)
    case b1 => rfl
    case b2 =>
      intro j u hj
      refine ⟨_, rfl, ?_⟩
      rw [Go.WideShapes.add_plain]
      have ha := alloc_at w1 (.cells #[.string sr, .slice va BL vc, .int .i64 (SY : Int)] 56)
      simp only [World.cell?, ha]
      simpa using hj
    case b3 => intro h; cases h
    case b4 =>
      intro u hu
      simp only [List.mem_cons, List.not_mem_nil, or_false] at hu
      rcases hu with rfl | rfl | rfl <;> rfl
    case b5 => omega
    case b6 => exact Nat.zero_le _
    intro v2 w2 ho2 hf2
    have hz1' := H1.out.2.1.size
    have hg2 : w.grownBy w2 none := gb_new (gb_none H1.out.2.1 (World.grownBy_alloc _ _ none)) hf2.1 (fun b hb => by have := H1.out.2.2 b hb; omega)
    have hbox2 : w2.cell? ⟨gr, 0, none⟩ = some (.slice none 0 0) := cell_keep HBox.out hg2
    have hnb2 : ∀ b, v2.ownBlock = some b → w.heap.size ≤ b := fun b hb => by
      rcases hf2.2 b hb with h | h
      · exact Nat.le_of_lt (H1.out.2.2 b h.symm)
      · simp at h; omega
    have H2 : Hid (w2.ownsRow 0 56 3 v2 1 [.string sr, .slice va BL vc, .int .i64 (SY : Int)] ∧ w.grownBy w2 none ∧ ∀ b, v2.ownBlock = some b → w.heap.size ≤ b) := ⟨by simpa using ho2, hg2, hnb2⟩
    clear ho2 hf2 hg2 hnb2 H1 e0 e1 e2 hz1'
    go_wp2_with (at_builtin; refine wp_appG rfl _ _ 26 56 rfl i0 _ 3 48 0 Try.underlying26 hi hz0 hz1 hz2 rfl (by decide) (by decide) _ 1 _ none 0 0 [] rfl rfl H2.out.1 rfl (fun j u hj => by simp at hj) (fun _ => ⟨rfl, rfl⟩) (fun u hu => by cases hu) (by omega) (Nat.zero_le _) ?_)
    intro v3 w3 ho3 hf3
    have hg3 : w.grownBy w3 none := gb_new H2.out.2.1 hf3.1 (fun b hb => by have := H2.out.2.2 b hb; omega)
    have hbox3 : w3.cell? ⟨gr, 0, none⟩ = some (.slice none 0 0) := cell_keep HBox.out hg3
    have hgrl := some_lt HW.out.box
    have hblk3 : w3.heap[gr]? = some (.cells #[.slice none 0 0] 28) := by rw [hg3.block gr hgrl (by simp)]; exact HW.out.box
    have hfr3 : w3.frozen? ⟨gr, 0, none⟩ = false := by simp [World.frozen?, hblk3]
    have hnb3 : ∀ b, v3.ownBlock = some b → w.heap.size ≤ b := fun b hb => by
      rcases hf3.2 b hb with h | h
      · exact H2.out.2.2 b h.symm
      · have := H2.out.2.1.size; omega
    have H4 : Hid (Ch w (w3.setCell ⟨gr, 0, none⟩ v3) (fun k => k = gr) ∧ ∃ v', RefW (w3.setCell ⟨gr, 0, none⟩ v3) (Gr S w (w3.setCell ⟨gr, 0, none⟩ v3)) gr v' [r]) := by
      have hch : Ch w (w3.setCell ⟨gr, 0, none⟩ v3) (fun k => k = gr) := (Ch.of_gb (S := fun k => k = gr) hg3 (fun k hk => by cases hk)).trans (Ch.of_gb (S := fun k => k = gr) (gb_set0 w3 gr 0 v3) (fun k hk _ => by cases hk; rfl)) (fun _ _ h => h)
      have hsz : (w3.setCell ⟨gr, 0, none⟩ v3).heap.size = w3.heap.size := by simp [World.setCell]
      refine ⟨hch, v3, ?_⟩
      have hrow : w3.ownsRow 0 56 3 v3 [r].length (rff [r]) := by
        have e2 : rff [r] = [.string sr, .slice va BL vc, .int .i64 (SY : Int)] := by
          have e3 : rff [r] = [.string (ByteArray.mk ⟨r.name⟩), r.val, .int .i64 (r.synced : Int)] := rfl
          rw [e3, HSr.out, HR.out.2.2, HSY.out]
        rw [e2]
        simpa using ho3
      have hrne : r.val.ownBlock ≠ some gr := fun e => by
        obtain ⟨_, cur, fr, h2⟩ := HR.out.1.2 gr e
        rw [HW.out.box] at h2
        simp at h2
      refine ⟨?_, ?_, .inl HW.out.inB, fun b hb => .inr ⟨hnb3 b hb, by rw [hsz]; exact (hrow.lt b hb).2⟩, fun q hq => ?_, fun q hq => ?_, by simp, by simp⟩
      · simp [World.setCell, Array.getElem?_modify, hblk3]
      · refine row_via hrow (fun b hb => Below.heap_setCell _ _ _ _ (fun e => ?_))
        have h1 := hnb3 b hb
        have h2 : b = gr := e
        omega
      · obtain rfl : q = r := by simpa using hq
        refine ⟨HR.out.1.1.ch hch (fun b hb _ e => hrne (by rw [hb, e])), fun b hb => ?_⟩
        obtain ⟨h1, cur, fr, h2⟩ := HR.out.1.2 b hb
        exact ⟨.inl h1, cur, fr, by rw [hch.block (some_lt h2) (fun e => hrne (by rw [hb, e]))]; exact h2⟩
      · obtain rfl : q = r := by simpa using hq
        have := HR.out.2.1
        rw [← HSY.out, ← HBL.out] at this
        exact this
    obtain ⟨a3, c3, hv3⟩ : ∃ a3 c3, v3 = .slice a3 1 c3 := by
      rcases ho3.2 with ⟨h, hn⟩ | ⟨g3, cap3, cur3, h, _⟩
      · exact absurd hn (by omega)
      · exact ⟨_, _, h⟩
    clear ho3 hf3 hg3 hblk3 hnb3 H2 hgrl
    subst hv3
    go_wp2
    go_end0
    exact ⟨rfl, H4.out⟩
/-- a file put into the document's disk -/
theorem putR_ok (w : World) (S : Nat → Prop) (gr : Nat) (v : Value) (rs : List RF) (r : RF) (h : RefW w S gr v rs) (hr : Rb w S r.val r.bytes) (hf : nameOk r.name = true ∧ r.synced ≤ r.bytes.length ∧ r.bytes.length ≤ 1048576) (hno : ∀ q ∈ rs, q.name ≠ r.name) (hlt : rs.length < 256) :
    Calls Try.prog 50 #[.pointer (some ⟨gr, 0, none⟩), .agg #[.string (ByteArray.mk ⟨r.name⟩), r.val, .int .i64 (r.synced : Int)]] w fun e w' => e = .returned (.tuple #[]) ∧ Ch w w' (fun k => k = gr) ∧ ∃ v' K, RefW w' (Gr S w w') gr v' (rs.take K ++ r :: rs.drop K) := by
  by_cases hv : v = .slice none 0 0
  · subst hv
    obtain rfl := h.nil_row
    refine (putR_nil w S gr r h hr hf).mono ?_
    rintro e w' ⟨h1, h2, v', h3⟩
    exact ⟨h1, h2, v', 0, h3⟩
  · exact putR_any w S gr v rs r h hr hf hno hlt hv
end Go.Proofs.Ytgafmplmngbbfaa
