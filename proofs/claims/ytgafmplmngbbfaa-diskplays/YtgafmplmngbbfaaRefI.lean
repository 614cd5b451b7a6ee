/-
  A crash of the document's disk: the walk.
-/
import Derived.Test.YtgafmplmngbbfaaRefH
import Derived.Test.YtgafmplmngbbfaaDiskX
namespace Go.Proofs.Ytgafmplmngbbfaa
open Go.RowKit Go.Maps Go.WideMaps

theorem names_getD {a b : List RF} (h : namesOf a = namesOf b) (j : Nat) : (a.getD j rfZ).name = (b.getD j rfZ).name := by
  have e : ∀ c : List RF, (c.getD j rfZ).name = ((namesOf c)[j]?).getD rfZ.name := fun c => by
    unfold namesOf
    rw [List.getElem?_map, List.getD_eq_getElem?_getD]
    cases c[j]? <;> rfl
  rw [e, e, h]
theorem names_mid {rs : List RF} {k : Nat} (hk : k < rs.length) (r' : RF) (hn : r'.name = (rs.getD k rfZ).name) : namesOf (rs.take k ++ r' :: rs.drop (k + 1)) = namesOf rs := by
  conv => rhs; rw [split_at hk]
  simp only [namesOf, List.map_append, List.map_cons, hn]

/-- one file of the document's disk behind a crash -/
theorem crR_step {w wo wr : World} {S : Nat → Prop} {gr g cap L k K q d1 : Nat} {a1 : Option Addr} {rs rsi : List RF} {M : Fls} {ks : List Kp} {left : Lit → Bool}
    (hW0 : RefW wo S gr (.slice (some ⟨g, 0, none⟩) L cap) rsi) (hL : rsi.length = L) (hN : ∀ j, j < L → (rsi.getD j rfZ).name = (rs.getD j rfZ).name) (hMi : ∀ l, lkR rsi l = crashM M ks left l) (hle : ∀ j, j < L → left (.string (rs.getD j rfZ).name) = decide (k ≤ j)) (hC : Ch w wo S) (hk : k < rsi.length) (hJ : wo.grownBy wr none)
    (hval : (rsi.getD k rfZ).val = .slice a1 (rsi.getD k rfZ).bytes.length d1) (hq : keptAt ks (rsi.getD k rfZ).name = (q : Int)) (hK : K = (rsi.getD k rfZ).synced + min q ((rsi.getD k rfZ).bytes.length - (rsi.getD k rfZ).synced)) {W : World}
    (hg : ((wr.setCell ⟨g, k * 3 + 2, none⟩ (.int .i64 (K : Int))).setCell ⟨g, k * 3 + 1, none⟩ (.slice a1 K d1)).grownBy W none) :
    ∃ rsi left, RefW W S gr (.slice (some ⟨g, 0, none⟩) L cap) rsi ∧ rsi.length = L ∧ (∀ j, j < L → (rsi.getD j rfZ).name = (rs.getD j rfZ).name) ∧ (∀ l, lkR rsi l = crashM M ks left l) ∧ (∀ j, j < L → left (.string (rs.getD j rfZ).name) = decide (k + 1 ≤ j)) ∧ Ch w W S := by
  have hW := hW0.frame (T := fun _ => False) (Ch.of_gb hJ (fun k hk => by cases hk)) (fun _ _ _ => id)
  have hfit := hW.fits _ (getD_mem hk)
  have hKl : K ≤ (rsi.getD k rfZ).bytes.length := by omega
  have htl : ((rsi.getD k rfZ).bytes.take K).length = K := by rw [List.length_take]; omega
  rw [← hL] at hW
  have ht := hW.turned (M := fun l => lkR rsi l) (fun _ => rfl) hk ⟨(rsi.getD k rfZ).name, (rsi.getD k rfZ).val, (rsi.getD k rfZ).bytes, K⟩ rfl 2 (.int .i64 (K : Int)) (by omega) rfl (S' := S) (fun _ h => h) (hW.each (rsi.getD k rfZ) (getD_mem hk)) ⟨hKl, hfit.2.2⟩
  have ht1 := ht.1
  rw [← ht.2.2.1] at ht1
  have hk2 : k < (rsi.take k ++ (⟨(rsi.getD k rfZ).name, (rsi.getD k rfZ).val, (rsi.getD k rfZ).bytes, K⟩ : RF) :: rsi.drop (k + 1)).length := by rw [ht.2.2.1]; exact hk
  have hg2 : (rsi.take k ++ (⟨(rsi.getD k rfZ).name, (rsi.getD k rfZ).val, (rsi.getD k rfZ).bytes, K⟩ : RF) :: rsi.drop (k + 1)).getD k rfZ = ⟨(rsi.getD k rfZ).name, (rsi.getD k rfZ).val, (rsi.getD k rfZ).bytes, K⟩ := by
    have hAl : (rsi.take k).length = k := by rw [List.length_take]; omega
    rw [List.getD_eq_getElem?_getD, List.getElem?_append_right (by omega), hAl]
    simp
  have hrb2 : Rb (wr.setCell ⟨g, k * 3 + 2, none⟩ (.int .i64 (K : Int))) S (.slice a1 (rsi.getD k rfZ).bytes.length d1) (rsi.getD k rfZ).bytes := by
    have := ht1.each _ (getD_mem hk2)
    rw [hg2] at this
    rw [← hval]
    exact this
  have hu := ht1.turned ht.2.1 hk2 ⟨(rsi.getD k rfZ).name, .slice a1 K d1, (rsi.getD k rfZ).bytes.take K, K⟩ (by rw [hg2]) 1 (.slice a1 K d1) (by omega) (by rw [hg2]; rfl) (S' := S) (fun _ h => h) (hrb2.head K hKl) ⟨by rw [htl]; exact Nat.le_refl _, by rw [htl]; omega⟩
  have hnm2 := (names_mid hk2 ⟨(rsi.getD k rfZ).name, .slice a1 K d1, (rsi.getD k rfZ).bytes.take K, K⟩ (by rw [hg2])).trans (names_mid hk ⟨(rsi.getD k rfZ).name, (rsi.getD k rfZ).val, (rsi.getD k rfZ).bytes, K⟩ rfl)
  have hch : Ch w ((wr.setCell ⟨g, k * 3 + 2, none⟩ (.int .i64 (K : Int))).setCell ⟨g, k * 3 + 1, none⟩ (.slice a1 K d1)) S := ((hC.trans (Ch.of_gb (S := fun _ => False) hJ (fun k hk => by cases hk)) (fun _ _ h => h.elim)).trans ht.2.2.2 (fun _ _ h => h)).trans hu.2.2.2 (fun _ _ h => h)
  have hlen := hu.2.2.1.trans ht.2.2.1
  have hu1 := hu.1
  rw [ht.2.2.1, hL] at hu1
  have hmp : M (rsi.getD k rfZ).name = some ((rsi.getD k rfZ).bytes, (rsi.getD k rfZ).synced) := by
    have h1 : lkR rsi (rsi.getD k rfZ).name = some ((rsi.getD k rfZ).bytes, (rsi.getD k rfZ).synced) := by
      have hsp := split_at hk
      have hs := hW.srt
      rw [hsp] at hs
      conv => lhs; arg 1; rw [hsp]
      rw [lkR_mid hs, if_pos rfl]
    have hl1 : left (.string (rsi.getD k rfZ).name) = true := by
      rw [hN k (by omega), hle k (by omega)]; simp
    rw [hMi] at h1
    unfold crashM at h1
    cases hm : M (rsi.getD k rfZ).name with
    | none => rw [hm] at h1; cases h1
    | some p => rw [hm] at h1; simp only [Option.map_some, hl1, if_true] at h1; exact h1
  refine ⟨_, fun z => left z && !z.sameKey (.string (rsi.getD k rfZ).name), hu1.frame (T := fun _ => False) (Ch.of_gb hg (fun k hk => by cases hk)) (fun _ _ _ => id), by rw [hlen, hL], fun j hj => by rw [names_getD hnm2 j]; exact hN j hj, fun l => ?_, fun j hj => ?_, hch.trans (Ch.of_gb (S := fun _ => False) hg (fun k hk => by cases hk)) (fun _ _ h => h.elim)⟩
  · have h1 := hu.2.1 l
    rw [hg2, upd_upd] at h1
    rw [← h1, ← crashM_step M ks left _ _ hmp, hq]
    have e : (fun l => lkR rsi l) = crashM M ks left := funext hMi
    rw [e]
    have e2 : crashF (q : Int).toNat ((rsi.getD k rfZ).bytes, (rsi.getD k rfZ).synced) = ((rsi.getD k rfZ).bytes.take K, K) := by simp only [crashF, Int.toNat_natCast, ← hK]
    rw [e2]
  · show (left (.string (rs.getD j rfZ).name) && !(Lit.string (rs.getD j rfZ).name).sameKey (.string (rsi.getD k rfZ).name)) = _
    rw [hle j hj, sameKey_string, ← hN j hj]
    by_cases e : j = k
    · subst e
      simp
    · have hne : (rsi.getD j rfZ).name ≠ (rsi.getD k rfZ).name := by
        have hj' : j < rsi.length := by omega
        rcases Nat.lt_or_gt_of_ne e with h | h
        · have := List.pairwise_iff_getElem.1 hW.srt j k hj' hk h
          intro e'
          simp [hj', hk] at e'
          exact lt_ne this e'
        · have := List.pairwise_iff_getElem.1 hW.srt k j hk hj' h
          intro e'
          simp [hj', hk] at e'
          exact lt_ne this e'.symm
      have : ((rsi.getD j rfZ).name == (rsi.getD k rfZ).name) = false := by simpa using hne
      rw [this]
      simp only [Bool.not_false, Bool.and_true, decide_eq_decide]
      omega

/-- none of no cells need stay -/
theorem KpsIn.via0 {w w' : World} {v : Value} {ks : List Kp} (h : KpsIn w v ks) (hk : ks ≠ [] → ∀ k, v.ownBlock = some k → k < w.heap.size → w'.heap[k]? = w.heap[k]?) : KpsIn w' v ks := by
  by_cases hne : ks = []
  · subst hne
    obtain ⟨a, c, rfl, h2, -⟩ := h
    exact ⟨a, c, rfl, h2, fun j hj => by simp at hj⟩
  · exact h.via (hk hne)
theorem KpsIn.lt0 {w : World} {v : Value} {ks : List Kp} (h : KpsIn w v ks) (hne : ks ≠ []) (k : Nat) (hk : v.ownBlock = some k) : k < w.heap.size := by
  obtain ⟨a, c, rfl, -, h3⟩ := h
  obtain ⟨-, -, b, o, rfl, c0, -⟩ := h3 0 (List.length_pos_iff.2 hne)
  cases hk
  exact block_lt c0

set_option maxRecDepth 8000 in
set_option maxHeartbeats 6400000 in
theorem refCrash_any (w : World) (S : Nat → Prop) (gr : Nat) (v : Value) (rs : List RF) (M : Fls) (va : Option Addr) (vc : Nat) (ks : List Kp) (h : RefW w S gr v rs) (hM : ∀ l, M l = lkR rs l) (hv : KpsIn w (.slice va ks.length vc) ks) (hsep : ks ≠ [] → ∀ k, (Value.slice va ks.length vc).ownBlock = some k → ¬ S k) :
    Calls Try.prog 40 #[.pointer (some ⟨gr, 0, none⟩), .slice va ks.length vc] w fun e w' => Ch w w' S ∧ ((KpOk ks ∧ e = .returned (.int .i64 0) ∧ RefOK w' (Gr S w w') gr (crashM M ks (fun _ => false)) rs.length) ∨ (¬ KpOk ks ∧ e = .returned (.int .i64 1) ∧ RefOK w' (Gr S w w') gr M rs.length)) := by
  have HW : Hid (RefW w S gr v rs ∧ (∀ l, M l = lkR rs l) ∧ (ks ≠ [] → ∀ k, (Value.slice va ks.length vc).ownBlock = some k → ¬ S k)) := ⟨h, hM, hsep⟩
  have HV : Hid (KpsIn w (.slice va ks.length vc) ks) := hv
  have hKm : (ks.length : Int) ≤ 9223372036854775807 := by obtain ⟨_, _, _, hm, _⟩ := hv; unfold maxLen at hm; omega
  clear h hM hv hsep
  generalize hKL : ks.length = KL at *
  have HKL : Hid (ks.length = KL) := hKL
  clear hKL
  go_enter Try.func40, Try.ntmps40
  have HBad : Hid (∀ k, k < KL → (ks.getD k kpZ).n < 0 ∨ (∃ j, j < k ∧ (ks.getD j kpZ).name = (ks.getD k kpZ).name) → ¬ KpOk ks) := by
    intro k hk h hok
    have hk' : k < ks.length := by rw [HKL.out]; exact hk
    rcases h with h | ⟨j, hj, h⟩
    · have := hok.2 (ks.getD k kpZ) (by simp [hk'])
      omega
    · have hj' : j < ks.length := by omega
      have := List.pairwise_iff_getElem.1 hok.1 j k hj' hk' hj
      simp [hj', hk'] at h
      exact this h
  have HBadEnd : Hid (∀ wr, w.grownBy wr none → ¬ KpOk ks → Ch w wr S ∧ ¬ KpOk ks ∧ RefOK wr (Gr S w wr) gr M rs.length) := by
    intro wr hg hno
    have hch : Ch w wr (fun _ => False) := Ch.of_gb hg (fun k hk => by cases hk)
    exact ⟨hch.mono (fun _ _ h => h.elim), hno, RefOK.gr ⟨v, rs, HW.out.1.frame hch (fun _ _ _ => id), HW.out.2.1, rfl⟩⟩
  go_wp2
  go_loopw [5] (fun i wr => ∃ k : Nat, k ≤ KL ∧ i = .int .i64 (k : Int) ∧ Hid (w.grownBy wr none ∧ KpOk (ks.take k))) (fun i _ => KL - (intOf i).toNat)
  case atStart => exact ⟨0, by omega, rfl, gb_refl _ _, by simp [KpOk]⟩
  case round =>
    obtain ⟨k, hk, rfl, HK⟩ := hrel
    by_cases hkl : k < KL
    · have hkl2 : (k : Int) < (KL : Int) := by omega
      obtain ⟨a0, c0', hv0, hl0, hcells⟩ := HV.out.keep HK.out.1
      simp only [Value.slice.injEq] at hv0
      obtain ⟨rfl, -, -⟩ := hv0
      obtain ⟨n1, n2, b, o, rfl, c0, c1⟩ := hcells k (by rw [HKL.out]; exact hkl)
      have HCs : Hid (∀ j, j < KL → wr.cell? ⟨b, o + j * 2, none⟩ = some (.string (ByteArray.mk ⟨(ks.getD j kpZ).name⟩))) := fun j hj => by
        obtain ⟨_, _, b', o', hbo, d0, _⟩ := hcells j (by rw [HKL.out]; exact hj)
        cases hbo
        exact d0
      clear hcells hl0 n1 n2
      by_cases hneg : (ks.getD k kpZ).n < 0
      · have HB := hid_mk' (HBadEnd.out wr HK.out.1 (HBad.out k hkl (.inl hneg)))
        generalize hn : (ks.getD k kpZ).n = nk at *
        clear hn c0
        go_wp2
        go_ret
        exact ⟨HB.out.1, .inr ⟨HB.out.2.1, rfl, HB.out.2.2⟩⟩
      · have HT : Hid ((∀ j, j < k → (ks.getD j kpZ).name ≠ (ks.getD k kpZ).name) → KpOk (ks.take (k + 1))) := fun hj => kpOk_take (by rw [HKL.out]; exact hkl) HK.out.2 (by
          rw [List.any_eq_false]
          intro y hy hyn
          obtain ⟨j, hjl, rfl⟩ := List.mem_iff_getElem.1 hy
          have hjk : j < k := by rw [List.length_take] at hjl; omega
          have hjL : j < ks.length := by rw [HKL.out]; omega
          refine hj j hjk ?_
          simp only [List.getElem_take, beq_iff_eq] at hyn
          rw [← hyn]
          simp [hjL]) (by omega)
        have HEq : Hid (∀ j, j < k → ∀ s s', ByteArray.mk ⟨(ks.getD j kpZ).name⟩ = s → ByteArray.mk ⟨(ks.getD k kpZ).name⟩ = s' → (s.toList == s'.toList) = decide ((ks.getD j kpZ).name = (ks.getD k kpZ).name)) := fun j _ s s' h1 h2 => by rw [← h1, ← h2]; exact str_eq _ _
        have hneg2 : ¬ (ks.getD k kpZ).n < 0 := hneg
        generalize hn : (ks.getD k kpZ).n = nk at *
        clear hn hneg
        go_wp2
        go_loopw [6] (fun i wr2 => ∃ j : Nat, j ≤ k ∧ i = .int .i64 (j : Int) ∧ Hid (wr.grownBy wr2 none ∧ ∀ m, m < j → (ks.getD m kpZ).name ≠ (ks.getD k kpZ).name)) (fun i _ => k - (intOf i).toNat)
        case atStart => exact ⟨0, by omega, rfl, gb_refl _ _, fun m hm => by omega⟩
        case round =>
          obtain ⟨j, hj, rfl, HJ⟩ := hrel
          by_cases hjk : j < k
          · have hjk2 : (j : Int) < (k : Int) := by omega
            have hjL : (j : Int) < (KL : Int) := by omega
            have d0 := cell_keep (HCs.out j (by omega)) HJ.out.1
            have d1 := cell_keep c0 HJ.out.1
            by_cases he : (ks.getD j kpZ).name = (ks.getD k kpZ).name
            · have HB : Hid (∀ n, Ch w (wr.drewN n) S ∧ ¬ KpOk ks ∧ RefOK (wr.drewN n) (Gr S w (wr.drewN n)) gr M rs.length) := fun n => HBadEnd.out _ (gb_none (gb_none HK.out.1 HJ.out.1) (gb_drewN _ n none)) (HBad.out k hkl (.inr ⟨j, hjk, he⟩))
              have hq := HEq.out j hjk
              rw [decide_eq_true he] at hq
              generalize ByteArray.mk ⟨(ks.getD j kpZ).name⟩ = s at *
              generalize ByteArray.mk ⟨(ks.getD k kpZ).name⟩ = s' at *
              have hq2 := hq s s' rfl rfl
              clear hq
              go_wp2_with fail
              go_region
              all_goals (try go_wp2)
              all_goals go_ret
              all_goals exact ⟨(HB.out 1).1, .inr ⟨(HB.out 1).2.1, rfl, (HB.out 1).2.2⟩⟩
            · have HJ2 : Hid (∀ m, m < j + 1 → (ks.getD m kpZ).name ≠ (ks.getD k kpZ).name) := fun m hm => by
                by_cases e : m = j
                · rw [e]; exact he
                · exact HJ.out.2 m (by omega)
              have hq := HEq.out j hjk
              rw [decide_eq_false he] at hq
              generalize ByteArray.mk ⟨(ks.getD j kpZ).name⟩ = s at *
              generalize ByteArray.mk ⟨(ks.getD k kpZ).name⟩ = s' at *
              have hq2 := hq s s' rfl rfl
              clear hq
              go_wp2_with fail
              go_region
              all_goals (try go_wp2)
              all_goals go_roundw
              case rel => exact ⟨j + 1, by omega, by go_num, gb_none HJ.out.1 (gb_drew _ none), HJ2.out⟩
              case measure => simp [intOf]; omega
          · have hjk2 : ¬ (j : Int) < (k : Int) := by omega
            have H5 : Hid (w.grownBy wr none ∧ KpOk (ks.take (k + 1))) := ⟨gb_none HK.out.1 HJ.out.1, HT.out (fun m hm => HJ.out.2 m (by omega))⟩
            clear HJ HK HT c0 HEq HCs
            go_wp2
            go_roundw
            case rel => exact ⟨k + 1, by omega, by go_num, H5⟩
            case measure => simp [intOf]; omega
    · have hkl2 : ¬ (k : Int) < (KL : Int) := by omega
      have HOk : Hid (KpOk ks) := by
        have := HK.out.2
        rw [List.take_of_length_le (by rw [HKL.out]; omega)] at this
        exact this
      have HG := hid_mk' HK.out.1
      clear HK HBad HBadEnd
      obtain ⟨a, cap0, hvv, -, -⟩ := HW.out.1.shape
      have HA : Hid (v = .slice a rs.length cap0) := hvv
      generalize hL : rs.length = L at *
      have HL : Hid (rs.length = L) := hL
      have hm : L ≤ 256 := by rw [← hL]; exact HW.out.1.most
      clear hL hvv
      have HS0 : Hid (∃ rsi left, RefW wr S gr (.slice a L cap0) rsi ∧ rsi.length = L ∧ (∀ j, j < L → (rsi.getD j rfZ).name = (rs.getD j rfZ).name) ∧ (∀ l, lkR rsi l = crashM M ks left l) ∧ (∀ j, j < L → left (.string (rs.getD j rfZ).name) = decide (0 ≤ j)) ∧ Ch w wr S) := by
        have hch : Ch w wr (fun _ => False) := Ch.of_gb HG.out (fun k hk => by cases hk)
        refine ⟨rs, fun _ => true, ?_, HL.out, fun _ _ => rfl, fun l => ?_, fun j _ => by simp, hch.mono (fun _ _ h => h.elim)⟩
        · rw [← HA.out]; exact HW.out.1.frame hch (fun _ _ _ => id)
        · rw [← HW.out.2.1]
          unfold crashM
          cases M l <;> rfl
      go_wp2
      go_loopw [7] (fun i wr => ∃ k : Nat, k ≤ L ∧ i = .int .i64 (k : Int) ∧ Hid (∃ rsi left, RefW wr S gr (.slice a L cap0) rsi ∧ rsi.length = L ∧ (∀ j, j < L → (rsi.getD j rfZ).name = (rs.getD j rfZ).name) ∧ (∀ l, lkR rsi l = crashM M ks left l) ∧ (∀ j, j < L → left (.string (rs.getD j rfZ).name) = decide (k ≤ j)) ∧ Ch w wr S)) (fun i _ => L - (intOf i).toNat)
      case atStart => exact ⟨0, by omega, rfl, HS0.out⟩
      case round =>
        obtain ⟨k, hk, rfl, HK⟩ := hrel
        obtain ⟨rsi, left, hWi, hLi, hNi, hMi, hle, hCi⟩ := HK.out
        have hbx : wr.cell? ⟨gr, 0, none⟩ = some (.slice a L cap0) := by simp [World.cell?, hWi.box]
        by_cases hkl : k < L
        · have hkl2 : (k : Int) < (L : Int) := by omega
          have hk' : k < rsi.length := by rw [hLi]; exact hkl
          obtain ⟨g, cap, hv, hcp, hcm, hcells⟩ := hWi.cells (by intro e; rw [e] at hk'; simp at hk')
          have hv2 : a = some ⟨g, 0, none⟩ := by simp at hv; exact hv.1
          subst hv2
          obtain ⟨c0, c1, c2⟩ := hcells k hk'
          obtain ⟨a1, d1, hval⟩ : ∃ a1 d1, (rsi.getD k rfZ).val = .slice a1 (rsi.getD k rfZ).bytes.length d1 := by obtain ⟨⟨a, c, e, _⟩, _⟩ := hWi.each _ (getD_mem hk'); exact ⟨a, c, e⟩
          have hrb := hWi.each _ (getD_mem hk')
          have hfit := hWi.fits _ (getD_mem hk')
          have hKin : KpsIn wr (.slice va KL vc) ks := by
            have := HV.out
            exact this.via0 (fun hne b hb hlt => hCi.block hlt (HW.out.2.2 hne b hb))
          have HKin := hid_mk' hKin
          have HR : Hid (RefW wr S gr (.slice (some ⟨g, 0, none⟩) L cap0) rsi ∧ rsi.length = L ∧ (∀ j, j < L → (rsi.getD j rfZ).name = (rs.getD j rfZ).name) ∧ (∀ l, lkR rsi l = crashM M ks left l) ∧ (∀ j, j < L → left (.string (rs.getD j rfZ).name) = decide (k ≤ j)) ∧ Ch w wr S ∧ k < rsi.length) := ⟨hWi, hLi, hNi, hMi, hle, hCi, hk'⟩
          have HKp : Hid (∀ j, j < KL → keptAt (ks.take (j + 1)) (rsi.getD k rfZ).name = if (rsi.getD k rfZ).name = (ks.getD j kpZ).name then (ks.getD j kpZ).n else keptAt (ks.take j) (rsi.getD k rfZ).name) := fun j hj => by
            have hj' : j < ks.length := by rw [HKL.out]; exact hj
            rw [take_snoc' hj']
            refine keptAt_snoc _ _ ?_ _
            rw [List.any_eq_false]
            intro y hy hyn
            obtain ⟨m, hml, rfl⟩ := List.mem_iff_getElem.1 hy
            have hmj : m < j := by rw [List.length_take] at hml; omega
            have := List.pairwise_iff_getElem.1 HOk.out.1 m j (by omega) hj' hmj
            simp only [List.getElem_take, beq_iff_eq] at hyn
            simp [hj'] at hyn
            exact this hyn
          have HNm : Hid (∀ j, j < KL → ∀ s s', ByteArray.mk ⟨(ks.getD j kpZ).name⟩ = s → ByteArray.mk ⟨(rsi.getD k rfZ).name⟩ = s' → (s.toList == s'.toList) = decide ((ks.getD j kpZ).name = (rsi.getD k rfZ).name)) := fun j _ s s' h1 h2 => by rw [← h1, ← h2]; exact str_eq _ _
          have HC := hid_mk' (And.intro c0 (And.intro c1 c2))
          have HVal := hid_mk' hval
          have HFit := hid_mk' hfit
          clear hWi hLi hNi hMi hle hCi HK hcells hrb hKin hv c1 c2 hval hfit hcp hcm hk'
          go_wp2
          go_loopw [8, 9] (fun n i wr2 => ∃ j : Nat, j ≤ KL ∧ i = .int .i64 (j : Int) ∧ n = .int .i64 (keptAt (ks.take j) (rsi.getD k rfZ).name) ∧ Hid (wr.grownBy wr2 none)) (fun _ i _ => KL - (intOf i).toNat)
          case atStart => exact ⟨0, by omega, rfl, rfl, gb_refl _ _⟩
          case round =>
            obtain ⟨j, hj, rfl, rfl, HJ⟩ := hrel
            have hbx2 := cell_keep hbx HJ.out
            by_cases hjl : j < KL
            · have hjl2 : (j : Int) < (KL : Int) := by omega
              have d0 := cell_keep c0 HJ.out
              obtain ⟨a0, c0', hv0, hl0, hcs⟩ := HKin.out.keep HJ.out
              simp only [Value.slice.injEq] at hv0
              obtain ⟨rfl, -, -⟩ := hv0
              obtain ⟨n1, n2, b, o, rfl, k0, k1⟩ := hcs j (by rw [HKL.out]; exact hjl)
              clear hcs hl0 n1 n2
              have hstep := HKp.out j hjl
              by_cases he : (ks.getD j kpZ).name = (rsi.getD k rfZ).name
              · have hq := HNm.out j hjl
                rw [decide_eq_true he] at hq
                rw [if_pos he.symm] at hstep
                have HSt := hid_mk' hstep
                clear hstep
                generalize ByteArray.mk ⟨(ks.getD j kpZ).name⟩ = s at *
                generalize ByteArray.mk ⟨(rsi.getD k rfZ).name⟩ = s' at *
                have hq2 := hq s s' rfl rfl
                clear hq
                generalize hkt : keptAt (ks.take j) (rsi.getD k rfZ).name = nj at *
                generalize hkn : (ks.getD j kpZ).n = nn at *
                clear hkt
                go_wp2_with fail
                go_region
                all_goals (try go_wp2)
                all_goals go_roundw
                case rel => exact ⟨j + 1, by omega, by go_num, by rw [HSt.out], gb_none HJ.out (gb_drew _ none)⟩
                case measure => simp [intOf]; omega
              · have hq := HNm.out j hjl
                rw [decide_eq_false he] at hq
                rw [if_neg (fun e => he e.symm)] at hstep
                have HSt := hid_mk' hstep
                clear hstep k1
                generalize ByteArray.mk ⟨(ks.getD j kpZ).name⟩ = s at *
                generalize ByteArray.mk ⟨(rsi.getD k rfZ).name⟩ = s' at *
                have hq2 := hq s s' rfl rfl
                clear hq
                generalize hkt : keptAt (ks.take j) (rsi.getD k rfZ).name = nj at *
                clear hkt
                go_wp2_with fail
                go_region
                all_goals (try go_wp2)
                all_goals go_roundw
                case rel => exact ⟨j + 1, by omega, by go_num, by rw [HSt.out], gb_none HJ.out (gb_drew _ none)⟩
                case measure => simp [intOf]; omega
            · have hjl2 : ¬ (j : Int) < (KL : Int) := by omega
              have hkj : ks.take j = ks := List.take_of_length_le (by rw [HKL.out]; omega)
              rw [hkj]
              obtain ⟨q, hq⟩ := Int.eq_ofNat_of_zero_le (keptAt_nonneg HOk.out (rsi.getD k rfZ).name)
              rw [hq]
              obtain ⟨z, hz⟩ : ∃ z, (rsi.getD k rfZ).synced = z := ⟨_, rfl⟩
              obtain ⟨BL, hBL⟩ : ∃ BL, (rsi.getD k rfZ).bytes.length = BL := ⟨_, rfl⟩
              have d1' := cell_keep HC.out.2.1 HJ.out
              have d2' := cell_keep HC.out.2.2 HJ.out
              rw [HVal.out, hBL] at d1'
              rw [hz] at d2'
              have hzB : z ≤ BL ∧ BL ≤ 1048576 := by have := HFit.out; rw [hz, hBL] at this; exact this.2
              obtain ⟨R, hR⟩ : ∃ R, R = BL - z := ⟨_, rfl⟩
              obtain ⟨m, hm', hcase⟩ : ∃ m : Nat, min q R = m ∧ (((q : Int) ≤ (R : Int) ∧ m = q) ∨ ((R : Int) < (q : Int) ∧ m = R)) := ⟨_, rfl, by omega⟩
              obtain ⟨K, hKd⟩ : ∃ K, K = z + m := ⟨_, rfl⟩
              have hsub : (BL : Int) - (z : Int) = (R : Int) := by omega
              have hadd : (z : Int) + (m : Int) = (K : Int) := by omega
              have hKB : (K : Int) ≤ (d1 : Int) := by
                have h1 := HR.out.1.each _ (getD_mem HR.out.2.2.2.2.2.2)
                rw [HVal.out] at h1
                have := h1.cap.1
                rw [hBL] at this
                omega
              have HEnd : Hid (∀ W, ((wr.setCell ⟨g, k * 3 + 2, none⟩ (.int .i64 (K : Int))).setCell ⟨g, k * 3 + 1, none⟩ (.slice a1 K d1)).grownBy W none → ∃ rsi left, RefW W S gr (.slice (some ⟨g, 0, none⟩) L cap0) rsi ∧ rsi.length = L ∧ (∀ j, j < L → (rsi.getD j rfZ).name = (rs.getD j rfZ).name) ∧ (∀ l, lkR rsi l = crashM M ks left l) ∧ (∀ j, j < L → left (.string (rs.getD j rfZ).name) = decide (k + 1 ≤ j)) ∧ Ch w W S) := by
                intro W hg
                obtain ⟨r1, r2, r3, r4, r5, r6, r7⟩ := HR.out
                exact crR_step r1 r2 r3 r4 r5 r6 r7 HJ.out HVal.out hq (by rw [hz, hBL, ← hR, hm', hKd]) hg
              have hRb : (R : Int) ≤ 1048576 := by omega
              have hKb : (K : Int) ≤ 1048576 := by omega
              have hWr := HR.out.1.frame (T := fun _ => False) (Ch.of_gb HJ.out (fun k hk => by cases hk)) (fun _ _ _ => id)
              obtain ⟨cur, ho⟩ := hWr.row_obj (k := g) rfl
              have hgr : gr ≠ g := fun e => hWr.ne_row (by rw [e]; rfl)
              have f2 : wr.frozen? ⟨g, k * 3 + 2, none⟩ = false := by simp [World.frozen?, ho]
              have hob : ∀ x, (wr.setCell ⟨g, k * 3 + 2, none⟩ x).heap[g]? = some (.cells (cur.setIfInBounds (k * 3 + 2) x) 56 (0, 0)) := fun x => by simp [World.setCell, Array.getElem?_modify, ho]
              have j0 : ∀ x, (wr.setCell ⟨g, k * 3 + 2, none⟩ x).cell? ⟨gr, 0, none⟩ = some (.slice (some ⟨g, 0, none⟩) L cap0) := fun x => by
                rw [← hbx2]
                exact World.cell?_of_block (Below.heap_setCell _ _ _ _ hgr)
              have j1 : ∀ x, (wr.setCell ⟨g, k * 3 + 2, none⟩ x).cell? ⟨g, k * 3 + 1, none⟩ = some (.slice a1 BL d1) := fun x => by
                rw [← d1']
                simp [World.cell?, hob, ho]
              have hcur : k * 3 + 2 < cur.size := by
                have h := d2'
                simp only [World.cell?, ho] at h
                exact (Array.getElem?_eq_some_iff.1 (by simpa using h)).1
              have j2 : ∀ x, (wr.setCell ⟨g, k * 3 + 2, none⟩ x).cell? ⟨g, k * 3 + 2, none⟩ = some x := fun x => by
                simp [World.cell?, hob, hcur]
              have f1 : ∀ x, (wr.setCell ⟨g, k * 3 + 2, none⟩ x).frozen? ⟨g, k * 3 + 1, none⟩ = false := fun x => by simp [World.frozen?, hob]
              clear hWr ho hob hgr hcur hKd hm' hR hzB hz hBL hq hkj HC HKp HNm HKin c0
              rcases hcase with ⟨hqr, rfl⟩ | ⟨hqr, rfl⟩
              · go_wp2_with fail
                go_region
                go_wp2_with fail
                go_region
                go_wp2_with fail
                go_region
                go_wp2
                go_roundw
                case rel => exact ⟨k + 1, by omega, by go_num, HEnd.out _ (gb_drewN _ 3 none)⟩
                case measure => simp [intOf]; omega
              · go_wp2_with fail
                go_region
                go_wp2_with fail
                go_region
                go_wp2_with fail
                go_region
                go_wp2
                go_roundw
                case rel => exact ⟨k + 1, by omega, by go_num, HEnd.out _ (gb_drewN _ 3 none)⟩
                case measure => simp [intOf]; omega
        · have hkl2 : ¬ (k : Int) < (L : Int) := by omega
          have HE : Hid (Ch w wr S ∧ RefOK wr (Gr S w wr) gr (crashM M ks (fun _ => false)) L) := by
            refine ⟨hCi, RefOK.gr ⟨_, rsi, hWi, fun l => ?_, hLi⟩⟩
            rw [hMi]
            unfold crashM
            cases hm : M l with
            | none => rfl
            | some p =>
              have hlk := HW.out.2.1 l
              rw [hm] at hlk
              rcases posR_cases rs l with ⟨-, -, h3⟩ | ⟨j, -, h2, h3, -⟩
              · rw [h3] at hlk; cases hlk
              · have := hle j (by rw [← HL.out]; exact h2)
                rw [h3] at this
                have hjk : decide (k ≤ j) = false := by rw [HL.out] at h2; simp; omega
                rw [this, hjk]
          clear hWi hLi hNi hMi hle hCi HK
          go_wp2
          go_ret
          exact ⟨HE.out.1, .inl ⟨HOk.out, rfl, by have := HE.out.2; rw [← HL.out] at this; exact this⟩⟩
end Go.Proofs.Ytgafmplmngbbfaa
