/-
  A text that is read: what (*text).set comes to: the walk.
-/
import Derived.Test.YtkcgikgihbglnabDoorMgG
namespace Go.Proofs.YtkcgikgihbglnabDoor
open Go.RowKit

theorem labsS_bd (s : List UInt8) : ∀ f k acc, k ≤ s.length → acc.length ≤ k → (labsS f s k acc).2.2 ≤ s.length ∧ (labsS f s k acc).1.length ≤ s.length
  | 0, k, acc, hk, ha => by rw [labsS]; exact ⟨hk, by simp⟩
  | f + 1, k, acc, hk, ha => by
    rw [labsS]
    have h0 := tkK_le s k 125 hk
    have h1 := tkK_ge s k 125
    obtain ⟨h2, h3, h4⟩ := labS_bd h0
    have h5 := tkK_le s (labS s (tkK s k 125)).2.2.2 44 h3
    have h6 := tkK_ge s (labS s (tkK s k 125)).2.2.2 44
    by_cases a1 : tkB s k 125 = true
    · rw [if_pos a1]; exact ⟨h0, by show acc.length ≤ _; omega⟩
    · rw [if_neg a1]
      by_cases a2 : (labS s (tkK s k 125)).2.2.1 = false
      · rw [if_pos a2]; exact ⟨h3, by simp⟩
      · rw [if_neg a2]
        have a2' := h4 (by simpa using a2)
        by_cases a3 : tkB s (labS s (tkK s k 125)).2.2.2 44 = false
        · rw [if_pos a3]
          exact ⟨tkK_le s _ 125 h5, by simp; omega⟩
        · rw [if_neg a3]
          exact labsS_bd s f _ _ h5 (by simp; omega)
theorem lbf_len2 : ∀ ls : List LbT, (lbf ls).length = ls.length * 2
  | [] => rfl
  | x :: t => by
    have := lbf_len2 t
    simp only [lbf, List.flatMap_cons, List.length_append, List.length_cons, List.length_nil] at this ⊢
    omega
theorem lbf_app (a b : List LbT) : lbf (a ++ b) = lbf a ++ lbf b := by simp [lbf]
def mtS (s : List UInt8) (k : Nat) : List UInt8 := (s.drop k).take (span pinMetric (s.drop k))
/-- what stands behind a name ahead -/
def braS (s : List UInt8) (k : Nat) (ac : List LbT) : List LbT × Bool × Nat :=
  if (labsS (s.length + 1) s (tkK s k 123) []).2.1 = false then ([], false, (labsS (s.length + 1) s (tkK s k 123) []).2.2)
  else (ac ++ (labsS (s.length + 1) s (tkK s k 123) []).1, decide (skp s (labsS (s.length + 1) s (tkK s k 123) []).2.2 = s.length), skp s (labsS (s.length + 1) s (tkK s k 123) []).2.2)
/-- a whole text from a place on -/
def setS (s : List UInt8) (k : Nat) : List LbT × Bool × Nat :=
  if mtS s (skp s k) = [] then (if tkB s (skp s k) 123 = true then braS s (skp s k) [] else ([], false, tkK s (skp s k) 123))
  else if metricB (mtS s (skp s k)) = false then ([], false, skp s k)
  else if tkB s (skp s k + (mtS s (skp s k)).length) 123 = true then braS s (skp s k + (mtS s (skp s k)).length) [(mnB, mtS s (skp s k))]
  else ([(mnB, mtS s (skp s k))], decide (skp s (tkK s (skp s k + (mtS s (skp s k)).length) 123) = s.length), skp s (tkK s (skp s k + (mtS s (skp s k)).length) 123))

set_option maxRecDepth 8000 in
set_option maxHeartbeats 6400000 in
theorem set_any (w : World) (g : Nat) (s : List UInt8) (k : Nat) (h : Tx w g s k) (hk : k ≤ s.length) (hs : s.length ≤ 1000000) :
    Calls Tryd.prog 24 #[.pointer (some ⟨g, 0, none⟩)] w fun e w' => ∃ v, e = .returned (.tuple #[v, .bool (setS s k).2.1]) ∧ OwnL w' w.heap.size v (setS s k).1 ∧ Tx w' g s (setS s k).2.2 ∧ w.grownBy w' (some g) := by
  have hgl : g < w.heap.size := (Array.getElem?_eq_some_iff.1 h).1
  have HS : Hid (setS s k = if mtS s (skp s k) = [] then (if tkB s (skp s k) 123 = true then braS s (skp s k) [] else ([], false, tkK s (skp s k) 123)) else if metricB (mtS s (skp s k)) = false then ([], false, skp s k) else if tkB s (skp s k + (mtS s (skp s k)).length) 123 = true then braS s (skp s k + (mtS s (skp s k)).length) [(mnB, mtS s (skp s k))] else ([(mnB, mtS s (skp s k))], decide (skp s (tkK s (skp s k + (mtS s (skp s k)).length) 123) = s.length), skp s (tkK s (skp s k + (mtS s (skp s k)).length) 123))) := rfl
  have hk0 := skp_le s k hk
  have HSK : Hid (Calls Tryd.prog 45 #[.pointer (some ⟨g, 0, none⟩)] w fun e w' => e = .returned (.tuple #[]) ∧ Hid (Tx w' g s (skp s k) ∧ w.grownBy w' (some g))) := (skipBlanks_any w g s k h hk (by omega)).mono fun e w' ⟨h1, h2, h3⟩ => ⟨h1, h2, h3⟩
  generalize setS s k = R at *
  generalize skp s k = k0 at *
  have HW : Hid (∀ W, Tx W g s k0 → Calls Tryd.prog 46 #[.pointer (some ⟨g, 0, none⟩), .func (.func 37) #[] #[]] W fun e w' => e = .returned (.string (ByteArray.mk ⟨mtS s k0⟩)) ∧ Hid (Tx w' g s k0 ∧ W.grownBy w' (some g))) := fun W hW =>
    (word_inMetric W g s k0 hW hk0 (by omega)).mono fun e w' ⟨e1, e2⟩ => ⟨e1, hW.keep e2, gb_any e2 _⟩
  have hml : k0 + (mtS s k0).length ≤ s.length := by
    unfold mtS
    rw [List.length_take, List.length_drop]
    omega
  have HN : Hid (∀ W, Tx W g s k0 → Calls Tryd.prog 18 #[.string (ByteArray.mk ⟨mtS s k0⟩)] W fun e w' => e = .returned (.bool (metricB (mtS s k0))) ∧ Hid (Tx w' g s k0 ∧ W.grownBy w' (some g))) := fun W hW =>
    (metric_any W (mtS s k0) (by omega)).mono fun e w' ⟨e1, e2⟩ => ⟨e1, hW.keep e2, gb_any e2 _⟩
  generalize mtS s k0 = mn at *
  have HTT : Hid (∀ K, K ≤ s.length → ∀ W, Tx W g s K → Calls Tryd.prog 47 #[.pointer (some ⟨g, 0, none⟩), .int .u8 123] W fun e w' => e = .returned (.bool (tkB s K 123)) ∧ Hid (Tx w' g s (tkK s K 123) ∧ W.grownBy w' (some g))) := fun K hK W hW => (take_any W g s K 123 hW hK (by omega)).mono fun e w' ⟨e1, e2, e3⟩ => ⟨e1, e2, e3⟩
  have HLT : Hid (∀ K, K ≤ s.length → ∀ W, Tx W g s K → Calls Tryd.prog 48 #[.pointer (some ⟨g, 0, none⟩)] W fun e w' => ∃ v, e = .returned (.tuple #[v, .bool (labsS (s.length + 1) s K []).2.1]) ∧ OwnL w' W.heap.size v (labsS (s.length + 1) s K []).1 ∧ Tx w' g s (labsS (s.length + 1) s K []).2.2 ∧ W.grownBy w' (some g)) := fun K hK W hW => labels_any W g s K hW hK hs
  have HET : Hid (∀ K, K ≤ s.length → ∀ W, Tx W g s K → Calls Tryd.prog 49 #[.pointer (some ⟨g, 0, none⟩)] W fun e w' => e = .returned (.bool (decide (skp s K = s.length))) ∧ Hid (Tx w' g s (skp s K) ∧ W.grownBy w' (some g))) := fun K hK W hW => (ended_any W g s K hW hK (by omega)).mono fun e w' ⟨e1, e2, e3⟩ => ⟨e1, e2, e3⟩
  obtain ⟨i0, hi, hz0, hz1, hz2⟩ := info_parts infoLb
  have HI : Hid (Tryd.prog.info? 42 = some i0 ∧ i0.zero = some (.agg #[.string ⟨#[]⟩, .string ⟨#[]⟩]) ∧ i0.size = 2 ∧ i0.bytes = 32) := ⟨hi, hz0, hz1, hz2⟩
  clear h hi hz0 hz1 hz2
  by_cases hmn : mn = []
  · subst hmn
    rw [if_pos rfl] at HS
    have HTK := HTT.out k0 hk0
    have hk2 := tkK_le s k0 123 hk0
    have HTK : Hid (∀ W, Tx W g s k0 → Calls Tryd.prog 47 #[.pointer (some ⟨g, 0, none⟩), .int .u8 123] W fun e w' => e = .returned (.bool (tkB s k0 123)) ∧ Hid (Tx w' g s (tkK s k0 123) ∧ W.grownBy w' (some g))) := HTK
    by_cases ht : tkB s k0 123 = true
    · rw [if_pos ht] at HS
      rw [ht] at HTK
      have HF : Hid (R = braS s k0 []) := HS.out
      unfold braS at HF
      have hbd := labsS_bd s (s.length + 1) (tkK s k0 123) [] hk2 (by simp)
      have HLS := HLT.out (tkK s k0 123) hk2
      have HLS : Hid (∀ W, Tx W g s (tkK s k0 123) → Calls Tryd.prog 48 #[.pointer (some ⟨g, 0, none⟩)] W fun e w' => ∃ v, e = .returned (.tuple #[v, .bool (labsS (s.length + 1) s (tkK s k0 123) []).2.1]) ∧ OwnL w' W.heap.size v (labsS (s.length + 1) s (tkK s k0 123) []).1 ∧ Tx w' g s (labsS (s.length + 1) s (tkK s k0 123) []).2.2 ∧ W.grownBy w' (some g)) := HLS
      generalize tkK s k0 123 = k2 at *
      generalize labsS (s.length + 1) s k2 [] = LL at *
      obtain ⟨LS, lo, k3⟩ := LL
      dsimp only at *
      have HEN : Hid (∀ W, Tx W g s k3 → Calls Tryd.prog 49 #[.pointer (some ⟨g, 0, none⟩)] W fun e w' => e = .returned (.bool (decide (skp s k3 = s.length))) ∧ Hid (Tx w' g s (skp s k3) ∧ W.grownBy w' (some g))) := HET.out k3 hbd.1
      have hll := hbd.2
      clear HTT HLT HET HS ht hbd
      have e0 : (ByteArray.mk ⟨([] : List UInt8)⟩).toList.isEmpty = true := by rw [ByteArray.toList_eq]; rfl
      have e0' : (ByteArray.mk ⟨([] : List UInt8)⟩).toList = [] := by rw [ByteArray.toList_eq]
      generalize ByteArray.mk ⟨([] : List UInt8)⟩ = sn at *
      go_enter Tryd.func24, Tryd.ntmps24
      go_wp2_with fail
      refine HSK.out.mono ?_
      rintro e w1 ⟨rfl, H1⟩
      clear HSK
      go_wp2_with fail
      refine (HW.out _ H1.out.1).mono ?_
      rintro e w5 ⟨rfl, H2⟩
      clear HW
      have H5 : Hid (OwnL w5 w.heap.size (.slice none 0 0) [] ∧ Tx w5 g s k0 ∧ w.grownBy w5 (some g)) := ⟨OwnL.nil _ _, H2.out.1, gb_trans H1.out.2 H2.out.2 (fun _ h _ => h.symm)⟩
      clear H1 H2 HN
      go_wp2_with fail
      refine (HTK.out _ H5.out.2.1).mono ?_
      rintro e w6 ⟨rfl, H6⟩
      have H6' : Hid (OwnL w6 w.heap.size (.slice none 0 0) ([] : List LbT) ∧ Tx w6 g s k2 ∧ w.grownBy w6 (some g)) := ⟨H5.out.1.kept H6.out.2 hgl, H6.out.1, gb_trans H5.out.2.2 H6.out.2 (fun _ h _ => h.symm)⟩
      clear HTK H5 H6
      go_wp2_with fail
      refine (HLS.out _ H6'.out.2.1).mono ?_
      rintro e w7 ⟨v7, rfl, ho7, hx7, hg7⟩
      have H7 : Hid (OwnL w7 w.heap.size (.slice none 0 0) ([] : List LbT) ∧ OwnL w7 w6.heap.size v7 LS ∧ Tx w7 g s k3 ∧ w.grownBy w7 (some g)) := ⟨H6'.out.1.kept hg7 hgl, ho7, hx7, gb_trans H6'.out.2.2 hg7 (fun _ h _ => h.symm)⟩
      have hrd := ho7.rd
      clear HLS H6' ho7 hx7 hg7
      cases lo with
      | false =>
        rw [if_pos rfl] at HF
        go_wp2
        go_ret2
        exact ⟨_, by (rw [HF.out]; first | done | rfl), by rw [HF.out]; exact OwnL.nil _ _, by rw [HF.out]; exact H7.out.2.2.1, H7.out.2.2.2⟩
      | true =>
        rw [if_neg (by simp)] at HF
        obtain ⟨a7, c7, rfl, hc1, hc2, -, hc4⟩ := id hrd
        have HRC : Hid (RdC w7 a7 (lbf LS)) := RdL.rdc hrd
        have HC : Hid (a7 = none → LS.length = 0 ∧ c7 = 0) := fun h => ⟨by have := hc4 h; omega, hc4 h⟩
        have HLL : Hid ((lbf LS).length = LS.length * 2) := lbf_len2 LS
        have HON : Hid (∀ u ∈ lbf LS, u.oneCell' = true) := lbf_one LS
        clear hc4 hrd
        unfold maxLen at hc2
        go_wp2_with (at_builtin; refine wp_appH rfl _ _ 22 42 rfl i0 _ 2 32 w.heap.size Tryd.underlying22 HI.out.1 HI.out.2.1 HI.out.2.2.1 HI.out.2.2.2 rfl (by decide) _ ([] : List LbT).length (lbf ([] : List LbT)) a7 LS.length c7 (lbf LS) rfl rfl H7.out.1 HLL.out HRC.out HC.out HON.out (by first | omega | (simp; omega)) (by first | omega | (simp; omega)) (by have := H7.out.2.2.2.size; omega) ?_)
        intro v8 w8 ho8 hf8
        have H8 : Hid (OwnL w8 w.heap.size v8 (([] : List LbT) ++ LS) ∧ Tx w8 g s k3 ∧ w.grownBy w8 (some g)) := by
          have hl := H7.out.1.lt
          refine ⟨?_, H7.out.2.2.1.far hf8.1 (fun j hj => by have := (hl j hj).1; omega), gb_trans H7.out.2.2.2 hf8.1 (fun j hj hlt => by have := (hl j (by first | exact hj | exact hj.symm)).1; omega)⟩
          unfold OwnL
          rw [List.length_append, lbf_app]
          first | exact ho8 | (rw [List.length_nil, Nat.zero_add]; exact ho8)
        clear ho8 hf8 H7 HC HRC HLL HON hc1 hc2
        go_wp2_with fail
        refine (HEN.out _ H8.out.2.1).mono ?_
        rintro e w9 ⟨rfl, H9⟩
        clear HEN
        have HZ : Hid (OwnL w9 w.heap.size v8 (([] : List LbT) ++ LS) ∧ Tx w9 g s (skp s k3) ∧ w.grownBy w9 (some g)) := ⟨H8.out.1.kept H9.out.2 hgl, H9.out.1, gb_trans H8.out.2.2 H9.out.2 (fun _ h _ => h.symm)⟩
        clear H8 H9
        go_wp2
        go_ret2
        exact ⟨_, by (rw [HF.out]; first | done | rfl), by rw [HF.out]; exact HZ.out.1, by rw [HF.out]; exact HZ.out.2.1, HZ.out.2.2⟩
    · rw [if_neg ht] at HS
      have htf : tkB s k0 123 = false := by simpa using ht
      rw [htf] at HTK
      clear HTT HLT HET ht htf
      generalize tkK s k0 123 = k2 at *
      have e0 : (ByteArray.mk ⟨([] : List UInt8)⟩).toList.isEmpty = true := by rw [ByteArray.toList_eq]; rfl
      have e0' : (ByteArray.mk ⟨([] : List UInt8)⟩).toList = [] := by rw [ByteArray.toList_eq]
      generalize ByteArray.mk ⟨([] : List UInt8)⟩ = sn at *
      go_enter Tryd.func24, Tryd.ntmps24
      go_wp2_with fail
      refine HSK.out.mono ?_
      rintro e w1 ⟨rfl, H1⟩
      clear HSK
      go_wp2_with fail
      refine (HW.out _ H1.out.1).mono ?_
      rintro e w5 ⟨rfl, H2⟩
      clear HW
      have H5 : Hid (OwnL w5 w.heap.size (.slice none 0 0) [] ∧ Tx w5 g s k0 ∧ w.grownBy w5 (some g)) := ⟨OwnL.nil _ _, H2.out.1, gb_trans H1.out.2 H2.out.2 (fun _ h _ => h.symm)⟩
      clear H1 H2 HN
      go_wp2_with fail
      refine (HTK.out _ H5.out.2.1).mono ?_
      rintro e w6 ⟨rfl, H6⟩
      have H6' : Hid (Tx w6 g s k2 ∧ w.grownBy w6 (some g)) := ⟨H6.out.1, gb_trans H5.out.2.2 H6.out.2 (fun _ h _ => h.symm)⟩
      clear HTK H5 H6
      go_wp2
      go_ret2
      exact ⟨_, by (rw [HS.out]; first | done | rfl), by rw [HS.out]; exact OwnL.nil _ _, by rw [HS.out]; exact H6'.out.1, H6'.out.2⟩
  · rw [if_neg hmn] at HS
    have hne : (ByteArray.mk ⟨mn⟩).toList.isEmpty = false := by rw [ByteArray.toList_eq]; cases mn with | nil => exact absurd rfl hmn | cons _ _ => rfl
    have hne2 : ¬ (ByteArray.mk ⟨mn⟩).toList = [] := by rw [ByteArray.toList_eq]; exact hmn
    obtain ⟨n, hn⟩ : ∃ n, n = mn.length := ⟨_, rfl⟩
    rw [← hn] at hml HS
    have hz : (ByteArray.mk ⟨mn⟩).size = n := hn.symm
    generalize hsn : ByteArray.mk ⟨mn⟩ = sn at *
    have HSN : Hid (ByteArray.mk ⟨mn⟩ = sn) := hsn
    clear hsn hn hmn
    cases hmb : metricB mn with
    | false =>
      rw [if_pos hmb] at HS
      rw [hmb] at HN
      clear hmb
      go_enter Tryd.func24, Tryd.ntmps24
      go_wp2_with fail
      refine HSK.out.mono ?_
      rintro e w1 ⟨rfl, H1⟩
      clear HSK
      go_wp2_with fail
      refine (HW.out _ H1.out.1).mono ?_
      rintro e w2 ⟨rfl, H2⟩
      clear HW
      go_wp2_with fail
      refine (HN.out _ H2.out.1).mono ?_
      rintro e w3 ⟨rfl, H3⟩
      clear HN
      have H3' : Hid (Tx w3 g s k0 ∧ w.grownBy w3 (some g)) := ⟨H3.out.1, gb_trans (gb_trans H1.out.2 H2.out.2 (fun _ h _ => h.symm)) H3.out.2 (fun _ h _ => h.symm)⟩
      clear H1 H2 H3
      go_wp2
      go_ret2
      exact ⟨_, by (rw [HS.out]; first | done | rfl), by rw [HS.out]; exact OwnL.nil _ _, by rw [HS.out]; exact H3'.out.1, H3'.out.2⟩
    | true =>
      rw [if_neg (by rw [hmb]; simp)] at HS
      rw [hmb] at HN
      clear hmb
      have hk2 := tkK_le s (k0 + n) 123 hml
      have HTK : Hid (∀ W, Tx W g s (k0 + n) → Calls Tryd.prog 47 #[.pointer (some ⟨g, 0, none⟩), .int .u8 123] W fun e w' => e = .returned (.bool (tkB s (k0 + n) 123)) ∧ Hid (Tx w' g s (tkK s (k0 + n) 123) ∧ W.grownBy w' (some g))) := HTT.out (k0 + n) hml
      have hkb : k0 + n ≤ 1000000 := by omega
      by_cases ht : tkB s (k0 + n) 123 = true
      · rw [if_pos ht] at HS
        rw [ht] at HTK
        have HF : Hid (R = braS s (k0 + n) [(mnB, mn)]) := HS.out
        unfold braS at HF
        have hbd := labsS_bd s (s.length + 1) (tkK s (k0 + n) 123) [] hk2 (by simp)
        have HLS : Hid (∀ W, Tx W g s (tkK s (k0 + n) 123) → Calls Tryd.prog 48 #[.pointer (some ⟨g, 0, none⟩)] W fun e w' => ∃ v, e = .returned (.tuple #[v, .bool (labsS (s.length + 1) s (tkK s (k0 + n) 123) []).2.1]) ∧ OwnL w' W.heap.size v (labsS (s.length + 1) s (tkK s (k0 + n) 123) []).1 ∧ Tx w' g s (labsS (s.length + 1) s (tkK s (k0 + n) 123) []).2.2 ∧ W.grownBy w' (some g)) := HLT.out (tkK s (k0 + n) 123) hk2
        generalize tkK s (k0 + n) 123 = k2 at *
        generalize labsS (s.length + 1) s k2 [] = LL at *
        obtain ⟨LS, lo, k3⟩ := LL
        dsimp only at *
        have HEN : Hid (∀ W, Tx W g s k3 → Calls Tryd.prog 49 #[.pointer (some ⟨g, 0, none⟩)] W fun e w' => e = .returned (.bool (decide (skp s k3 = s.length))) ∧ Hid (Tx w' g s (skp s k3) ∧ W.grownBy w' (some g))) := HET.out k3 hbd.1
        have hll := hbd.2
        clear HTT HLT HET HS ht hbd
        go_enter Tryd.func24, Tryd.ntmps24
        go_wp2_with fail
        refine HSK.out.mono ?_
        rintro e w1 ⟨rfl, H1⟩
        clear HSK
        go_wp2_with fail
        refine (HW.out _ H1.out.1).mono ?_
        rintro e w2 ⟨rfl, H2⟩
        clear HW
        go_wp2_with fail
        refine (HN.out _ H2.out.1).mono ?_
        rintro e w3 ⟨rfl, H3⟩
        clear HN
        have H3' : Hid (Tx w3 g s k0 ∧ w.grownBy w3 (some g)) := ⟨H3.out.1, gb_trans (gb_trans H1.out.2 H2.out.2 (fun _ h _ => h.symm)) H3.out.2 (fun _ h _ => h.symm)⟩
        clear H1 H2 H3
        have HSN2 : Hid (ByteArray.mk ⟨mn⟩ = sn) := HSN.out
        go_wp2_with (at_builtin; refine wp_appH rfl _ _ 22 42 rfl i0 _ 2 32 w.heap.size Tryd.underlying22 HI.out.1 HI.out.2.1 HI.out.2.2.1 HI.out.2.2.2 rfl (by decide) _ 0 [] (some ⟨w3.heap.size, 0, none⟩) 1 1 [.string (ByteArray.mk ⟨mnB⟩), .string sn] rfl rfl (World.ownsRow_nil _ _ _ _) rfl (box_rdc w3 _ _) (fun h => by cases h) (two_one _ _) (by omega) (by omega) (by have := H3'.out.2.size; simp; omega) ?_)
        intro v4 w4 ho4 hf4
        have hg4 : w3.grownBy w4 none := gb_none (World.grownBy_alloc _ _ none) hf4.1
        have H4 : Hid (OwnL w4 w.heap.size v4 [(mnB, mn)] ∧ Tx w4 g s k0 ∧ w.grownBy w4 (some g)) := ⟨by unfold OwnL; rw [show lbf [(mnB, mn)] = [.string (ByteArray.mk ⟨mnB⟩), .string (ByteArray.mk ⟨mn⟩)] from rfl, HSN2.out]; exact ho4, H3'.out.1.keep hg4, gb_none H3'.out.2 hg4⟩
        clear ho4 hf4 hg4 H3'
        obtain ⟨c0, c1, f1⟩ := H4.out.2.1.cells
        go_wp2_with fail
        have HP := H4.out.2.1.put (k0 + n) ((k0 : Int) + (n : Int)) (by omega)
        have H5 : Hid (OwnL (w4.setCell ⟨g, 1, none⟩ (.int .i64 ((k0 : Int) + (n : Int)))) w.heap.size v4 [(mnB, mn)] ∧ Tx (w4.setCell ⟨g, 1, none⟩ (.int .i64 ((k0 : Int) + (n : Int)))) g s (k0 + n) ∧ w.grownBy (w4.setCell ⟨g, 1, none⟩ (.int .i64 ((k0 : Int) + (n : Int)))) (some g)) :=
          ⟨H4.out.1.kept HP.2 hgl, HP.1, gb_trans H4.out.2.2 HP.2 (fun _ h _ => h.symm)⟩
        clear HP H4 c0 c1 f1
        generalize w4.setCell ⟨g, 1, none⟩ (.int .i64 ((k0 : Int) + (n : Int))) = w5 at *
        refine (HTK.out _ H5.out.2.1).mono ?_
        rintro e w6 ⟨rfl, H6⟩
        have H6' : Hid (OwnL w6 w.heap.size v4 [(mnB, mn)] ∧ Tx w6 g s k2 ∧ w.grownBy w6 (some g)) := ⟨H5.out.1.kept H6.out.2 hgl, H6.out.1, gb_trans H5.out.2.2 H6.out.2 (fun _ h _ => h.symm)⟩
        clear HTK H5 H6
        go_wp2_with fail
        refine (HLS.out _ H6'.out.2.1).mono ?_
        rintro e w7 ⟨v7, rfl, ho7, hx7, hg7⟩
        have H7 : Hid (OwnL w7 w.heap.size v4 [(mnB, mn)] ∧ OwnL w7 w6.heap.size v7 LS ∧ Tx w7 g s k3 ∧ w.grownBy w7 (some g)) := ⟨H6'.out.1.kept hg7 hgl, ho7, hx7, gb_trans H6'.out.2.2 hg7 (fun _ h _ => h.symm)⟩
        have hrd := ho7.rd
        clear HLS H6' ho7 hx7 hg7
        cases lo with
        | false =>
          rw [if_pos rfl] at HF
          go_wp2
          go_ret2
          exact ⟨_, by (rw [HF.out]; first | done | rfl), by rw [HF.out]; exact OwnL.nil _ _, by rw [HF.out]; exact H7.out.2.2.1, H7.out.2.2.2⟩
        | true =>
          rw [if_neg (by simp)] at HF
          obtain ⟨a7, c7, rfl, hc1, hc2, -, hc4⟩ := id hrd
          have HRC : Hid (RdC w7 a7 (lbf LS)) := RdL.rdc hrd
          have HC : Hid (a7 = none → LS.length = 0 ∧ c7 = 0) := fun h => ⟨by have := hc4 h; omega, hc4 h⟩
          have HLL : Hid ((lbf LS).length = LS.length * 2) := lbf_len2 LS
          have HON : Hid (∀ u ∈ lbf LS, u.oneCell' = true) := lbf_one LS
          clear hc4 hrd
          unfold maxLen at hc2
          go_wp2_with (at_builtin; refine wp_appH rfl _ _ 22 42 rfl i0 _ 2 32 w.heap.size Tryd.underlying22 HI.out.1 HI.out.2.1 HI.out.2.2.1 HI.out.2.2.2 rfl (by decide) _ [(mnB, mn)].length (lbf [(mnB, mn)]) a7 LS.length c7 (lbf LS) rfl rfl H7.out.1 HLL.out HRC.out HC.out HON.out (by first | omega | (simp; omega)) (by first | omega | (simp; omega)) (by have := H7.out.2.2.2.size; omega) ?_)
          intro v8 w8 ho8 hf8
          have H8 : Hid (OwnL w8 w.heap.size v8 ([(mnB, mn)] ++ LS) ∧ Tx w8 g s k3 ∧ w.grownBy w8 (some g)) := by
            have hl := H7.out.1.lt
            refine ⟨?_, H7.out.2.2.1.far hf8.1 (fun j hj => by have := (hl j hj).1; omega), gb_trans H7.out.2.2.2 hf8.1 (fun j hj hlt => by have := (hl j (by first | exact hj | exact hj.symm)).1; omega)⟩
            unfold OwnL
            rw [List.length_append, lbf_app]
            first | exact ho8 | (rw [List.length_nil, Nat.zero_add]; exact ho8)
          clear ho8 hf8 H7 HC HRC HLL HON hc1 hc2
          go_wp2_with fail
          refine (HEN.out _ H8.out.2.1).mono ?_
          rintro e w9 ⟨rfl, H9⟩
          clear HEN
          have HZ : Hid (OwnL w9 w.heap.size v8 ([(mnB, mn)] ++ LS) ∧ Tx w9 g s (skp s k3) ∧ w.grownBy w9 (some g)) := ⟨H8.out.1.kept H9.out.2 hgl, H9.out.1, gb_trans H8.out.2.2 H9.out.2 (fun _ h _ => h.symm)⟩
          clear H8 H9
          go_wp2
          go_ret2
          exact ⟨_, by (rw [HF.out]; first | done | rfl), by rw [HF.out]; exact HZ.out.1, by rw [HF.out]; exact HZ.out.2.1, HZ.out.2.2⟩
      · rw [if_neg ht] at HS
        have htf : tkB s (k0 + n) 123 = false := by simpa using ht
        rw [htf] at HTK
        have HEN : Hid (∀ W, Tx W g s (tkK s (k0 + n) 123) → Calls Tryd.prog 49 #[.pointer (some ⟨g, 0, none⟩)] W fun e w' => e = .returned (.bool (decide (skp s (tkK s (k0 + n) 123) = s.length))) ∧ Hid (Tx w' g s (skp s (tkK s (k0 + n) 123)) ∧ W.grownBy w' (some g))) := HET.out _ hk2
        clear HTT HLT HET ht htf
        generalize tkK s (k0 + n) 123 = k2 at *
        go_enter Tryd.func24, Tryd.ntmps24
        go_wp2_with fail
        refine HSK.out.mono ?_
        rintro e w1 ⟨rfl, H1⟩
        clear HSK
        go_wp2_with fail
        refine (HW.out _ H1.out.1).mono ?_
        rintro e w2 ⟨rfl, H2⟩
        clear HW
        go_wp2_with fail
        refine (HN.out _ H2.out.1).mono ?_
        rintro e w3 ⟨rfl, H3⟩
        clear HN
        have H3' : Hid (Tx w3 g s k0 ∧ w.grownBy w3 (some g)) := ⟨H3.out.1, gb_trans (gb_trans H1.out.2 H2.out.2 (fun _ h _ => h.symm)) H3.out.2 (fun _ h _ => h.symm)⟩
        clear H1 H2 H3
        have HSN2 : Hid (ByteArray.mk ⟨mn⟩ = sn) := HSN.out
        go_wp2_with (at_builtin; refine wp_appH rfl _ _ 22 42 rfl i0 _ 2 32 w.heap.size Tryd.underlying22 HI.out.1 HI.out.2.1 HI.out.2.2.1 HI.out.2.2.2 rfl (by decide) _ 0 [] (some ⟨w3.heap.size, 0, none⟩) 1 1 [.string (ByteArray.mk ⟨mnB⟩), .string sn] rfl rfl (World.ownsRow_nil _ _ _ _) rfl (box_rdc w3 _ _) (fun h => by cases h) (two_one _ _) (by omega) (by omega) (by have := H3'.out.2.size; simp; omega) ?_)
        intro v4 w4 ho4 hf4
        have hg4 : w3.grownBy w4 none := gb_none (World.grownBy_alloc _ _ none) hf4.1
        have H4 : Hid (OwnL w4 w.heap.size v4 [(mnB, mn)] ∧ Tx w4 g s k0 ∧ w.grownBy w4 (some g)) := ⟨by unfold OwnL; rw [show lbf [(mnB, mn)] = [.string (ByteArray.mk ⟨mnB⟩), .string (ByteArray.mk ⟨mn⟩)] from rfl, HSN2.out]; exact ho4, H3'.out.1.keep hg4, gb_none H3'.out.2 hg4⟩
        clear ho4 hf4 hg4 H3'
        obtain ⟨c0, c1, f1⟩ := H4.out.2.1.cells
        go_wp2_with fail
        have HP := H4.out.2.1.put (k0 + n) ((k0 : Int) + (n : Int)) (by omega)
        have H5 : Hid (OwnL (w4.setCell ⟨g, 1, none⟩ (.int .i64 ((k0 : Int) + (n : Int)))) w.heap.size v4 [(mnB, mn)] ∧ Tx (w4.setCell ⟨g, 1, none⟩ (.int .i64 ((k0 : Int) + (n : Int)))) g s (k0 + n) ∧ w.grownBy (w4.setCell ⟨g, 1, none⟩ (.int .i64 ((k0 : Int) + (n : Int)))) (some g)) :=
          ⟨H4.out.1.kept HP.2 hgl, HP.1, gb_trans H4.out.2.2 HP.2 (fun _ h _ => h.symm)⟩
        clear HP H4 c0 c1 f1
        generalize w4.setCell ⟨g, 1, none⟩ (.int .i64 ((k0 : Int) + (n : Int))) = w5 at *
        refine (HTK.out _ H5.out.2.1).mono ?_
        rintro e w6 ⟨rfl, H6⟩
        have H6' : Hid (OwnL w6 w.heap.size v4 [(mnB, mn)] ∧ Tx w6 g s k2 ∧ w.grownBy w6 (some g)) := ⟨H5.out.1.kept H6.out.2 hgl, H6.out.1, gb_trans H5.out.2.2 H6.out.2 (fun _ h _ => h.symm)⟩
        clear HTK H5 H6
        go_wp2_with fail
        refine (HEN.out _ H6'.out.2.1).mono ?_
        rintro e w9 ⟨rfl, H9⟩
        clear HEN
        have HZ : Hid (OwnL w9 w.heap.size v4 [(mnB, mn)] ∧ Tx w9 g s (skp s k2) ∧ w.grownBy w9 (some g)) := ⟨H6'.out.1.kept H9.out.2 hgl, H9.out.1, gb_trans H6'.out.2.2 H9.out.2 (fun _ h _ => h.symm)⟩
        clear H6' H9
        go_wp2
        go_ret2
        exact ⟨_, by (rw [HS.out]; first | done | rfl), by rw [HS.out]; exact HZ.out.1, by rw [HS.out]; exact HZ.out.2.1, HZ.out.2.2⟩
end Go.Proofs.YtkcgikgihbglnabDoor
