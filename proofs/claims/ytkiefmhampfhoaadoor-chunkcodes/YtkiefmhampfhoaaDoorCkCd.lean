/-
  The document's Within; lent and kept of the law: the walks.
-/
import Derived.Test.YtkiefmhampfhoaaDoorCkCc
import Derived.Test.YtkiefmhampfhoaaDoorGH
import Derived.Test.YtkiefmhampfhoaaDoorCkA4
namespace Go.Proofs.YtkiefmhampfhoaaDoor
open Go.RowKit

/-- a sample behind samples -/
theorem run_push (W : World) (base n : Nat) (a : Option Addr) (c : Nat) (out : List SmpT) (hown : W.ownsRow base 27 2 (.slice a n c) n (smC out)) (hn : n ≤ 1000000) (hb : base ≤ W.heap.size) (T : Int) (F : Nat) :
    ∃ a2 c2 W2, (Builtin.append_ #[22, 22] 22 #[.slice a n c, .slice (some ⟨W.heap.size, 0, none⟩) 1 1]).run Tryd.prog (W.alloc (.cells #[.int .i64 T, .float .f64 F] 27)) = .ok (.slice a2 (n + 1) c2) W2 ∧ W2.ownsRow base 27 2 (.slice a2 (n + 1) c2) (n + 1) (smC (out ++ [(T, F)])) ∧ ∀ w0 : World, base = w0.heap.size → w0.grownBy W none → w0.grownBy W2 none := by
  have hal := alloc_gb W (.cells #[.int .i64 T, .float .f64 F] 27)
  have hnew := Go.heap_alloc_new W (.cells #[.int .i64 T, .float .f64 F] 27)
  have hr : RdP (W.alloc (.cells #[.int .i64 T, .float .f64 F] 27)) (.slice (some ⟨W.heap.size, 0, none⟩) 1 1) [(T, F)] := by
    refine ⟨_, 1, rfl, by simp, by simp [maxLen], fun j hj => ⟨_, 0, rfl, ?_, ?_⟩⟩
    · obtain rfl : j = 0 := by simpa using hj
      simp only [World.cell?, hnew]; rfl
    · obtain rfl : j = 0 := by simpa using hj
      simp only [World.cell?, hnew]; rfl
  obtain ⟨a2, c2, W2, r1, r2, r3⟩ := run_appP (W.alloc (.cells #[.int .i64 T, .float .f64 F] 27)) base n 1 (.slice a n c) out [(T, F)] (World.ownsRow.alloc hown _) (some ⟨W.heap.size, 0, none⟩) 1 hr (by omega) (by simp; omega)
  refine ⟨a2, c2, W2, r1, r2, fun w0 hw0 hg => r3.new (gb_none hg hal) (fun k hk => ?_)⟩
  have := (World.ownsRow.lt hown k hk).1
  omega

set_option maxRecDepth 8000 in
set_option maxHeartbeats 3200000 in
theorem dWithin_any (w : World) (v : Value) (l : List SmpT) (frm to : Int) (hv : RdP w v l) (hl : l.length ≤ 1000) :
    Calls Tryd.prog 27 #[v, .int .i64 frm, .int .i64 to] w fun e w' => ∃ v', e = .returned v' ∧ RdP w' v' (wthn frm to l) ∧ w.grownBy w' none := by
  have HR := hidJ hv
  obtain ⟨a, c, rfl, hlc, hcm, -⟩ := hv
  have hcm2 : c ≤ 9223372036854775807 := hcm
  obtain ⟨N, hN⟩ : ∃ N, l.length = N := ⟨_, rfl⟩
  have HN := hidJ hN
  rw [hN] at hlc hl
  rw [hN]
  clear hN hcm
  go_enter Tryd.func27, Tryd.ntmps27
  go_wp2_with fail
  have hsf := store_float
  go_loopw [7, 12] (fun vA i wr => ∃ (z nA : Nat) (aA : Option Addr) (cA : Nat), z ≤ N ∧ i = .int .i64 (z : Int) ∧ vA = .slice aA nA cA ∧ nA ≤ z ∧ Hid (nA = (wthn frm to (l.take z)).length ∧ wr.ownsRow w.heap.size 27 2 vA nA (smC (wthn frm to (l.take z))) ∧ w.grownBy wr none)) (fun _ i _ => N - (intOf i).toNat)
  case atStart => exact ⟨0, 0, none, 0, by omega, rfl, rfl, by omega, rfl, World.ownsRow_nil _ _ _ _, gb_refl _ _⟩
  case round =>
    obtain ⟨z, nA, aA, cA, hz, rfl, rfl, hnA, hP⟩ := hrel
    by_cases hlt : z < N
    · have hzi : (z : Int) < (N : Int) := by omega
      have hzl : z < l.length := by rw [HN.out]; exact hlt
      obtain ⟨a', c', he, -, -, hc⟩ := HR.out.keep hP.out.2.2
      simp only [Value.slice.injEq] at he
      obtain ⟨rfl, -, rfl⟩ := he
      obtain ⟨b, o, rfl, x0, x1⟩ := hc z hzl
      have HI : Hid (∀ T F, (l.getD z smZ).1 = T → (l.getD z smZ).2 = F → frm ≤ T → T ≤ to → ∃ a2 c2 W2, (Builtin.append_ #[22, 22] 22 #[.slice aA nA cA, .slice (some ⟨(wr.alloc (.cells #[.int .i64 T, .float .f64 F] 27)).heap.size, 0, none⟩) 1 1]).run Tryd.prog ((wr.alloc (.cells #[.int .i64 T, .float .f64 F] 27)).alloc (.cells #[.int .i64 T, .float .f64 F] 27)) = .ok (.slice a2 (nA + 1) c2) W2 ∧ Hid (nA + 1 = (wthn frm to (l.take (z + 1))).length ∧ W2.ownsRow w.heap.size 27 2 (.slice a2 (nA + 1) c2) (nA + 1) (smC (wthn frm to (l.take (z + 1)))) ∧ w.grownBy W2 none)) := by
        rintro T F rfl rfl hf ht
        have hz3 := hP.out.2.2.size
        obtain ⟨a2, c2, W2, r1, r2, r3⟩ := run_push (wr.alloc (.cells #[.int .i64 (l.getD z smZ).1, .float .f64 (l.getD z smZ).2] 27)) w.heap.size nA aA cA _ (World.ownsRow.alloc hP.out.2.1 _) (by omega) (by simp; omega) (l.getD z smZ).1 (l.getD z smZ).2
        rw [wthn_in hzl ⟨hf, ht⟩]
        exact ⟨a2, c2, W2, r1, by rw [List.length_append, ← hP.out.1]; rfl, r2, r3 w rfl (gb_none hP.out.2.2 (alloc_gb _ _))⟩
      have HO : Hid (∀ T, (l.getD z smZ).1 = T → ¬ (frm ≤ T ∧ T ≤ to) → ∀ W, wr.grownBy W none → (nA = (wthn frm to (l.take (z + 1))).length ∧ W.ownsRow w.heap.size 27 2 (.slice aA nA cA) nA (smC (wthn frm to (l.take (z + 1)))) ∧ w.grownBy W none)) := by
        rintro T rfl hno W hW
        rw [wthn_out hzl hno]
        exact ⟨hP.out.1, row_ch hP.out.2.1 (Ch.of_gb (S := fun _ => False) hW (fun k hk => by cases hk)) (fun _ _ e => e), gb_none hP.out.2.2 hW⟩
      clear hc hP
      obtain ⟨T, hT⟩ : ∃ T, (l.getD z smZ).1 = T := ⟨_, rfl⟩
      obtain ⟨F, hF⟩ : ∃ F, (l.getD z smZ).2 = F := ⟨_, rfl⟩
      rw [hT] at x0
      rw [hF] at x1
      have HI2 := hidJ (HI.out T F hT hF)
      have HO2 := hidJ (HO.out T hT)
      clear HI HO hT hF
      have hsz : (wr.alloc (.cells #[.int .i64 T, .float .f64 F] 27)).heap.size = wr.heap.size + 1 := by simp
      by_cases hf : frm ≤ T
      · by_cases ht : T ≤ to
        · obtain ⟨a2, c2, W2, r1, H4⟩ := HI2.out hf ht
          rw [hsz] at r1
          clear HI2 HO2 hsz
          go_wp2_with (at_builtin; refine wp_appRun rfl _ _ 22 rfl _ _ _ rfl rfl r1 ?_)
          go_wp2
          go_roundw
          case rel => exact ⟨z + 1, nA + 1, a2, c2, by omega, by go_num, rfl, by omega, H4.out⟩
          case measure => simp [intOf]; omega
        · have HE := hidJ (HO2.out (fun h => ht h.2))
          clear HI2 HO2 hsz
          go_wp2
          go_roundw
          case rel => exact ⟨z + 1, nA, aA, cA, by omega, by go_num, rfl, by omega, HE.out _ (alloc_gb _ _)⟩
          case measure => simp [intOf]; omega
      · have HE := hidJ (HO2.out (fun h => hf h.1))
        clear HI2 HO2 hsz
        go_wp2
        go_roundw
        case rel => exact ⟨z + 1, nA, aA, cA, by omega, by go_num, rfl, by omega, HE.out _ (alloc_gb _ _)⟩
        case measure => simp [intOf]; omega
    · have hzi : ¬ (z : Int) < (N : Int) := by omega
      obtain rfl : z = N := by omega
      have HE : Hid (RdP wr (.slice aA nA cA) (wthn frm to l) ∧ w.grownBy wr none) := by
        have h := hP.out
        rw [← HN.out, List.take_of_length_le (Nat.le_refl _)] at h
        obtain ⟨h1, h2, h3⟩ := h
        subst h1
        exact ⟨RdP.of_row h2, h3⟩
      clear hP
      go_wp2
      go_ret
      exact ⟨_, rfl, HE.out⟩
end Go.Proofs.YtkiefmhampfhoaaDoor
