/-
  keyOf, Len, New, byLabels of alerts: the walks.
-/
import Derived.Test.YtmgbcmogdjhacaaDoorAl3
namespace Go.Proofs.YtmgbcmogdjhacaaDoor
open Go.RowKit Go.Shelf Go.Maps Go.WideMaps

/-- bytes as text -/
theorem run_strU {w : World} {v : Value} {l : List UInt8} (h : Rd w v l) : (convert 82 9 v).run Tryd.prog w = .ok (.string (ByteArray.mk ⟨l⟩)) w := by
  obtain ⟨a, c, rfl, h1, h2, h3, h4⟩ := h
  cases a with
  | none =>
    have := h4 rfl
    have hl : l = [] := List.eq_nil_of_length_eq_zero (by omega)
    subst hl
    rw [run_convert_bytes_string w 82 9 5 none _ c Tryd.underlying82 Tryd.underlying5 Tryd.underlying9]
    simp [Conv.bytesToString]
    rfl
  | some ad =>
    refine run_convert_bytes_back w 82 9 5 ad c l Tryd.underlying82 Tryd.underlying5 Tryd.underlying9 (fun j hj => ?_)
    obtain ⟨b, o, hb, hc⟩ := h3 j hj
    cases hb
    rw [Go.WideShapes.add_plain, hc]
    simp [hj]
theorem conv_bytes (w : World) (v : Value) (l : List UInt8) (hv : Rd w v l) : (convert 82 9 v).run Tryd.prog w = .ok (.string (ByteArray.mk ⟨l⟩)) w := run_strU hv
def keyF (ls : List LbT) : List UInt8 := (putS [] ls).1
theorem keyF_right {ls : List LbT} (h : (rightS ls).1 = 0) : keyF ls = keyB ls ∧ (putS [] ls).2 = 0 := by
  unfold keyF putS
  rw [if_pos h]
  exact ⟨rfl, rfl⟩
theorem keyF_wrong {ls : List LbT} (h : (rightS ls).1 ≠ 0) : keyF ls = [] ∧ (putS [] ls).2 ≠ 0 := by
  unfold keyF putS
  rw [if_neg h]
  exact ⟨rfl, h⟩
set_option maxRecDepth 8000 in
set_option maxHeartbeats 1600000 in
theorem keyOf_any (w : World) (v : Value) (ls : List LbT) (hv : RdL w v ls) (hl : LbIn ls) (hT : U8S w) :
    Calls Tryd.prog 35 #[v] w fun e w' => e = .returned (.tuple #[.string (ByteArray.mk ⟨keyF ls⟩), .bool (decide ((rightS ls).1 = 0))]) ∧ w.grownBy w' none := by
  have HP : Hid (Calls Tryd.prog 46 #[.slice none 0 0, v] w fun e w' => ∃ a n c, e = .returned (.tuple #[.slice a n c, .int .i64 (putS [] ls).2]) ∧ (convert 82 9 (.slice a n c)).run Tryd.prog w' = .ok (.string (ByteArray.mk ⟨keyF ls⟩)) w' ∧ Hid (w.grownBy w' none)) := by
    refine (put_any w _ v [] ls (Rd.nil w) (by simp) hv hl hT).mono ?_
    rintro e w' ⟨v', rfl, h1, h2⟩
    obtain ⟨a, c, hs⟩ := h1.shape
    have h3 := conv_bytes w' v' _ h1.rd
    rw [hs] at h3
    rw [hs]
    exact ⟨a, _, c, rfl, h3, h2⟩
  have HB : Hid (((putS [] ls).2 == 0) = decide ((rightS ls).1 = 0)) := by
    by_cases h : (rightS ls).1 = 0
    · rw [(keyF_right h).2, decide_eq_true h]
      rfl
    · rw [decide_eq_false h, beq_eq_false_iff_ne]
      exact (keyF_wrong h).2
  obtain ⟨va, vc, rfl⟩ : ∃ a c, v = .slice a ls.length c := by obtain ⟨a, c, h, _⟩ := hv; exact ⟨a, c, h⟩
  rw [← HB.out]
  clear hv hl hT HB
  generalize keyF ls = K at *
  generalize (putS [] ls).2 = E at *
  go_enter Tryd.func35, Tryd.ntmps35
  go_wp2_with fail
  refine HP.out.mono ?_
  rintro e w1 ⟨a, n, c, rfl, hcv, H1⟩
  clear HP
  go_wp2
  go_ret2
  exact ⟨rfl, H1.out⟩
set_option maxHeartbeats 1600000 in
theorem len_any (w : World) (S : Nat → Prop) (gx : Nat) (R most : Int) (M : List AlR) (h : PrjOK w S gx R most M) :
    Calls Tryd.prog 12 #[.pointer (some ⟨gx, 0, none⟩)] w fun e w' => e = .returned (.int .i64 (M.length : Int)) ∧ w' = w := by
  obtain ⟨gm, D, hv, h⟩ := h
  have hlen := h.len
  obtain ⟨-, -, c2⟩ := h.cells
  clear h
  generalize M.length = L at *
  go_enter Tryd.func12, Tryd.ntmps12
  go_wp2
  go_ret
  exact ⟨rfl, rfl⟩
set_option maxHeartbeats 1600000 in
theorem len_nil (w : World) : Calls Tryd.prog 12 #[.pointer none] w fun e w' => e = .returned (.int .i64 0) ∧ w' = w := by
  go_enter Tryd.func12, Tryd.ntmps12
  go_wp2
  go_ret
  exact ⟨rfl, rfl⟩
set_option maxHeartbeats 1600000 in
theorem byLabels_any (w : World) (u v : Value) (ls ms : List LbT) (s e s' e' : Int) (hu : RdL w u ls) (hv : RdL w v ms) :
    Calls Tryd.prog 24 #[alV u s e, alV v s' e'] w fun x w' => x = .returned (.int .i64 (cmpLs ls ms)) ∧ w.grownBy w' none := by
  have HC : Hid (∀ W, w.grownBy W none → Calls Tryd.prog 42 #[u, v] W fun x w' => x = .returned (.int .i64 (cmpLs ls ms)) ∧ Hid (w.grownBy w' none)) := fun W hW => (compare_any W u v ls ms (hu.keep hW) (hv.keep hW)).mono fun x w' ⟨h1, h2⟩ => ⟨h1, gb_none hW h2⟩
  obtain ⟨a, c, rfl⟩ : ∃ a c, u = .slice a ls.length c := by obtain ⟨a, c, h, _⟩ := hu; exact ⟨a, c, h⟩
  obtain ⟨a', c', rfl⟩ : ∃ a c, v = .slice a ms.length c := by obtain ⟨a, c, h, _⟩ := hv; exact ⟨a, c, h⟩
  have HG : Hid (∀ C D, w.grownBy ((w.alloc C).alloc D) none) := fun C D => gb_none (World.grownBy_alloc _ _ none) (World.grownBy_alloc _ _ none)
  clear hu hv
  generalize cmpLs ls ms = r at *
  unfold alV
  go_enter Tryd.func24, Tryd.ntmps24
  go_wp2_with fail
  refine (HC.out _ ?_).mono ?_
  · first | exact HG.out _ _ | exact gb_refl _ _
  rintro x w1 ⟨rfl, H1⟩
  clear HC
  go_wp2
  go_ret
  exact ⟨rfl, H1.out⟩
def newOk (R most : Int) : Prop := (1 ≤ R ∧ R ≤ 1099511627776) ∧ (1 ≤ most ∧ most ≤ 500)
set_option maxHeartbeats 1600000 in
theorem newBad_any (w : World) (R most : Int) (h : ¬ newOk R most) :
    Calls Tryd.prog 7 #[.int .i64 R, .int .i64 most] w fun e w' => e = .returned (.pointer none) ∧ w.grownBy w' none := by
  have HC := hidJ (spanSome_any R w)
  by_cases h1 : 1 ≤ R ∧ R ≤ 1099511627776
  · have h2 : most < 1 ∨ 500 < most := by
      unfold newOk at h
      omega
    have h3 : (decide (1 ≤ R) && decide (R ≤ 1099511627776)) = true := by simp [h1]
    rw [h3] at HC
    clear h h1 h3
    rcases h2 with h2 | h2
    · go_enter Tryd.func7, Tryd.ntmps7
      go_wp2_with (first | (go_at_call 22; refine HC.out.mono ?_; rintro e w1 ⟨rfl, hw1⟩; have hw1 := hw1.symm; subst hw1))
      go_ret
      exact ⟨rfl, gb_refl _ _⟩
    · have h1 : ¬ most < 1 := by omega
      go_enter Tryd.func7, Tryd.ntmps7
      go_wp2_with (first | (go_at_call 22; refine HC.out.mono ?_; rintro e w1 ⟨rfl, hw1⟩; have hw1 := hw1.symm; subst hw1))
      go_ret
      exact ⟨rfl, gb_refl _ _⟩
  · have h3 : (decide (1 ≤ R) && decide (R ≤ 1099511627776)) = false := by
      rw [Bool.and_eq_false_iff, decide_eq_false_iff_not, decide_eq_false_iff_not]
      omega
    rw [h3] at HC
    clear h h1 h3
    go_enter Tryd.func7, Tryd.ntmps7
    go_wp2_with (first | (go_at_call 22; refine HC.out.mono ?_; rintro e w1 ⟨rfl, hw1⟩; have hw1 := hw1.symm; subst hw1))
    go_ret
    exact ⟨rfl, gb_refl _ _⟩
set_option maxHeartbeats 1600000 in
theorem newOK_any (w : World) (R most : Int) (h : newOk R most) :
    Calls Tryd.prog 7 #[.int .i64 R, .int .i64 most] w fun e w' => ∃ gx, e = .returned (.pointer (some ⟨gx, 0, none⟩)) ∧ PrjOK w' (fun k => w.heap.size ≤ k ∧ k < w'.heap.size) gx R most [] ∧ w.grownBy w' none := by
  have HC := hidJ (spanSome_any R w)
  have HH := hidJ h
  have h3 : (decide (1 ≤ R) && decide (R ≤ 1099511627776)) = true := by simp [h.1]
  rw [h3] at HC
  have h1 : ¬ most < 1 := by have := h.2.1; omega
  have h2 : ¬ 500 < most := by have := h.2.2; omega
  clear h h3
  have hmm := @run_makeMap Tryd.prog
  go_enter Tryd.func7, Tryd.ntmps7
  go_wp2_with (first | (go_at_call 22; refine HC.out.mono ?_; rintro e w1 ⟨rfl, hw1⟩; have hw1 := hw1.symm; subst hw1))
  go_ret
  have hb := Go.heap_alloc_new (w.alloc (.map #[] 0)) (.cells #[.int .i64 R, .int .i64 most, .map (some w.heap.size)] 61)
  rw [World.size_alloc] at hb
  refine ⟨w.heap.size + 1, rfl, ⟨w.heap.size, .map [], fun _ => .slice none 0 0, hb, (World.ownsMap_made w Tryd.prog 9 alElem).alloc _, rfl, fun n => rfl, ?_, ?_, ?_, ⟨by omega, by (simp <;> omega)⟩, ⟨by omega, by (simp <;> omega)⟩, ⟨List.Pairwise.nil, ?_, ?_, ?_, HH.out.2.2⟩, HH.out.1⟩, gb_none (World.grownBy_alloc _ _ none) (World.grownBy_alloc _ _ none)⟩
  · intro a ha; cases ha
  · intro a ha; cases ha
  · intro a ha; cases ha
  · intro a ha; cases ha
  · intro a ha; cases ha
  · have := HH.out.2.1
    simp
    omega
end Go.Proofs.YtmgbcmogdjhacaaDoor
