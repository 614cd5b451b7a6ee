/-
  Bytes laid into a file that is not there yet, and behind those of one that is: the walks, with all that they write.
-/
import Derived.Test.YtgafmplmngbbfaaDiskO
namespace Go.Proofs.Ytgafmplmngbbfaa
open Go.RowKit Go.Maps Go.WideMaps

set_option maxRecDepth 8000 in
set_option maxHeartbeats 3200000 in
theorem append_newB (gd gm n : Nat) (D : DataW Unit) (l b : List UInt8) (v : Value) (w : World) (hl : l.length ≤ 9223372036854775807) (hok : nameOk l = true) (hc : w.cell? ⟨gd, 0, none⟩ = some (.map (some gm)))
    (hown : w.ownsMap Try.prog 9 ptrElem gm n D) (hn : n < 1099511627776) (hhas : Maps.has D (.string l) = false) (hat : D.atKey (.string l) (.lit (.int .i64 (-1))) = .lit (.int .i64 (-1))) (hsz : (Maps.size D : Int) < 256)
    (hv : Rd w v b) (hb : b.length ≤ 1048576) :
    Calls Try.prog 17 #[.pointer (some ⟨gd, 0, none⟩), .string (ByteArray.mk ⟨l⟩), v] w fun e w' => ∃ u, e = .returned (.int .i64 0) ∧ w'.heap[w.heap.size]? = some (.cells #[u, .int .i64 0] 77) ∧ Own w' w.heap.size u b ∧
      w'.ownsMap Try.prog 9 ptrElem gm (n + 1) (D.put (.string l) (.lit (.int .i64 (w.heap.size : Int)))) ∧ w.grownBy w' (some gm) := by
  have HF : Hid (Calls Try.prog 44 #[.pointer (some ⟨gd, 0, none⟩), .string (ByteArray.mk ⟨l⟩)] w fun e w' => e = .returned (.tuple #[.pointer none, .int .i64 5]) ∧ w' = w) := find_none gd gm n D l w hl hok hc hown hhas hat
  have hlen := fun ty => hown.len Try.underlying64 ty
  have HO : Hid (w.ownsMap Try.prog 9 ptrElem gm n D) := hown
  have HL : Hid (l.length ≤ 9223372036854775807 ∧ n < 1099511627776) := ⟨hl, hn⟩
  have HV : Hid (Rd w v b) := hv
  have HB : Hid (b.length ≤ 1048576) := hb
  obtain ⟨a, c, rfl, -, -, -, -⟩ := hv
  have hb2 : ¬ (1048576 : Int) < (b.length : Int) := by omega
  clear hown hhas hat hok hl hn
  have HP := fun w1 (h1 : w1.cell? ⟨gd, 0, none⟩ = some (.map (some gm))) h2 => put_any gd gm n w.heap.size D l w1 HL.out.1 (by have := HL.out.2; unfold maxLen; omega) h1 h2
  generalize ByteArray.mk ⟨l⟩ = s at *
  generalize hS : Maps.size D = S at *
  clear hS
  go_enter Try.func17, Try.ntmps17
  go_wp2_with fail
  refine HF.out.mono ?_
  rintro e w1 ⟨rfl, hw1⟩
  rw [hw1]
  clear hw1 w1
  go_wp2_with (at_builtin; refine wp_app rfl _ _ rfl w.heap.size _ _ [] b rfl rfl (Own.nil _ _) (HV.out.keep (World.grownBy_alloc _ _ none)) ?c1 ?c2 ?_)
  case c1 => have := HB.out; first | omega | (simp; omega)
  case c2 => simp
  intro v1 w1 ho1 hf1
  have hg1 : (w.alloc (.cells #[.slice none 0 0, .int .i64 0] 77)).grownBy w1 none := hf1.1
  have hblk : w1.heap[w.heap.size]? = some (.cells #[.slice none 0 0, .int .i64 0] 77) := by
    rw [hg1.block w.heap.size (by simp) (by simp)]
    exact alloc_at _ _
  have d0 : w1.cell? ⟨w.heap.size, 0, none⟩ = some (.slice none 0 0) := by simp [World.cell?, hblk]
  have df : w1.frozen? ⟨w.heap.size, 0, none⟩ = false := by simp [World.frozen?, hblk]
  have hne : ∀ k, v1.ownBlock = some k → w.heap.size < k := fun k hk => by
    rcases hf1.2 k hk with h | h
    · cases h
    · simp at h; omega
  try rw [List.nil_append] at ho1
  obtain ⟨a1, c1, hv1⟩ := ho1.shape
  subst hv1
  have HG : Hid (Own w1 w.heap.size (.slice a1 b.length c1) b ∧ w.grownBy w1 none ∧ w1.heap[w.heap.size]? = some (.cells #[.slice none 0 0, .int .i64 0] 77) ∧ ∀ k, (Value.slice a1 b.length c1).ownBlock = some k → w.heap.size < k) := ⟨ho1, gb_none (World.grownBy_alloc _ _ none) hg1, hblk, hne⟩
  have hdc : w1.cell? ⟨gd, 0, none⟩ = some (.map (some gm)) := by
    rw [← hc]
    exact World.cell?_of_block (HG.out.2.1.block gd (block_lt hc) (by simp))
  clear ho1 hf1 hg1 hblk hne
  have HQ : Hid (∃ w2, w2 = w1.setCell ⟨w.heap.size, 0, none⟩ (.slice a1 b.length c1) ∧ w2.cell? ⟨gd, 0, none⟩ = some (.map (some gm)) ∧ w2.ownsMap Try.prog 9 ptrElem gm n D ∧ Own w2 w.heap.size (.slice a1 b.length c1) b ∧ w.grownBy w2 none ∧ w2.heap[w.heap.size]? = some (.cells #[.slice a1 b.length c1, .int .i64 0] 77)) := by
    have g2 : w1.grownBy (w1.setCell ⟨w.heap.size, 0, none⟩ (.slice a1 b.length c1)) (some w.heap.size) := ⟨rfl, rfl, rfl, by simp, fun k _ hk => Below.heap_setCell _ _ _ _ (fun e => hk (by rw [e]))⟩
    have hlt := HO.out.lt
    have hgd := block_lt hc
    refine ⟨_, rfl, ?_, ?_, ?_, ?_, ?_⟩
    · rw [← hdc]
      exact World.cell?_of_block (g2.block gd (by have := HG.out.2.1.size; omega) (by simp; omega))
    · exact (HO.out.kept HG.out.2.1 (by simp)).kept g2 (by simp; omega)
    · refine HG.out.1.kept g2 ?_
      cases hk : (Value.slice a1 b.length c1).ownBlock with
      | none => exact .inl rfl
      | some k => right; have := HG.out.2.2.2 k hk; simp; omega
    · exact gb_new HG.out.2.1 g2 (fun k hk => by cases hk; exact Nat.le_refl _)
    · exact block_set _ _ _ _ _ _ HG.out.2.2.1
  obtain ⟨w2, hw2, q1, q2, q3, q4, q5⟩ := HQ.out
  have HW : Hid (w2 = w1.setCell ⟨w.heap.size, 0, none⟩ (.slice a1 b.length c1)) := hw2
  have HP2 : Hid (Calls Try.prog 45 #[.pointer (some ⟨gd, 0, none⟩), .string s, .pointer (some ⟨w.heap.size, 0, none⟩)] w2 fun e w' => e = .returned (.tuple #[]) ∧ w'.ownsMap Try.prog 9 ptrElem gm (n + 1) (D.put (.string l) (.lit (.int .i64 (w.heap.size : Int)))) ∧ w2.grownBy w' (some gm)) := HP w2 q1 q2
  have H2 : Hid (Own w2 w.heap.size (.slice a1 b.length c1) b ∧ w.grownBy w2 none ∧ w2.heap[w.heap.size]? = some (.cells #[.slice a1 b.length c1, .int .i64 0] 77)) := ⟨q3, q4, q5⟩
  clear hw2 q1 q2 q3 q4 q5 HQ HP
  go_wp2_with fail
  rw [← HW.out]
  refine HP2.out.mono ?_
  rintro e w3 ⟨rfl, ho3, hg3⟩
  have hlt := HO.out.lt
  have hs2 := H2.out.2.1.size
  have H3 : Hid (∃ u, w3.heap[w.heap.size]? = some (.cells #[u, .int .i64 0] 77) ∧ Own w3 w.heap.size u b ∧ w3.ownsMap Try.prog 9 ptrElem gm (n + 1) (D.put (.string l) (.lit (.int .i64 (w.heap.size : Int)))) ∧ w.grownBy w3 (some gm)) := by
    have hb3 := hg3.block w.heap.size (some_lt H2.out.2.2) (by simp; omega)
    refine ⟨_, by rw [hb3]; exact H2.out.2.2, ?_, ho3, ?_⟩
    · refine H2.out.1.kept hg3 ?_
      cases hk : (Value.slice a1 b.length c1).ownBlock with
      | none => exact .inl rfl
      | some k => right; have := HG.out.2.2.2 k hk; simp; omega
    · exact gb_trans (gb_any H2.out.2.1 (some gm)) hg3 (fun k hk _ => hk.symm)
  clear ho3 hg3 hlt hs2
  go_wp2
  go_ret
  obtain ⟨u, h⟩ := H3.out
  exact ⟨u, rfl, h⟩
end Go.Proofs.Ytgafmplmngbbfaa
