/-
  Bytes laid behind those of a file that is there: the walk, with all that it writes.
-/
import Derived.Test.YtgafmplmngbbfaaDiskA2
namespace Go.Proofs.Ytgafmplmngbbfaa
open Go.RowKit Go.Maps Go.WideMaps

set_option maxRecDepth 8000 in
set_option maxHeartbeats 3200000 in
theorem append_thereB (w : World) (gd gm n gf : Nat) (D : DataW Unit) (l b c : List UInt8) (u v z : Value) (hl : l.length ≤ 9223372036854775807) (hok : nameOk l = true) (hc : w.cell? ⟨gd, 0, none⟩ = some (.map (some gm)))
    (hown : w.ownsMap Try.prog 9 ptrElem gm n D) (hn : n < 1099511627776) (hhas : Maps.has D (.string l) = true) (hat : D.atKey (.string l) (.lit (.int .i64 (-1))) = .lit (.int .i64 (gf : Int)))
    (hblk : w.heap[gf]? = some (.cells #[u, z] 77)) (ho : Own w 0 u c)
    (n1 : u.ownBlock ≠ some gf) (n2 : u.ownBlock ≠ some gd) (n3 : gd ≠ gf) (hv : Rd w v b) (hb : c.length + b.length ≤ 1048576) :
    Calls Try.prog 17 #[.pointer (some ⟨gd, 0, none⟩), .string (ByteArray.mk ⟨l⟩), v] w fun e w' => ∃ u', e = .returned (.int .i64 0) ∧ w'.heap[gf]? = some (.cells #[u', z] 77) ∧ Own w' 0 u' (c ++ b) ∧
      (∀ k, u'.ownBlock = some k → some k = u.ownBlock ∨ w.heap.size ≤ k) ∧ w'.ownsMap Try.prog 9 ptrElem gm (n + 1) (D.put (.string l) (.lit (.int .i64 (gf : Int)))) ∧ Ch w w' (fun k => k = gf ∨ k = gm ∨ u.ownBlock = some k) := by
  have HF : Hid (Calls Try.prog 44 #[.pointer (some ⟨gd, 0, none⟩), .string (ByteArray.mk ⟨l⟩)] w fun e w' => e = .returned (.tuple #[.pointer (some ⟨gf, 0, none⟩), .int .i64 0]) ∧ w' = w) := find_there gd gm n gf D l w hl hok hc hown hhas hat
  have HP := fun w1 (h1 : w1.cell? ⟨gd, 0, none⟩ = some (.map (some gm))) h2 => put_any gd gm n gf D l w1 hl (by unfold maxLen; omega) h1 h2
  obtain ⟨au, cu, hu⟩ := ho.shape
  subst hu
  have hum : (Value.slice au c.length cu).ownBlock ≠ some gm := by
    intro e
    obtain ⟨es, clock, hm, -⟩ := hown
    rcases ho.2 with ⟨he, _⟩ | ⟨g, cap, cur, he, _, hh, _⟩
    · rw [he] at e; simp [Value.ownBlock] at e
    · rw [he] at e
      simp only [Value.ownBlock, Option.some.injEq] at e
      subst e
      rw [hm] at hh
      simp at hh
  have hmf : gm ≠ gf := by
    intro e
    obtain ⟨es, clock, hm, -⟩ := hown
    rw [e, hblk] at hm
    simp at hm
  have hmd : gd ≠ gm := by
    intro e
    obtain ⟨es, clock, hm, -⟩ := hown
    subst e
    simp [World.cell?, hm] at hc
  have HA : Hid (w.ownsMap Try.prog 9 ptrElem gm n D ∧ Own w 0 (.slice au c.length cu) c ∧ Rd w v b ∧ w.heap[gf]? = some (.cells #[.slice au c.length cu, z] 77)) := ⟨hown, ho, hv, hblk⟩
  have HN : Hid ((Value.slice au c.length cu).ownBlock ≠ some gf ∧ (Value.slice au c.length cu).ownBlock ≠ some gd ∧ gd ≠ gf ∧ (Value.slice au c.length cu).ownBlock ≠ some gm ∧ gm ≠ gf ∧ gd ≠ gm) := ⟨n1, n2, n3, hum, hmf, hmd⟩
  have h0 : w.cell? ⟨gf, 0, none⟩ = some (.slice au c.length cu) := by simp [World.cell?, hblk]
  have HC : Hid (w.cell? ⟨gd, 0, none⟩ = some (.map (some gm))) := hc
  have HB : Hid (c.length + b.length ≤ 1048576) := hb
  have hb2 : ¬ (1048576 : Int) - (c.length : Int) < (b.length : Int) := by omega
  have hcl : (c.length : Int) ≤ 1048576 := by omega
  obtain ⟨a, cv, rfl, -, -, -, -⟩ := hv
  clear hown hhas hat hok hl hn ho n1 n2 n3 hum hmf hmd hblk hb
  generalize ByteArray.mk ⟨l⟩ = s at *
  go_enter Try.func17, Try.ntmps17
  go_wp2_with fail
  refine HF.out.mono ?_
  rintro e w1 ⟨rfl, hw1⟩
  rw [hw1]
  clear hw1 w1
  go_wp2_with (at_builtin; refine wp_app rfl _ _ rfl 0 _ _ c b rfl rfl HA.out.2.1 HA.out.2.2.1 ?c1 ?c2 ?_)
  case c1 => have := HB.out; first | omega | (simp; omega)
  case c2 => exact Nat.zero_le _
  intro v1 w1 ho1 hf1
  obtain ⟨a1, c1, hv1⟩ := ho1.shape
  rw [List.length_append] at hv1
  have hfl : gf < w.heap.size := block_lt h0
  have hdl : gd < w.heap.size := block_lt HC.out
  have hblk1 : w1.heap[gf]? = some (.cells #[.slice au c.length cu, z] 77) := by
    rw [hf1.1.block gf hfl (fun e => HN.out.1 e.symm)]
    exact HA.out.2.2.2
  have d0 : w1.cell? ⟨gf, 0, none⟩ = some (.slice au c.length cu) := by simp [World.cell?, hblk1]
  have df : w1.frozen? ⟨gf, 0, none⟩ = false := by simp [World.frozen?, hblk1]
  have m1 : v1.ownBlock ≠ some gf ∧ v1.ownBlock ≠ some gd ∧ v1.ownBlock ≠ some gm := by
    have hml := HA.out.1.lt
    refine ⟨fun e => ?_, fun e => ?_, fun e => ?_⟩
    · rcases hf1.2 _ e with h | h
      · exact HN.out.1 h.symm
      · omega
    · rcases hf1.2 _ e with h | h
      · exact HN.out.2.1 h.symm
      · omega
    · rcases hf1.2 _ e with h | h
      · exact HN.out.2.2.2.1 h.symm
      · omega
  have hdc : w1.cell? ⟨gd, 0, none⟩ = some (.map (some gm)) := by
    rw [← HC.out]
    exact World.cell?_of_block (hf1.1.block gd hdl (fun e => HN.out.2.1 e.symm))
  have hom := HA.out.1.kept hf1.1 (fun e => HN.out.2.2.2.1 e.symm)
  have g2 := gb_set0 w1 gf 0 v1
  have hs1 := hf1.1.size
  have HQ : Hid (∃ w2, w2 = w1.setCell ⟨gf, 0, none⟩ v1 ∧ w2.cell? ⟨gd, 0, none⟩ = some (.map (some gm)) ∧ w2.ownsMap Try.prog 9 ptrElem gm n D ∧ Own w2 0 v1 (c ++ b) ∧ Ch w w2 (fun k => k = gf ∨ (Value.slice au c.length cu).ownBlock = some k) ∧ w2.heap[gf]? = some (.cells #[v1, z] 77) ∧ v1.ownBlock ≠ some gf ∧ v1.ownBlock ≠ some gd ∧ v1.ownBlock ≠ some gm ∧ ∀ k, v1.ownBlock = some k → some k = (Value.slice au c.length cu).ownBlock ∨ w.heap.size ≤ k) := by
    refine ⟨_, rfl, ?_, hom.kept g2 (fun e => HN.out.2.2.2.2.1 (by cases e; rfl)), ho1.kept g2 (.inr m1.1), (Ch.of_gb hf1.1 (fun k hk _ => Or.inr hk)).trans (Ch.of_gb g2 (fun k hk _ => Or.inl (by cases hk; rfl))) (fun _ _ h => h), block_set _ _ _ _ _ _ hblk1, m1.1, m1.2.1, m1.2.2, fun k hk => hf1.2 k hk⟩
    rw [← hdc]
    exact World.cell?_of_block (g2.block gd (by omega) (fun e => HN.out.2.2.1 (by cases e; rfl)))
  clear ho1 hf1 hblk1 m1 hom g2 hs1 hfl hdl
  obtain ⟨w2, hw2, q1, q2, q3⟩ := HQ.out
  have HW : Hid (w2 = w1.setCell ⟨gf, 0, none⟩ v1) := hw2
  have HP2 : Hid (Calls Try.prog 45 #[.pointer (some ⟨gd, 0, none⟩), .string s, .pointer (some ⟨gf, 0, none⟩)] w2 fun e w' => e = .returned (.tuple #[]) ∧ w'.ownsMap Try.prog 9 ptrElem gm (n + 1) (D.put (.string l) (.lit (.int .i64 (gf : Int)))) ∧ w2.grownBy w' (some gm)) := HP w2 q1 q2
  have H2 : Hid (w2.cell? ⟨gd, 0, none⟩ = some (.map (some gm)) ∧ Own w2 0 v1 (c ++ b) ∧ Ch w w2 (fun k => k = gf ∨ (Value.slice au c.length cu).ownBlock = some k) ∧ w2.heap[gf]? = some (.cells #[v1, z] 77) ∧ v1.ownBlock ≠ some gf ∧ v1.ownBlock ≠ some gd ∧ v1.ownBlock ≠ some gm ∧ ∀ k, v1.ownBlock = some k → some k = (Value.slice au c.length cu).ownBlock ∨ w.heap.size ≤ k) := ⟨q1, q3⟩
  clear hw2 q1 q2 q3 HQ HP
  subst hv1
  go_wp2_with fail
  rw [← HW.out]
  refine HP2.out.mono ?_
  rintro e w3 ⟨rfl, ho3, hg3⟩
  have H3 : Hid (∃ u', w3.heap[gf]? = some (.cells #[u', z] 77) ∧ Own w3 0 u' (c ++ b) ∧ (∀ k, u'.ownBlock = some k → some k = (Value.slice au c.length cu).ownBlock ∨ w.heap.size ≤ k) ∧ w3.ownsMap Try.prog 9 ptrElem gm (n + 1) (D.put (.string l) (.lit (.int .i64 (gf : Int)))) ∧ Ch w w3 (fun k => k = gf ∨ k = gm ∨ (Value.slice au c.length cu).ownBlock = some k)) := by
    have hfl : gf < w2.heap.size := some_lt H2.out.2.2.2.1
    refine ⟨_, ?_, H2.out.2.1.kept hg3 (.inr H2.out.2.2.2.2.2.2.1), H2.out.2.2.2.2.2.2.2, ho3, ?_⟩
    · rw [hg3.block gf hfl (fun e => HN.out.2.2.2.2.1 (by cases e; rfl))]
      exact H2.out.2.2.2.1
    · exact (H2.out.2.2.1.mono (fun k _ h => h.elim Or.inl (fun h => Or.inr (Or.inr h)))).trans (Ch.of_gb hg3 (fun k hk _ => Or.inr (Or.inl (by cases hk; rfl)))) (fun _ _ h => h)
  clear ho3 hg3
  go_wp2
  go_ret
  obtain ⟨u', h⟩ := H3.out
  exact ⟨u', rfl, h⟩
end Go.Proofs.Ytgafmplmngbbfaa
