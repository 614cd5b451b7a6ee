/-
  What the document's Lent, Kept and Spoil come to: the walks.
-/
import Derived.Test.YtpnocmfpdfpmgaaDoorKnown
namespace Go.Proofs.YtpnocmfpdfpmgaaDoor
open Go.RowKit

/-- bytes with a mark behind them, at the head of a row of their own -/
def LentAs (w : World) (base : Nat) (v : Value) (l : List UInt8) : Prop :=
  ∃ g cap, v = .slice (some ⟨g, 0, none⟩) l.length cap ∧ base ≤ g ∧ Rd w (.slice (some ⟨g, 0, none⟩) (l.length + 1) cap) (l ++ [77])

theorem LentAs.rd {w : World} {base : Nat} {v : Value} {l : List UInt8} (h : LentAs w base v l) : Rd w v l := by
  obtain ⟨g, cap, rfl, -, a, c, hv, h1, h2, h3, h4⟩ := h
  simp only [Value.slice.injEq] at hv
  obtain ⟨rfl, -, rfl⟩ := hv
  simp only [List.length_append, List.length_cons, List.length_nil] at h1
  refine ⟨_, _, rfl, by omega, h2, ?_, h4⟩
  intro j hj
  obtain ⟨b, o, hb, hc⟩ := h3 j (by simp; omega)
  refine ⟨b, o, hb, ?_⟩
  have e : (l ++ [77]).getD j 0 = l.getD j 0 := by simp only [List.getD, List.getElem?_append_left hj]
  rw [hc, e]
theorem LentAs.keep {w w' : World} {base : Nat} {v : Value} {l : List UInt8} (h : LentAs w base v l) (hg : w.grownBy w' none) : LentAs w' base v l := by
  obtain ⟨g, cap, rfl, hb, hr⟩ := h
  exact ⟨g, cap, rfl, hb, hr.keep hg⟩

set_option maxHeartbeats 1600000 in
theorem lent_any (v : Value) (l : List UInt8) (w : World) (hv : Rd w v l) (hsz : l.length ≤ 175921850000000) :
    Calls Tryd.prog 9 #[v] w fun e w' => ∃ v', e = .returned v' ∧ LentAs w' w.heap.size v' l ∧ w.grownBy w' none := by
  have hv2 : Hid (Rd w v l) := hv
  obtain ⟨a, c, rfl, -, -, -, -⟩ := hv
  go_enter Tryd.func9, Tryd.ntmps9
  go_wp2_with (at_builtin; refine wp_app rfl _ _ rfl w.heap.size _ _ [] l rfl rfl (Own.nil _ _) hv2.out ?c1 ?c2 ?_)
  case c1 => first | omega | (simp; omega)
  case c2 => omega
  intro v1 w1 ho1 hf1
  have H1 : Hid (Own w1 w.heap.size v1 l ∧ w.grownBy w1 none) := ⟨by simpa using ho1, hf1.1⟩
  clear ho1 hf1
  go_wp2_with (at_builtin; refine wp_app rfl _ _ rfl w.heap.size _ _ l [77] rfl rfl (H1.out.1.keep (alloc_gb _ _)) (Rd_lit _ [77] 1 rfl (by simp) _ rfl) ?c3 ?c4 ?_)
  case c3 => first | omega | (simp; omega)
  case c4 => have := H1.out.2.size; first | omega | (simp; omega)
  intro v2 w2 ho2 hf2
  have H2 : Hid (Own w2 w.heap.size v2 (l ++ [77]) ∧ w.grownBy w2 none) := ⟨ho2, gb_new H1.out.2 (Fr.pre (alloc_gb _ _) hf2).1 (fun k hk => (H1.out.1.lt k hk).1)⟩
  clear ho2 hf2 H1 hv2
  obtain ⟨g, cap, hv2, hg0, hg1, hcap, hcm, -⟩ := H2.out.1.form (by simp)
  subst hv2
  simp only [List.length_append, List.length_cons, List.length_nil, Nat.zero_add] at hcap
  have HR : Hid (LentAs w2 w.heap.size (.slice (some ⟨g, 0, none⟩) l.length cap) l) := ⟨g, cap, rfl, hg0, by simpa using H2.out.1.rd⟩
  have hle : l.length ≤ cap := by omega
  unfold maxLen at hcm
  go_wp2
  all_goals go_ret
  all_goals exact ⟨_, rfl, HR.out, H2.out.2⟩

set_option maxHeartbeats 1600000 in
theorem kept_any (v u : Value) (base : Nat) (l : List UInt8) (w : World) (hv : LentAs w base v l) (hu : Rd w u l) :
    Calls Tryd.prog 20 #[v, u] w fun e w' => e = .returned (.bool true) ∧ w.grownBy w' none := by
  have hv2 : Hid (Rd w v l) := hv.rd
  have hu2 : Hid (Rd w u l) := hu
  obtain ⟨g, cap, rfl, -, hr⟩ := hv
  obtain ⟨a, c, rfl, -, -, -, -⟩ := hu
  obtain ⟨a', c', he, h1, h2, h3, -⟩ := hr
  simp only [Value.slice.injEq] at he
  obtain ⟨rfl, -, rfl⟩ := he
  simp only [List.length_append, List.length_cons, List.length_nil, Nat.zero_add] at h1
  obtain ⟨b, o, hb, hc⟩ := h3 l.length (by simp)
  simp only [Option.some.injEq, Addr.mk.injEq, and_true] at hb
  obtain ⟨rfl, rfl⟩ := hb
  have hc' : w.cell? ⟨g, l.length, none⟩ = some (.int .u8 77) := by
    rw [Nat.zero_add] at hc
    rw [hc]
    simp
  clear hc h3
  unfold maxLen at h2
  have HC : Hid (∀ w', w.grownBy w' none → w'.cell? ⟨g, l.length, none⟩ = some (.int .u8 77)) := fun w' hg => cell_keep hc' hg
  clear hc'
  go_enter Tryd.func20, Tryd.ntmps20
  go_wp2_with fail
  refine (same_any _ _ l l _ hv2.out hu2.out).mono ?_
  rintro e w1 ⟨he, hg⟩
  rw [decide_eq_true rfl] at he
  subst he
  have HG : Hid (w.grownBy w1 none) := hg
  have hc := HC.out w1 hg
  clear hg
  go_wp2
  all_goals go_ret
  all_goals exact ⟨rfl, HG.out⟩

theorem Own.set {w : World} {base g cap : Nat} {l : List UInt8} (h : Own w base (.slice (some ⟨g, 0, none⟩) l.length cap) l) (j : Nat) (b : UInt8) : Own (w.setCell ⟨g, j, none⟩ (.int .u8 (b.toNat : Int))) base (.slice (some ⟨g, 0, none⟩) (l.set j b).length cap) (l.set j b) := by
  have := World.ownsRow.stored h j (bv b)
  unfold Own
  rw [List.length_set, List.map_set]
  exact this.1
theorem gb_set (w : World) (g j : Nat) (u : Value) : w.grownBy (w.setCell ⟨g, j, none⟩ u) (some g) :=
  ⟨rfl, rfl, rfl, by simp, fun k _ hk => Below.heap_setCell _ _ _ _ (fun e => hk (by rw [e]))⟩
theorem xor90 (b : UInt8) : bits .xor .u8 (b.toNat : Int) 90 = ((b ^^^ 90).toNat : Int) := by
  have h := u8_xor_nat b.toNat 90 b.toNat_lt (by decide)
  rw [UInt8.toNat_xor]
  exact h

set_option maxHeartbeats 1600000 in
theorem spoil_any (v : Value) (base : Nat) (l : List UInt8) (w : World) (hv : Own w base v l) (hb : base ≤ w.heap.size) (hsz : l.length ≤ 175921850000000) :
    Calls Tryd.prog 15 #[v] w fun e w' => e = .returned (.tuple #[]) ∧ w.grownBy w' v.ownBlock := by
  have hv2 : Hid (Own w base v l) := hv
  obtain ⟨a, c, rfl⟩ := hv.shape
  clear hv
  generalize hN : l.length = n at *
  have HN : Hid (l.length = n) := hN
  clear hN
  go_enter Tryd.func15, Tryd.ntmps15
  go_wp2
  go_loopw [2] (fun i wr => ∃ k : Nat, k ≤ n ∧ i = .int .i64 k ∧ Hid (∃ m : List UInt8, m.length = n ∧ Own wr base (.slice a n c) m ∧ w.grownBy wr (Value.ownBlock (.slice a n c)))) (fun i _ => n - (intOf i).toNat)
  case atStart => exact ⟨0, by omega, rfl, l, HN.out, hv2.out, gb_refl _ _⟩
  case round =>
    obtain ⟨k, hk, rfl, hr⟩ := hrel
    obtain ⟨m, hm, ho, hg⟩ := hr.out
    have H : Hid (m.length = n ∧ Own wr base (.slice a n c) m ∧ w.grownBy wr (Value.ownBlock (.slice a n c))) := ⟨hm, ho, hg⟩
    clear hr hm ho hg hv2
    by_cases hlt : k < n
    · obtain ⟨g, cap, he, hg0, hg1, hcap, hcm, hcell⟩ := H.out.2.1.form (by intro h; have := H.out.1; rw [h] at this; simp at this; omega)
      simp only [Value.slice.injEq] at he
      obtain ⟨rfl, -, rfl⟩ := he
      have hc := hcell k (by rw [H.out.1]; exact hlt)
      have hf : wr.frozen? ⟨g, k, none⟩ = false := by
        have h1 := H.out.2.1
        unfold Own at h1
        rw [H.out.1] at h1
        exact World.ownsRow.frozenAt h1 k
      have hx := xor90 (m.getD k 0)
      have hst : Hid (∃ m' : List UInt8, m'.length = n ∧ Own (wr.setCell ⟨g, k, none⟩ (.int .u8 (((m.getD k 0) ^^^ 90).toNat : Int))) base (.slice (some ⟨g, 0, none⟩) n c) m' ∧ w.grownBy (wr.setCell ⟨g, k, none⟩ (.int .u8 (((m.getD k 0) ^^^ 90).toNat : Int))) (Value.ownBlock (.slice (some ⟨g, 0, none⟩) n c))) := by
        refine ⟨m.set k (m.getD k 0 ^^^ 90), by rw [List.length_set]; exact H.out.1, ?_, gb_trans H.out.2.2 (gb_set _ _ _ _) (fun k' hk' _ => hk'.symm)⟩
        have h1 := H.out.2.1
        rw [← H.out.1] at h1
        have h2 := h1.set k (m.getD k 0 ^^^ 90)
        rwa [List.length_set, H.out.1] at h2
      clear hcell H hg0 hg1 hcap hcm
      generalize m.getD k 0 ^^^ 90 = b2 at *
      generalize m.getD k 0 = b1 at *
      go_wp2
      go_roundw
      case rel => exact ⟨k + 1, by omega, by go_num, hst⟩
      case measure => simp [intOf]; omega
    · go_wp2_with (at_builtin; refine wp_app rfl _ _ rfl base _ _ m [99] rfl rfl (H.out.2.1.keep (alloc_gb _ _)) (Rd_lit _ [99] 1 rfl (by simp) _ rfl) ?c1 ?c2 ?_)
      case c1 => have := H.out.1; have := HN.out; first | omega | (simp; omega)
      case c2 => have := H.out.2.2.size; first | omega | (simp; omega)
      intro v2 w2 ho2 hf2
      have hf3 := Fr.pre (alloc_gb _ _) hf2
      obtain ⟨g2, cap2, rfl, hg0, hg1, hcap, hcm, hcell⟩ := ho2.form (by simp)
      have hlen : (m ++ [99]).length = n + 1 := by have := H.out.1; simp; omega
      rw [hlen] at hcap hcell
      have hc := hcell n (by omega)
      have hfz : w2.frozen? ⟨g2, n, none⟩ = false := by
        have h1 := ho2
        unfold Own at h1
        exact World.ownsRow.frozenAt h1 n
      have HF : Hid (w.grownBy (w2.setCell ⟨g2, n, none⟩ (.int .u8 98)) (Value.ownBlock (.slice a n c))) := by
        refine gb_trans (gb_trans H.out.2.2 hf3.1 (fun k' hk' _ => hk'.symm)) (gb_set _ _ _ _) (fun k' hk' hlt' => ?_)
        rcases hf3.2 k' (by simpa [Value.ownBlock] using hk') with h | h
        · exact h
        · have := H.out.2.2.size; omega
      generalize ((m ++ [99]).getD n 0).toNat = q at *
      rw [hlen]
      clear hcell ho2 hf2 hf3 H hg0 hg1 hlen
      unfold maxLen at hcm
      go_wp2
      go_end0
      exact ⟨rfl, HF.out⟩
end Go.Proofs.YtpnocmfpdfpmgaaDoor
