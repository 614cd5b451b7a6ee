/-
  A chunk as the samples that it has: New, Append, Len, Bytes, Encode: the walks.
-/
import Derived.Test.YtnaccmbnblokmaaDoorCkY
namespace Go.Proofs.YtnaccmbnblokmaaDoor
open Go.RowKit

theorem hidJ {p : Prop} (h : p) : Hid p := h
/-- what lies outside S stays -/
def Ch (w w' : World) (S : Nat → Prop) : Prop := w'.os = w.os ∧ w'.tape = w.tape ∧ w'.output = w.output ∧ w.heap.size ≤ w'.heap.size ∧ ∀ k, k < w.heap.size → ¬ S k → w'.heap[k]? = w.heap[k]?
/-- S, and what is new -/
def Gr (S : Nat → Prop) (w w' : World) : Nat → Prop := fun k => S k ∨ (w.heap.size ≤ k ∧ k < w'.heap.size)
theorem Ch.refl (w : World) (S : Nat → Prop) : Ch w w S := ⟨rfl, rfl, rfl, Nat.le_refl _, fun _ _ _ => rfl⟩
theorem Ch.size {w w' : World} {S : Nat → Prop} (h : Ch w w' S) : w.heap.size ≤ w'.heap.size := h.2.2.2.1
theorem Ch.block {w w' : World} {S : Nat → Prop} (h : Ch w w' S) {k : Nat} (hk : k < w.heap.size) (hs : ¬ S k) : w'.heap[k]? = w.heap[k]? := h.2.2.2.2 k hk hs
theorem Ch.trans {w w1 w2 : World} {S T : Nat → Prop} (h1 : Ch w w1 S) (h2 : Ch w1 w2 T) (hT : ∀ k, k < w.heap.size → T k → S k) : Ch w w2 S :=
  ⟨h2.1.trans h1.1, h2.2.1.trans h1.2.1, h2.2.2.1.trans h1.2.2.1, Nat.le_trans h1.size h2.size, fun k hk hs => (h2.block (Nat.lt_of_lt_of_le hk h1.size) (fun e => hs (hT k hk e))).trans (h1.block hk hs)⟩
theorem Ch.mono {w w' : World} {S T : Nat → Prop} (h : Ch w w' S) (hT : ∀ k, k < w.heap.size → S k → T k) : Ch w w' T :=
  ⟨h.1, h.2.1, h.2.2.1, h.size, fun k hk hs => h.block hk (fun e => hs (hT k hk e))⟩
theorem Ch.of_gb {w w' : World} {g : Option Nat} {S : Nat → Prop} (h : w.grownBy w' g) (hg : ∀ k, g = some k → k < w.heap.size → S k) : Ch w w' S :=
  ⟨h.os, h.tape, h.output, h.size, fun k hk hs => h.block k hk (fun e => hs (hg k e.symm hk))⟩
theorem Ch.gb {w w' : World} {S : Nat → Prop} (h : Ch w w' S) (hs : ∀ k, k < w.heap.size → ¬ S k) : w.grownBy w' none :=
  ⟨h.1, h.2.1, h.2.2.1, h.size, fun k hk _ => h.block hk (hs k hk)⟩
theorem Ch.of_fw {w w' : World} {g : Nat} {v v' : Value} {S : Nat → Prop} (h : Fw w w' g v v') (hg : S g) (hv : ∀ k, v.ownBlock = some k → S k) : Ch w w' S :=
  ⟨h.os, h.tape, h.output, h.size, fun k hk hs => h.block k hk (fun e => hs (by rw [e]; exact hg)) (fun e => hs (hv k e.symm))⟩
theorem Rd.ch {w w' : World} {v : Value} {l : List UInt8} {S : Nat → Prop} (h : Rd w v l) (hc : Ch w w' S) (hs : ∀ k, v.ownBlock = some k → k < w.heap.size → ¬ S k) : Rd w' v l := by
  obtain ⟨a, c, rfl, h1, h2, h3, h4⟩ := h
  refine ⟨a, c, rfl, h1, h2, fun j hj => ?_, h4⟩
  obtain ⟨b, o, rfl, hx⟩ := h3 j hj
  refine ⟨b, o, rfl, ?_⟩
  rw [← hx]
  exact World.cell?_of_block (hc.block (block_lt hx) (hs b rfl (block_lt hx)))
/-- both tables -/
def Tk (w : World) : Prop := TabC w ∧ TabZ w
theorem Tk.keep {w w' : World} (h : Tk w) (hg : w.grownBy w' none) : Tk w' := ⟨h.1.keep hg, h.2.keep hg⟩
theorem Tk.lt {w : World} (h : Tk w) : 1 < w.heap.size ∧ 2 < w.heap.size := ⟨block_lt (h.1 0 (by omega)), block_lt (h.2 0 (by decide))⟩
def Far (S : Nat → Prop) : Prop := ¬ S 1 ∧ ¬ S 2
theorem Tk.ch {w w' : World} {S : Nat → Prop} (h : Tk w) (hc : Ch w w' S) (hf : Far S) : Tk w' := by
  refine ⟨fun j hj => ?_, fun j hj => ?_⟩
  · rw [← h.1 j hj]
    exact World.cell?_of_block (hc.block (block_lt (h.1 j hj)) hf.1)
  · rw [← h.2 j hj]
    exact World.cell?_of_block (hc.block (block_lt (h.2 j hj)) hf.2)
theorem Far.gr {S : Nat → Prop} {w w' : World} (h : Far S) (ht : Tk w) : Far (Gr S w w') := by
  have := ht.lt
  refine ⟨fun e => ?_, fun e => ?_⟩
  · rcases e with e | e
    · exact h.1 e
    · omega
  · rcases e with e | e
    · exact h.2 e
    · omega

/-- a chunk at block g that has these samples; its blocks are of S -/
structure CkO (w : World) (S : Nat → Prop) (g : Nat) (l : List SmpT) : Prop where
  inS : S g
  ok : okL startP l
  here : ∃ v, Wr (pst (stA startP l)) w g v (encB startP l) ∧ (∀ k, v.ownBlock = some k → S k) ∧ (l = [] → v = .slice none 0 0)
theorem CkO.len {w : World} {S : Nat → Prop} {g : Nat} {l : List SmpT} (h : CkO w S g l) : l.length ≤ 120 := by
  have := (stA_ok startOk h.ok).most
  rw [stA_n] at this
  simpa [startP] using this
theorem CkO.mono {w : World} {S T : Nat → Prop} {g : Nat} {l : List SmpT} (h : CkO w S g l) (hT : ∀ k, S k → T k) : CkO w T g l := by
  obtain ⟨v, h1, h2, h3⟩ := h.here
  exact ⟨hT _ h.inS, h.ok, v, h1, fun k hk => hT _ (h2 k hk), h3⟩
theorem CkO.lt {w : World} {S : Nat → Prop} {g : Nat} {l : List SmpT} (h : CkO w S g l) : g < w.heap.size := by
  obtain ⟨v, h1, _⟩ := h.here
  exact h1.cells.2.2.2.2
theorem CkO.frame {w w' : World} {S T : Nat → Prop} {g : Nat} {l : List SmpT} (h : CkO w S g l) (hc : Ch w w' T) (hT : ∀ k, k < w.heap.size → S k → ¬ T k) : CkO w' S g l := by
  obtain ⟨v, h1, h2, h3⟩ := h.here
  have hg := h.lt
  refine ⟨h.inS, h.ok, v, ⟨(hc.block hg (hT g hg h.inS)).trans h1.1, ?_⟩, h2, h3⟩
  have ho := h1.2
  refine ⟨ho.1, ?_⟩
  rcases ho.2 with q | ⟨b, cap, cur, q1, q2, q3, q4⟩
  · exact .inl q
  · have hb : b < w.heap.size := (Array.getElem?_eq_some_iff.1 q3).1
    exact .inr ⟨b, cap, cur, q1, q2, (hc.block hb (hT b hb (h2 b (by rw [q1]; rfl)))).trans q3, q4⟩
theorem CkO.keep {w w' : World} {S : Nat → Prop} {g : Nat} {l : List SmpT} (h : CkO w S g l) (hg : w.grownBy w' none) : CkO w' S g l := h.frame (Ch.of_gb (S := fun _ => False) hg (fun _ hk => by cases hk)) (fun _ _ _ e => e)
theorem ckNew_any (w : World) : Calls Tryd.prog 9 #[] w fun e w' => ∃ g, e = .returned (.pointer (some ⟨g, 0, none⟩)) ∧ CkO w' (fun k => w.heap.size ≤ k ∧ k < w'.heap.size) g [] ∧ w.grownBy w' none :=
  (chunkNew_any w).mono fun e w' ⟨g, h1, h2, h3, h4⟩ => ⟨g, h1, ⟨⟨h4, h2.cells.2.2.2.2⟩, trivial, .slice none 0 0, h2, fun k hk => by simp [Value.ownBlock] at hk, fun _ => rfl⟩, h3⟩
/-- put, whatever the sample -/
theorem ckPut_any (w : World) (S : Nat → Prop) (g : Nat) (l : List SmpT) (t : Int) (f : Nat) (h : CkO w S g l) (hT : Tk w) (hS : Far S) (hw : wrongN (stA startP l) t = 0) (hf : f < 18446744073709551616) :
    Calls Tryd.prog 32 #[.pointer (some ⟨g, 0, none⟩), .agg #[.int .i64 t, .float .f64 f]] w fun e w' => e = .returned (.tuple #[]) ∧ CkO w' (Gr S w w') g (l ++ [(t, f)]) ∧ Ch w w' S := by
  have hlen := h.len
  have hst := stA_ok startOk h.ok
  have hok := wrongN_ok hw hst.most
  have hbl := encB_len startOk h.ok
  obtain ⟨v, h1, h2, h3⟩ := h.here
  have fin : ∀ (Q : Ending → World → Prop), Calls Tryd.prog 32 #[.pointer (some ⟨g, 0, none⟩), .agg #[.int .i64 t, .float .f64 f]] w (fun e w' => e = .returned (.tuple #[]) ∧ ∃ v', Wr (pst (nextP (stA startP l) t f)) w' g v' (encB startP l ++ smpB (stA startP l) t f) ∧ Fw w w' g v v') → (∀ e w', (e = .returned (.tuple #[]) ∧ CkO w' (Gr S w w') g (l ++ [(t, f)]) ∧ Ch w w' S) → Q e w') → Calls Tryd.prog 32 #[.pointer (some ⟨g, 0, none⟩), .agg #[.int .i64 t, .float .f64 f]] w Q := fun Q hc hQ => by
    refine hc.mono ?_
    rintro e w' ⟨q1, v', q2, q3⟩
    refine hQ e w' ⟨q1, ⟨.inl h.inS, okL_snoc.2 ⟨h.ok, hw, hf⟩, v', ?_, fun k hk => ?_, fun e => by simp at e⟩, Ch.of_fw q3 h.inS h2⟩
    · rw [stA_snoc, encB_snoc]
      exact q2
    · rcases q3.own _ hk with e | e
      · exact .inl (h2 k e.symm)
      · have hlt := q2.2.lt k hk
        exact .inr ⟨by omega, hlt.2⟩
  refine fin _ ?_ (fun e w' hq => hq)
  have hv1 : v.ownBlock ≠ some 1 := fun e => hS.1 (h2 _ e)
  have hv2 : v.ownBlock ≠ some 2 := fun e => hS.2 (h2 _ e)
  have hg1 : g ≠ 1 := fun e => hS.1 (by rw [← e]; exact h.inS)
  have hg2 : g ≠ 2 := fun e => hS.2 (by rw [← e]; exact h.inS)
  by_cases h0 : l = []
  · have hv := h3 h0
    subst h0
    subst hv
    refine (put_first g f t w h1 hf hok.1).mono ?_
    rintro e w' ⟨q1, v', q2, q3⟩
    refine ⟨q1, v', ?_, q3⟩
    have e : pst (nextP (stA startP []) t f) = past 1 t f t false 0 0 := by
      unfold pst nextP smpW
      simp [stA, startP]
    rw [e]
    exact q2
  · have hn0 : (stA startP l).n = l.length := by rw [stA_n]; simp [startP]
    have hlp : 0 < l.length := List.length_pos_iff.2 h0
    have hlt : (stA startP l).t < t := by rcases hok.2.1 with e | e; omega; exact e
    by_cases hn1 : (stA startP l).n = 1
    · exact put_two g v _ (stA startP l) t f w h1 hst ⟨hT.1, hT.2, hg1, hg2, hv1, hv2⟩ hn1 ⟨hlt, hok.1.2⟩ hf (by omega)
    · exact put_more g v _ (stA startP l) t f w h1 hst ⟨hT.1, hT.2, hg1, hg2, hv1, hv2⟩ (by omega) ⟨hlt, hok.1.2⟩ hf (by omega)
end Go.Proofs.YtnaccmbnblokmaaDoor
