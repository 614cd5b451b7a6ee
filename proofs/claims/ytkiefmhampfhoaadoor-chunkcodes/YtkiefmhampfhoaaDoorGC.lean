/-
  CkC, CkH, in one text.
-/
import Derived.Test.YtkiefmhampfhoaaDoorCkY
/- CkC -/
namespace Go.Proofs.YtkiefmhampfhoaaDoor
open Go.RowKit

theorem hidJ {p : Prop} (h : p) : Hid p := h
/-- what lies outside S stays -/
def Ch (w w' : World) (S : Nat → Prop) : Prop := w'.os = w.os ∧ w'.tape = w.tape ∧ w'.output = w.output ∧ w.heap.size ≤ w'.heap.size ∧ ∀ k, k < w.heap.size → ¬ S k → w'.heap[k]? = w.heap[k]?
/-- S, and what is new -/
def Gr (S : Nat → Prop) (w w' : World) : Nat → Prop := fun k => S k ∨ (w.heap.size ≤ k ∧ k < w'.heap.size)
theorem Ch.refl (w : World) (S : Nat → Prop) : Ch w w S := ⟨rfl, rfl, rfl, Nat.le_refl _, fun _ _ _ => rfl⟩
theorem Ch.size {w w' : World} {S : Nat → Prop} (h : Ch w w' S) : w.heap.size ≤ w'.heap.size := h.2.2.2.1
theorem Ch.block {w w' : World} {S : Nat → Prop} (h : Ch w w' S) {k : Nat} (hk : k < w.heap.size) (hs : ¬ S k) : w'.heap[k]? = w.heap[k]? := h.2.2.2.2 k hk hs
theorem Ch.trans {w w1 w2 : World} {S T : Nat → Prop} (h1 : Ch w w1 S) (h2 : Ch w1 w2 T) (hT : ∀ k, k < w.heap.size → T k → S k) : Ch w w2 S :=
  ⟨h2.1.trans h1.1, h2.2.1.trans h1.2.1, h2.2.2.1.trans h1.2.2.1, Nat.le_trans h1.size h2.size, fun k hk hs => (h2.block (Nat.lt_of_lt_of_le hk h1.size) (fun e => hs (hT k hk e))).trans (h1.block hk hs)⟩
theorem Ch.mono {w w' : World} {S T : Nat → Prop} (h : Ch w w' S) (hT : ∀ k, k < w.heap.size → S k → T k) : Ch w w' T :=
  ⟨h.1, h.2.1, h.2.2.1, h.size, fun k hk hs => h.block hk (fun e => hs (hT k hk e))⟩
theorem Ch.of_gb {w w' : World} {g : Option Nat} {S : Nat → Prop} (h : w.grownBy w' g) (hg : ∀ k, g = some k → k < w.heap.size → S k) : Ch w w' S :=
  ⟨h.os, h.tape, h.output, h.size, fun k hk hs => h.block k hk (fun e => hs (hg k e.symm hk))⟩
theorem Ch.gb {w w' : World} {S : Nat → Prop} (h : Ch w w' S) (hs : ∀ k, k < w.heap.size → ¬ S k) : w.grownBy w' none :=
  ⟨h.1, h.2.1, h.2.2.1, h.size, fun k hk _ => h.block hk (hs k hk)⟩
theorem Ch.of_fw {w w' : World} {g : Nat} {v v' : Value} {S : Nat → Prop} (h : Fw w w' g v v') (hg : S g) (hv : ∀ k, v.ownBlock = some k → S k) : Ch w w' S :=
  ⟨h.os, h.tape, h.output, h.size, fun k hk hs => h.block k hk (fun e => hs (by rw [e]; exact hg)) (fun e => hs (hv k e.symm))⟩
theorem Rd.ch {w w' : World} {v : Value} {l : List UInt8} {S : Nat → Prop} (h : Rd w v l) (hc : Ch w w' S) (hs : ∀ k, v.ownBlock = some k → k < w.heap.size → ¬ S k) : Rd w' v l := by
  obtain ⟨a, c, rfl, h1, h2, h3, h4⟩ := h
  refine ⟨a, c, rfl, h1, h2, fun j hj => ?_, h4⟩
  obtain ⟨b, o, rfl, hx⟩ := h3 j hj
  refine ⟨b, o, rfl, ?_⟩
  rw [← hx]
  exact World.cell?_of_block (hc.block (block_lt hx) (hs b rfl (block_lt hx)))
/-- both tables -/
def Tk (w : World) : Prop := TabC w ∧ TabZ w
theorem Tk.keep {w w' : World} (h : Tk w) (hg : w.grownBy w' none) : Tk w' := ⟨h.1.keep hg, h.2.keep hg⟩
theorem Tk.lt {w : World} (h : Tk w) : 1 < w.heap.size ∧ 2 < w.heap.size := ⟨block_lt (h.1 0 (by omega)), block_lt (h.2 0 (by decide))⟩
def Far (S : Nat → Prop) : Prop := ¬ S 1 ∧ ¬ S 2
theorem Tk.ch {w w' : World} {S : Nat → Prop} (h : Tk w) (hc : Ch w w' S) (hf : Far S) : Tk w' := by
  refine ⟨fun j hj => ?_, fun j hj => ?_⟩
  · rw [← h.1 j hj]
    exact World.cell?_of_block (hc.block (block_lt (h.1 j hj)) hf.1)
  · rw [← h.2 j hj]
    exact World.cell?_of_block (hc.block (block_lt (h.2 j hj)) hf.2)
theorem Far.gr {S : Nat → Prop} {w w' : World} (h : Far S) (ht : Tk w) : Far (Gr S w w') := by
  have := ht.lt
  refine ⟨fun e => ?_, fun e => ?_⟩
  · rcases e with e | e
    · exact h.1 e
    · omega
  · rcases e with e | e
    · exact h.2 e
    · omega

/-- a chunk at block g that has these samples; its blocks are of S -/
structure CkO (w : World) (S : Nat → Prop) (g : Nat) (l : List SmpT) : Prop where
  inS : S g
  ok : okL startP l
  here : ∃ v, Wr (pst (stA startP l)) w g v (encB startP l) ∧ (∀ k, v.ownBlock = some k → S k) ∧ (l = [] → v = .slice none 0 0)
theorem CkO.len {w : World} {S : Nat → Prop} {g : Nat} {l : List SmpT} (h : CkO w S g l) : l.length ≤ 120 := by
  have := (stA_ok startOk h.ok).most
  rw [stA_n] at this
  simpa [startP] using this
theorem CkO.mono {w : World} {S T : Nat → Prop} {g : Nat} {l : List SmpT} (h : CkO w S g l) (hT : ∀ k, S k → T k) : CkO w T g l := by
  obtain ⟨v, h1, h2, h3⟩ := h.here
  exact ⟨hT _ h.inS, h.ok, v, h1, fun k hk => hT _ (h2 k hk), h3⟩
theorem CkO.lt {w : World} {S : Nat → Prop} {g : Nat} {l : List SmpT} (h : CkO w S g l) : g < w.heap.size := by
  obtain ⟨v, h1, _⟩ := h.here
  exact h1.cells.2.2.2.2
theorem CkO.frame {w w' : World} {S T : Nat → Prop} {g : Nat} {l : List SmpT} (h : CkO w S g l) (hc : Ch w w' T) (hT : ∀ k, k < w.heap.size → S k → ¬ T k) : CkO w' S g l := by
  obtain ⟨v, h1, h2, h3⟩ := h.here
  have hg := h.lt
  refine ⟨h.inS, h.ok, v, ⟨(hc.block hg (hT g hg h.inS)).trans h1.1, ?_⟩, h2, h3⟩
  have ho := h1.2
  refine ⟨ho.1, ?_⟩
  rcases ho.2 with q | ⟨b, cap, cur, q1, q2, q3, q4⟩
  · exact .inl q
  · have hb : b < w.heap.size := (Array.getElem?_eq_some_iff.1 q3).1
    exact .inr ⟨b, cap, cur, q1, q2, (hc.block hb (hT b hb (h2 b (by rw [q1]; rfl)))).trans q3, q4⟩
theorem CkO.keep {w w' : World} {S : Nat → Prop} {g : Nat} {l : List SmpT} (h : CkO w S g l) (hg : w.grownBy w' none) : CkO w' S g l := h.frame (Ch.of_gb (S := fun _ => False) hg (fun _ hk => by cases hk)) (fun _ _ _ e => e)
theorem ckNew_any (w : World) : Calls Tryd.prog 9 #[] w fun e w' => ∃ g, e = .returned (.pointer (some ⟨g, 0, none⟩)) ∧ CkO w' (fun k => w.heap.size ≤ k ∧ k < w'.heap.size) g [] ∧ w.grownBy w' none :=
  (chunkNew_any w).mono fun e w' ⟨g, h1, h2, h3, h4⟩ => ⟨g, h1, ⟨⟨h4, h2.cells.2.2.2.2⟩, trivial, .slice none 0 0, h2, fun k hk => by simp [Value.ownBlock] at hk, fun _ => rfl⟩, h3⟩
/-- put, whatever the sample -/
theorem ckPut_any (w : World) (S : Nat → Prop) (g : Nat) (l : List SmpT) (t : Int) (f : Nat) (h : CkO w S g l) (hT : Tk w) (hS : Far S) (hw : wrongN (stA startP l) t = 0) (hf : f < 18446744073709551616) :
    Calls Tryd.prog 32 #[.pointer (some ⟨g, 0, none⟩), .agg #[.int .i64 t, .float .f64 f]] w fun e w' => e = .returned (.tuple #[]) ∧ CkO w' (Gr S w w') g (l ++ [(t, f)]) ∧ Ch w w' S := by
  have hlen := h.len
  have hst := stA_ok startOk h.ok
  have hok := wrongN_ok hw hst.most
  have hbl := encB_len startOk h.ok
  obtain ⟨v, h1, h2, h3⟩ := h.here
  have fin : ∀ (Q : Ending → World → Prop), Calls Tryd.prog 32 #[.pointer (some ⟨g, 0, none⟩), .agg #[.int .i64 t, .float .f64 f]] w (fun e w' => e = .returned (.tuple #[]) ∧ ∃ v', Wr (pst (nextP (stA startP l) t f)) w' g v' (encB startP l ++ smpB (stA startP l) t f) ∧ Fw w w' g v v') → (∀ e w', (e = .returned (.tuple #[]) ∧ CkO w' (Gr S w w') g (l ++ [(t, f)]) ∧ Ch w w' S) → Q e w') → Calls Tryd.prog 32 #[.pointer (some ⟨g, 0, none⟩), .agg #[.int .i64 t, .float .f64 f]] w Q := fun Q hc hQ => by
    refine hc.mono ?_
    rintro e w' ⟨q1, v', q2, q3⟩
    refine hQ e w' ⟨q1, ⟨.inl h.inS, okL_snoc.2 ⟨h.ok, hw, hf⟩, v', ?_, fun k hk => ?_, fun e => by simp at e⟩, Ch.of_fw q3 h.inS h2⟩
    · rw [stA_snoc, encB_snoc]
      exact q2
    · rcases q3.own _ hk with e | e
      · exact .inl (h2 k e.symm)
      · have hlt := q2.2.lt k hk
        exact .inr ⟨by omega, hlt.2⟩
  refine fin _ ?_ (fun e w' hq => hq)
  have hv1 : v.ownBlock ≠ some 1 := fun e => hS.1 (h2 _ e)
  have hv2 : v.ownBlock ≠ some 2 := fun e => hS.2 (h2 _ e)
  have hg1 : g ≠ 1 := fun e => hS.1 (by rw [← e]; exact h.inS)
  have hg2 : g ≠ 2 := fun e => hS.2 (by rw [← e]; exact h.inS)
  by_cases h0 : l = []
  · have hv := h3 h0
    subst h0
    subst hv
    refine (put_first g f t w h1 hf hok.1).mono ?_
    rintro e w' ⟨q1, v', q2, q3⟩
    refine ⟨q1, v', ?_, q3⟩
    have e : pst (nextP (stA startP []) t f) = past 1 t f t false 0 0 := by
      unfold pst nextP smpW
      simp [stA, startP]
    rw [e]
    exact q2
  · have hn0 : (stA startP l).n = l.length := by rw [stA_n]; simp [startP]
    have hlp : 0 < l.length := List.length_pos_iff.2 h0
    have hlt : (stA startP l).t < t := by rcases hok.2.1 with e | e; omega; exact e
    by_cases hn1 : (stA startP l).n = 1
    · exact put_two g v _ (stA startP l) t f w h1 hst ⟨hT.1, hT.2, hg1, hg2, hv1, hv2⟩ hn1 ⟨hlt, hok.1.2⟩ hf (by omega)
    · exact put_more g v _ (stA startP l) t f w h1 hst ⟨hT.1, hT.2, hg1, hg2, hv1, hv2⟩ (by omega) ⟨hlt, hok.1.2⟩ hf (by omega)
end Go.Proofs.YtkiefmhampfhoaaDoor

/- CkH -/
namespace Go.Proofs.YtkiefmhampfhoaaDoor
open Go.RowKit

theorem CkO.n {w : World} {S : Nat → Prop} {g : Nat} {l : List SmpT} (_ : CkO w S g l) : (stA startP l).n = l.length := by rw [stA_n]; simp [startP]
theorem CkO.cells {w : World} {S : Nat → Prop} {g : Nat} {l : List SmpT} (h : CkO w S g l) : w.cell? ⟨g, 2, none⟩ = some (.int .i64 ((stA startP l).n : Int)) ∧ w.cell? ⟨g, 3, none⟩ = some (.int .i64 (stA startP l).t) := by
  obtain ⟨v, h1, _⟩ := h.here
  exact ⟨h1.cell.1, h1.cell.2.1⟩

set_option maxHeartbeats 1600000 in
/-- Append, whatever the sample -/
theorem ckAppend_any (w : World) (S : Nat → Prop) (g : Nat) (l : List SmpT) (t : Int) (f : Nat) (h : CkO w S g l) (hT : Tk w) (hS : Far S) (hf : f < 18446744073709551616) :
    Calls Tryd.prog 11 #[.pointer (some ⟨g, 0, none⟩), .int .i64 t, .float .f64 f] w fun e w' => e = .returned (.int .i64 (wrongN (stA startP l) t)) ∧ CkO w' (Gr S w w') g (if wrongN (stA startP l) t = 0 then l ++ [(t, f)] else l) ∧ Ch w w' S := by
  have hmo := (stA_ok startOk h.ok).most
  obtain ⟨c2, c3⟩ := h.cells
  have HSM : Hid (∀ w', w.grownBy w' none → CkO w' (Gr S w w') g l ∧ Ch w w' S) := fun w' hg => ⟨(h.keep hg).mono (fun _ => .inl), Ch.of_gb hg (fun k hk => by cases hk)⟩
  have HP : Hid (wrongN (stA startP l) t = 0 → Calls Tryd.prog 32 #[.pointer (some ⟨g, 0, none⟩), .agg #[.int .i64 t, .float .f64 f]] w fun e w' => e = .returned (.tuple #[]) ∧ CkO w' (Gr S w w') g (l ++ [(t, f)]) ∧ Ch w w' S) := fun hw => ckPut_any w S g l t f h hT hS hw hf
  have HE : Hid (wrongN (stA startP l) t = if t < 0 ∨ 1125899906842624 < t then 1 else if 0 < (stA startP l).n ∧ t ≤ (stA startP l).t then 90 else if (stA startP l).n = 120 then 8 else 0) := rfl
  clear h
  generalize wrongN (stA startP l) t = W at *
  generalize (stA startP l).n = n at *
  generalize (stA startP l).t = t0 at *
  by_cases h1 : t < 0
  · have HW : Hid (W = 1) := by show W = 1; rw [HE.out, if_pos (.inl h1)]
    have HN : Hid (¬ W = 0) := by show ¬ W = 0; rw [HW.out]; decide
    rw [if_neg HN.out]
    go_enter Tryd.func11, Tryd.ntmps11
    go_wp2
    go_ret
    exact ⟨ret_int HW.out.symm, HSM.out _ (gb_refl _ _)⟩
  · by_cases h2 : (1125899906842624 : Int) < t
    · have HW : Hid (W = 1) := by show W = 1; rw [HE.out, if_pos (.inr h2)]
      have HN : Hid (¬ W = 0) := by show ¬ W = 0; rw [HW.out]; decide
      rw [if_neg HN.out]
      go_enter Tryd.func11, Tryd.ntmps11
      go_wp2
      go_ret
      exact ⟨ret_int HW.out.symm, HSM.out _ (gb_refl _ _)⟩
    · have ht : ¬ (t < 0 ∨ 1125899906842624 < t) := by omega
      by_cases h3 : 0 < n
      · have h3i : (0 : Int) < (n : Int) := by omega
        by_cases h4 : t ≤ t0
        · have HW : Hid (W = 90) := by show W = 90; rw [HE.out, if_neg ht, if_pos ⟨h3, h4⟩]
          have HN : Hid (¬ W = 0) := by show ¬ W = 0; rw [HW.out]; decide
          rw [if_neg HN.out]
          go_enter Tryd.func11, Tryd.ntmps11
          go_wp2
          go_ret
          exact ⟨ret_int HW.out.symm, HSM.out _ (gb_refl _ _)⟩
        · by_cases h5 : n = 120
          · subst h5
            have HW : Hid (W = 8) := by show W = 8; rw [HE.out, if_neg ht, if_neg (by omega), if_pos rfl]
            have HN : Hid (¬ W = 0) := by show ¬ W = 0; rw [HW.out]; decide
            rw [if_neg HN.out]
            go_enter Tryd.func11, Tryd.ntmps11
            go_wp2
            go_ret
            exact ⟨ret_int HW.out.symm, HSM.out _ (gb_refl _ _)⟩
          · have h120 : ((n : Int) == 120) = false := by simp; omega
            have h120' : ¬ (n : Int) = 120 := by omega
            have HW : Hid (W = 0) := by show W = 0; rw [HE.out, if_neg ht, if_neg (by omega), if_neg h5]
            rw [if_pos HW.out]
            have HP2 := hidJ (HP.out HW.out)
            clear HP
            go_enter Tryd.func11, Tryd.ntmps11
            go_wp2_with fail
            refine HP2.out.mono ?_
            rintro e w1 ⟨rfl, hq⟩
            have HQ := hidJ hq
            clear hq HP2
            go_wp2
            go_ret
            exact ⟨ret_int HW.out.symm, HQ.out⟩
      · obtain rfl : n = 0 := by omega
        have HW : Hid (W = 0) := by show W = 0; rw [HE.out, if_neg ht, if_neg (by omega), if_neg (by omega)]
        rw [if_pos HW.out]
        have HP2 := hidJ (HP.out HW.out)
        clear HP
        go_enter Tryd.func11, Tryd.ntmps11
        go_wp2_with fail
        refine HP2.out.mono ?_
        rintro e w1 ⟨rfl, hq⟩
        have HQ := hidJ hq
        clear hq HP2
        go_wp2
        go_ret
        exact ⟨ret_int HW.out.symm, HQ.out⟩

theorem ckBytes_any (w : World) (S : Nat → Prop) (g : Nat) (l : List SmpT) (h : CkO w S g l) :
    Calls Tryd.prog 16 #[.pointer (some ⟨g, 0, none⟩)] w fun e w' => ∃ v', e = .returned v' ∧ Own w' w.heap.size v' (ckB l) ∧ w.grownBy w' none := by
  obtain ⟨v, h1, -, -⟩ := h.here
  have hn := h.n
  have hl := h.len
  have hb := encB_len startOk h.ok
  have := bytes_any g v (encB startP l) (stA startP l).n (stA startP l).f (stA startP l).t (stA startP l).gap (stA startP l).th ((stA startP l).ld : Int) ((stA startP l).tl : Int) w h1 (by omega) (by omega)
  rw [hn] at this
  exact this

/-! ### samples among the arguments -/
def smZ : SmpT := (0, 0)
def RdP (w : World) (v : Value) (l : List SmpT) : Prop :=
  ∃ a c, v = .slice a l.length c ∧ l.length ≤ c ∧ c ≤ maxLen ∧ ∀ j, j < l.length → ∃ b o, a = some ⟨b, o, none⟩ ∧ w.cell? ⟨b, o + j * 2, none⟩ = some (.int .i64 (l.getD j smZ).1) ∧ w.cell? ⟨b, o + j * 2 + 1, none⟩ = some (.float .f64 (l.getD j smZ).2)
theorem RdP.keep {w w' : World} {v : Value} {l : List SmpT} (h : RdP w v l) (hg : w.grownBy w' none) : RdP w' v l := by
  obtain ⟨a, c, rfl, h1, h2, h3⟩ := h
  refine ⟨a, c, rfl, h1, h2, fun j hj => ?_⟩
  obtain ⟨b, o, e, c0, c1⟩ := h3 j hj
  have hb := hg.block b (block_lt c0) (by simp)
  exact ⟨b, o, e, (World.cell?_of_block hb).trans c0, (World.cell?_of_block hb).trans c1⟩
/-- samples that a machine can hand in -/
def SmIn (l : List SmpT) : Prop := ∀ x ∈ l, (-9223372036854775808 ≤ x.1 ∧ x.1 ≤ 9223372036854775807) ∧ x.2 < 18446744073709551616
theorem getS_mem {l : List SmpT} {j : Nat} (h : j < l.length) : l.getD j smZ ∈ l := by simp [h]
theorem take_snocS {l : List SmpT} {j : Nat} (h : j < l.length) : l.take (j + 1) = l.take j ++ [l.getD j smZ] := by rw [List.take_succ_eq_append_getElem h]; simp [h]

/-- what Encode answers -/
def EncA (l : List SmpT) (w w' : World) (e : Ending) : Prop :=
  (okL startP l ∧ ∃ v', e = .returned (.tuple #[v', .int .i64 0, .int .i64 0]) ∧ Own w' w.heap.size v' (ckB l)) ∨
  (∃ z, z < l.length ∧ okL startP (l.take z) ∧ wrongN (stA startP (l.take z)) (l.getD z smZ).1 ≠ 0 ∧ e = .returned (.tuple #[.slice none 0 0, .int .i64 (wrongN (stA startP (l.take z)) (l.getD z smZ).1), .int .i64 (z : Int)]))

set_option maxRecDepth 8000 in
set_option maxHeartbeats 3200000 in
theorem ckEncode_any (w : World) (v : Value) (l : List SmpT) (hr : RdP w v l) (hin : SmIn l) (hT : Tk w) :
    Calls Tryd.prog 20 #[v] w fun e w' => EncA l w w' e ∧ w.grownBy w' none := by
  have HR : Hid (RdP w v l ∧ SmIn l ∧ Tk w) := ⟨hr, hin, hT⟩
  obtain ⟨a, c, rfl, hlc, hcm, -⟩ := hr
  have hcm2 : c ≤ 9223372036854775807 := hcm
  clear hin hT hcm
  obtain ⟨N, hN⟩ : ∃ N, l.length = N := ⟨_, rfl⟩
  have HN : Hid (l.length = N) := hN
  rw [hN] at hlc
  rw [hN]
  clear hN
  go_enter Tryd.func20, Tryd.ntmps20
  go_wp2_with fail
  refine (ckNew_any _).mono ?_
  rintro e w1 ⟨g, rfl, hw1, hg1⟩
  have H1 : Hid (CkO w1 (fun k => w.heap.size ≤ k ∧ k < w1.heap.size) g [] ∧ w.grownBy w1 none) := ⟨hw1, hg1⟩
  clear hw1 hg1
  go_wp2_with fail
  have hsf := store_float
  go_loopw [12] (fun i wr => ∃ z : Nat, z ≤ N ∧ i = .int .i64 z ∧ Hid (∃ S : Nat → Prop, (∀ k, S k → w.heap.size ≤ k) ∧ CkO wr S g (l.take z) ∧ w.grownBy wr none)) (fun i _ => N - (intOf i).toNat)
  case atStart => exact ⟨0, by omega, rfl, _, fun k hk => hk.1, H1.out.1, H1.out.2⟩
  case round =>
    obtain ⟨z, hz, rfl, hr⟩ := hrel
    by_cases hlt : z < N
    · have hzi : (z : Int) < (N : Int) := by omega
      have hzl : z < l.length := by rw [HN.out]; exact hlt
      obtain ⟨S, hS, hck, hgr⟩ := hr.out
      obtain ⟨a', c', he, -, -, hc⟩ := HR.out.1.keep hgr
      simp only [Value.slice.injEq] at he
      obtain ⟨rfl, -, rfl⟩ := he
      obtain ⟨b, o, rfl, c0, c1⟩ := hc z hzl
      have hbd := HR.out.2.1 _ (getS_mem hzl)
      have htk := HR.out.2.2
      have hfar : Far S := by
        have := htk.lt
        exact ⟨fun e => by have := hS _ e; omega, fun e => by have := hS _ e; omega⟩
      have HA : Hid (∀ W, wr.grownBy W none → Calls Tryd.prog 11 #[.pointer (some ⟨g, 0, none⟩), .int .i64 (l.getD z smZ).1, .float .f64 (l.getD z smZ).2] W fun e w' => e = .returned (.int .i64 (wrongN (stA startP (l.take z)) (l.getD z smZ).1)) ∧ Hid (w.grownBy w' none ∧ (wrongN (stA startP (l.take z)) (l.getD z smZ).1 = 0 → ∃ S : Nat → Prop, (∀ k, S k → w.heap.size ≤ k) ∧ CkO w' S g (l.take (z + 1)) ∧ w.grownBy w' none))) := fun W hW => by
        refine (ckAppend_any W S g (l.take z) (l.getD z smZ).1 (l.getD z smZ).2 (hck.keep hW) (htk.keep (gb_none hgr hW)) hfar hbd.2).mono ?_
        rintro e w' ⟨q1, q2, q3⟩
        have hg' : w.grownBy w' none := by
          have hww := gb_none hgr hW
          refine ⟨q3.1.trans hww.os, q3.2.1.trans hww.tape, q3.2.2.1.trans hww.output, Nat.le_trans hww.size q3.size, fun k hk _ => ?_⟩
          rw [q3.block (Nat.lt_of_lt_of_le hk hww.size) (fun e => by have := hS k e; omega)]
          exact hww.block k hk (by simp)
        refine ⟨q1, hg', fun h0 => ⟨Gr S W w', fun k hk => ?_, ?_, hg'⟩⟩
        · rcases hk with hk | hk
          · exact hS k hk
          · have := (gb_none hgr hW).size
            omega
        · rw [take_snocS hzl]
          rw [if_pos h0] at q2
          exact q2
      have HOk := hidJ hck.ok
      have HGr := hidJ hgr
      clear hc hck hr hgr hbd htk hfar hS
      have HTZ0 : Hid ((l.getD z smZ).1 = (l.getD z smZ).1) := rfl
      generalize hTZ : (l.getD z smZ).1 = tz at *
      have HTZ : Hid ((l.getD z smZ).1 = tz) := hTZ
      clear hTZ HTZ0
      generalize (l.getD z smZ).2 = fz at *
      have hnew : ¬ b = wr.heap.size := by have := block_lt c0; omega
      have hnew2 : ¬ wr.heap.size = b := by omega
      have HZ : Hid (z < l.length) := hzl
      clear hzl
      by_cases hw0 : wrongN (stA startP (l.take z)) tz = 0
      · rw [hw0] at HA
        go_wp2_with fail
        refine (HA.out _ (alloc_gb _ _)).mono ?_
        rintro e w2 ⟨rfl, H2⟩
        clear HA c0 c1
        go_wp2
        go_roundw
        case rel => exact ⟨z + 1, by omega, by go_num, H2.out.2 (by first | trivial | rfl)⟩
        case measure => simp [intOf]; omega
      · have hwb : (wrongN (stA startP (l.take z)) tz == 0) = false := by rw [beq_eq_false_iff_ne]; exact hw0
        have HE : Hid (∀ w', EncA l w w' (.returned (.tuple #[.slice none 0 0, .int .i64 (wrongN (stA startP (l.take z)) tz), .int .i64 (z : Int)]))) := by
          intro w'
          rw [← HTZ.out]
          exact .inr ⟨z, HZ.out, HOk.out, by rw [HTZ.out]; exact hw0, rfl⟩
        have HWk : Hid (wrongN (stA startP (l.take z)) tz = wrongN (stA startP (l.take z)) tz) := rfl
        generalize wrongN (stA startP (l.take z)) tz = WW at *
        go_wp2_with fail
        refine (HA.out _ (alloc_gb _ _)).mono ?_
        rintro e w2 ⟨rfl, H2⟩
        clear HA c0 c1
        go_wp2
        go_ret3
        exact ⟨HE.out _, H2.out.1⟩
    · obtain rfl : z = N := by omega
      have hzi : ¬ (z : Int) < (z : Int) := by omega
      have HB : Hid (Calls Tryd.prog 16 #[.pointer (some ⟨g, 0, none⟩)] wr fun e w' => ∃ v', e = .returned v' ∧ Hid (EncA l w w' (.returned (.tuple #[v', .int .i64 0, .int .i64 0])) ∧ w.grownBy w' none)) := by
        obtain ⟨S, hS, hck, hgr⟩ := hr.out
        rw [← HN.out, List.take_length] at hck
        refine (ckBytes_any wr S g l hck).mono ?_
        rintro e w' ⟨v', q1, q2, q3⟩
        exact ⟨v', q1, .inl ⟨hck.ok, v', rfl, q2.mono hgr.size⟩, gb_none hgr q3⟩
      clear hr
      go_wp2_with fail
      refine HB.out.mono ?_
      rintro e w3 ⟨v3, rfl, H3⟩
      clear HB
      go_wp2
      go_ret3
      exact ⟨H3.out.1, H3.out.2⟩
end Go.Proofs.YtkiefmhampfhoaaDoor
