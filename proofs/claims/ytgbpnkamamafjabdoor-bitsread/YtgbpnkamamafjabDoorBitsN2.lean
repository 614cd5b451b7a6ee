/-
  What a writer's calls leave of the rest, by the types of blocks; the document's streams: Bit, Bits, Int in one contract each.
-/
import Derived.Test.YtgbpnkamamafjabDoorBitsN
import Derived.Test.YtgbpnkamamafjabDoorBitsR3
namespace Go.Proofs.YtgbpnkamamafjabDoor
open Go.RowKit

/-- blocks of other types are as they were -/
def KeepT (ts : List TypeId) (w w' : World) : Prop := w.heap.size ≤ w'.heap.size ∧ ∀ (k : Nat) A t fr, w.heap[k]? = some (Obj.cells A t fr) → t ∉ ts → w'.heap[k]? = w.heap[k]?
theorem KeepT.refl (ts : List TypeId) (w : World) : KeepT ts w w := ⟨Nat.le_refl _, fun _ _ _ _ _ _ => rfl⟩
theorem KeepT.trans {ts : List TypeId} {w w1 w2 : World} (h1 : KeepT ts w w1) (h2 : KeepT ts w1 w2) : KeepT ts w w2 :=
  ⟨Nat.le_trans h1.1 h2.1, fun k A t fr hk ht => by
    have e := h1.2 k A t fr hk ht
    rw [h2.2 k A t fr (e.trans hk) ht, e]⟩
theorem KeepT.of_none {ts : List TypeId} {w w' : World} (h : w.grownBy w' none) : KeepT ts w w' :=
  ⟨h.size, fun k A t fr hk _ => h.block k (Array.getElem?_eq_some_iff.1 hk).1 (by simp)⟩
theorem KeepT.of_wr {w w' : World} {g : Nat} {v v' : Value} {bs : List Bool} (hw : Wr w g v bs) (hf : Fw w w' g v v') : KeepT [59, 5] w w' :=
  ⟨hf.size, fun k A t fr hk ht => by
    refine hf.block k (Array.getElem?_eq_some_iff.1 hk).1 ?_ ?_
    · rintro rfl
      rw [hw.1] at hk
      simp only [Option.some.injEq, Obj.cells.injEq] at hk
      exact ht (by rw [← hk.2.1]; simp)
    · intro e
      rcases hw.2.2 with ⟨rfl, _⟩ | ⟨gb, cap, cur, rfl, _, hh, _⟩
      · simp [Value.ownBlock] at e
      · simp only [Value.ownBlock, Option.some.injEq] at e
        subst e
        rw [hh] at hk
        simp only [Option.some.injEq, Obj.cells.injEq] at hk
        exact ht (by rw [← hk.2.1]; simp)⟩
theorem KeepT.of_st {w w' : World} {g p : Nat} {v v' : Value} {bs : List Bool} (hw : St w g v bs p) (hf : Fw w w' g v v') : KeepT [28, 4] w w' :=
  ⟨hf.size, fun k A t fr hk ht => by
    refine hf.block k (Array.getElem?_eq_some_iff.1 hk).1 ?_ ?_
    · rintro rfl
      rw [hw.1] at hk
      simp only [Option.some.injEq, Obj.cells.injEq] at hk
      exact ht (by rw [← hk.2.1]; simp)
    · intro e
      rcases hw.2.2 with ⟨rfl, _⟩ | ⟨gb, cap, cur, rfl, _, hh, _⟩
      · simp [Value.ownBlock] at e
      · simp only [Value.ownBlock, Option.some.injEq] at e
        subst e
        rw [hh] at hk
        simp only [Option.some.injEq, Obj.cells.injEq] at hk
        exact ht (by rw [← hk.2.1]; simp)⟩

theorem wbitsK (w wr : World) (g : Nat) (bs : List Bool) (x : BitVec 64) (n : Int) (h : WN w wr g bs) (hs : bs.length ≤ 8388608) :
    Calls Tryd.prog 24 #[.pointer (some ⟨g, 0, none⟩), .int .u64 (I64 x), .int .i64 n] wr fun e w' => e = .returned (.int .i64 (bCode x n bs.length)) ∧ WN w w' g (bNew x n bs) ∧ KeepT [59, 5] wr w' := by
  obtain ⟨h1, h2, v, h3, h4⟩ := h
  by_cases hb : bBad x n
  · have e1 : bCode x n bs.length = 1 := by unfold bCode; rw [if_pos hb]
    have e2 : bNew x n bs = bs := by unfold bNew; rw [e1]; rfl
    rw [e1, e2]
    exact (wbits_arg g x n wr hb).mono fun e w' ⟨he, hw⟩ => ⟨he, by subst hw; exact ⟨⟨h1, h2, v, h3, h4⟩, KeepT.refl _ _⟩⟩
  · have hb2 := hb
    unfold bBad at hb2
    obtain ⟨m, rfl⟩ := Int.eq_ofNat_of_zero_le (show 0 ≤ n by omega)
    rw [Int.toNat_natCast] at hb2
    have hm : m ≤ 64 := by omega
    have hx : x.toNat < 2 ^ m := by
      by_cases hx : x.toNat < 2 ^ m
      · exact hx
      · exact absurd (.inr (.inr ⟨by omega, by omega, hx⟩)) hb2
    by_cases hf : 8388608 < bs.length + m
    · have e1 : bCode x (m : Int) bs.length = 8 := by unfold bCode; rw [if_neg hb, Int.toNat_natCast, if_pos hf]
      have e2 : bNew x (m : Int) bs = bs := by unfold bNew; rw [e1]; rfl
      rw [e1, e2]
      exact (wbits_full g v bs x m wr h3 hm hx hs hf).mono fun e w' ⟨he, hw⟩ => ⟨he, by subst hw; exact ⟨⟨h1, h2, v, h3, h4⟩, KeepT.refl _ _⟩⟩
    · have e1 : bCode x (m : Int) bs.length = 0 := by unfold bCode; rw [if_neg hb, Int.toNat_natCast, if_neg hf]
      have e2 : bNew x (m : Int) bs = bs ++ bitsOf x.toNat m := by unfold bNew; rw [e1, Int.toNat_natCast, if_pos rfl]
      rw [e1, e2]
      exact (wbits_ok g v bs x m wr h3 hm hx (by omega)).mono fun e w' ⟨he, v', hw, hfw⟩ => ⟨he, WN.step h1 h2 h4 hw hfw, KeepT.of_wr h3 hfw⟩
theorem wbitK (w wr : World) (g : Nat) (bs : List Bool) (b : Bool) (h : WN w wr g bs) (hs : bs.length ≤ 8388608) :
    Calls Tryd.prog 26 #[.pointer (some ⟨g, 0, none⟩), .bool b] wr fun e w' => e = .returned (.int .i64 (oCode bs.length)) ∧ WN w w' g (oNew b bs) ∧ KeepT [59, 5] wr w' := by
  obtain ⟨h1, h2, v, h3, h4⟩ := h
  by_cases hf : 8388608 ≤ bs.length
  · have e1 : oCode bs.length = 8 := if_pos hf
    have e2 : oNew b bs = bs := if_pos hf
    rw [e1, e2]
    exact (wbit_fullB g v bs b wr h3 (by omega)).mono fun e w' ⟨he, hw⟩ => ⟨he, by subst hw; exact ⟨⟨h1, h2, v, h3, h4⟩, KeepT.refl _ _⟩⟩
  · have e1 : oCode bs.length = 0 := if_neg hf
    have e2 : oNew b bs = bs ++ [b] := if_neg hf
    rw [e1, e2]
    exact (wbit_ok g v bs b wr h3 (by omega)).mono fun e w' ⟨he, v', hw, hfw⟩ => ⟨he, WN.step h1 h2 h4 hw hfw, KeepT.of_wr h3 hfw⟩
theorem wintK (w wr : World) (g : Nat) (bs : List Bool) (n : Int) (x : BitVec 64) (h : WN w wr g bs) (hT : TabW w) (hx : IntKind.u64.wrap n = I64 x) (hs : bs.length ≤ 8388608) :
    Calls Tryd.prog 23 #[.pointer (some ⟨g, 0, none⟩), .int .i64 n] wr fun e w' => e = .returned (.int .i64 (iCode n x bs.length)) ∧ WN w w' g (iNew n x bs) ∧ KeepT [59, 5] wr w' := by
  obtain ⟨h1, h2, v, h3, h4⟩ := h
  have hlt := block_lt (hT 0 (by omega))
  by_cases hf : 8388608 < bs.length + (form n x).length
  · have e1 : iCode n x bs.length = 8 := if_pos hf
    have e2 : iNew n x bs = bs := if_pos hf
    rw [e1, e2]
    exact (wint_full g v bs n x wr h3 (hT.keep h2) hs hf).mono fun e w' ⟨he, hw⟩ => ⟨he, ⟨h1, gb_none h2 hw, v, h3.keep hw, h4⟩, KeepT.of_none hw⟩
  · have e1 : iCode n x bs.length = 0 := if_neg hf
    have e2 : iNew n x bs = bs ++ form n x := if_neg hf
    rw [e1, e2]
    exact (wint_ok g v bs n x wr h3 (hT.keep h2) hx (by omega) (fun e => by have := h4 _ e; omega) (by omega)).mono fun e w' ⟨he, v', hw, hfw⟩ => ⟨he, WN.step h1 h2 h4 hw hfw, KeepT.of_wr h3 hfw⟩

/-! ### the document's streams -/
def SN (w wr : World) (g : Nat) (bs : List Bool) (p : Nat) : Prop := w.heap.size ≤ g ∧ w.grownBy wr none ∧ ∃ v, St wr g v bs p ∧ ∀ k, v.ownBlock = some k → w.heap.size ≤ k
theorem SN.keep {w wr wr' : World} {g p : Nat} {bs : List Bool} (h : SN w wr g bs p) (hg : wr.grownBy wr' none) : SN w wr' g bs p := by
  obtain ⟨h1, h2, v, h3, h4⟩ := h
  exact ⟨h1, gb_none h2 hg, v, h3.keep hg, h4⟩
theorem SN.step {w wr wr' : World} {g p : Nat} {v v' : Value} {bs' : List Bool} (h1 : w.heap.size ≤ g) (h2 : w.grownBy wr none) (h4 : ∀ k, v.ownBlock = some k → w.heap.size ≤ k) (hw : St wr' g v' bs' p) (hf : Fw wr wr' g v v') : SN w wr' g bs' p :=
  ⟨h1, Fw.newN h2 hf h1 h4, v', hw, fun k hk => by
    rcases hf.own k hk with h | h
    · exact h4 k h.symm
    · exact Nat.le_trans h2.size h⟩
theorem ownT {w w' : World} {base : Nat} {ty : TypeId} {v : Value} {n : Nat} {cs : List Value} {ts : List TypeId} (h : w.ownsRow base ty 1 v n cs) (hk : KeepT ts w w') (ht : ty ∉ ts) : w'.ownsRow base ty 1 v n cs := by
  refine ⟨h.1, ?_⟩
  rcases h.2 with h2 | ⟨g, cap, cur, hv, hb, hh, r⟩
  · exact .inl h2
  · exact .inr ⟨g, cap, cur, hv, hb, (hk.2 g _ _ _ hh ht).trans hh, r⟩
theorem SN.keptT {w wr wr' : World} {g p : Nat} {bs : List Bool} (h : SN w wr g bs p) (hk : KeepT [59, 5] wr wr') (hg : w.grownBy wr' none) : SN w wr' g bs p := by
  obtain ⟨h1, h2, v, h3, h4⟩ := h
  exact ⟨h1, hg, v, ⟨(hk.2 g _ _ _ h3.1 (by decide)).trans h3.1, ownT h3.2 hk (by decide)⟩, h4⟩
theorem WN.keptT {w wr wr' : World} {g : Nat} {bs : List Bool} (h : WN w wr g bs) (hk : KeepT [28, 4] wr wr') (hg : w.grownBy wr' none) : WN w wr' g bs := by
  obtain ⟨h1, h2, v, h3, h4⟩ := h
  exact ⟨h1, hg, v, ⟨(hk.2 g _ _ _ h3.1 (by decide)).trans h3.1, ownT h3.2 hk (by decide)⟩, h4⟩

set_option maxHeartbeats 1600000 in
theorem rbit_any (g : Nat) (v : Value) (l : List Bool) (p : Nat) (b : Bool) (w : World) (hs : St w g v l p) (hsz : l.length ≤ 8388608) :
    Calls Tryd.prog 27 #[.pointer (some ⟨g, 0, none⟩), .bool b] w fun e w' => e = .returned (.int .i64 (oCode l.length)) ∧ ∃ v', St w' g v' (oNew b l) p ∧ Fw w w' g v v' := by
  have hc := hs.cells
  have c0 := hc.1
  have f0 := hc.2.2.1
  obtain ⟨a, c, hv⟩ := hs.2.shape
  have H : Hid (St w g v l p) := hs
  by_cases hf : 8388608 ≤ l.length
  · have HC : Hid ((8 : Int) = oCode l.length ∧ oNew b l = l) := ⟨(if_pos hf).symm, if_pos hf⟩
    have HF : Hid (Fw w w g v v) := Fw.refl _ _ _
    have HS : Hid (St w g v (oNew b l) p) := by show St w g v (oNew b l) p; rw [HC.out.2]; exact hs
    clear hs hc
    subst hv
    have hf2 : (8388608 : Int) ≤ (l.length : Int) := by omega
    clear hf hsz
    generalize l.length = L at *
    go_enter Tryd.func27, Tryd.ntmps27
    go_wp2
    go_ret
    exact ⟨ret_int HC.out.1, _, HS.out, HF.out⟩
  · have HC : Hid ((0 : Int) = oCode l.length ∧ oNew b l = l ++ [b]) := ⟨(if_neg hf).symm, if_neg hf⟩
    clear hs hc
    subst hv
    have hf2 : ¬ (8388608 : Int) ≤ (l.length : Int) := by omega
    have hl : l.length + 1 ≤ 175921860444160 := by omega
    have HL : Hid (l.length + 1 ≤ 175921860444160) := hl
    clear hl hf hsz
    go_enter Tryd.func27, Tryd.ntmps27
    go_wp2_with (at_builtin; refine wp_appB rfl _ _ rfl _ l b _ rfl rfl (litB _ _ _) (H.out.2.keep (alloc_gb _ _)) HL.out ?_)
    intro v1 w1 ho1 hf1
    obtain ⟨a1, N1, c1, hv1⟩ := ho1.shape3
    subst hv1
    have hG := H.out.grow hf1 ho1
    have hwg := hG.1.trans H.out.1
    have d0 : w1.cell? ⟨g, 0, none⟩ = some (.slice a l.length c) := by simp [World.cell?, hwg]
    have df : w1.frozen? ⟨g, 0, none⟩ = false := by simp [World.frozen?, hwg]
    have H2 : Hid (St (w1.setCell ⟨g, 0, none⟩ (.slice a1 N1 c1)) g (.slice a1 N1 c1) (oNew b l) p ∧ Fw w (w1.setCell ⟨g, 0, none⟩ (.slice a1 N1 c1)) g (.slice a l.length c) (.slice a1 N1 c1)) := ⟨by rw [HC.out.2]; exact hG.2.1, hG.2.2⟩
    clear hG hwg H hf1 ho1 c0 f0
    go_wp2
    go_ret
    exact ⟨ret_int HC.out.1, _, H2.out.1, H2.out.2⟩

set_option maxHeartbeats 1600000 in
theorem rbits_any (g : Nat) (v : Value) (l : List Bool) (p : Nat) (x : BitVec 64) (n : Int) (w : World) (hs : St w g v l p) (hsz : l.length ≤ 8388608) :
    Calls Tryd.prog 28 #[.pointer (some ⟨g, 0, none⟩), .int .u64 (I64 x), .int .i64 n] w fun e w' => e = .returned (.int .i64 (bCode x n l.length)) ∧ ∃ v', St w' g v' (bNew x n l) p ∧ Fw w w' g v v' := by
  have hc := hs.cells
  have c0 := hc.1
  obtain ⟨a, c, hv⟩ := hs.2.shape
  have H : Hid (St w g v l p) := hs
  by_cases hb : bBad x n
  · have HC : Hid ((1 : Int) = bCode x n l.length) := (if_pos hb).symm
    have HS : Hid (St w g v (bNew x n l) p) := by show St w g v (bNew x n l) p; unfold bNew; rw [← HC.out]; exact hs
    have HF : Hid (Fw w w g v v) := Fw.refl _ _ _
    have hsh : Hid (0 ≤ n ∧ n ≤ 64 → (n < 64 ∧ (I64 x / 2 ^ n.toNat != 0) = true)) := by
      rintro ⟨h1, h2⟩
      rcases hb with h | h | ⟨_, _, h3⟩
      · omega
      · omega
      · refine ⟨?_, by rw [bne_iff_ne]; exact shr_some h3⟩
        by_cases he : n = 64
        · subst he
          exact absurd x.isLt h3
        · omega
    clear hs hc hb hsz
    subst hv
    by_cases c1 : n < 0
    · go_enter Tryd.func28, Tryd.ntmps28
      go_wp2
      go_ret
      exact ⟨ret_int HC.out, _, HS.out, HF.out⟩
    · by_cases c2 : 64 < n
      · go_enter Tryd.func28, Tryd.ntmps28
        go_wp2
        go_ret
        exact ⟨ret_int HC.out, _, HS.out, HF.out⟩
      · obtain ⟨q, rfl⟩ := Int.eq_ofNat_of_zero_le (show 0 ≤ n by omega)
        have hs1 := hsh.out ⟨by omega, by omega⟩
        rw [Int.toNat_natCast] at hs1
        have hs2 := hs1.1
        have hs3 := hs1.2
        clear hsh hs1
        go_enter Tryd.func28, Tryd.ntmps28
        go_wp2
        go_ret
        exact ⟨ret_int HC.out, _, HS.out, HF.out⟩
  · have hb2 := hb
    unfold bBad at hb2
    obtain ⟨q, rfl⟩ := Int.eq_ofNat_of_zero_le (show 0 ≤ n by omega)
    rw [Int.toNat_natCast] at hb2
    have hq : q ≤ 64 := by omega
    have hx : x.toNat < 2 ^ q := by
      by_cases hx : x.toNat < 2 ^ q
      · exact hx
      · exact absurd (.inr (.inr ⟨by omega, by omega, hx⟩)) hb2
    have hz := shr_zero hx
    have c1 : ¬ (q : Int) < 0 := by omega
    have c2 : ¬ (64 : Int) < (q : Int) := by omega
    clear hb2 hx
    by_cases hfl : (8388608 : Int) < (l.length : Int) + (q : Int)
    · have HC : Hid ((8 : Int) = bCode x (q : Int) l.length) := by show (8 : Int) = bCode x (q : Int) l.length; unfold bCode; rw [if_neg hb, Int.toNat_natCast, if_pos (by omega)]
      have HS : Hid (St w g v (bNew x (q : Int) l) p) := by show St w g v (bNew x (q : Int) l) p; unfold bNew; rw [← HC.out]; exact hs
      have HF : Hid (Fw w w g v v) := Fw.refl _ _ _
      clear hs hc hb
      subst hv
      have hL : (l.length : Int) ≤ 8388608 := by omega
      clear hsz
      generalize l.length = L at *
      by_cases c64 : (q : Int) < 64
      · go_enter Tryd.func28, Tryd.ntmps28
        go_wp2
        go_ret
        exact ⟨ret_int HC.out, _, HS.out, HF.out⟩
      · go_enter Tryd.func28, Tryd.ntmps28
        go_wp2
        go_ret
        exact ⟨ret_int HC.out, _, HS.out, HF.out⟩
    · have HC : Hid ((0 : Int) = bCode x (q : Int) l.length) := by show (0 : Int) = bCode x (q : Int) l.length; unfold bCode; rw [if_neg hb, Int.toNat_natCast, if_neg (by omega)]
      have HN : Hid (bNew x (q : Int) l = l ++ bitsOf x.toNat q) := by show bNew x (q : Int) l = _; unfold bNew; rw [← HC.out, if_pos rfl, Int.toNat_natCast]
      have HW : Hid (∀ w', w' = w → Calls Tryd.prog 43 #[.pointer (some ⟨g, 0, none⟩), .int .u64 (I64 x), .int .i64 (q : Int)] w' fun e w'' => e = .returned (.tuple #[]) ∧ ∃ v', St w'' g v' (l ++ bitsOf x.toNat q) p ∧ Fw w w'' g v v') := fun w' hw => by subst hw; exact write_any g v l p x q _ hs hq (by omega)
      clear hs hc hb
      subst hv
      have hL : (l.length : Int) ≤ 8388608 := by omega
      clear hsz
      generalize hbn : bNew x (q : Int) l = BN at *
      clear hbn
      generalize l ++ bitsOf x.toNat q = LL at *
      generalize l.length = L at *
      by_cases c64 : (q : Int) < 64
      · go_enter Tryd.func28, Tryd.ntmps28
        go_wp2_with fail
        refine (HW.out _ rfl).mono ?_
        rintro e w1 ⟨rfl, v1, hs1, hf1⟩
        have H1 : Hid (St w1 g v1 LL p ∧ Fw w w1 g (.slice a L c) v1) := ⟨hs1, hf1⟩
        clear hs1 hf1 H
        go_wp2
        go_ret
        exact ⟨ret_int HC.out, v1, by rw [HN.out]; exact H1.out.1, H1.out.2⟩
      · go_enter Tryd.func28, Tryd.ntmps28
        go_wp2_with fail
        refine (HW.out _ rfl).mono ?_
        rintro e w1 ⟨rfl, v1, hs1, hf1⟩
        have H1 : Hid (St w1 g v1 LL p ∧ Fw w w1 g (.slice a L c) v1) := ⟨hs1, hf1⟩
        clear hs1 hf1 H
        go_wp2
        go_ret
        exact ⟨ret_int HC.out, v1, by rw [HN.out]; exact H1.out.1, H1.out.2⟩
end Go.Proofs.YtgbpnkamamafjabDoor
