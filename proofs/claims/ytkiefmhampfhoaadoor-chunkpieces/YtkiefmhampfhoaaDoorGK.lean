/-
  CkS9, CkSu, CkSn, in one text.
-/
import Derived.Test.YtkiefmhampfhoaaDoorCkS8
import Derived.Test.YtkiefmhampfhoaaDoorCkS3
import Derived.Test.YtkiefmhampfhoaaDoorGF
import Derived.Test.YtkiefmhampfhoaaDoorCkS1
import Derived.Deep.CutBlock
/- CkS9 -/
namespace Go.Proofs.YtkiefmhampfhoaaDoor
open Go.RowKit

/-- a reader of the document's, its state and its stream, all the call's own -/
structure DR (w0 w : World) (gr gs gp : Nat) (L : List UInt8) (p : Nat) (bad : Bool) (T D : Int) (V : Nat) (Ld K : Int) : Prop where
  old : w0.grownBy w none
  nr : w0.heap.size ≤ gr
  ns : w0.heap.size ≤ gs
  np : w0.heap.size ≤ gp
  pl : p ≤ 8 * L.length
  few : 8 * L.length ≤ 8388608
  str : ∃ v, St w gs v (ubits L 0 (8 * L.length)) p ∧ ∀ k, v.ownBlock = some k → w0.heap.size ≤ k
  sta : w.heap[gp]? = some (.cells #[.int .i64 T, .int .i64 D, .int .u64 (V : Int), .int .i64 Ld, .int .i64 K] 92 (0, 0))
  rdr : w.heap[gr]? = some (.cells #[.pointer (some ⟨gs, 0, none⟩), .pointer (some ⟨gp, 0, none⟩), .bool bad] 89 (0, 0))
/-- the types whose blocks are written -/
def tR : List TypeId := [79, 89, 92]
theorem KeepT.of_own {w w' : World} {g : Nat} {A : Array Value} {t : TypeId} {fr : Nat × Nat} (hg : w.grownBy w' (some g)) (h : w.heap[g]? = some (.cells A t fr)) (ht : t ∈ tR) : KeepT tR w w' :=
  ⟨hg.size, fun k A' t' fr' hk hn => hg.block k (some_lt2 hk) (fun e => by
    cases e
    rw [h] at hk
    simp only [Option.some.injEq, Obj.cells.injEq] at hk
    exact hn (hk.2.1 ▸ ht))⟩
section
variable {w0 w w' : World} {gr gs gp p : Nat} {L : List UInt8} {bad : Bool} {T D : Int} {V : Nat} {Ld K : Int}
theorem DR.ne (h : DR w0 w gr gs gp L p bad T D V Ld K) : gr ≠ gp ∧ gs ≠ gp ∧ gs ≠ gr := by
  obtain ⟨v, h1, -⟩ := h.str
  refine ⟨fun e => ?_, fun e => ?_, fun e => ?_⟩
  · have := h.rdr; rw [e, h.sta] at this; simp at this
  · have := h1.1; rw [e, h.sta] at this; simp at this
  · have := h1.1; rw [e, h.rdr] at this; simp at this
theorem DR.own (h : DR w0 w gr gs gp L p bad T D V Ld K) {v : Value} (hv : St w gs v (ubits L 0 (8 * L.length)) p) : v.ownBlock ≠ some gp ∧ v.ownBlock ≠ some gr := by
  rcases hv.2.2 with ⟨rfl, _⟩ | ⟨g', cap, cur, rfl, _, hh, _⟩
  · simp [Value.ownBlock]
  · refine ⟨fun he => ?_, fun he => ?_⟩
    · simp only [Value.ownBlock, Option.some.injEq] at he
      subst he
      rw [h.sta] at hh
      simp at hh
    · simp only [Value.ownBlock, Option.some.injEq] at he
      subst he
      rw [h.rdr] at hh
      simp at hh
theorem DR.keep (h : DR w0 w gr gs gp L p bad T D V Ld K) (hg : w.grownBy w' none) : DR w0 w' gr gs gp L p bad T D V Ld K := by
  obtain ⟨v, h1, h2⟩ := h.str
  exact ⟨gb_none h.old hg, h.nr, h.ns, h.np, h.pl, h.few, ⟨v, h1.keep hg, h2⟩, by rw [hg.block gp (some_lt2 h.sta) (by simp)]; exact h.sta, by rw [hg.block gr (some_lt2 h.rdr) (by simp)]; exact h.rdr⟩
theorem DR.cells (h : DR w0 w gr gs gp L p bad T D V Ld K) : (w.cell? ⟨gr, 0, none⟩ = some (.pointer (some ⟨gs, 0, none⟩)) ∧ w.cell? ⟨gr, 1, none⟩ = some (.pointer (some ⟨gp, 0, none⟩)) ∧ w.cell? ⟨gr, 2, none⟩ = some (.bool bad)) ∧ (w.cell? ⟨gp, 0, none⟩ = some (.int .i64 T) ∧ w.cell? ⟨gp, 1, none⟩ = some (.int .i64 D) ∧ w.cell? ⟨gp, 2, none⟩ = some (.int .u64 (V : Int)) ∧ w.cell? ⟨gp, 3, none⟩ = some (.int .i64 Ld) ∧ w.cell? ⟨gp, 4, none⟩ = some (.int .i64 K)) := by
  refine ⟨⟨?_, ?_, ?_⟩, ?_, ?_, ?_, ?_, ?_⟩
  · simp [World.cell?, h.rdr]
  · simp [World.cell?, h.rdr]
  · simp [World.cell?, h.rdr]
  · simp [World.cell?, h.sta]
  · simp [World.cell?, h.sta]
  · simp [World.cell?, h.sta]
  · simp [World.cell?, h.sta]
  · simp [World.cell?, h.sta]
theorem DR.frz (h : DR w0 w gr gs gp L p bad T D V Ld K) (i : Nat) : w.frozen? ⟨gp, i, none⟩ = false ∧ w.frozen? ⟨gr, i, none⟩ = false := ⟨by simp [World.frozen?, h.sta], by simp [World.frozen?, h.rdr]⟩
/-- the reader's flag is set -/
theorem DR.mark (h : DR w0 w gr gs gp L p bad T D V Ld K) (b : Bool) : DR w0 (w.setCell ⟨gr, 2, none⟩ (.bool b)) gr gs gp L p b T D V Ld K := by
  obtain ⟨v, h1, h2⟩ := h.str
  have hne := h.ne
  have hg := gb_set w gr 2 (.bool b)
  refine ⟨gb_new h.old hg (fun k hk => by cases hk; exact h.nr), h.nr, h.ns, h.np, h.pl, h.few, ⟨v, ⟨?_, ?_⟩, h2⟩, ?_, ?_⟩
  · rw [hg.block gs h1.cells.2.2.2 (by simp; exact hne.2.2)]
    exact h1.1
  · exact World.ownsRow.kept (row := some gr) h1.2 hg (.inr (h.own h1).2)
  · rw [hg.block gp (some_lt2 h.sta) (by simp; exact hne.1.symm)]
    exact h.sta
  · have := heap_setCell_same w gr 2 _ _ (.bool b) h.rdr
    rw [this]
    rfl
/-- a cell of the state is set -/
theorem DR.upd (h : DR w0 w gr gs gp L p bad T D V Ld K) (i : Nat) (x : Value) {T' D' : Int} {V' : Nat} {L' K' : Int}
    (e : (w.setCell ⟨gp, i, none⟩ x).heap[gp]? = some (.cells #[.int .i64 T', .int .i64 D', .int .u64 (V' : Int), .int .i64 L', .int .i64 K'] 92 (0, 0))) :
    DR w0 (w.setCell ⟨gp, i, none⟩ x) gr gs gp L p bad T' D' V' L' K' := by
  obtain ⟨v, h1, h2⟩ := h.str
  have hne := h.ne
  have hg := gb_set w gp i x
  refine ⟨gb_new h.old hg (fun k hk => by cases hk; exact h.np), h.nr, h.ns, h.np, h.pl, h.few, ⟨v, ⟨?_, ?_⟩, h2⟩, e, ?_⟩
  · rw [hg.block gs h1.cells.2.2.2 (by simp; exact hne.2.1)]
    exact h1.1
  · exact World.ownsRow.kept (row := some gp) h1.2 hg (.inr (h.own h1).1)
  · rw [hg.block gr (some_lt2 h.rdr) (by simp; exact hne.1)]
    exact h.rdr
end
theorem bitsAt_ubits {L : List UInt8} {s p n : Nat} (h : p + n ≤ s) : bitsAt (ubits L 0 s) p n = ubits L p n := by
  unfold bitsAt ubits
  apply List.map_congr_left
  intro j hj
  have hj := List.mem_range.1 hj
  simp [slot, List.getD, show p + j < s by omega]
set_option maxHeartbeats 1600000 in
theorem dBits_any (w0 w : World) (gr gs gp p : Nat) (L : List UInt8) (bad : Bool) (T D : Int) (V : Nat) (Ld K : Int) (n : Int) (h : DR w0 w gr gs gp L p bad T D V Ld K) :
    Calls Tryd.prog 43 #[.pointer (some ⟨gr, 0, none⟩), .int .i64 n] w fun e w' => ∃ (x : Nat) (p' : Nat) (bad' : Bool), e = .returned (.int .u64 (x : Int)) ∧ x < 18446744073709551616 ∧ DR w0 w' gr gs gp L p' bad' T D V Ld K ∧ (0 ≤ n → n ≤ 64 → x < 2 ^ n.toNat ∧ ∀ x1 p1, tkO L (8 * L.length) p n.toNat = some (x1, p1) → x = x1 ∧ p' = p1 ∧ bad' = bad) ∧ KeepT tR w w' := by
  obtain ⟨v, h1, h2⟩ := h.str
  have HS := hidJ (sbits_any gs v (ubits L 0 (8 * L.length)) p n w h1 (by rw [ubits_len]; exact h.pl) (by rw [ubits_len]; exact h.few))
  obtain ⟨⟨c0, -, -⟩, -⟩ := h.cells
  rw [ubits_len] at HS
  obtain ⟨x, hx⟩ : ∃ x, lVal (ubits L 0 (8 * L.length)) p n (8 * L.length - p) = x := ⟨_, rfl⟩
  obtain ⟨q, hq⟩ : ∃ q, rCode n (8 * L.length - p) = q := ⟨_, rfl⟩
  obtain ⟨p', hp'⟩ : ∃ p', rAt p n (8 * L.length - p) = p' := ⟨_, rfl⟩
  have hpl := h.pl
  have hx64 : x < 18446744073709551616 := by
    rw [← hx]
    unfold lVal
    split
    · rename_i hc
      have hn : ¬ rBad n := by intro hb; unfold rCode at hc; rw [if_pos hb] at hc; cases hc
      have hn2 : n.toNat ≤ 64 := by unfold rBad at hn; omega
      refine Nat.lt_of_lt_of_le (natOf_lt _) ?_
      rw [show (bitsAt (ubits L 0 (8 * L.length)) p n.toNat).length = n.toNat by simp [bitsAt]]
      exact Nat.pow_le_pow_right (by decide) hn2
    · decide
  have hpl' : p' ≤ 8 * L.length := by
    rw [← hp']
    unfold rAt
    split
    · rename_i hc
      unfold rCode at hc
      split at hc
      · cases hc
      · split at hc
        · cases hc
        · omega
    · exact hpl
  have HXl : Hid (0 ≤ n → n ≤ 64 → x < 2 ^ n.toNat) := by
    intro h0 h64
    rw [← hx]
    unfold lVal
    split
    · have := natOf_lt (bitsAt (ubits L 0 (8 * L.length)) p n.toNat)
      rw [show (bitsAt (ubits L 0 (8 * L.length)) p n.toNat).length = n.toNat by simp [bitsAt]] at this
      exact this
    · exact Nat.pow_pos (by decide)
  have HX : Hid (0 ≤ n → n ≤ 64 → ∀ x1 p1, tkO L (8 * L.length) p n.toNat = some (x1, p1) → x = x1 ∧ p' = p1 ∧ q = 0) := by
    intro h0 h64 x1 p1 ht
    unfold tkO at ht
    split at ht
    · rename_i hle
      simp only [Option.some.injEq, Prod.mk.injEq] at ht
      have hq0 : rCode n (8 * L.length - p) = 0 := by
        unfold rCode
        rw [if_neg (by unfold rBad; omega), if_neg (by omega)]
      refine ⟨?_, ?_, by rw [← hq]; exact hq0⟩
      · rw [← hx, ← ht.1]
        unfold lVal
        rw [if_pos hq0, bitsAt_ubits hle]
      · rw [← hp', ← ht.2]
        unfold rAt
        rw [if_pos hq0]
    · cases ht
  rw [hx, hq, hp', I64_of hx64] at HS
  have HH := hidJ (And.intro h (And.intro h1 (And.intro h2 hpl')))
  clear h h1 h2 hx hq hp' hpl hpl'
  go_enter Tryd.func43, Tryd.ntmps43
  go_wp2_with fail
  refine HS.out.mono ?_
  rintro e w2 ⟨rfl, hs2, hg2⟩
  have H2 : Hid (DR w0 w2 gr gs gp L p' bad T D V Ld K ∧ KeepT tR w w2) := by
    obtain ⟨h, h1, h2, hpl'⟩ := HH.out
    have hne := h.ne
    exact ⟨⟨gb_new h.old hg2 (fun k hk => by cases hk; exact h.ns), h.nr, h.ns, h.np, hpl', h.few, ⟨v, hs2, h2⟩, by rw [hg2.block gp (some_lt2 h.sta) (by simp; exact hne.2.1.symm)]; exact h.sta, by rw [hg2.block gr (some_lt2 h.rdr) (by simp; exact hne.2.2.symm)]; exact h.rdr⟩, KeepT.of_own hg2 h1.1 (by simp [tR])⟩
  clear hs2 hg2 HS HH c0
  obtain ⟨⟨-, -, c2⟩, -⟩ := H2.out.1.cells
  have z2 := (H2.out.1.frz 2).2
  cases bad with
  | true =>
    have HF : Hid (DR w0 (w2.setCell ⟨gr, 2, none⟩ (.bool true)) gr gs gp L p' true T D V Ld K ∧ KeepT tR w (w2.setCell ⟨gr, 2, none⟩ (.bool true))) := ⟨H2.out.1.mark true, H2.out.2.trans (KeepT.of_own (gb_set w2 gr 2 _) H2.out.1.rdr (by simp [tR]))⟩
    clear H2
    go_wp2
    go_ret
    exact ⟨x, p', true, rfl, hx64, HF.out.1, fun h0 h1 => ⟨HXl.out h0 h1, fun x1 p1 ht => ⟨(HX.out h0 h1 x1 p1 ht).1, (HX.out h0 h1 x1 p1 ht).2.1, rfl⟩⟩, HF.out.2⟩
  | false =>
    by_cases hq0 : q = 0
    · subst hq0
      have HF : Hid (DR w0 (w2.setCell ⟨gr, 2, none⟩ (.bool false)) gr gs gp L p' false T D V Ld K ∧ KeepT tR w (w2.setCell ⟨gr, 2, none⟩ (.bool false))) := ⟨H2.out.1.mark false, H2.out.2.trans (KeepT.of_own (gb_set w2 gr 2 _) H2.out.1.rdr (by simp [tR]))⟩
      clear H2
      go_wp2
      go_ret
      exact ⟨x, p', false, rfl, hx64, HF.out.1, fun h0 h1 => ⟨HXl.out h0 h1, fun x1 p1 ht => ⟨(HX.out h0 h1 x1 p1 ht).1, (HX.out h0 h1 x1 p1 ht).2.1, rfl⟩⟩, HF.out.2⟩
    · have hqb : (q == 0) = false := by rw [beq_eq_false_iff_ne]; exact hq0
      have hqn : (q != 0) = true := by simp [hq0]
      have HF : Hid (DR w0 (w2.setCell ⟨gr, 2, none⟩ (.bool true)) gr gs gp L p' true T D V Ld K ∧ KeepT tR w (w2.setCell ⟨gr, 2, none⟩ (.bool true))) := ⟨H2.out.1.mark true, H2.out.2.trans (KeepT.of_own (gb_set w2 gr 2 _) H2.out.1.rdr (by simp [tR]))⟩
      clear H2
      go_wp2
      go_ret
      exact ⟨x, p', true, rfl, hx64, HF.out.1, fun h0 h1 => ⟨HXl.out h0 h1, fun x1 p1 ht => absurd (HX.out h0 h1 x1 p1 ht).2.2 hq0⟩, HF.out.2⟩
end Go.Proofs.YtkiefmhampfhoaaDoor

/- CkSu -/
namespace Go.Proofs.YtkiefmhampfhoaaDoor
open Go.RowKit

theorem step_ref {acc y k : Nat} (hk : k ≤ 9) (ha : acc < 128 ^ k) (h9 : k = 9 → y % 128 ≤ 1) :
    bits .or .u64 (I64 (BitVec.ofNat 64 acc)) (IntKind.u64.wrap ((y : Int) % 128 * 2 ^ (7 * k))) = I64 (BitVec.ofNat 64 (acc + y % 128 * 128 ^ k)) := by
  have hl := mul_lt (y := y % 128) hk (by omega) h9
  have e : ((y : Int) % 128) = ((y % 128 : Nat) : Int) := by omega
  rw [e, wrap_shl hl, or_step hk ha hl]
set_option maxRecDepth 4000 in
set_option maxHeartbeats 3200000 in
theorem refu_in (v : Value) (l : List UInt8) (p : Nat) (w : World) (hv : Rd w v l) (hp : p ≤ l.length) :
    Calls Tryd.prog 68 #[v, .int .i64 p] w fun e w' => e = .returned (tup3 (uSpec l p)) ∧ w' = w := by
  have Hp : Hid (∀ r, rdU (l.drop p) 0 0 = r → uSpec l (p : Int) = uRes r p) := fun r hr => uSpec_in hp hr
  obtain ⟨a, c, rfl, hn, hm, hb, hz⟩ := hv
  unfold maxLen at hm
  unfold RdA at hb
  have hlt' : l.length ≤ 9223372036854775807 := by omega
  clear hm hn hz
  generalize hN : l.length = n at *
  have HN : Hid (l.length = n) := hN
  clear hN
  have t0 : ¬ (p : Int) < 0 := by omega
  have t1 : ¬ (n : Int) < (p : Int) := by omega
  go_enter Tryd.func68, Tryd.ntmps68
  go_wp2
  go_loop [7, 8] (fun r i => ∃ k : Nat, k ≤ 9 ∧ p + k ≤ n ∧ i = .int .i64 k ∧ ∃ acc : Nat, r = .int .u64 (I64 (BitVec.ofNat 64 acc)) ∧ Hid (acc < 128 ^ k ∧ rdU (l.drop p) 0 0 = rdU (l.drop (p + k)) k acc)) (fun _ i => 10 - (intOf i).toNat)
  case atStart => exact ⟨0, by omega, by omega, rfl, 0, rfl, by decide, rfl⟩
  case round =>
    obtain ⟨k, hk, hkn, rfl, acc, rfl, hacc⟩ := hrel
    by_cases hlt : p + k < n
    · obtain ⟨b, o, rfl, hc⟩ := hb (p + k) hlt
      have hlen : Hid (p + k < l.length) := by show p + k < l.length; rw [HN.out]; exact hlt
      have hc8 : (l.getD (p + k) 0).toNat < 256 := (l.getD (p + k) 0).toNat_lt
      have r1 : Hid (k = 9 → 1 < (l.getD (p + k) 0).toNat → uSpec l (p : Int) = (0, 0, 7)) := fun h1 h2 => Hp.out _ (hacc.out.2.trans (rd_large hlen.out h1 h2))
      have r2 : Hid (0 < k → (l.getD (p + k) 0).toNat = 0 → uSpec l (p : Int) = (0, 0, 3)) := fun h1 h2 => Hp.out _ (hacc.out.2.trans (rd_form hlen.out h1 h2))
      have r3 : Hid ((k = 9 → (l.getD (p + k) 0).toNat ≤ 1) → (l.getD (p + k) 0).toNat < 128 → (0 < k → (l.getD (p + k) 0).toNat ≠ 0) → uSpec l (p : Int) = (acc + (l.getD (p + k) 0).toNat * 128 ^ k, (p : Int) + ((k + 1 : Nat) : Int), 0)) :=
        fun h1 h2 h3 => Hp.out _ (hacc.out.2.trans (rd_ok hlen.out h1 h2 h3))
      have r4 : Hid (k ≠ 9 → ¬ (l.getD (p + k) 0).toNat < 128 → rdU (l.drop p) 0 0 = rdU (l.drop (p + k + 1)) (k + 1) (acc + (l.getD (p + k) 0).toNat % 128 * 128 ^ k)) := fun h1 h2 => hacc.out.2.trans (rd_more hlen.out h1 h2)
      have hacc1 : Hid (acc < 128 ^ k) := hacc.out.1
      clear hacc Hp
      generalize (l.getD (p + k) 0).toNat = y at *
      clear hb
      by_cases hk9 : k = 9
      · have K9 : Hid (k = 9) := hk9
        have hk9' : ((k : Int) == 9) = true := by simp; omega
        have hkp : (0 : Int) < (k : Int) := by omega
        clear hk9
        by_cases hy1 : 1 < (y : Int)
        · have HY : Hid (1 < y) := by show 1 < y; omega
          go_wp2
          go_ret3
          exact ⟨by rw [r1.out K9.out HY.out]; exact ret3 I64_0.symm rfl rfl, rfl⟩
        · have hst : Hid (bits .or .u64 (I64 (BitVec.ofNat 64 acc)) (IntKind.u64.wrap ((y : Int) % 128 * 2 ^ (7 * k))) = I64 (BitVec.ofNat 64 (acc + y * 128 ^ k))) := by
            have := step_ref (acc := acc) (y := y) (k := k) (by omega) hacc1.out (by omega)
            rwa [Nat.mod_eq_of_lt (show y < 128 by omega)] at this
          by_cases hy0 : y = 0
          · have Y0 : Hid (y = 0) := hy0
            have hy0' : ((y : Int) == 0) = true := by simp; omega
            have hy8 : (y : Int) < 128 := by omega
            clear hy0
            go_wp2
            go_ret3
            exact ⟨by rw [r2.out (by have := K9.out; omega) Y0.out]; exact ret3 I64_0.symm rfl rfl, rfl⟩
          · have hy0' : ((y : Int) == 0) = false := by simp; omega
            have hy8 : (y : Int) < 128 := by omega
            have HY : Hid (y ≠ 0 ∧ y ≤ 1) := ⟨hy0, by omega⟩
            go_wp2
            go_ret3
            exact ⟨by rw [r3.out (fun _ => HY.out.2) (by have := HY.out.2; omega) (fun _ => HY.out.1)]; exact ret3 hst.out (show _ = (p : Int) + ((k + 1 : Nat) : Int) by omega) rfl, rfl⟩
      · have hk9' : ((k : Int) == 9) = false := by simp; omega
        by_cases hy8 : (y : Int) < 128
        · have hst : Hid (bits .or .u64 (I64 (BitVec.ofNat 64 acc)) (IntKind.u64.wrap ((y : Int) % 128 * 2 ^ (7 * k))) = I64 (BitVec.ofNat 64 (acc + y * 128 ^ k))) := by
            have := step_ref (acc := acc) (y := y) (k := k) (by omega) hacc1.out (by omega)
            rwa [Nat.mod_eq_of_lt (show y < 128 by omega)] at this
          by_cases hy0 : y = 0
          · have Y0 : Hid (y = 0) := hy0
            have hy0' : ((y : Int) == 0) = true := by simp; omega
            by_cases hk0 : k = 0
            · have K0 : Hid (k = 0) := hk0
              have hkp : ¬ (0 : Int) < (k : Int) := by omega
              clear hy0 hk0
              go_wp2
              go_ret3
              exact ⟨by rw [r3.out (by omega) (by omega) (fun h => by have := K0.out; omega)]; exact ret3 hst.out (show _ = (p : Int) + ((k + 1 : Nat) : Int) by omega) rfl, rfl⟩
            · have hkp : (0 : Int) < (k : Int) := by omega
              clear hy0
              go_wp2
              go_ret3
              exact ⟨by rw [r2.out (by omega) Y0.out]; exact ret3 I64_0.symm rfl rfl, rfl⟩
          · have hy0' : ((y : Int) == 0) = false := by simp; omega
            go_wp2
            go_ret3
            exact ⟨by rw [r3.out (by omega) (by omega) (by omega)]; exact ret3 hst.out (show _ = (p : Int) + ((k + 1 : Nat) : Int) by omega) rfl, rfl⟩
        · have HST : Hid (bits .or .u64 (I64 (BitVec.ofNat 64 acc)) (IntKind.u64.wrap ((y : Int) % 128 * 2 ^ (7 * k))) = I64 (BitVec.ofNat 64 (acc + y % 128 * 128 ^ k))) := step_ref (by omega) hacc1.out (by omega)
          go_wp2
          go_round
          case rel => exact ⟨k + 1, by omega, by omega, by go_num, acc + y % 128 * 128 ^ k, by rw [HST.out], acc_lt hacc1.out (by omega), r4.out hk9 (by omega)⟩
          case measure => simp [intOf]; omega
    · have hend : Hid (uSpec l (p : Int) = (0, 0, 9)) := Hp.out _ (hacc.out.2.trans (rd_end _ (by rw [HN.out]; omega)))
      clear hb
      go_wp2
      go_ret3
      exact ⟨by rw [hend.out]; exact ret3 I64_0.symm rfl rfl, rfl⟩
set_option maxHeartbeats 800000 in
theorem refu_out (v : Value) (l : List UInt8) (p : Int) (w : World) (hv : Rd w v l) (hp : p < 0 ∨ (l.length : Int) < p) :
    Calls Tryd.prog 68 #[v, .int .i64 p] w fun e w' => e = .returned (tup3 (uSpec l p)) ∧ w' = w := by
  have Hs : Hid (uSpec l p = (0, 0, 1)) := if_pos hp
  obtain ⟨a, c, rfl, -, -, -, -⟩ := hv
  by_cases h : p < 0
  · clear hp
    go_enter Tryd.func68, Tryd.ntmps68
    go_wp2
    go_ret3
    exact ⟨by rw [Hs.out]; exact ret3 I64_0.symm rfl rfl, rfl⟩
  · have h1 : (l.length : Int) < p := by omega
    clear hp
    go_enter Tryd.func68, Tryd.ntmps68
    go_wp2
    go_ret3
    exact ⟨by rw [Hs.out]; exact ret3 I64_0.symm rfl rfl, rfl⟩
theorem refu_any (v : Value) (l : List UInt8) (p : Int) (w : World) (hv : Rd w v l) :
    Calls Tryd.prog 68 #[v, .int .i64 p] w fun e w' => e = .returned (tup3 (uSpec l p)) ∧ w' = w := by
  by_cases hp : p < 0 ∨ (l.length : Int) < p
  · exact refu_out v l p w hv hp
  · obtain ⟨q, rfl⟩ := Int.eq_ofNat_of_zero_le (show 0 ≤ p by omega)
    exact refu_in v l q w hv (by omega)
end Go.Proofs.YtkiefmhampfhoaaDoor

/- CkSn -/
namespace Go.Proofs.YtkiefmhampfhoaaDoor
open Go.RowKit

/-- bytes of another list are laid: the reader is where it was -/
theorem DR.bytes {w0 w w' : World} {gr gs gp p : Nat} {L : List UInt8} {bad : Bool} {T D : Int} {V : Nat} {Ld K : Int} (h : DR w0 w gr gs gp L p bad T D V Ld K) {b : Nat} {v v' : Value} {l : List UInt8} (ho : Own w b v l) (hb : w0.heap.size ≤ b) (hf : Fr w w' v v') : DR w0 w' gr gs gp L p bad T D V Ld K := by
  obtain ⟨u, h1, h2⟩ := h.str
  have hty : ∀ k, v.ownBlock = some k → ∃ cur fr, w.heap[k]? = some (.cells cur 5 fr) := fun k hk => by
    rcases ho.2 with ⟨rfl, _⟩ | ⟨g', cap, cur, rfl, _, hh, _⟩
    · simp [Value.ownBlock] at hk
    · simp only [Value.ownBlock, Option.some.injEq] at hk
      subst hk
      exact ⟨_, _, hh⟩
  have nk : ∀ {g A t fr}, w.heap[g]? = some (.cells A t fr) → t ≠ 5 → some g ≠ v.ownBlock := fun {g A t fr} hh ht e => by
    obtain ⟨cur, fr', h3⟩ := hty g e.symm
    rw [hh] at h3
    simp only [Option.some.injEq, Obj.cells.injEq] at h3
    exact ht h3.2.1
  refine ⟨gb_new h.old hf.1 (fun k hk => Nat.le_trans hb (ho.lt k hk).1), h.nr, h.ns, h.np, h.pl, h.few, ⟨u, ⟨?_, ?_⟩, h2⟩, ?_, ?_⟩
  · rw [hf.1.block gs h1.cells.2.2.2 (nk h1.1 (by decide))]
    exact h1.1
  · refine World.ownsRow.kept h1.2 hf.1 ?_
    rcases h1.2.2 with ⟨rfl, _⟩ | ⟨g', cap, cur, rfl, _, hh, _⟩
    · exact .inl rfl
    · exact .inr (nk hh (by decide))
  · rw [hf.1.block gp (some_lt2 h.sta) (nk h.sta (by decide))]
    exact h.sta
  · rw [hf.1.block gr (some_lt2 h.rdr) (nk h.rdr (by decide))]
    exact h.rdr
theorem KeepT.fr {w w' : World} {b : Nat} {v v' : Value} {l : List UInt8} (ho : Own w b v l) (hf : Fr w w' v v') : KeepT (5 :: tR) w w' :=
  ⟨hf.1.size, fun k A t fr hk hn => hf.1.block k (some_lt2 hk) (fun e => by
    rcases ho.2 with ⟨rfl, _⟩ | ⟨g', cap, cur, rfl, _, hh, _⟩
    · simp [Value.ownBlock] at e
    · simp only [Value.ownBlock, Option.some.injEq] at e
      subst e
      rw [hk] at hh
      simp only [Option.some.injEq, Obj.cells.injEq] at hh
      exact hn (by rw [hh.2.1]; simp))⟩
/-- what is to come of a number behind bs -/
def NumD (L : List UInt8) (s p : Nat) (bad : Bool) (bs : List UInt8) (q : Nat) (bad' : Bool) : Prop := bad = false → ∀ r p', numO L s 11 p = some (r, p') → bad' = false ∧ ∃ r', r = bs ++ r' ∧ numO L s (11 - bs.length) q = some (r', p')

set_option maxRecDepth 8000 in
set_option maxHeartbeats 3200000 in
theorem dNumber_any (w0 w : World) (gr gs gp p : Nat) (L : List UInt8) (bad : Bool) (T D : Int) (V : Nat) (Ld K : Int) (h : DR w0 w gr gs gp L p bad T D V Ld K) :
    Calls Tryd.prog 42 #[.pointer (some ⟨gr, 0, none⟩)] w fun e w' => ∃ (x : Nat) (p' : Nat) (bad' : Bool), e = .returned (.int .u64 (x : Int)) ∧ x < 18446744073709551616 ∧ DR w0 w' gr gs gp L p' bad' T D V Ld K ∧ (bad = false → ∀ r p1, numO L (8 * L.length) 11 p = some (r, p1) → (uSpec r 0).2.2 = 0 → (uSpec r 0).1 < 18446744073709551616 → x = (uSpec r 0).1 ∧ p' = p1 ∧ bad' = false) ∧ KeepT (5 :: tR) w w' := by
  have HR := hidJ h
  clear h
  go_enter Tryd.func42, Tryd.ntmps42
  go_upto_block 0 with fail
  go_cut [3] from 8 (fun s wx => ∃ bs aT cT, s = .slice aT bs.length cT ∧ Hid (∃ q bad', Own wx w.heap.size s bs ∧ DR w0 wx gr gs gp L q bad' T D V Ld K ∧ (bad = false → ∀ r p', numO L (8 * L.length) 11 p = some (r, p') → bad' = false ∧ r = bs ∧ p' = q) ∧ KeepT (5 :: tR) w wx))
  case first =>
    go_wp2_with fail
    go_loopw [3, 4] (fun s i wr => ∃ (n : Nat) (aT : Option Addr) (cT : Nat), n ≤ 11 ∧ i = .int .i64 (n : Int) ∧ s = .slice aT n cT ∧ Hid (∃ bs q bad', bs.length = n ∧ Own wr w.heap.size s bs ∧ DR w0 wr gr gs gp L q bad' T D V Ld K ∧ NumD L (8 * L.length) p bad bs q bad' ∧ KeepT (5 :: tR) w wr)) (fun _ i _ => 11 - (intOf i).toNat)
    case atStart => exact ⟨0, none, 0, by omega, rfl, rfl, [], p, bad, rfl, Own.nil _ _, HR.out, fun hb r p' hn => ⟨hb, r, rfl, hn⟩, KeepT.refl _ _⟩
    case round =>
      obtain ⟨n, aT, cT, hn, rfl, rfl, hr⟩ := hrel
      obtain ⟨bs, q, bad', h1, h2, h3, h4, h5⟩ := hr.out
      have HH := hidJ (And.intro h1 (And.intro h2 (And.intro h3 (And.intro h4 h5))))
      obtain ⟨⟨-, -, cb⟩, -⟩ := h3.cells
      clear h1 h2 h3 h4 h5 hr
      by_cases hlt : n < 11
      · have hlti : (n : Int) < 11 := by omega
        cases bad' with
        | true =>
          have HE : Hid (∃ q bad', Own wr w.heap.size (.slice aT bs.length cT) bs ∧ DR w0 wr gr gs gp L q bad' T D V Ld K ∧ (bad = false → ∀ r p', numO L (8 * L.length) 11 p = some (r, p') → bad' = false ∧ r = bs ∧ p' = q) ∧ KeepT (5 :: tR) w wr) := by
            obtain ⟨h1, h2, h3, h4, h5⟩ := HH.out
            exact ⟨q, true, by rw [h1]; exact h2, h3, fun hb r p' hn => (by have := (h4 hb r p' hn).1; cases this), h5⟩
          go_wp2_with fail
          go_meet
          case rel => exact ⟨bs, aT, cT, by rw [HH.out.1], by have := HE.out; rw [HH.out.1] at this; exact this⟩
        | false =>
          have HB := hidJ (dBits_any w0 wr gr gs gp q L false T D V Ld K 8 HH.out.2.2.1)
          go_wp2_with fail
          refine HB.out.mono ?_
          rintro e w2 ⟨x, p2, bad2, rfl, hx, hD2, hex, hk2⟩
          have hx8 : (x : Int) % 256 = ((UInt8.ofNat x).toNat : Int) := by rw [UInt8.toNat_ofNat']; omega
          have H2 : Hid (Own w2 w.heap.size (.slice aT n cT) bs ∧ DR w0 w2 gr gs gp L p2 bad2 T D V Ld K ∧ KeepT (5 :: tR) w w2) := ⟨ownT HH.out.2.1 hk2 (by decide), hD2, HH.out.2.2.2.2.trans (hk2.mono (fun t ht => List.mem_cons_of_mem _ ht))⟩
          have HEx : Hid (bad = false → ∀ r p', numO L (8 * L.length) 11 p = some (r, p') → bad2 = false ∧ ((x < 128 ∧ r = bs ++ [UInt8.ofNat x] ∧ p' = p2) ∨ (¬ x < 128 ∧ x < 256 ∧ ∃ r', r = bs ++ [UInt8.ofNat x] ++ r' ∧ numO L (8 * L.length) (11 - (bs ++ [UInt8.ofNat x]).length) p2 = some (r', p')))) := by
            intro hb r p' hnum
            obtain ⟨-, r', hr', hn'⟩ := HH.out.2.2.2.1 hb r p' hnum
            rw [HH.out.1] at hn'
            obtain ⟨k, hk⟩ : ∃ k, 11 - n = k + 1 := ⟨10 - n, by omega⟩
            have hk2 : 11 - (bs ++ [UInt8.ofNat x]).length = k := by rw [List.length_append, HH.out.1]; simp; omega
            rw [hk, numO] at hn'
            cases ht : tkO L (8 * L.length) q 8 with
            | none => rw [ht] at hn'; cases hn'
            | some y =>
              obtain ⟨x1, p1⟩ := y
              obtain ⟨rfl, rfl, rfl⟩ := (hex (by decide) (by decide)).2 x1 p1 ht
              rw [ht] at hn'
              have hx1 := (tkO_lt ht).1
              refine ⟨rfl, ?_⟩
              simp only at hn'
              split at hn'
              · rename_i hx2
                simp only [Option.some.injEq, Prod.mk.injEq] at hn'
                exact .inl ⟨hx2, by rw [hr', hn'.1], hn'.2.symm⟩
              · rename_i hx2
                cases hn2 : numO L (8 * L.length) k p2 with
                | none => rw [hn2] at hn'; cases hn'
                | some z =>
                  obtain ⟨b2, p3⟩ := z
                  rw [hn2] at hn'
                  simp only [Option.some.injEq, Prod.mk.injEq] at hn'
                  refine .inr ⟨hx2, by simpa using hx1, b2, by rw [hr', ← hn'.1]; simp, ?_⟩
                  rw [hk2, ← hn'.2]
                  exact hn2
          have HN := hidJ HH.out.1
          clear HB HH hD2 hex hk2 cb
          have hb8 : (UInt8.ofNat x).toNat = x % 256 := by rw [UInt8.toNat_ofNat']
          have HX := hidJ (And.intro hb8 hx)
          clear hb8 hx
          generalize hb1 : UInt8.ofNat x = b1 at *
          clear hb1
          have hol : bs.length = n := HN.out
          have hws : w.heap.size ≤ w2.heap.size := H2.out.2.2.1
          go_upto_if 29 with (at_builtin; refine wp_app rfl _ _ rfl w.heap.size _ _ bs [b1] rfl rfl (H2.out.1.keep (alloc_gb _ _)) rd_one ?c1 ?c2 ?_)
          case c1 => first | omega | (simp; omega)
          case c2 => first | omega | (simp; omega)
          intro v' w3 ho' hf'
          obtain ⟨g3, cap3, rfl, hg0, hg1, hcap, hcm, hcell⟩ := ho'.form (by simp)
          have hlen : (bs ++ [b1]).length = n + 1 := by rw [List.length_append, hol]; rfl
          rw [hlen] at hcap hcell
          have hcn := hcell n (by omega)
          have hgn : (bs ++ [b1]).getD n 0 = b1 := by rw [← hol]; simp [List.getD]
          rw [hgn] at hcn
          have hcap2 : (n : Int) < ((n + 1 : Nat) : Int) := by omega
          have hF : DR w0 w3 gr gs gp L p2 bad2 T D V Ld K := (H2.out.2.1.keep (alloc_gb w2 (.cells #[.int .u8 (b1.toNat : Int)] 5))).bytes (H2.out.1.keep (alloc_gb _ _)) HR.out.old.size hf'
          have hK3 : KeepT (5 :: tR) w w3 := (H2.out.2.2.trans (KeepT.of_none (alloc_gb _ _))).trans (KeepT.fr (H2.out.1.keep (alloc_gb _ _)) hf')
          rw [hlen] at ho' ⊢
          have H3 := hidJ (And.intro ho' (And.intro hF (And.intro hK3 hlen)))
          clear ho' hf' hF hK3 hcell hg0 hg1 hcm hgn H2 hlen
          by_cases hb1 : b1.toNat < 128
          · have hb1i : (b1.toNat : Int) < 128 := by omega
            have HE : Hid (∃ q bad', Own w3 w.heap.size (.slice (some ⟨g3, 0, none⟩) (n + 1) cap3) (bs ++ [b1]) ∧ DR w0 w3 gr gs gp L q bad' T D V Ld K ∧ (bad = false → ∀ r p', numO L (8 * L.length) 11 p = some (r, p') → bad' = false ∧ r = bs ++ [b1] ∧ p' = q) ∧ KeepT (5 :: tR) w w3) := by
              refine ⟨p2, bad2, H3.out.1, H3.out.2.1, fun hb r p' hnum => ?_, H3.out.2.2.1⟩
              obtain ⟨e1, ⟨-, e2, e3⟩ | ⟨e2, e3, -⟩⟩ := HEx.out hb r p' hnum
              · exact ⟨e1, e2, e3⟩
              · have := HX.out.1; omega
            clear HEx
            go_wp2_with fail
            go_meet
            case rel => exact ⟨bs ++ [b1], some ⟨g3, 0, none⟩, cap3, by rw [H3.out.2.2.2], HE⟩
          · have hb1i : ¬ (b1.toNat : Int) < 128 := by omega
            have HE : Hid (∃ bs' q bad', bs'.length = n + 1 ∧ Own w3 w.heap.size (.slice (some ⟨g3, 0, none⟩) (n + 1) cap3) bs' ∧ DR w0 w3 gr gs gp L q bad' T D V Ld K ∧ NumD L (8 * L.length) p bad bs' q bad' ∧ KeepT (5 :: tR) w w3) := by
              refine ⟨bs ++ [b1], p2, bad2, H3.out.2.2.2, H3.out.1, H3.out.2.1, fun hb r p' hnum => ?_, H3.out.2.2.1⟩
              obtain ⟨e1, ⟨e2, -, -⟩ | ⟨-, -, r', e3, e4⟩⟩ := HEx.out hb r p' hnum
              · have := HX.out.1; omega
              · exact ⟨e1, r', e3, e4⟩
            clear HEx
            go_wp2
            go_roundw
            case rel => exact ⟨n + 1, some ⟨g3, 0, none⟩, cap3, by omega, by go_num, rfl, HE⟩
            case measure => simp [intOf]; omega
      · obtain rfl : n = 11 := by omega
        have HE : Hid (∃ q bad', Own wr w.heap.size (.slice aT 11 cT) bs ∧ DR w0 wr gr gs gp L q bad' T D V Ld K ∧ (bad = false → ∀ r p', numO L (8 * L.length) 11 p = some (r, p') → bad' = false ∧ r = bs ∧ p' = q) ∧ KeepT (5 :: tR) w wr) := by
          obtain ⟨h1, h2, h3, h4, h5⟩ := HH.out
          refine ⟨q, bad', h2, h3, fun hb r p' hnum => ?_, h5⟩
          obtain ⟨-, r', -, h6⟩ := h4 hb r p' hnum
          rw [h1] at h6
          cases h6
        go_wp2_with fail
        go_meet
        case rel => exact ⟨bs, aT, cT, by rw [HH.out.1], HE⟩
  case rest =>
    obtain ⟨bs, aT, cT, rfl, HC⟩ := hcut
    obtain ⟨q, bad', h2, h3, h4, h5⟩ := HC.out
    have HU := hidJ (refu_any _ bs 0 wc h2.rd)
    have HH := hidJ (And.intro h3 (And.intro h4 h5))
    clear HC h2 h3 h4 h5
    generalize wc = w4 at *
    go_wp2_with fail
    refine HU.out.mono ?_
    rintro e w5 ⟨rfl, hw5⟩
    have hw5 := hw5.symm
    subst hw5
    unfold tup3
    obtain ⟨X, hX⟩ : ∃ X : Nat, I64 (BitVec.ofNat 64 (uSpec bs 0).1) = (X : Int) ∧ X < 18446744073709551616 ∧ ((uSpec bs 0).1 < 18446744073709551616 → X = (uSpec bs 0).1) :=
      ⟨(BitVec.ofNat 64 (uSpec bs 0).1).toNat, rfl, (BitVec.ofNat 64 (uSpec bs 0).1).isLt, fun h => nat_bv h⟩
    rw [hX.1]
    obtain ⟨c5, hc5⟩ : ∃ c, (uSpec bs 0).2.2 = c := ⟨_, rfl⟩
    rw [hc5]
    generalize (uSpec bs 0).2.1 = k5 at *
    have hX64 := hX.2.1
    have HX := hidJ (And.intro hX.2.2 hc5)
    clear hX hc5 HU
    obtain ⟨⟨-, -, cb⟩, -⟩ := HH.out.1.cells
    have z2 := (HH.out.1.frz 2).2
    have HM : Hid (∀ b, DR w0 (w4.setCell ⟨gr, 2, none⟩ (.bool b)) gr gs gp L q b T D V Ld K ∧ KeepT (5 :: tR) w (w4.setCell ⟨gr, 2, none⟩ (.bool b))) := fun b => ⟨HH.out.1.mark b, HH.out.2.2.trans ((KeepT.of_own (gb_set w4 gr 2 _) HH.out.1.rdr (by simp [tR])).mono (fun t ht => List.mem_cons_of_mem _ ht))⟩
    have HEx := hidJ HH.out.2.1
    clear HH
    cases bad' with
    | true =>
      go_wp2
      go_ret
      exact ⟨X, q, true, rfl, hX64, (HM.out true).1, fun hb r p1 hn _ _ => (by have := (HEx.out hb r p1 hn).1; cases this), (HM.out true).2⟩
    | false =>
      by_cases hc0 : c5 = 0
      · subst hc0
        go_wp2
        go_ret
        exact ⟨X, q, false, rfl, hX64, (HM.out false).1, fun hb r p1 hn h1 h2 => (by
          obtain ⟨-, rfl, rfl⟩ := HEx.out hb r p1 hn
          exact ⟨HX.out.1 h2, rfl, rfl⟩), (HM.out false).2⟩
      · have hcb : (c5 == 0) = false := by rw [beq_eq_false_iff_ne]; exact hc0
        have hcn : (c5 != 0) = true := by simp [hc0]
        go_wp2
        go_ret
        exact ⟨X, q, true, rfl, hX64, (HM.out true).1, fun hb r p1 hn h1 h2 => (by
          obtain ⟨-, rfl, rfl⟩ := HEx.out hb r p1 hn
          exact absurd (HX.out.2.symm.trans h1) hc0), (HM.out true).2⟩
end Go.Proofs.YtkiefmhampfhoaaDoor
