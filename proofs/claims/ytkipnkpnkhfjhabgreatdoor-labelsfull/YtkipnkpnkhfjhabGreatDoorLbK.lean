/-
  Labels copied: what copyOf comes to: the walk. A law for the copy of rows of whatever elements.
-/
import Derived.Test.YtkipnkpnkhfjhabGreatDoorLbLent
import Derived.Laws.CopyRow
import Derived.Laws.MakeOwn
namespace Go.Proofs.YtkipnkpnkhfjhabGreatDoor
open Go.RowKit

theorem run_copyW {P : Program} (w : World) (dT sT ty elem : TypeId) (g o dLen dCap : Nat) (a : Addr) (sLen sCap sz : Nat) (cur : Array Value) (t : TypeId) (cs : List Value)
    (hu : P.underlying dT = some (.slice elem)) (hs : (P.info? elem).map (·.size) = some sz)
    (hg : w.heap[g]? = some (.cells cur t (0, 0))) (hn : cs.length = Nat.min sLen dLen * sz)
    (hsrc : ∀ j v, cs[j]? = some v → w.cell? (a.add j) = some v) (hfit : o + cs.length ≤ cur.size) (h1 : ∀ v ∈ cs, v.oneCell' = true) :
    (Builtin.copy_ #[dT, sT] ty #[.slice (some ⟨g, o, none⟩) dLen dCap, .slice (some a) sLen sCap]).run P w =
      .ok (goInt (Nat.min sLen dLen)) (w.setRow g (cur.toList.take o ++ cs ++ cur.toList.drop (o + cs.length)).toArray) := by
  have hl := run_loadCells_list (P := P) w a cs hsrc
  have hst := run_storeCells_at P g o t cs 0 cur w hg (by simpa using hfit) h1
  cases hq : P.info? elem with
  | none => simp [hq] at hs
  | some i =>
    have hi : i.size = sz := by simpa [hq] using hs
    simp [Builtin.copy_, run_underlying hu, Builtin.lenOf, Builtin.firstCells, sizeOf, typeInfo, hq, hi, ← hn, hl, hst]

set_option maxRecDepth 8000 in
set_option maxHeartbeats 3200000 in
theorem copyOf_any (w : World) (v : Value) (ls : List LbT) (hv : RdL w v ls) (hl : ls.length ≤ 4398046511104) :
    Calls Tryz.prog 36 #[v] w fun e w' => e = .returned (.slice (some ⟨w.heap.size, 0, none⟩) ls.length ls.length) ∧ w'.heap[w.heap.size]? = some (.cells (lbf ls).toArray 70 (0, 0)) ∧ w.grownBy w' none := by
  have HV : Hid (RdL w v ls) := hv
  obtain ⟨a, c, rfl, hc1, hc2, -, hc4⟩ := hv
  unfold maxLen at hc2
  obtain ⟨i0, hi, hz0, hz1, hz2⟩ := info_parts infoLb
  have hmk := run_make w 29 70 i0 _ Tryz.underlying29 hi hz0 .i64 .i64 (ls.length : Int) (ls.length : Int) (by omega) (by omega) (by rw [hz2]; omega) (by omega)
  rw [Int.toNat_natCast, hz1] at hmk
  have hsz : (Tryz.prog.info? 70).map (·.size) = some 2 := by rw [hi, Option.map_some, hz1]
  have hb := Go.heap_alloc_new w (.cells (madeCells (Value.agg #[.string ⟨#[]⟩, .string ⟨#[]⟩]).cells (ls.length * 2)) 70)
  have hg := World.grownBy_alloc w (.cells (madeCells (Value.agg #[.string ⟨#[]⟩, .string ⟨#[]⟩]).cells (ls.length * 2)) 70) none
  have hms := size_madeCells (Value.agg #[.string ⟨#[]⟩, .string ⟨#[]⟩]).cells (ls.length * 2)
  generalize madeCells (Value.agg #[.string ⟨#[]⟩, .string ⟨#[]⟩]).cells (ls.length * 2) = mc at *
  generalize w.alloc (.cells mc 70) = W1 at *
  have HC : Hid (∃ w2, (∀ ty, (Builtin.copy_ #[29, 29] ty #[.slice (some ⟨w.heap.size, 0, none⟩) ls.length ls.length, .slice a ls.length c]).run Tryz.prog W1 = .ok (goInt ls.length) w2) ∧ w2.heap[w.heap.size]? = some (.cells (lbf ls).toArray 70 (0, 0)) ∧ w.grownBy w2 none) := by
    cases a with
    | none =>
      have hc0 := hc4 rfl
      have hl0 : ls = [] := List.eq_nil_of_length_eq_zero (by omega)
      subst hl0
      subst hc0
      refine ⟨W1, fun ty => run_copy_nil Tryz.prog W1 _ _ ty _ _ _ _ Tryz.underlying29 (by rw [hsz]; rfl), ?_, hg⟩
      rw [hb]
      have : mc = #[] := Array.eq_empty_of_size_eq_zero (by simpa using hms)
      rw [this]
      rfl
    | some ad =>
      have hsrc : ∀ j u, (lbf ls)[j]? = some u → W1.cell? (ad.add j) = some u := fun j u hj => by
        obtain ⟨ad', e, hcc⟩ := (HV.out.keep hg).rdc j u hj
        cases e
        exact hcc
      have hr := fun ty => run_copyW (P := Tryz.prog) W1 29 29 ty _ w.heap.size 0 ls.length ls.length ad ls.length c 2 mc _ (lbf ls) Tryz.underlying29 hsz hb (by rw [lbf_len]; simp) hsrc (by rw [lbf_len, hms]; omega) (lbf_one ls)
      have hmin : Nat.min ls.length ls.length = ls.length := Nat.min_self _
      rw [hmin] at hr
      have hdr : mc.toList.drop (0 + (lbf ls).length) = [] := List.drop_eq_nil_of_le (by rw [lbf_len, Array.length_toList, hms]; omega)
      rw [hdr, List.take_zero, List.append_nil, List.nil_append] at hr
      refine ⟨_, hr, setRow_heap W1 _ mc _ _ _ hb, ?_⟩
      refine ⟨hg.os, hg.tape, hg.output, ?_, fun k hk hne => ?_⟩
      · have := hg.size
        simpa [World.setRow] using this
      · exact (setRow_other W1 _ k _ (by omega)).trans (hg.block k hk hne)
  obtain ⟨w2, hcp, hb2, hg2⟩ := HC.out
  have H2 : Hid (w2.heap[w.heap.size]? = some (.cells (lbf ls).toArray 70 (0, 0)) ∧ w.grownBy w2 none) := ⟨hb2, hg2⟩
  clear HC hb2 hg2 hb hg hms hsz hi hz0 hz1 hz2
  go_enter Tryz.func36, Tryz.ntmps36
  go_wp2
  go_ret
  exact ⟨rfl, H2.out⟩
end Go.Proofs.YtkipnkpnkhfjhabGreatDoor
