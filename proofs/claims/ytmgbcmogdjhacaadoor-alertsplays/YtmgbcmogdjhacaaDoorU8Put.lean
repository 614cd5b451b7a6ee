/-
  A text behind bytes: PutText: the walk.
-/
import Derived.Test.YtmgbcmogdjhacaaDoorCkPuts
import Derived.Lib.AppendStr
namespace Go.Proofs.YtmgbcmogdjhacaaDoor
open Go.RowKit Go.Lib

theorem putU_eq (v : Value) (l : List UInt8) (x : BitVec 64) (X : Int) (hX : X = I64 x) (w : World) (hv : Rd w v l) (hsz : l.length ≤ 175921850000000) :
    Calls Tryd.prog 55 #[v, .int .u64 X] w fun e w' => ∃ v', e = .returned v' ∧ Own w' w.heap.size v' (l ++ uv x.toNat) ∧ w.grownBy w' none := by
  subst hX
  exact putU_any v l x w hv hsz

theorem cell_keep {w w' : World} {g j : Nat} {u : Value} (h : w.cell? ⟨g, j, none⟩ = some u) (hg : w.grownBy w' none) : w'.cell? ⟨g, j, none⟩ = some u := by
  rw [← h]
  exact World.cell?_of_block (hg.block g (block_lt h) (by simp))



theorem own_str {w : World} {base : Nat} {v : Value} {l : List UInt8} {t : ByteArray} (h : w.ownsRow base 5 1 v (l.length + t.size) (l.map bv ++ strCells t)) : Own w base v (l ++ t.data.toList) := by
  have e : (l ++ t.data.toList).length = l.length + t.size := by rw [List.length_append, Array.length_toList]; rfl
  have e2 : (l ++ t.data.toList).map bv = l.map bv ++ strCells t := by
    rw [List.map_append]
    rfl
  unfold Own
  rw [e, e2]
  exact h
/-- APPEND of a text, for the walk. -/
theorem wp_appS {w : World} {ops : Array Oper} {rest : List Oper} {o : Oper} {a : Act} {Q : Exit → Act → World → Prop} (hgd : o.guard = none) (s x : Operand)
    (ho : o.op = .call { callee := .builtin .append, args := #[s, x], argTypes := #[82, 9] })
    (base : Nat) (v : Value) (l : List UInt8) (t : ByteArray) (hs : a.eval s = v) (hx : a.eval x = .string t) (hown : Own w base v l) (hsz : l.length + t.size ≤ 140737488355328) (hbase : base ≤ w.heap.size)
    (h : ∀ v' w', Own w' base v' (l ++ t.data.toList) → w.grownBy w' v.ownBlock → wpList Tryd.prog ops Q rest (a.put o.dst v') w') : wpList Tryd.prog ops Q (o :: rest) a w := by
  refine wpList_plain hgd fun K hK => ?_
  obtain ⟨i0, hi, hz0, hz1, hz2⟩ := info_parts infoB
  obtain ⟨v', w', hrun, h2, h3, -⟩ := run_append_own_string (P := Tryd.prog) w base 82 9 o.type 5 i0 Tryd.underlying82 Tryd.underlying9 hi hz0 hz1 hz2 v l.length (l.map bv) hown t (by unfold maxLen; omega) hsz hbase
  unfold Oper.wp execOp
  simp only [ho, resolve, invoke, builtin, Sem.run_bind, Sem.run_pure, Result.andThen_ok, List.map_toArray, List.map_cons, List.map_nil, hs, hx, hrun]
  exact hK _ _ (h v' w' (own_str h2) h3)

set_option maxHeartbeats 3200000 in
/-- PUTTEXT -/
theorem putText_any (v : Value) (l s : List UInt8) (w : World) (hv : Rd w v l) (hsz : l.length + s.length ≤ 100000000000000) :
    Calls Tryd.prog 56 #[v, .string (ByteArray.mk ⟨s⟩)] w fun e w' => ∃ v', e = .returned v' ∧ Own w' w.heap.size v' (l ++ uv s.length ++ s) ∧ w.grownBy w' none := by
  have HV : Hid (Rd w v l) := hv
  clear hv
  have hz : (ByteArray.mk ⟨s⟩).size = s.length := rfl
  obtain ⟨SL, hSL⟩ : ∃ SL, s.length = SL := ⟨_, rfl⟩
  have HSL : Hid (s.length = SL) := hSL
  have hI : (SL : Int) = I64 (BitVec.ofNat 64 SL) := by rw [I64_of (by omega)]
  have hN : (BitVec.ofNat 64 SL).toNat = SL := by simp; omega
  have H2 : Hid (∀ W u, Own W w.heap.size u l → w.grownBy W none → Calls Tryd.prog 72 #[u, .int .u64 (SL : Int)] W fun e w' => ∃ v', e = .returned v' ∧ Hid (Own w' w.heap.size v' (l ++ uv SL) ∧ w.grownBy w' none)) := fun W u hu hg => by
    have hlt : ∀ k, u.ownBlock = some k → w.heap.size ≤ k := fun k hk => (hu.lt k hk).1
    rw [hI]
    refine (addU_any w.heap.size u l (BitVec.ofNat 64 SL) W hu hg.size (by omega)).mono ?_
    rintro e w' ⟨v', he, ho, hf⟩
    rw [hN] at ho
    exact ⟨v', he, ho, gb_new hg hf.1 hlt⟩
  clear hI hN
  rw [hSL] at hz hsz ⊢
  clear hSL
  go_enter Tryd.func56, Tryd.ntmps56
  go_wp2_with fail
  refine (withRoom_any v l (10 + SL) _ (by simp) _ HV.out (by omega)).mono ?_
  rintro e w1 ⟨v1, rfl, ho1, hg1, hb1⟩
  have H1 : Hid (Own w1 w.heap.size v1 l ∧ w.grownBy w1 none) := ⟨ho1, hg1⟩
  clear ho1 hg1 hb1
  go_wp2_with fail
  refine (H2.out _ _ H1.out.1 H1.out.2).mono ?_
  rintro e w2 ⟨v2, rfl, R2⟩
  have hul := uv_len64 (BitVec.ofNat 64 SL)
  go_wp2_with (at_builtin; refine wp_appS rfl _ _ rfl w.heap.size _ (l ++ uv SL) _ rfl rfl R2.out.1 ?a1 R2.out.2.size ?_)
  case a1 =>
    rw [hz, List.length_append]
    have e : (BitVec.ofNat 64 SL).toNat = SL := by simp; omega
    rw [e] at hul
    omega
  intro v3 w3 ho3 hg3
  have H3 : Hid (Own w3 w.heap.size v3 (l ++ uv SL ++ s) ∧ w.grownBy w3 none) := ⟨by rw [List.append_assoc]; exact ho3, gb_new R2.out.2 hg3 (fun k hk => (R2.out.1.lt k hk).1)⟩
  clear ho3 hg3
  go_wp2
  go_ret
  exact ⟨_, rfl, H3.out⟩
end Go.Proofs.YtmgbcmogdjhacaaDoor
