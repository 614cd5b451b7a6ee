/-
  Lists of numbers and of lists of bytes; the document's Count: laws and walks.
-/
import Derived.Test.YtgbpnkamamafjaaDoorTorn
import Derived.Test.YtgbpnkamamafjaaDoorLists2
import Derived.Test.YtgbpnkamamafjaaDoorLift
import Derived.Deep.Slices
namespace Go.Proofs.YtgbpnkamamafjaaDoor
open Go.ChangeShapes Go.WideShapes Go.ChangeAt Go.RowKit

theorem infoI : (Tryd.prog.info? 3).map (fun i => (i.zero, i.size, i.bytes)) = some (some (.int .i64 0), 1, 8) := by kernel_rfl
def iv (z : Int) : Value := .int .i64 z
/-- a list of numbers of the call's own -/
def OwnI (w : World) (base : Nat) (v : Value) (l : List Int) : Prop := w.ownsRow base 3 1 v l.length (l.map iv)
theorem OwnI.nil (w : World) (base : Nat) : OwnI w base (.slice none 0 0) [] := World.ownsRow_nil w base _ _
theorem OwnI.keep {w w' : World} {base : Nat} {v : Value} {l : List Int} (h : OwnI w base v l) (hg : w.grownBy w' none) : OwnI w' base v l := by
  refine World.ownsRow.kept h hg ?_
  cases hv : v.ownBlock with
  | none => exact .inl rfl
  | some k => exact .inr (by simp)
theorem OwnI.lt {w : World} {base : Nat} {v : Value} {l : List Int} (h : OwnI w base v l) : ∀ k, v.ownBlock = some k → base ≤ k ∧ k < w.heap.size := World.ownsRow.lt h
theorem OwnI.shape {w : World} {base : Nat} {v : Value} {l : List Int} (h : OwnI w base v l) : ∃ a c, v = .slice a l.length c := by
  rcases h.2 with ⟨rfl, hn⟩ | ⟨g, cap, cur, rfl, _⟩
  · exact ⟨none, 0, by rw [hn]⟩
  · exact ⟨_, _, rfl⟩
theorem OwnI.form {w : World} {base : Nat} {v : Value} {l : List Int} (h : OwnI w base v l) (hl : l ≠ []) : ∃ g cap, v = .slice (some ⟨g, 0, none⟩) l.length cap ∧ ∀ j, j < l.length → w.cell? ⟨g, j, none⟩ = some (.int .i64 (l.getD j 0)) := by
  have h0 := h
  rcases h.2 with ⟨rfl, hn⟩ | ⟨g, cap, cur, rfl, hg, hh, hnc, hcm, hcs, ht⟩
  · exact absurd (List.eq_nil_of_length_eq_zero hn) hl
  · refine ⟨g, cap, rfl, fun j hj => ?_⟩
    have := World.ownsRow.cellAt h0 j (by omega)
    rw [this]
    simp [hj, iv, List.getD]
/-- bytes of one's own lie elsewhere -/
theorem Own.keptI {w w' : World} {base base' : Nat} {v u : Value} {l : List UInt8} {zs : List Int} (h : Own w base v l) (hi : OwnI w base' u zs) (hg : w.grownBy w' u.ownBlock) : Own w' base v l := by
  refine World.ownsRow.kept h hg ?_
  rcases h.2 with ⟨rfl, _⟩ | ⟨g, cap, cur, rfl, _, hh, _⟩
  · exact .inl rfl
  · right
    intro e
    rcases hi.2 with ⟨rfl, _⟩ | ⟨g2, cap2, cur2, rfl, _, hh2, _⟩
    · simp [Value.ownBlock] at e
    · simp only [Value.ownBlock, Option.some.injEq] at e
      subst e
      rw [hh] at hh2
      simp at hh2
/-- one number more, for the walk -/
theorem wp_appI {w : World} {ops : Array Oper} {rest : List Oper} {o : Oper} {a : Act} {Q : Exit → Act → World → Prop} (hgd : o.guard = none) (s x : Operand)
    (ho : o.op = .call { callee := .builtin .append, args := #[s, x], argTypes := #[55, 55] })
    (base : Nat) (v : Value) (l : List Int) (z : Int) (g : Nat) (hs : a.eval s = v) (hx : a.eval x = .slice (some ⟨g, 0, none⟩) 1 1) (hc : w.cell? ⟨g, 0, none⟩ = some (.int .i64 z))
    (hown : OwnI w base v l) (hsz : l.length ≤ 16777216) (hbase : base ≤ w.heap.size)
    (h : ∀ v' w', OwnI w' base v' (l ++ [z]) → w.grownBy w' v.ownBlock → wpList Tryd.prog ops Q rest (a.put o.dst v') w') : wpList Tryd.prog ops Q (o :: rest) a w := by
  obtain ⟨i0, hi, hz0, hz1, hz2⟩ := info_parts infoI
  refine wpList_append_own_wide w hgd s x _ ho base 3 i0 (.int .i64 0) 1 8 Tryd.underlying55 hi hz0 hz1 hz2 rfl (by decide) v l.length (l.map iv) hs hown ⟨g, 0, none⟩ 1 1 [.int .i64 z] hx rfl ?_ ?_ (by unfold maxLen; omega) (by omega) hbase ?_
  · intro j t hj
    match j, hj with
    | 0, hj => simp at hj; subst hj; simpa [Addr.add] using hc
  · intro t ht
    simp at ht
    subst ht
    rfl
  · intro v' w' h1 h2 _
    refine h v' w' ?_ h2
    have e : OwnI w' base v' (l ++ [z]) = w'.ownsRow base 3 1 v' (l.length + 1) (l.map iv ++ [.int .i64 z]) := by simp [OwnI, iv]
    rw [e]
    exact h1

/-! ### lists of lists of bytes among the arguments -/
def LL (w : World) (v : Value) (ps : List (List UInt8)) : Prop :=
  ∃ a c, v = .slice a ps.length c ∧ ps.length ≤ maxLen ∧ ∀ j, j < ps.length → ∃ b o u, a = some ⟨b, o, none⟩ ∧ w.cell? ⟨b, o + j, none⟩ = some u ∧ Rd w u (ps.getD j [])
theorem LL.keep {w w' : World} {v : Value} {ps : List (List UInt8)} (h : LL w v ps) (hg : w.grownBy w' none) : LL w' v ps := by
  obtain ⟨a, c, h1, h2, h3⟩ := h
  refine ⟨a, c, h1, h2, fun j hj => ?_⟩
  obtain ⟨b, o, u, ha, hc, hr⟩ := h3 j hj
  exact ⟨b, o, u, ha, by rw [← hc]; exact World.cell?_of_block (hg.block b (block_lt hc) (by simp)), hr.keep hg⟩
theorem cellsB : Tryd.prog.cellsOf 22 = 1 := by kernel_rfl
theorem bytes_cell {H : Type} {enc : TypeId × Value → H} {W : World} {fuel : Nat} {u : Value} {x : DataW H × List MemPlace} (hf : DataW.trod enc Tryd.prog W 0 (fun _ => true) true fuel 22 [u] = some x) : ∃ l, Rd W u l := by
  rcases open_ints Tryd.underlying22 Tryd.underlying5 cellsU8 hf with ⟨hcs, hx⟩ | ⟨ad, l, c, zs, hcs, _, hl, hm, hz, hx, hcell, hwz⟩
  · simp only [List.cons.injEq, and_true] at hcs
    subst hcs
    exact ⟨[], Rd.nil W⟩
  · simp only [List.cons.injEq, and_true] at hcs
    subst hcs
    obtain ⟨bs, rfl⟩ := toU8 zs hwz
    simp only [if_true, List.length_map] at hz hcell
    have hlt : (bs.take l).length = l := by simp; omega
    refine ⟨bs.take l, ⟨some ad, c, by rw [hlt], by rw [hlt]; exact hl, hm, ?_, fun h => by cases h⟩⟩
    intro j hj
    rw [hlt] at hj
    have h0 := hcell 0 (by omega)
    obtain ⟨b, off, spot⟩ := ad
    have hspot : spot = none := by simpa [Addr.add] using World.cell?_spot h0
    subst hspot
    refine ⟨b, off, rfl, ?_⟩
    have hj' : j < bs.length := by omega
    have := hcell j hj'
    rw [Go.WideShapes.add_plain] at this
    rw [this]
    simp [hj, hj']
theorem open_ll {H : Type} {enc : TypeId × Value → H} {W : World} {base : Nat} {v : Value} {d : DataW H} {p : List MemPlace} (hval : Value.okWide Tryd.prog W .any base 48 v)
    (h : DataW.Trod enc Tryd.prog W 0 (fun _ => true) true 48 v d p) : ∃ ps, LL W v ps := by
  obtain ⟨a0, len, cap, rfl⟩ := okWide_slice Tryd.underlying48 hval
  obtain ⟨fuel, hf⟩ := h
  rcases Go.Deep.open_slice Tryd.underlying48 hf with ⟨hcs, hx⟩ | ⟨a, l, c, m, n, D, Pl, hcs, hb, hl, hm, hmm, hx, hel⟩
  · simp [Value.cells] at hcs
    obtain ⟨rfl, rfl, rfl⟩ := hcs
    exact ⟨[], none, 0, rfl, by simp, fun j hj => by simp at hj⟩
  · simp [Value.cells] at hcs
    obtain ⟨rfl, rfl, rfl⟩ := hcs
    simp only [if_true] at hmm
    have each : ∀ j, j < len → ∃ q : Value × List UInt8, W.cell? (a.add j) = some q.1 ∧ Rd W q.1 q.2 := by
      intro j hj
      obtain ⟨cs', h1, h2⟩ := hel j (by omega)
      rw [cellsB, Nat.mul_one] at h1
      obtain ⟨_, hlen, hcell⟩ := World.cells?_some h1
      match cs', hlen with
      | [u], _ =>
        have e0 := hcell 0 (by omega)
        obtain ⟨lu, hu⟩ := bytes_cell h2
        exact ⟨(u, lu), by rw [Go.Deep.add_add] at e0; simpa using e0, hu⟩
    obtain ⟨q, hq⟩ := Go.Deep.choose_lt (α := Value × List UInt8) each
    refine ⟨(List.range len).map fun j => (q j).2, some a, cap, by simp, by simp; omega, fun j hj => ?_⟩
    simp only [List.length_map, List.length_range] at hj
    have hg : ((List.range len).map fun j => (q j).2).getD j [] = (q j).2 := by simp [List.getD, hj]
    obtain ⟨h0, h1⟩ := hq j hj
    have h00 := (hq 0 (by omega)).1
    obtain ⟨b, off, spot⟩ := a
    have hspot : spot = none := by simpa [Addr.add] using World.cell?_spot h00
    subst hspot
    rw [Go.WideShapes.add_plain] at h0
    exact ⟨b, off, (q j).1, rfl, h0, by rw [hg]; exact h1⟩
theorem back_ll {H : Type} {enc : TypeId × Value → H} {W W' : World} {v : Value} {d : DataW H} {p : List MemPlace} (h : DataW.Trod enc Tryd.prog W 0 (fun _ => true) true 48 v d p) (hb : Below W.heap.size W W') :
    DataW.Trod enc Tryd.prog W' 0 (fun b => decide (b < W.heap.size)) true 48 v d p :=
  Below.trod laidOut (by kernel_rfl) (of_decide_eq_true (by kernel_rfl)) h hb (by obtain ⟨m, hm⟩ := h; exact DataW.trod_lt m _ _ _ hm)

/-! ### Count -/
theorem count_any (z : Int) (m : Nat) (M : Int) (hM : M = (m : Int)) (w : World) (h0 : 0 < m) (h1 : m ≤ 1099511627776) :
    Calls Tryd.prog 38 #[.int .i64 z, .int .i64 M] w fun e w' => e = .returned (.int .i64 (((z % (m : Int)).toNat : Nat) : Int)) ∧ w' = w := by
  subst hM
  have hp : (0 : Int) < (m : Int) := by omega
  have hmod := Int.emod_nonneg z (b := (m : Int)) (by omega)
  have hmlt := Int.emod_lt_of_pos z hp
  have HM : Hid ((((z % (m : Int)).toNat : Nat) : Int) = z % (m : Int)) := Int.toNat_of_nonneg hmod
  have hne : ((m : Int) == 0) = false := by simp; omega
  have hne2 : ¬ (m : Int) = 0 := by omega
  have hm1 : (m : Int) ≤ 1099511627776 := by omega
  have hb1 := Int.tmod_lt_of_pos z hp
  have hb2 : -(m : Int) < z.tmod (m : Int) := by
    have := Int.lt_tmod_of_pos z hp
    omega
  by_cases hneg : z.tmod (m : Int) < 0
  · have HE : Hid (z.tmod (m : Int) + (m : Int) = z % (m : Int)) := by
      show z.tmod (m : Int) + (m : Int) = z % (m : Int)
      rw [Int.tmod_eq_emod] at hneg ⊢
      split at hneg <;> split <;> first | omega | (simp at *; omega)
    rw [HM.out]
    clear HM hmod h0 h1 hmlt
    go_enter Tryd.func38, Tryd.ntmps38
    go_wp2
    go_ret
    exact ⟨ret_int HE.out, rfl⟩
  · have HE : Hid (z.tmod (m : Int) = z % (m : Int)) := by
      show z.tmod (m : Int) = z % (m : Int)
      rw [Int.tmod_eq_emod] at hneg ⊢
      split at hneg <;> split <;> first | omega | (simp at *; omega)
    rw [HM.out]
    clear HM hmod h0 h1 hmlt
    go_enter Tryd.func38, Tryd.ntmps38
    go_wp2
    go_ret
    exact ⟨ret_int HE.out, rfl⟩
end Go.Proofs.YtgbpnkamamafjaaDoor
