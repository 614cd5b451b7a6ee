/-
  LbH, LbLent, LbSame, in one text.
-/
import Derived.Test.YtfmgkpgflbidkaaGreatDoorRBsA
import Derived.Test.YtfmgkpgflbidkaaGreatDoorRLbL
/- LbH -/
namespace Go.Proofs.YtfmgkpgflbidkaaGreatDoorR
open Go.RowKit

/-- the cells behind an address -/
def RdC (w : World) (a : Option Addr) (news : List Value) : Prop := ∀ j u, news[j]? = some u → ∃ ad, a = some ad ∧ w.cell? (ad.add j) = some u
theorem run_appH (w : World) (ty T E : TypeId) (i0 : TypeInfo) (z : Value) (size bytes base : Nat) (hT : Tryz.prog.underlying T = some (.slice E)) (hi : Tryz.prog.info? E = some i0) (hz0 : i0.zero = some z) (hz1 : i0.size = size) (hz2 : i0.bytes = bytes) (hzs : z.cells.size = size) (hpos : 0 < size)
    (v : Value) (n : Nat) (xs : List Value) (hown : w.ownsRow base E size v n xs) (a : Option Addr) (m c : Nat) (news : List Value) (hl : news.length = m * size) (hra : RdC w a news) (hnil : a = none → m = 0 ∧ c = 0) (h1 : ∀ u ∈ news, u.oneCell' = true)
    (hsz : n + m ≤ 9223372036854775807) (hszb : (n + m + (n + m) / 4 + 192) * bytes ≤ 281474976710656) (hbase : base ≤ w.heap.size) :
    ∃ v' w', (Builtin.append_ #[T, T] ty #[v, .slice a m c]).run Tryz.prog w = .ok v' w' ∧ w'.ownsRow base E size v' (n + m) (xs ++ news) ∧ Fr w w' v v' := by
  cases a with
  | none =>
    obtain ⟨rfl, rfl⟩ := hnil rfl
    have hn0 : news = [] := List.eq_nil_of_length_eq_zero (by omega)
    subst hn0
    refine ⟨v, w, run_append_owned_none w base T ty E i0 size hT hi v n _ hown, by simpa using hown, Fr.refl _ _⟩
  | some ad =>
    have hcell : ∀ j u, news[j]? = some u → w.cell? (ad.add j) = some u := fun j u hj => by
      obtain ⟨ad', e, hc⟩ := hra j u hj
      cases e
      exact hc
    obtain ⟨v', w', hr, ho, hg, hiff⟩ := run_append_own_wide (P := Tryz.prog) w base T ty E i0 z size bytes hT hi hz0 hz1 hz2 hzs hpos v n xs hown
      ad m c news hl hcell h1 (by unfold maxLen; omega) hszb hbase
    refine ⟨v', w', hr, ho, hg, ?_⟩
    intro k hk
    rcases hown.2 with ⟨rfl, hn⟩ | ⟨g, cap, cur, rfl, hbg, hh, hnc, hcm', hcs, htake⟩
    · by_cases hm0 : m = 0
      · have := hiff.2 ⟨rfl, hm0⟩
        subst this
        simp [Value.ownBlock] at hk
      · subst hn
        have hb2 : m * bytes ≤ (0 + m + (0 + m) / 4 + 192) * bytes := Nat.mul_le_mul_right _ (by omega)
        have hn' := run_append_nil (P := Tryz.prog) w T ty E i0 z hT hi hz0 ad m c news (by rw [hz1]; exact hl) hcell (by omega) (by omega) (by rw [hz2]; omega)
        rw [hr] at hn'
        injection hn' with e1 e2
        subst e1
        simp [Value.ownBlock] at hk
        exact .inr (by omega)
    · by_cases hroom : n + m ≤ cap
      · have hn' := run_append_room (P := Tryz.prog) w T ty E i0 hT hi g n cap cur hh ad m c news (by rw [hz1]; exact hl) hcell h1 hroom (by rw [hz1, hl, hcs]; exact (by rw [← Nat.add_mul]; exact Nat.mul_le_mul_right _ hroom))
        rw [hr] at hn'
        injection hn' with e1 e2
        subst e1
        exact .inl (by simpa [Value.ownBlock] using hk.symm)
      · have hn' := run_append_grow (P := Tryz.prog) w T ty E i0 z hT hi hz0 ⟨g, 0, none⟩ n cap xs (by rw [hz1]; exact hown.1) (World.ownsRow.cells hown rfl) ad m c news (by rw [hz1]; exact hl) hcell (by omega) (by omega) (by rw [hz2]; exact growslice_fits_wide (by omega) hszb)
        rw [hr] at hn'
        injection hn' with e1 e2
        subst e1
        simp [Value.ownBlock] at hk
        exact .inr (by omega)
theorem wp_appH {w : World} {ops : Array Oper} {rest : List Oper} {o : Oper} {a : Act} {Q : Exit → Act → World → Prop} (hgd : o.guard = none) (s x : Operand) (T E : TypeId)
    (ho : o.op = .call { callee := .builtin .append, args := #[s, x], argTypes := #[T, T] })
    (i0 : TypeInfo) (z : Value) (size bytes base : Nat) (hT : Tryz.prog.underlying T = some (.slice E)) (hi : Tryz.prog.info? E = some i0) (hz0 : i0.zero = some z) (hz1 : i0.size = size) (hz2 : i0.bytes = bytes) (hzs : z.cells.size = size) (hpos : 0 < size)
    (v : Value) (n : Nat) (xs : List Value) (ad : Option Addr) (m c : Nat) (news : List Value) (hs : a.eval s = v) (hx : a.eval x = .slice ad m c) (hown : w.ownsRow base E size v n xs) (hl : news.length = m * size) (hra : RdC w ad news) (hnil : ad = none → m = 0 ∧ c = 0) (h1 : ∀ u ∈ news, u.oneCell' = true)
    (hsz : n + m ≤ 9223372036854775807) (hszb : (n + m + (n + m) / 4 + 192) * bytes ≤ 281474976710656) (hbase : base ≤ w.heap.size)
    (h : ∀ v' w', w'.ownsRow base E size v' (n + m) (xs ++ news) → Fr w w' v v' → wpList Tryz.prog ops Q rest (a.put o.dst v') w') : wpList Tryz.prog ops Q (o :: rest) a w := by
  refine wpList_plain hgd fun K hK => ?_
  obtain ⟨v', w', hrun, h2, h3⟩ := run_appH w o.type T E i0 z size bytes base hT hi hz0 hz1 hz2 hzs hpos v n xs hown ad m c news hl hra hnil h1 hsz hszb hbase
  unfold Oper.wp execOp
  simp only [ho, resolve, invoke, builtin, Sem.run_bind, Sem.run_pure, Result.andThen_ok, List.map_toArray, List.map_cons, List.map_nil, hs, hx, hrun]
  exact hK _ _ (h v' w' h2 h3)
end Go.Proofs.YtfmgkpgflbidkaaGreatDoorR

/- LbLent -/
namespace Go.Proofs.YtfmgkpgflbidkaaGreatDoorR
open Go.RowKit

theorem infoLb : (Tryz.prog.info? 70).map (fun i => (i.zero, i.size, i.bytes)) = some (some (.agg #[.string ⟨#[]⟩, .string ⟨#[]⟩]), 2, 32) := by kernel_rfl
/-- the cells of labels -/
def lbf (ls : List LbT) : List Value := ls.flatMap fun x => [.string (ByteArray.mk ⟨x.1⟩), .string (ByteArray.mk ⟨x.2⟩)]
theorem lbf_len (ls : List LbT) : (lbf ls).length = ls.length * 2 := by
  induction ls with
  | nil => rfl
  | cons x ls ih =>
    unfold lbf at ih ⊢
    rw [List.flatMap_cons, List.length_append, ih, List.length_cons]
    simp
    omega
theorem lbf_get : ∀ (ls : List LbT) (j : Nat), j < ls.length → (lbf ls)[j * 2]? = some (.string (ByteArray.mk ⟨(ls.getD j ([], [])).1⟩)) ∧ (lbf ls)[j * 2 + 1]? = some (.string (ByteArray.mk ⟨(ls.getD j ([], [])).2⟩)) := by
  intro ls
  induction ls with
  | nil => intro j hj; simp at hj
  | cons x ls ih =>
    intro j hj
    cases j with
    | zero => exact ⟨rfl, rfl⟩
    | succ j =>
      have h := ih j (by simpa using hj)
      have e : lbf (x :: ls) = .string (ByteArray.mk ⟨x.1⟩) :: .string (ByteArray.mk ⟨x.2⟩) :: lbf ls := rfl
      rw [e, show (j + 1) * 2 = j * 2 + 1 + 1 by omega]
      simpa using h
theorem lbf_one (ls : List LbT) : ∀ u ∈ lbf ls, u.oneCell' = true := by
  intro u hu
  obtain ⟨x, -, hu⟩ := List.mem_flatMap.1 hu
  simp only [List.mem_cons, List.not_mem_nil, or_false] at hu
  rcases hu with rfl | rfl <;> rfl
theorem lbf_append (a b : List LbT) : lbf (a ++ b) = lbf a ++ lbf b := by simp [lbf]
/-- a list of labels of the call's own -/
def OwnL (w : World) (base : Nat) (v : Value) (ls : List LbT) : Prop := w.ownsRow base 70 2 v ls.length (lbf ls)
theorem RdL.rdc {w : World} {a : Option Addr} {c : Nat} {ls : List LbT} (h : RdL w (.slice a ls.length c) ls) : RdC w a (lbf ls) := by
  obtain ⟨a', c', he, -, -, h4, -⟩ := h
  simp only [Value.slice.injEq] at he
  obtain ⟨rfl, -, rfl⟩ := he
  intro j u hj
  have hjl : j < (lbf ls).length := (List.getElem?_eq_some_iff.1 hj).1
  rw [lbf_len] at hjl
  obtain ⟨b, o, rfl, c0, c1⟩ := h4 (j / 2) (by omega)
  refine ⟨_, rfl, ?_⟩
  rw [Go.WideShapes.add_plain]
  have hg := lbf_get ls (j / 2) (by omega)
  by_cases hp : j % 2 = 0
  · have e : j / 2 * 2 = j := by omega
    rw [e] at c0 hg
    rw [hg.1] at hj
    cases hj
    exact c0
  · have e : j / 2 * 2 + 1 = j := by omega
    rw [e] at hg
    rw [show o + j / 2 * 2 + 1 = o + j by omega] at c1
    rw [hg.2] at hj
    cases hj
    exact c1
theorem OwnL.rd {w : World} {base : Nat} {v : Value} {ls : List LbT} (h : OwnL w base v ls) : RdL w v ls := by
  rcases h.2 with ⟨rfl, hn⟩ | ⟨g, cap, cur, rfl, hbg, hh, hnc, hcm, hcs, htake⟩
  · refine ⟨none, 0, by rw [hn], by omega, by simp [maxLen], fun j hj => by omega, fun _ => rfl⟩
  · refine ⟨some ⟨g, 0, none⟩, cap, rfl, hnc, hcm, fun j hj => ⟨g, 0, rfl, ?_⟩, fun h => by cases h⟩
    have hc := World.ownsRow.cells h rfl
    have hg := lbf_get ls j hj
    have h0 := hc _ _ hg.1
    have h1 := hc _ _ hg.2
    rw [Go.WideShapes.add_plain] at h0 h1
    exact ⟨h0, h1⟩

/-- the mark -/
def mkA : List UInt8 := [98, 101, 104, 105, 110, 100]
def mkB : List UInt8 := [119, 104, 97, 116, 32, 119, 97, 115, 32, 104, 97, 110, 100, 101, 100, 32, 105, 110]

end Go.Proofs.YtfmgkpgflbidkaaGreatDoorR

/- LbSame -/
namespace Go.Proofs.YtfmgkpgflbidkaaGreatDoorR
open Go.RowKit

theorem strq (a b : List UInt8) : ((ByteArray.mk ⟨a⟩).toList == (ByteArray.mk ⟨b⟩).toList) = decide (a = b) := by
  rw [ByteArray.toList_eq, ByteArray.toList_eq]
  show (a == b) = decide (a = b)
  rw [Bool.eq_iff_iff]
  simp
theorem lb_ext {ls ms : List LbT} (hl : ls.length = ms.length) (h : ∀ j, j < ls.length → ls.getD j ([], []) = ms.getD j ([], [])) : ls = ms := by
  apply List.ext_getElem hl
  intro j h1 h2
  have := h j h1
  simpa [h1, h2] using this

/-- what was lent reads as it was -/
def LentL (w : World) (base g cap : Nat) (ls : List LbT) : Prop := OwnL w base (.slice (some ⟨g, 0, none⟩) (ls.length + 1) cap) (ls ++ [(mkA, mkB)])
theorem OwnL.keep {w w' : World} {base : Nat} {v : Value} {ls : List LbT} (h : OwnL w base v ls) (hg : w.grownBy w' none) : OwnL w' base v ls := by
  refine World.ownsRow.kept h hg ?_
  cases hv : v.ownBlock with
  | none => exact .inl rfl
  | some k => exact .inr (by simp)
theorem LentL.rd {w : World} {base g cap : Nat} {ls : List LbT} (h : LentL w base g cap ls) : RdL w (.slice (some ⟨g, 0, none⟩) ls.length cap) ls ∧ w.cell? ⟨g, ls.length * 2, none⟩ = some (.string (ByteArray.mk ⟨mkA⟩)) ∧ ls.length + 1 ≤ cap ∧ cap ≤ 9223372036854775807 := by
  obtain ⟨a, c, he, hc1, hc2, h4, -⟩ := OwnL.rd h
  rw [List.length_append] at he hc1 h4
  simp only [Value.slice.injEq] at he
  obtain ⟨rfl, -, rfl⟩ := he
  simp only [List.length_cons, List.length_nil] at hc1 h4
  refine ⟨⟨_, cap, rfl, by omega, hc2, fun j hj => ?_, fun h => by cases h⟩, ?_, by omega, by unfold maxLen at hc2; exact hc2⟩
  · obtain ⟨b, o, e, c0, c1⟩ := h4 j (by omega)
    have hgd : (ls ++ [(mkA, mkB)]).getD j ([], []) = ls.getD j ([], []) := by simp [List.getElem?_append_left hj]
    rw [hgd] at c0 c1
    exact ⟨b, o, e, c0, c1⟩
  · obtain ⟨b, o, e, c0, -⟩ := h4 ls.length (by omega)
    have hgd : (ls ++ [(mkA, mkB)]).getD ls.length ([], []) = (mkA, mkB) := by simp
    rw [hgd] at c0
    cases e
    simpa using c0

end Go.Proofs.YtfmgkpgflbidkaaGreatDoorR
