/-
  Append onto a row of the call's own, of whatever elements, as long as one can be: a law for the walk.
-/
import Derived.Test.YtmgbcmogdjhacaaDoorLaws
namespace Go.Proofs.YtmgbcmogdjhacaaDoor
open Go.RowKit

/-- the cells behind an address -/
def RdC (w : World) (a : Option Addr) (news : List Value) : Prop := ∀ j u, news[j]? = some u → ∃ ad, a = some ad ∧ w.cell? (ad.add j) = some u
theorem run_appH (w : World) (ty T E : TypeId) (i0 : TypeInfo) (z : Value) (size bytes base : Nat) (hT : Tryd.prog.underlying T = some (.slice E)) (hi : Tryd.prog.info? E = some i0) (hz0 : i0.zero = some z) (hz1 : i0.size = size) (hz2 : i0.bytes = bytes) (hzs : z.cells.size = size) (hpos : 0 < size)
    (v : Value) (n : Nat) (xs : List Value) (hown : w.ownsRow base E size v n xs) (a : Option Addr) (m c : Nat) (news : List Value) (hl : news.length = m * size) (hra : RdC w a news) (hnil : a = none → m = 0 ∧ c = 0) (h1 : ∀ u ∈ news, u.oneCell' = true)
    (hsz : n + m ≤ 9223372036854775807) (hszb : (n + m + (n + m) / 4 + 192) * bytes ≤ 281474976710656) (hbase : base ≤ w.heap.size) :
    ∃ v' w', (Builtin.append_ #[T, T] ty #[v, .slice a m c]).run Tryd.prog w = .ok v' w' ∧ w'.ownsRow base E size v' (n + m) (xs ++ news) ∧ Fr w w' v v' := by
  cases a with
  | none =>
    obtain ⟨rfl, rfl⟩ := hnil rfl
    have hn0 : news = [] := List.eq_nil_of_length_eq_zero (by omega)
    subst hn0
    refine ⟨v, w, run_append_owned_none w base T ty E i0 size hT hi v n _ hown, by simpa using hown, Fr.refl _ _⟩
  | some ad =>
    have hcell : ∀ j u, news[j]? = some u → w.cell? (ad.add j) = some u := fun j u hj => by
      obtain ⟨ad', e, hc⟩ := hra j u hj
      cases e
      exact hc
    obtain ⟨v', w', hr, ho, hg, hiff⟩ := run_append_own_wide (P := Tryd.prog) w base T ty E i0 z size bytes hT hi hz0 hz1 hz2 hzs hpos v n xs hown
      ad m c news hl hcell h1 (by unfold maxLen; omega) hszb hbase
    refine ⟨v', w', hr, ho, hg, ?_⟩
    intro k hk
    rcases hown.2 with ⟨rfl, hn⟩ | ⟨g, cap, cur, rfl, hbg, hh, hnc, hcm', hcs, htake⟩
    · by_cases hm0 : m = 0
      · have := hiff.2 ⟨rfl, hm0⟩
        subst this
        simp [Value.ownBlock] at hk
      · subst hn
        have hb2 : m * bytes ≤ (0 + m + (0 + m) / 4 + 192) * bytes := Nat.mul_le_mul_right _ (by omega)
        have hn' := run_append_nil (P := Tryd.prog) w T ty E i0 z hT hi hz0 ad m c news (by rw [hz1]; exact hl) hcell (by omega) (by omega) (by rw [hz2]; omega)
        rw [hr] at hn'
        injection hn' with e1 e2
        subst e1
        simp [Value.ownBlock] at hk
        exact .inr (by omega)
    · by_cases hroom : n + m ≤ cap
      · have hn' := run_append_room (P := Tryd.prog) w T ty E i0 hT hi g n cap cur hh ad m c news (by rw [hz1]; exact hl) hcell h1 hroom (by rw [hz1, hl, hcs]; exact (by rw [← Nat.add_mul]; exact Nat.mul_le_mul_right _ hroom))
        rw [hr] at hn'
        injection hn' with e1 e2
        subst e1
        exact .inl (by simpa [Value.ownBlock] using hk.symm)
      · have hn' := run_append_grow (P := Tryd.prog) w T ty E i0 z hT hi hz0 ⟨g, 0, none⟩ n cap xs (by rw [hz1]; exact hown.1) (World.ownsRow.cells hown rfl) ad m c news (by rw [hz1]; exact hl) hcell (by omega) (by omega) (by rw [hz2]; exact growslice_fits_wide (by omega) hszb)
        rw [hr] at hn'
        injection hn' with e1 e2
        subst e1
        simp [Value.ownBlock] at hk
        exact .inr (by omega)
theorem wp_appH {w : World} {ops : Array Oper} {rest : List Oper} {o : Oper} {a : Act} {Q : Exit → Act → World → Prop} (hgd : o.guard = none) (s x : Operand) (T E : TypeId)
    (ho : o.op = .call { callee := .builtin .append, args := #[s, x], argTypes := #[T, T] })
    (i0 : TypeInfo) (z : Value) (size bytes base : Nat) (hT : Tryd.prog.underlying T = some (.slice E)) (hi : Tryd.prog.info? E = some i0) (hz0 : i0.zero = some z) (hz1 : i0.size = size) (hz2 : i0.bytes = bytes) (hzs : z.cells.size = size) (hpos : 0 < size)
    (v : Value) (n : Nat) (xs : List Value) (ad : Option Addr) (m c : Nat) (news : List Value) (hs : a.eval s = v) (hx : a.eval x = .slice ad m c) (hown : w.ownsRow base E size v n xs) (hl : news.length = m * size) (hra : RdC w ad news) (hnil : ad = none → m = 0 ∧ c = 0) (h1 : ∀ u ∈ news, u.oneCell' = true)
    (hsz : n + m ≤ 9223372036854775807) (hszb : (n + m + (n + m) / 4 + 192) * bytes ≤ 281474976710656) (hbase : base ≤ w.heap.size)
    (h : ∀ v' w', w'.ownsRow base E size v' (n + m) (xs ++ news) → Fr w w' v v' → wpList Tryd.prog ops Q rest (a.put o.dst v') w') : wpList Tryd.prog ops Q (o :: rest) a w := by
  refine wpList_plain hgd fun K hK => ?_
  obtain ⟨v', w', hrun, h2, h3⟩ := run_appH w o.type T E i0 z size bytes base hT hi hz0 hz1 hz2 hzs hpos v n xs hown ad m c news hl hra hnil h1 hsz hszb hbase
  unfold Oper.wp execOp
  simp only [ho, resolve, invoke, builtin, Sem.run_bind, Sem.run_pure, Result.andThen_ok, List.map_toArray, List.map_cons, List.map_nil, hs, hx, hrun]
  exact hK _ _ (h v' w' h2 h3)
end Go.Proofs.YtmgbcmogdjhacaaDoor
