/-
  Samples copied at whatever length; bytes lent and kept; a sample stored: plain facts and walks.
-/
import Derived.Test.YtkiefmhampfhoaaDoorCkCd
namespace Go.Proofs.YtkiefmhampfhoaaDoor
open Go.RowKit

theorem run_appH (w : World) (ty T E : TypeId) (i0 : TypeInfo) (z : Value) (size bytes base : Nat) (hT : Tryd.prog.underlying T = some (.slice E)) (hi : Tryd.prog.info? E = some i0) (hz0 : i0.zero = some z) (hz1 : i0.size = size) (hz2 : i0.bytes = bytes) (hzs : z.cells.size = size) (hpos : 0 < size)
    (v : Value) (n : Nat) (xs : List Value) (hown : w.ownsRow base E size v n xs) (a : Option Addr) (m c : Nat) (news : List Value) (hl : news.length = m * size) (hra : RdC w a news) (hnil : a = none → m = 0 ∧ c = 0) (h1 : ∀ u ∈ news, u.oneCell' = true)
    (hsz : n + m ≤ 9223372036854775807) (hszb : (n + m + (n + m) / 4 + 192) * bytes ≤ 281474976710656) (hbase : base ≤ w.heap.size) :
    ∃ v' w', (Builtin.append_ #[T, T] ty #[v, .slice a m c]).run Tryd.prog w = .ok v' w' ∧ w'.ownsRow base E size v' (n + m) (xs ++ news) ∧ Fr w w' v v' := by
  cases a with
  | none =>
    obtain ⟨rfl, rfl⟩ := hnil rfl
    have hn0 : news = [] := List.eq_nil_of_length_eq_zero (by omega)
    subst hn0
    refine ⟨v, w, run_append_owned_none w base T ty E i0 size hT hi v n _ hown, by simpa using hown, Fr.refl _ _⟩
  | some ad =>
    have hcell : ∀ j u, news[j]? = some u → w.cell? (ad.add j) = some u := fun j u hj => by
      obtain ⟨ad', e, hc⟩ := hra j u hj
      cases e
      exact hc
    obtain ⟨v', w', hr, ho, hg, hiff⟩ := run_append_own_wide (P := Tryd.prog) w base T ty E i0 z size bytes hT hi hz0 hz1 hz2 hzs hpos v n xs hown
      ad m c news hl hcell h1 (by unfold maxLen; omega) hszb hbase
    refine ⟨v', w', hr, ho, hg, ?_⟩
    intro k hk
    rcases hown.2 with ⟨rfl, hn⟩ | ⟨g, cap, cur, rfl, hbg, hh, hnc, hcm', hcs, htake⟩
    · by_cases hm0 : m = 0
      · have := hiff.2 ⟨rfl, hm0⟩
        subst this
        simp [Value.ownBlock] at hk
      · subst hn
        have hb2 : m * bytes ≤ (0 + m + (0 + m) / 4 + 192) * bytes := Nat.mul_le_mul_right _ (by omega)
        have hn' := run_append_nil (P := Tryd.prog) w T ty E i0 z hT hi hz0 ad m c news (by rw [hz1]; exact hl) hcell (by omega) (by omega) (by rw [hz2]; omega)
        rw [hr] at hn'
        injection hn' with e1 e2
        subst e1
        simp [Value.ownBlock] at hk
        exact .inr (by omega)
    · by_cases hroom : n + m ≤ cap
      · have hn' := run_append_room (P := Tryd.prog) w T ty E i0 hT hi g n cap cur hh ad m c news (by rw [hz1]; exact hl) hcell h1 hroom (by rw [hz1, hl, hcs]; exact (by rw [← Nat.add_mul]; exact Nat.mul_le_mul_right _ hroom))
        rw [hr] at hn'
        injection hn' with e1 e2
        subst e1
        exact .inl (by simpa [Value.ownBlock] using hk.symm)
      · have hn' := run_append_grow (P := Tryd.prog) w T ty E i0 z hT hi hz0 ⟨g, 0, none⟩ n cap xs (by rw [hz1]; exact hown.1) (World.ownsRow.cells hown rfl) ad m c news (by rw [hz1]; exact hl) hcell (by omega) (by omega) (by rw [hz2]; exact growslice_fits_wide (by omega) hszb)
        rw [hr] at hn'
        injection hn' with e1 e2
        subst e1
        simp [Value.ownBlock] at hk
        exact .inr (by omega)
/-- samples behind none, however many -/
theorem run_copyP (w : World) (a : Option Addr) (m c : Nat) (x : List SmpT) (hx : RdP w (.slice a m c) x) (hsz : m ≤ 8796093022208) :
    ∃ a2 c2 w', (Builtin.append_ #[22, 22] 22 #[.slice none 0 0, .slice a m c]).run Tryd.prog w = .ok (.slice a2 m c2) w' ∧ w'.ownsRow w.heap.size 27 2 (.slice a2 m c2) m (smC x) ∧ w.grownBy w' none := by
  obtain ⟨i0, hi, hz0, hz1, hz2⟩ := info_parts infoSm
  obtain ⟨e1, e2, e3, e4⟩ := hx.cells
  have hown : w.ownsRow w.heap.size 27 2 (.slice none 0 0) 0 [] := World.ownsRow_nil _ _ _ _
  have key : ∃ v' w', (Builtin.append_ #[22, 22] 22 #[.slice none 0 0, .slice a m c]).run Tryd.prog w = .ok v' w' ∧ w'.ownsRow w.heap.size 27 2 v' m (smC x) ∧ w.grownBy w' none := by
    cases a with
    | some ad =>
      obtain ⟨v', w', r1, r2, r3⟩ := run_appH w 22 22 27 i0 _ 2 16 w.heap.size Tryd.underlying22 hi hz0 hz1 hz2 rfl (by decide) (.slice none 0 0) 0 [] hown (some ad) m c (smC x) e2 e3 (fun h => by cases h) e4 (by omega) (by omega) (Nat.le_refl _)
      exact ⟨v', w', r1, by simpa using r2, r3.1⟩
    | none =>
      have hm : x = [] := by
        cases x with
        | nil => rfl
        | cons y x =>
          obtain ⟨a', c', e, -, -, h3⟩ := hx
          simp only [Value.slice.injEq] at e
          obtain ⟨b, o, q, -⟩ := h3 0 (by simp)
          rw [← e.1] at q
          cases q
      subst hm
      simp only [List.length_nil] at e1
      subst e1
      refine ⟨.slice none 0 0, w, ?_, World.ownsRow_nil _ _ _ _, gb_refl _ _⟩
      have ht : Tryd.prog.underlying 22 = some (.slice 27) := Tryd.underlying22
      simp [Builtin.append_, run_underlying ht, sizeOf, typeInfo, hi, Builtin.lenOf, Builtin.firstCells]
  obtain ⟨v', w', r1, r2, r3⟩ := key
  rcases r2.2 with ⟨e, e2⟩ | ⟨b, cap, cur, e, -⟩
  · subst e2
    subst e
    exact ⟨none, 0, w', r1, r2, r3⟩
  · exact ⟨_, _, w', by rw [← e]; exact r1, by rw [← e]; exact r2, r3⟩
theorem smC_set (l : List SmpT) : ∀ (j : Nat) (x : SmpT), smC (l.set j x) = ((smC l).set (j * 2) (.int .i64 x.1)).set (j * 2 + 1) (.float .f64 x.2) := by
  induction l with
  | nil => intro j x; rfl
  | cons y t ih =>
    intro j x
    cases j with
    | zero => rw [List.set_cons_zero]; simp [smC]
    | succ j => rw [List.set_cons_succ, show (j + 1) * 2 = j * 2 + 1 + 1 by omega]; simp [smC, ih]
/-- a sample stored -/
theorem rowP_set {w : World} {base g cap : Nat} {l : List SmpT} (h : w.ownsRow base 27 2 (.slice (some ⟨g, 0, none⟩) l.length cap) l.length (smC l)) (j : Nat) (x : SmpT) :
    ((w.setCell ⟨g, j * 2, none⟩ (.int .i64 x.1)).setCell ⟨g, j * 2 + 1, none⟩ (.float .f64 x.2)).ownsRow base 27 2 (.slice (some ⟨g, 0, none⟩) l.length cap) l.length (smC (l.set j x)) ∧
    w.grownBy ((w.setCell ⟨g, j * 2, none⟩ (.int .i64 x.1)).setCell ⟨g, j * 2 + 1, none⟩ (.float .f64 x.2)) (some g) := by
  obtain ⟨h1, g1⟩ := World.ownsRow.stored h (j * 2) (.int .i64 x.1)
  obtain ⟨h2, g2⟩ := World.ownsRow.stored h1 (j * 2 + 1) (.float .f64 x.2)
  refine ⟨?_, gb_trans g1 g2 (fun k hk _ => hk.symm)⟩
  rw [smC_set]
  exact h2

/-- bytes with a mark behind them, at the head of a row of their own -/
def LentAs (w : World) (base : Nat) (v : Value) (l : List UInt8) : Prop :=
  ∃ g cap, v = .slice (some ⟨g, 0, none⟩) l.length cap ∧ base ≤ g ∧ Rd w (.slice (some ⟨g, 0, none⟩) (l.length + 1) cap) (l ++ [77])
theorem LentAs.rd {w : World} {base : Nat} {v : Value} {l : List UInt8} (h : LentAs w base v l) : Rd w v l := by
  obtain ⟨g, cap, rfl, -, a, c, hv, h1, h2, h3, h4⟩ := h
  simp only [Value.slice.injEq] at hv
  obtain ⟨rfl, -, rfl⟩ := hv
  simp only [List.length_append, List.length_cons, List.length_nil] at h1
  refine ⟨_, _, rfl, by omega, h2, ?_, h4⟩
  intro j hj
  obtain ⟨b, o, hb, hc⟩ := h3 j (by simp; omega)
  refine ⟨b, o, hb, ?_⟩
  have e : (l ++ [77]).getD j 0 = l.getD j 0 := by simp only [List.getD, List.getElem?_append_left hj]
  rw [hc, e]
theorem LentAs.keep {w w' : World} {base : Nat} {v : Value} {l : List UInt8} (h : LentAs w base v l) (hg : w.grownBy w' none) : LentAs w' base v l := by
  obtain ⟨g, cap, rfl, hb, hr⟩ := h
  exact ⟨g, cap, rfl, hb, hr.keep hg⟩

set_option maxHeartbeats 1600000 in
theorem lent8_any (v : Value) (l : List UInt8) (w : World) (hv : Rd w v l) (hsz : l.length ≤ 175921850000000) :
    Calls Tryd.prog 22 #[v] w fun e w' => ∃ v', e = .returned v' ∧ LentAs w' w.heap.size v' l ∧ w.grownBy w' none := by
  have hv2 : Hid (Rd w v l) := hv
  obtain ⟨a, c, rfl, -, -, -, -⟩ := hv
  go_enter Tryd.func22, Tryd.ntmps22
  go_wp2_with (at_builtin; refine wp_app rfl _ _ rfl w.heap.size _ _ [] l rfl rfl (Own.nil _ _) hv2.out ?c1 ?c2 ?_)
  case c1 => first | omega | (simp; omega)
  case c2 => omega
  intro v1 w1 ho1 hf1
  have H1 : Hid (Own w1 w.heap.size v1 l ∧ w.grownBy w1 none) := ⟨by simpa using ho1, hf1.1⟩
  clear ho1 hf1
  go_wp2_with (at_builtin; refine wp_app rfl _ _ rfl w.heap.size _ _ l [77] rfl rfl (H1.out.1.keep (alloc_gb _ _)) (Rd_lit _ [77] 1 rfl (by simp) _ rfl) ?c3 ?c4 ?_)
  case c3 => first | omega | (simp; omega)
  case c4 => have := H1.out.2.size; first | omega | (simp; omega)
  intro v2 w2 ho2 hf2
  have H2 : Hid (Own w2 w.heap.size v2 (l ++ [77]) ∧ w.grownBy w2 none) := ⟨ho2, gb_new H1.out.2 (Fr.pre (alloc_gb _ _) hf2).1 (fun k hk => (H1.out.1.lt k hk).1)⟩
  clear ho2 hf2 H1 hv2
  obtain ⟨g, cap, hv2, hg0, hg1, hcap, hcm, -⟩ := H2.out.1.form (by simp)
  subst hv2
  simp only [List.length_append, List.length_cons, List.length_nil, Nat.zero_add] at hcap
  have HR : Hid (LentAs w2 w.heap.size (.slice (some ⟨g, 0, none⟩) l.length cap) l) := ⟨g, cap, rfl, hg0, by simpa using H2.out.1.rd⟩
  have hle : l.length ≤ cap := by omega
  unfold maxLen at hcm
  go_wp2
  all_goals go_ret
  all_goals exact ⟨_, rfl, HR.out, H2.out.2⟩

set_option maxHeartbeats 1600000 in
theorem kept8_any (v u : Value) (base : Nat) (l : List UInt8) (w : World) (hv : LentAs w base v l) (hu : Rd w u l) :
    Calls Tryd.prog 25 #[v, u] w fun e w' => e = .returned (.bool true) ∧ w.grownBy w' none := by
  have s1 := run_strU hv.rd
  have s2 := run_strU hu
  obtain ⟨g, cap, rfl, -, hr⟩ := hv
  obtain ⟨a, c, rfl, -, -, -, -⟩ := hu
  obtain ⟨a', c', he, h1, h2, h3, -⟩ := hr
  simp only [Value.slice.injEq] at he
  obtain ⟨rfl, -, rfl⟩ := he
  simp only [List.length_append, List.length_cons, List.length_nil, Nat.zero_add] at h1
  obtain ⟨b, o, hb, hc⟩ := h3 l.length (by simp)
  simp only [Option.some.injEq, Addr.mk.injEq, and_true] at hb
  obtain ⟨rfl, rfl⟩ := hb
  have hc' : w.cell? ⟨g, l.length, none⟩ = some (.int .u8 77) := by
    rw [Nat.zero_add] at hc
    rw [hc]
    simp
  clear hc h3
  unfold maxLen at h2
  generalize hn : l.length = n at *
  clear hn
  go_enter Tryd.func25, Tryd.ntmps25
  go_wp2
  all_goals go_ret
  all_goals exact ⟨rfl, gb_refl _ _⟩
end Go.Proofs.YtkiefmhampfhoaaDoor
