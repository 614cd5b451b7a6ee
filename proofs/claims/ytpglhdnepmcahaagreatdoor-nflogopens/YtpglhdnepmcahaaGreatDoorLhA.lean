/-
  LbH, LbLent, LbSame, LbCm, LbCr, LbSp, in one text.
-/
import Derived.Test.YtpglhdnepmcahaaGreatDoorBsA
import Derived.Test.YtpglhdnepmcahaaGreatDoorLbL
import Derived.Test.YtpglhdnepmcahaaGreatDoorLbS
import Derived.Deep.RegionHeld3
/- LbH -/
namespace Go.Proofs.YtpglhdnepmcahaaGreatDoor
open Go.RowKit

/-- the cells behind an address -/
def RdC (w : World) (a : Option Addr) (news : List Value) : Prop := ∀ j u, news[j]? = some u → ∃ ad, a = some ad ∧ w.cell? (ad.add j) = some u
theorem run_appH (w : World) (ty T E : TypeId) (i0 : TypeInfo) (z : Value) (size bytes base : Nat) (hT : Tryz.prog.underlying T = some (.slice E)) (hi : Tryz.prog.info? E = some i0) (hz0 : i0.zero = some z) (hz1 : i0.size = size) (hz2 : i0.bytes = bytes) (hzs : z.cells.size = size) (hpos : 0 < size)
    (v : Value) (n : Nat) (xs : List Value) (hown : w.ownsRow base E size v n xs) (a : Option Addr) (m c : Nat) (news : List Value) (hl : news.length = m * size) (hra : RdC w a news) (hnil : a = none → m = 0 ∧ c = 0) (h1 : ∀ u ∈ news, u.oneCell' = true)
    (hsz : n + m ≤ 9223372036854775807) (hszb : (n + m + (n + m) / 4 + 192) * bytes ≤ 281474976710656) (hbase : base ≤ w.heap.size) :
    ∃ v' w', (Builtin.append_ #[T, T] ty #[v, .slice a m c]).run Tryz.prog w = .ok v' w' ∧ w'.ownsRow base E size v' (n + m) (xs ++ news) ∧ Fr w w' v v' := by
  cases a with
  | none =>
    obtain ⟨rfl, rfl⟩ := hnil rfl
    have hn0 : news = [] := List.eq_nil_of_length_eq_zero (by omega)
    subst hn0
    refine ⟨v, w, run_append_owned_none w base T ty E i0 size hT hi v n _ hown, by simpa using hown, Fr.refl _ _⟩
  | some ad =>
    have hcell : ∀ j u, news[j]? = some u → w.cell? (ad.add j) = some u := fun j u hj => by
      obtain ⟨ad', e, hc⟩ := hra j u hj
      cases e
      exact hc
    obtain ⟨v', w', hr, ho, hg, hiff⟩ := run_append_own_wide (P := Tryz.prog) w base T ty E i0 z size bytes hT hi hz0 hz1 hz2 hzs hpos v n xs hown
      ad m c news hl hcell h1 (by unfold maxLen; omega) hszb hbase
    refine ⟨v', w', hr, ho, hg, ?_⟩
    intro k hk
    rcases hown.2 with ⟨rfl, hn⟩ | ⟨g, cap, cur, rfl, hbg, hh, hnc, hcm', hcs, htake⟩
    · by_cases hm0 : m = 0
      · have := hiff.2 ⟨rfl, hm0⟩
        subst this
        simp [Value.ownBlock] at hk
      · subst hn
        have hb2 : m * bytes ≤ (0 + m + (0 + m) / 4 + 192) * bytes := Nat.mul_le_mul_right _ (by omega)
        have hn' := run_append_nil (P := Tryz.prog) w T ty E i0 z hT hi hz0 ad m c news (by rw [hz1]; exact hl) hcell (by omega) (by omega) (by rw [hz2]; omega)
        rw [hr] at hn'
        injection hn' with e1 e2
        subst e1
        simp [Value.ownBlock] at hk
        exact .inr (by omega)
    · by_cases hroom : n + m ≤ cap
      · have hn' := run_append_room (P := Tryz.prog) w T ty E i0 hT hi g n cap cur hh ad m c news (by rw [hz1]; exact hl) hcell h1 hroom (by rw [hz1, hl, hcs]; exact (by rw [← Nat.add_mul]; exact Nat.mul_le_mul_right _ hroom))
        rw [hr] at hn'
        injection hn' with e1 e2
        subst e1
        exact .inl (by simpa [Value.ownBlock] using hk.symm)
      · have hn' := run_append_grow (P := Tryz.prog) w T ty E i0 z hT hi hz0 ⟨g, 0, none⟩ n cap xs (by rw [hz1]; exact hown.1) (World.ownsRow.cells hown rfl) ad m c news (by rw [hz1]; exact hl) hcell (by omega) (by omega) (by rw [hz2]; exact growslice_fits_wide (by omega) hszb)
        rw [hr] at hn'
        injection hn' with e1 e2
        subst e1
        simp [Value.ownBlock] at hk
        exact .inr (by omega)
theorem wp_appH {w : World} {ops : Array Oper} {rest : List Oper} {o : Oper} {a : Act} {Q : Exit → Act → World → Prop} (hgd : o.guard = none) (s x : Operand) (T E : TypeId)
    (ho : o.op = .call { callee := .builtin .append, args := #[s, x], argTypes := #[T, T] })
    (i0 : TypeInfo) (z : Value) (size bytes base : Nat) (hT : Tryz.prog.underlying T = some (.slice E)) (hi : Tryz.prog.info? E = some i0) (hz0 : i0.zero = some z) (hz1 : i0.size = size) (hz2 : i0.bytes = bytes) (hzs : z.cells.size = size) (hpos : 0 < size)
    (v : Value) (n : Nat) (xs : List Value) (ad : Option Addr) (m c : Nat) (news : List Value) (hs : a.eval s = v) (hx : a.eval x = .slice ad m c) (hown : w.ownsRow base E size v n xs) (hl : news.length = m * size) (hra : RdC w ad news) (hnil : ad = none → m = 0 ∧ c = 0) (h1 : ∀ u ∈ news, u.oneCell' = true)
    (hsz : n + m ≤ 9223372036854775807) (hszb : (n + m + (n + m) / 4 + 192) * bytes ≤ 281474976710656) (hbase : base ≤ w.heap.size)
    (h : ∀ v' w', w'.ownsRow base E size v' (n + m) (xs ++ news) → Fr w w' v v' → wpList Tryz.prog ops Q rest (a.put o.dst v') w') : wpList Tryz.prog ops Q (o :: rest) a w := by
  refine wpList_plain hgd fun K hK => ?_
  obtain ⟨v', w', hrun, h2, h3⟩ := run_appH w o.type T E i0 z size bytes base hT hi hz0 hz1 hz2 hzs hpos v n xs hown ad m c news hl hra hnil h1 hsz hszb hbase
  unfold Oper.wp execOp
  simp only [ho, resolve, invoke, builtin, Sem.run_bind, Sem.run_pure, Result.andThen_ok, List.map_toArray, List.map_cons, List.map_nil, hs, hx, hrun]
  exact hK _ _ (h v' w' h2 h3)
end Go.Proofs.YtpglhdnepmcahaaGreatDoor

/- LbLent -/
namespace Go.Proofs.YtpglhdnepmcahaaGreatDoor
open Go.RowKit

theorem infoLb : (Tryz.prog.info? 51).map (fun i => (i.zero, i.size, i.bytes)) = some (some (.agg #[.string ⟨#[]⟩, .string ⟨#[]⟩]), 2, 32) := by kernel_rfl
/-- the cells of labels -/
def lbf (ls : List LbT) : List Value := ls.flatMap fun x => [.string (ByteArray.mk ⟨x.1⟩), .string (ByteArray.mk ⟨x.2⟩)]
theorem lbf_len (ls : List LbT) : (lbf ls).length = ls.length * 2 := by
  induction ls with
  | nil => rfl
  | cons x ls ih =>
    unfold lbf at ih ⊢
    rw [List.flatMap_cons, List.length_append, ih, List.length_cons]
    simp
    omega
theorem lbf_get : ∀ (ls : List LbT) (j : Nat), j < ls.length → (lbf ls)[j * 2]? = some (.string (ByteArray.mk ⟨(ls.getD j ([], [])).1⟩)) ∧ (lbf ls)[j * 2 + 1]? = some (.string (ByteArray.mk ⟨(ls.getD j ([], [])).2⟩)) := by
  intro ls
  induction ls with
  | nil => intro j hj; simp at hj
  | cons x ls ih =>
    intro j hj
    cases j with
    | zero => exact ⟨rfl, rfl⟩
    | succ j =>
      have h := ih j (by simpa using hj)
      have e : lbf (x :: ls) = .string (ByteArray.mk ⟨x.1⟩) :: .string (ByteArray.mk ⟨x.2⟩) :: lbf ls := rfl
      rw [e, show (j + 1) * 2 = j * 2 + 1 + 1 by omega]
      simpa using h
theorem lbf_one (ls : List LbT) : ∀ u ∈ lbf ls, u.oneCell' = true := by
  intro u hu
  obtain ⟨x, -, hu⟩ := List.mem_flatMap.1 hu
  simp only [List.mem_cons, List.not_mem_nil, or_false] at hu
  rcases hu with rfl | rfl <;> rfl
theorem lbf_append (a b : List LbT) : lbf (a ++ b) = lbf a ++ lbf b := by simp [lbf]
/-- a list of labels of the call's own -/
def OwnL (w : World) (base : Nat) (v : Value) (ls : List LbT) : Prop := w.ownsRow base 51 2 v ls.length (lbf ls)
theorem RdL.rdc {w : World} {a : Option Addr} {c : Nat} {ls : List LbT} (h : RdL w (.slice a ls.length c) ls) : RdC w a (lbf ls) := by
  obtain ⟨a', c', he, -, -, h4, -⟩ := h
  simp only [Value.slice.injEq] at he
  obtain ⟨rfl, -, rfl⟩ := he
  intro j u hj
  have hjl : j < (lbf ls).length := (List.getElem?_eq_some_iff.1 hj).1
  rw [lbf_len] at hjl
  obtain ⟨b, o, rfl, c0, c1⟩ := h4 (j / 2) (by omega)
  refine ⟨_, rfl, ?_⟩
  rw [Go.WideShapes.add_plain]
  have hg := lbf_get ls (j / 2) (by omega)
  by_cases hp : j % 2 = 0
  · have e : j / 2 * 2 = j := by omega
    rw [e] at c0 hg
    rw [hg.1] at hj
    cases hj
    exact c0
  · have e : j / 2 * 2 + 1 = j := by omega
    rw [e] at hg
    rw [show o + j / 2 * 2 + 1 = o + j by omega] at c1
    rw [hg.2] at hj
    cases hj
    exact c1
theorem OwnL.rd {w : World} {base : Nat} {v : Value} {ls : List LbT} (h : OwnL w base v ls) : RdL w v ls := by
  rcases h.2 with ⟨rfl, hn⟩ | ⟨g, cap, cur, rfl, hbg, hh, hnc, hcm, hcs, htake⟩
  · refine ⟨none, 0, by rw [hn], by omega, by simp [maxLen], fun j hj => by omega, fun _ => rfl⟩
  · refine ⟨some ⟨g, 0, none⟩, cap, rfl, hnc, hcm, fun j hj => ⟨g, 0, rfl, ?_⟩, fun h => by cases h⟩
    have hc := World.ownsRow.cells h rfl
    have hg := lbf_get ls j hj
    have h0 := hc _ _ hg.1
    have h1 := hc _ _ hg.2
    rw [Go.WideShapes.add_plain] at h0 h1
    exact ⟨h0, h1⟩

/-- the mark -/
def mkA : List UInt8 := [98, 101, 104, 105, 110, 100]
def mkB : List UInt8 := [119, 104, 97, 116, 32, 119, 97, 115, 32, 104, 97, 110, 100, 101, 100, 32, 105, 110]

end Go.Proofs.YtpglhdnepmcahaaGreatDoor

/- LbSame -/
namespace Go.Proofs.YtpglhdnepmcahaaGreatDoor
open Go.RowKit

theorem strq (a b : List UInt8) : ((ByteArray.mk ⟨a⟩).toList == (ByteArray.mk ⟨b⟩).toList) = decide (a = b) := by
  rw [ByteArray.toList_eq, ByteArray.toList_eq]
  show (a == b) = decide (a = b)
  rw [Bool.eq_iff_iff]
  simp
theorem lb_ext {ls ms : List LbT} (hl : ls.length = ms.length) (h : ∀ j, j < ls.length → ls.getD j ([], []) = ms.getD j ([], [])) : ls = ms := by
  apply List.ext_getElem hl
  intro j h1 h2
  have := h j h1
  simpa [h1, h2] using this

/-- what was lent reads as it was -/
def LentL (w : World) (base g cap : Nat) (ls : List LbT) : Prop := OwnL w base (.slice (some ⟨g, 0, none⟩) (ls.length + 1) cap) (ls ++ [(mkA, mkB)])
theorem OwnL.keep {w w' : World} {base : Nat} {v : Value} {ls : List LbT} (h : OwnL w base v ls) (hg : w.grownBy w' none) : OwnL w' base v ls := by
  refine World.ownsRow.kept h hg ?_
  cases hv : v.ownBlock with
  | none => exact .inl rfl
  | some k => exact .inr (by simp)
theorem LentL.rd {w : World} {base g cap : Nat} {ls : List LbT} (h : LentL w base g cap ls) : RdL w (.slice (some ⟨g, 0, none⟩) ls.length cap) ls ∧ w.cell? ⟨g, ls.length * 2, none⟩ = some (.string (ByteArray.mk ⟨mkA⟩)) ∧ ls.length + 1 ≤ cap ∧ cap ≤ 9223372036854775807 := by
  obtain ⟨a, c, he, hc1, hc2, h4, -⟩ := OwnL.rd h
  rw [List.length_append] at he hc1 h4
  simp only [Value.slice.injEq] at he
  obtain ⟨rfl, -, rfl⟩ := he
  simp only [List.length_cons, List.length_nil] at hc1 h4
  refine ⟨⟨_, cap, rfl, by omega, hc2, fun j hj => ?_, fun h => by cases h⟩, ?_, by omega, by unfold maxLen at hc2; exact hc2⟩
  · obtain ⟨b, o, e, c0, c1⟩ := h4 j (by omega)
    have hgd : (ls ++ [(mkA, mkB)]).getD j ([], []) = ls.getD j ([], []) := by simp [List.getElem?_append_left hj]
    rw [hgd] at c0 c1
    exact ⟨b, o, e, c0, c1⟩
  · obtain ⟨b, o, e, c0, -⟩ := h4 ls.length (by omega)
    have hgd : (ls ++ [(mkA, mkB)]).getD ls.length ([], []) = (mkA, mkB) := by simp
    rw [hgd] at c0
    cases e
    simpa using c0

end Go.Proofs.YtpglhdnepmcahaaGreatDoor

/- LbCm -/
namespace Go.Proofs.YtpglhdnepmcahaaGreatDoor
open Go.RowKit Go.Shelf Go.Sort

/-- which of two lists comes first -/
def cmpLs : List LbT → List LbT → Int
  | [], [] => 0
  | [], _ :: _ => -1
  | _ :: _, [] => 1
  | x :: a, y :: b => if cmpL x y ≠ 0 then cmpL x y else cmpLs a b
theorem cmpS_neg (a b : List UInt8) : cmpS b a = -cmpS a b := by
  unfold cmpS
  by_cases h : a < b
  · have h2 : ¬ b < a := fun h2 => List.lt_irrefl _ (List.lt_trans h h2)
    simp [h, h2]
  · by_cases h2 : b < a <;> simp [h, h2]
theorem cmpS_zero {a b : List UInt8} : cmpS a b = 0 ↔ a = b := by
  have := cmpS_ne a b
  by_cases h : a = b
  · subst h; simp [cmpS, List.lt_irrefl]
  · constructor
    · intro h2; rw [← ne_eq, ← this] at h; exact absurd h2 h
    · intro h2; exact absurd h2 h
theorem cmpS_self (a : List UInt8) : cmpS a a = 0 := cmpS_zero.2 rfl
theorem cmpL_neg (x y : LbT) : cmpL y x = -cmpL x y := by
  unfold cmpL
  rw [cmpS_neg x.1 y.1, cmpS_neg x.2 y.2]
  by_cases h : cmpS x.1 y.1 = 0 <;> simp [h]
theorem cmpL_zero {x y : LbT} : cmpL x y = 0 ↔ x = y := by
  unfold cmpL
  by_cases h : cmpS x.1 y.1 = 0
  · have h1 := cmpS_zero.1 h
    rw [if_neg (by simpa using h), cmpS_zero]
    exact ⟨fun h2 => Prod.ext h1 h2, fun h2 => by rw [h2]⟩
  · rw [if_pos h]
    exact ⟨fun h2 => absurd h2 h, fun h2 => by rw [h2, cmpS_self]⟩
theorem cmpLs_neg : ∀ a b : List LbT, cmpLs b a = -cmpLs a b
  | [], [] => rfl
  | [], _ :: _ => rfl
  | _ :: _, [] => rfl
  | x :: a, y :: b => by
    simp only [cmpLs, cmpL_neg x y, cmpLs_neg a b]
    by_cases h : cmpL x y = 0 <;> simp [h]
theorem cmpLs_zero : ∀ a b : List LbT, cmpLs a b = 0 ↔ a = b
  | [], [] => by simp [cmpLs]
  | [], _ :: _ => by simp [cmpLs]
  | _ :: _, [] => by simp [cmpLs]
  | x :: a, y :: b => by
    simp only [cmpLs]
    by_cases h : cmpL x y = 0
    · rw [if_neg (by simpa using h), cmpLs_zero a b, cmpL_zero.1 h]
      simp
    · rw [if_pos h]
      constructor
      · exact fun h2 => absurd h2 h
      · intro h2
        injection h2 with h3 _
        exact absurd (cmpL_zero.2 h3) h
theorem cmpL_lt (x y : LbT) : cmpL x y < 0 ↔ ltOf cmpL x y = true := by unfold ltOf; simp
theorem cmpL_trans {x y z : LbT} (h1 : cmpL x y < 0) (h2 : cmpL y z < 0) : cmpL x z < 0 := (cmpL_lt _ _).2 (swoL.trans _ _ _ ((cmpL_lt _ _).1 h1) ((cmpL_lt _ _).1 h2))
theorem cmpLs_lt_trans : ∀ a b c : List LbT, cmpLs a b < 0 → cmpLs b c < 0 → cmpLs a c < 0
  | [], [], _, h, _ => by simp [cmpLs] at h
  | [], _ :: _, [], _, h => by simp [cmpLs] at h
  | [], _ :: _, _ :: _, _, _ => by simp [cmpLs]
  | _ :: _, [], _, h, _ => by simp [cmpLs] at h
  | _ :: _, _ :: _, [], _, h => by simp [cmpLs] at h
  | x :: a, y :: b, z :: c, h1, h2 => by
    simp only [cmpLs] at h1 h2 ⊢
    by_cases e1 : cmpL x y = 0
    · have := cmpL_zero.1 e1
      subst this
      rw [if_neg (by simpa using e1)] at h1
      by_cases e2 : cmpL x z = 0
      · rw [if_neg (by simpa using e2)] at h2 ⊢
        exact cmpLs_lt_trans a b c h1 h2
      · rw [if_pos e2] at h2 ⊢
        exact h2
    · rw [if_pos e1] at h1
      by_cases e2 : cmpL y z = 0
      · have := cmpL_zero.1 e2
        subst this
        rw [if_pos e1]
        exact h1
      · rw [if_pos e2] at h2
        have h3 := cmpL_trans h1 h2
        rw [if_pos (by omega)]
        exact h3
/-- the four ways that three lists can stand -/
theorem cmpLs_ways (a b c : List LbT) : 0 < cmpLs a b ∨ (cmpLs a b ≤ 0 ∧ 0 < cmpLs b c) ∨ (cmpLs a b = 0 ∧ cmpLs b c ≤ 0 ∧ cmpLs a c ≤ 0) ∨ (cmpLs a b < 0 ∧ cmpLs b c ≤ 0 ∧ cmpLs a c < 0) := by
  by_cases h1 : 0 < cmpLs a b
  · exact .inl h1
  · by_cases h2 : 0 < cmpLs b c
    · exact .inr (.inl ⟨by omega, h2⟩)
    · by_cases h3 : cmpLs a b = 0
      · have := (cmpLs_zero a b).1 h3
        subst this
        exact .inr (.inr (.inl ⟨h3, by omega, by omega⟩))
      · by_cases h4 : cmpLs b c = 0
        · have := (cmpLs_zero b c).1 h4
          subst this
          exact .inr (.inr (.inr ⟨by omega, by omega, by omega⟩))
        · exact .inr (.inr (.inr ⟨by omega, by omega, cmpLs_lt_trans a b c (by omega) (by omega)⟩))
theorem cmpS_in (a b : List UInt8) : -1 ≤ cmpS a b ∧ cmpS a b ≤ 1 := by unfold cmpS; split <;> (try split) <;> omega
theorem cmpL_in (x y : LbT) : -1 ≤ cmpL x y ∧ cmpL x y ≤ 1 := by
  have := cmpS_in x.1 y.1
  have := cmpS_in x.2 y.2
  unfold cmpL
  split <;> omega
theorem cmpLs_in : ∀ a b : List LbT, -1 ≤ cmpLs a b ∧ cmpLs a b ≤ 1
  | [], [] => by simp [cmpLs]
  | [], _ :: _ => by simp [cmpLs]
  | _ :: _, [] => by simp [cmpLs]
  | x :: a, y :: b => by
    have := cmpL_in x y
    have := cmpLs_in a b
    simp only [cmpLs]
    split <;> omega
theorem cmp_step {a b : List LbT} {z : Nat} (ha : z < a.length) (hb : z < b.length) : cmpLs (a.drop z) (b.drop z) = if cmpL (a.getD z ([], [])) (b.getD z ([], [])) ≠ 0 then cmpL (a.getD z ([], [])) (b.getD z ([], [])) else cmpLs (a.drop (z + 1)) (b.drop (z + 1)) := by
  have e1 : a.getD z ([], []) = a[z] := by simp [List.getD, ha]
  have e2 : b.getD z ([], []) = b[z] := by simp [List.getD, hb]
  rw [List.drop_eq_getElem_cons ha, List.drop_eq_getElem_cons hb, e1, e2]
  rfl
theorem cmp_endB {a b : List LbT} {z : Nat} (ha : z < a.length) (hb : b.length ≤ z) : cmpLs (a.drop z) (b.drop z) = 1 := by
  rw [List.drop_eq_getElem_cons ha, List.drop_eq_nil_of_le hb]
  rfl
theorem cmp_endA {a b : List LbT} {z : Nat} (ha : a.length ≤ z) (hb : z < b.length) : cmpLs (a.drop z) (b.drop z) = -1 := by
  rw [List.drop_eq_getElem_cons hb, List.drop_eq_nil_of_le ha]
  rfl
theorem cmp_endAB {a b : List LbT} {z : Nat} (ha : a.length ≤ z) (hb : b.length ≤ z) : cmpLs (a.drop z) (b.drop z) = 0 := by
  rw [List.drop_eq_nil_of_le hb, List.drop_eq_nil_of_le ha]
  rfl
theorem grow_gb (w : World) (q : Nat) (os' : Array Obj) : w.grownBy (grow (w.drewN q) os') none := by
  refine ⟨rfl, rfl, rfl, ?_, fun k hk _ => ?_⟩
  · simp [grow, World.drewN]
  · simp only [grow, World.drewN]
    rw [Array.getElem?_append_left hk]

set_option maxRecDepth 8000 in
set_option maxHeartbeats 3200000 in
theorem compareFunc_any (w : World) (v u : Value) (ls ms : List LbT) (hv : RdL w v ls) (hu : RdL w u ms) :
    Calls Tryz.prog 121 #[v, u, .func (.func 122) #[] #[]] w fun e w' => e = .returned (.int .i64 (cmpLs ls ms)) ∧ w.grownBy w' none := by
  have HV : Hid (RdL w v ls ∧ RdL w u ms) := ⟨hv, hu⟩
  obtain ⟨a, c, rfl, hc1, hc2, -, -⟩ := hv
  obtain ⟨b, d, rfl, hd1, hd2, -, -⟩ := hu
  unfold maxLen at hc2 hd2
  have HR : Hid (cmpLs ls ms = cmpLs (ls.drop 0) (ms.drop 0)) := (by simp : cmpLs ls ms = cmpLs (ls.drop 0) (ms.drop 0))
  generalize cmpLs ls ms = R at *
  go_enter Tryz.func121, Tryz.ntmps121
  go_wp2
  go_loopw [13] (fun i wr => ∃ z : Nat, z ≤ ls.length ∧ z ≤ ms.length ∧ i = .int .i64 z ∧ Hid (w.grownBy wr none ∧ R = cmpLs (ls.drop z) (ms.drop z))) (fun i _ => ls.length - (intOf i).toNat)
  case atStart => exact ⟨0, by omega, by omega, rfl, gb_refl _ _, HR.out⟩
  case round =>
    obtain ⟨z, hzN, hzM, rfl, hr⟩ := hrel
    have HG : Hid (w.grownBy wr none) := hr.out.1
    by_cases hzl : z < ls.length
    · have hzi : (z : Int) < (ls.length : Int) := by omega
      obtain ⟨a', c', he, -, -, h3, -⟩ := HV.out.1.keep hr.out.1
      simp only [Value.slice.injEq] at he
      obtain ⟨rfl, -, rfl⟩ := he
      obtain ⟨b1, o1, rfl, c0, c1⟩ := h3 z hzl
      have hbl : ¬ b1 = wr.heap.size := by have := block_lt c0; omega
      have hbl2 : ¬ wr.heap.size = b1 := by omega
      clear h3
      by_cases hzm : z < ms.length
      · have hzj : ¬ (ms.length : Int) ≤ (z : Int) := by omega
        have hzj2 : (z : Int) < (ms.length : Int) := by omega
        obtain ⟨a2, c2, he2, -, -, h4, -⟩ := HV.out.2.keep hr.out.1
        simp only [Value.slice.injEq] at he2
        obtain ⟨rfl, -, rfl⟩ := he2
        obtain ⟨b2, o2, rfl, d0, d1⟩ := h4 z hzm
        have hbm : ¬ b2 = wr.heap.size := by have := block_lt d0; omega
        have hbm2 : ¬ wr.heap.size = b2 := by omega
        have HS : Hid (R = if cmpL (ls.getD z ([], [])) (ms.getD z ([], [])) ≠ 0 then cmpL (ls.getD z ([], [])) (ms.getD z ([], [])) else cmpLs (ls.drop (z + 1)) (ms.drop (z + 1))) := by rw [← cmp_step hzl hzm]; exact hr.out.2
        have HO : Hid (∀ W, w.grownBy W none → Calls Tryz.prog 122 #[.agg #[.string (ByteArray.mk ⟨(ls.getD z ([], [])).1⟩), .string (ByteArray.mk ⟨(ls.getD z ([], [])).2⟩)], .agg #[.string (ByteArray.mk ⟨(ms.getD z ([], [])).1⟩), .string (ByteArray.mk ⟨(ms.getD z ([], [])).2⟩)]] W fun e w' => e = .returned (.int .i64 (cmpL (ls.getD z ([], [])) (ms.getD z ([], [])))) ∧ Hid (w.grownBy w' none)) := fun W hW => (compareOne_any W _ _).mono fun e w' ⟨h1, q, os', h2⟩ => ⟨h1, by rw [h2]; exact gb_none hW (grow_gb _ _ _)⟩
        have HE : Hid (∀ C D, w.grownBy ((wr.alloc C).alloc D) none) := fun C D => gb_none hr.out.1 (gb_none (World.grownBy_alloc _ _ none) (World.grownBy_alloc _ _ none))
        have dC0 : ∀ C, (wr.alloc C).cell? ⟨b2, o2 + z * 2, none⟩ = some (.string (ByteArray.mk ⟨(ms.getD z ([], [])).1⟩)) := fun C => (World.cell?_of_block ((World.grownBy_alloc wr C none).block b2 (block_lt d0) (by simp))).trans d0
        have dC1 : ∀ C, (wr.alloc C).cell? ⟨b2, o2 + z * 2 + 1, none⟩ = some (.string (ByteArray.mk ⟨(ms.getD z ([], [])).2⟩)) := fun C => (World.cell?_of_block ((World.grownBy_alloc wr C none).block b2 (block_lt d0) (by simp))).trans d1
        clear h4 hr HG
        generalize cmpL (ls.getD z ([], [])) (ms.getD z ([], [])) = r at *
        generalize ByteArray.mk ⟨(ls.getD z ([], [])).1⟩ = sn at *
        generalize ByteArray.mk ⟨(ls.getD z ([], [])).2⟩ = sv at *
        generalize ByteArray.mk ⟨(ms.getD z ([], [])).1⟩ = sm at *
        generalize ByteArray.mk ⟨(ms.getD z ([], [])).2⟩ = su at *
        by_cases hr0 : r = 0
        · subst hr0
          rw [if_neg (by simp)] at HS
          go_wp2_with fail
          refine (HO.out _ (HE.out _ _)).mono ?_
          rintro e w1 ⟨rfl, H1⟩
          clear HO HE
          go_wp2
          go_roundw
          case rel => exact ⟨z + 1, by omega, by omega, by simp, H1.out, HS.out⟩
          case measure => simp [intOf]; omega
        · rw [if_pos hr0] at HS
          have hrb : (r == 0) = false := by rw [beq_eq_false_iff_ne]; exact hr0
          go_wp2_with fail
          refine (HO.out _ (HE.out _ _)).mono ?_
          rintro e w1 ⟨rfl, H1⟩
          clear HO HE
          go_wp2
          go_ret
          exact ⟨by rw [HS.out]; rfl, H1.out⟩
      · have hzj : (ms.length : Int) ≤ (z : Int) := by omega
        have HS : Hid (R = 1) := by rw [← cmp_endB hzl (by omega : ms.length ≤ z)]; exact hr.out.2
        have HE : Hid (∀ C, w.grownBy (wr.alloc C) none) := fun C => gb_none hr.out.1 (World.grownBy_alloc _ _ none)
        clear hr HG
        generalize ByteArray.mk ⟨(ls.getD z ([], [])).1⟩ = sn at *
        generalize ByteArray.mk ⟨(ls.getD z ([], [])).2⟩ = sv at *
        go_wp2
        go_ret
        exact ⟨by rw [HS.out]; rfl, HE.out _⟩
    · have hzi : ¬ (z : Int) < (ls.length : Int) := by omega
      by_cases hzm : ls.length < ms.length
      · have hlm : (ls.length : Int) < (ms.length : Int) := by omega
        have HS : Hid (R = -1) := by rw [← cmp_endA (by omega : ls.length ≤ z) (by omega : z < ms.length)]; exact hr.out.2
        clear hr
        go_wp2
        go_ret
        exact ⟨by rw [HS.out]; rfl, HG.out⟩
      · have hlm : ¬ (ls.length : Int) < (ms.length : Int) := by omega
        have HS : Hid (R = 0) := by rw [← cmp_endAB (by omega : ls.length ≤ z) (by omega : ms.length ≤ z)]; exact hr.out.2
        clear hr
        go_wp2
        go_ret
        exact ⟨by rw [HS.out]; rfl, HG.out⟩
set_option maxHeartbeats 1600000 in
theorem compare_any (w : World) (v u : Value) (ls ms : List LbT) (hv : RdL w v ls) (hu : RdL w u ms) :
    Calls Tryz.prog 104 #[v, u] w fun e w' => e = .returned (.int .i64 (cmpLs ls ms)) ∧ w.grownBy w' none := by
  have HC : Hid (Calls Tryz.prog 121 #[v, u, .func (.func 122) #[] #[]] w fun e w' => e = .returned (.int .i64 (cmpLs ls ms)) ∧ Hid (w.grownBy w' none)) := compareFunc_any w v u ls ms hv hu
  generalize cmpLs ls ms = R at *
  clear hv hu
  go_enter Tryz.func104, Tryz.ntmps104
  go_wp2_with fail
  refine HC.out.mono ?_
  rintro e w1 ⟨rfl, H1⟩
  clear HC
  go_wp2
  go_ret
  exact ⟨rfl, H1.out⟩

set_option maxHeartbeats 1600000 in
theorem refSide_any (w : World) (a b : List UInt8) :
    Calls Tryz.prog 125 #[.string (ByteArray.mk ⟨a⟩), .string (ByteArray.mk ⟨b⟩)] w fun e w' => e = .returned (.int .i64 (cmpS a b)) ∧ w' = w := by
  have HR : Hid (cmpS a b = if a < b then -1 else if b < a then 1 else 0) := rfl
  generalize cmpS a b = r at *
  have hb1 : Op.bytesLess (ByteArray.mk ⟨a⟩).toList (ByteArray.mk ⟨b⟩).toList = decide (a < b) := by rw [ByteArray.toList_eq, ByteArray.toList_eq, bytesLess_eq]
  have hq := strq a b
  by_cases h1 : a < b
  · have hr : r = -1 := by rw [HR.out, if_pos h1]
    subst hr
    rw [decide_eq_true h1] at hb1
    clear HR hq h1
    generalize ByteArray.mk ⟨a⟩ = sa at *
    generalize ByteArray.mk ⟨b⟩ = sb at *
    go_enter Tryz.func125, Tryz.ntmps125
    go_wp2
    go_ret
    exact ⟨rfl, rfl⟩
  · rw [decide_eq_false h1] at hb1
    by_cases h2 : a = b
    · have hr : r = 0 := by rw [HR.out, if_neg h1, if_neg (by rw [h2]; exact List.lt_irrefl _)]
      subst hr
      rw [decide_eq_true h2] at hq
      clear HR h1 h2
      generalize ByteArray.mk ⟨a⟩ = sa at *
      generalize ByteArray.mk ⟨b⟩ = sb at *
      go_enter Tryz.func125, Tryz.ntmps125
      go_wp2
      go_ret
      exact ⟨rfl, rfl⟩
    · have h3 : b < a := by
        rcases tri a b with h | h | h
        · exact absurd h h1
        · exact absurd h h2
        · exact h
      have hr : r = 1 := by rw [HR.out, if_neg h1, if_pos h3]
      subst hr
      rw [decide_eq_false h2] at hq
      clear HR h1 h2 h3
      generalize ByteArray.mk ⟨a⟩ = sa at *
      generalize ByteArray.mk ⟨b⟩ = sb at *
      go_enter Tryz.func125, Tryz.ntmps125
      go_wp2
      go_ret
      exact ⟨rfl, rfl⟩
end Go.Proofs.YtpglhdnepmcahaaGreatDoor

/- LbCr -/
namespace Go.Proofs.YtpglhdnepmcahaaGreatDoor
open Go.RowKit

set_option maxRecDepth 8000 in
set_option maxHeartbeats 3200000 in
theorem refCompare_any (w : World) (v u : Value) (ls ms : List LbT) (hv : RdL w v ls) (hu : RdL w u ms) :
    Calls Tryz.prog 112 #[v, u] w fun e w' => e = .returned (.int .i64 (cmpLs ls ms)) ∧ w.grownBy w' none := by
  have HV : Hid (RdL w v ls ∧ RdL w u ms) := ⟨hv, hu⟩
  obtain ⟨a, c, rfl, hc1, hc2, -, -⟩ := hv
  obtain ⟨b, d, rfl, hd1, hd2, -, -⟩ := hu
  unfold maxLen at hc2 hd2
  have HR : Hid (cmpLs ls ms = cmpLs (ls.drop 0) (ms.drop 0)) := (by simp : cmpLs ls ms = cmpLs (ls.drop 0) (ms.drop 0))
  generalize cmpLs ls ms = R at *
  go_enter Tryz.func112, Tryz.ntmps112
  go_wp2
  go_loopw [5] (fun i wr => ∃ z : Nat, z ≤ ls.length ∧ z ≤ ms.length ∧ i = .int .i64 z ∧ Hid (w.grownBy wr none ∧ R = cmpLs (ls.drop z) (ms.drop z))) (fun i _ => ls.length - (intOf i).toNat)
  case atStart => exact ⟨0, by omega, by omega, rfl, gb_refl _ _, HR.out⟩
  case round =>
    obtain ⟨z, hzN, hzM, rfl, hr⟩ := hrel
    have HG : Hid (w.grownBy wr none) := hr.out.1
    by_cases hzb : z < ls.length ∧ z < ms.length
    · obtain ⟨hzl, hzm⟩ := hzb
      have hzi : (z : Int) < (ls.length : Int) := by omega
      have hzj : (z : Int) < (ms.length : Int) := by omega
      obtain ⟨a', c', he, -, -, h3, -⟩ := HV.out.1.keep hr.out.1
      simp only [Value.slice.injEq] at he
      obtain ⟨rfl, -, rfl⟩ := he
      obtain ⟨b1, o1, rfl, c0, c1⟩ := h3 z hzl
      obtain ⟨a2, c2, he2, -, -, h4, -⟩ := HV.out.2.keep hr.out.1
      simp only [Value.slice.injEq] at he2
      obtain ⟨rfl, -, rfl⟩ := he2
      obtain ⟨b2, o2, rfl, d0, d1⟩ := h4 z hzm
      have HS : Hid (R = if cmpL (ls.getD z ([], [])) (ms.getD z ([], [])) ≠ 0 then cmpL (ls.getD z ([], [])) (ms.getD z ([], [])) else cmpLs (ls.drop (z + 1)) (ms.drop (z + 1))) := by rw [← cmp_step hzl hzm]; exact hr.out.2
      have HL : Hid (cmpL (ls.getD z ([], [])) (ms.getD z ([], [])) = if cmpS (ls.getD z ([], [])).1 (ms.getD z ([], [])).1 ≠ 0 then cmpS (ls.getD z ([], [])).1 (ms.getD z ([], [])).1 else cmpS (ls.getD z ([], [])).2 (ms.getD z ([], [])).2) := rfl
      have HA : Hid (∀ W, Calls Tryz.prog 125 #[.string (ByteArray.mk ⟨(ls.getD z ([], [])).1⟩), .string (ByteArray.mk ⟨(ms.getD z ([], [])).1⟩)] W fun e w' => e = .returned (.int .i64 (cmpS (ls.getD z ([], [])).1 (ms.getD z ([], [])).1)) ∧ w' = W) := fun W => refSide_any W _ _
      have HB : Hid (∀ W, Calls Tryz.prog 125 #[.string (ByteArray.mk ⟨(ls.getD z ([], [])).2⟩), .string (ByteArray.mk ⟨(ms.getD z ([], [])).2⟩)] W fun e w' => e = .returned (.int .i64 (cmpS (ls.getD z ([], [])).2 (ms.getD z ([], [])).2)) ∧ w' = W) := fun W => refSide_any W _ _
      clear h3 h4 hr
      generalize cmpL (ls.getD z ([], [])) (ms.getD z ([], [])) = r at *
      generalize cmpS (ls.getD z ([], [])).1 (ms.getD z ([], [])).1 = r1 at *
      generalize cmpS (ls.getD z ([], [])).2 (ms.getD z ([], [])).2 = r2 at *
      generalize ByteArray.mk ⟨(ls.getD z ([], [])).1⟩ = sn at *
      generalize ByteArray.mk ⟨(ls.getD z ([], [])).2⟩ = sv at *
      generalize ByteArray.mk ⟨(ms.getD z ([], [])).1⟩ = sm at *
      generalize ByteArray.mk ⟨(ms.getD z ([], [])).2⟩ = su at *
      generalize hq1 : o1 + z * 2 = p1 at *
      generalize hq2 : o2 + z * 2 = p2 at *
      go_wp2_with fail
      go_region_held3 (fun w' => w'.cell? ⟨b1, p1, none⟩ = some (.string sn) ∧ w'.cell? ⟨b2, p2, none⟩ = some (.string sm)) (go_keep) (first | (go_at_call 125; with_reducible refine (HA.out _).mono ?_; rintro e w' ⟨rfl, rfl⟩))
      have e0 : wr.drew.cell? ⟨b1, p1 + 1, none⟩ = some (.string sv) := c1
      have e1 : wr.drew.cell? ⟨b2, p2 + 1, none⟩ = some (.string su) := d1
      have HG1 : Hid (w.grownBy wr.drew none) := gb_none HG.out (gb_drew _ none)
      generalize wr.drew = wr1 at *
      by_cases h1 : r1 = 0
      · subst h1
        rw [if_neg (by simp)] at HL
        go_wp2_with fail
        go_region_held3 (fun w' => w'.cell? ⟨b1, p1 + 1, none⟩ = some (.string sv) ∧ w'.cell? ⟨b2, p2 + 1, none⟩ = some (.string su)) (go_keep) (first | (go_at_call 125; with_reducible refine (HB.out _).mono ?_; rintro e w' ⟨rfl, rfl⟩))
        have HG2 : Hid (w.grownBy wr1.drew none) := gb_none HG1.out (gb_drew _ none)
        generalize wr1.drew = wr2 at *
        by_cases h2 : r2 = 0
        · subst h2
          have h3 := HL.out
          subst h3
          rw [if_neg (by simp)] at HS
          clear HA HB HL
          go_wp2
          go_roundw
          case rel => exact ⟨z + 1, by omega, by omega, by simp, HG2.out, HS.out⟩
          case measure => simp [intOf]; omega
        · have h3 := HL.out
          subst h3
          rw [if_pos h2] at HS
          have hrb : (r == 0) = false := by rw [beq_eq_false_iff_ne]; exact h2
          clear HA HB HL
          go_wp2
          go_ret
          exact ⟨by rw [HS.out]; rfl, HG2.out⟩
      · rw [if_pos h1] at HL
        have h3 := HL.out
        subst h3
        rw [if_pos h1] at HS
        have hrb : (r == 0) = false := by rw [beq_eq_false_iff_ne]; exact h1
        clear HA HB HL
        go_wp2
        go_ret
        exact ⟨by rw [HS.out]; rfl, HG1.out⟩
    · rcases Nat.lt_trichotomy ls.length ms.length with hlm | hlm | hlm
      · have hzi : ¬ (z : Int) < (ls.length : Int) := by omega
        have hli : (ls.length : Int) < (ms.length : Int) := by omega
        have HS : Hid (R = -1) := by rw [← cmp_endA (by omega : ls.length ≤ z) (by omega : z < ms.length)]; exact hr.out.2
        clear hr hzb
        go_wp2
        go_ret
        exact ⟨by rw [HS.out]; rfl, HG.out⟩
      · have hzi : ¬ (z : Int) < (ls.length : Int) := by omega
        have hli : ¬ (ls.length : Int) < (ms.length : Int) := by omega
        have hli2 : ¬ (ms.length : Int) < (ls.length : Int) := by omega
        have HS : Hid (R = 0) := by rw [← cmp_endAB (by omega : ls.length ≤ z) (by omega : ms.length ≤ z)]; exact hr.out.2
        clear hr hzb
        go_wp2
        go_ret
        exact ⟨by rw [HS.out]; rfl, HG.out⟩
      · have hzi : (z : Int) < (ls.length : Int) := by omega
        have hzj : ¬ (z : Int) < (ms.length : Int) := by omega
        have hli : ¬ (ls.length : Int) < (ms.length : Int) := by omega
        have hli2 : (ms.length : Int) < (ls.length : Int) := by omega
        have HS : Hid (R = 1) := by rw [← cmp_endB (by omega : z < ls.length) (by omega : ms.length ≤ z)]; exact hr.out.2
        clear hr hzb
        go_wp2
        go_ret
        exact ⟨by rw [HS.out]; rfl, HG.out⟩
end Go.Proofs.YtpglhdnepmcahaaGreatDoor

/- LbSp -/
namespace Go.Proofs.YtpglhdnepmcahaaGreatDoor
open Go.RowKit

theorem lbf_set (ls : List LbT) : ∀ (j : Nat) (x : LbT), lbf (ls.set j x) = ((lbf ls).set (j * 2) (.string (ByteArray.mk ⟨x.1⟩))).set (j * 2 + 1) (.string (ByteArray.mk ⟨x.2⟩)) := by
  induction ls with
  | nil => intro j x; rfl
  | cons y t ih =>
    intro j x
    have e : ∀ z : LbT, ∀ u : List LbT, lbf (z :: u) = .string (ByteArray.mk ⟨z.1⟩) :: .string (ByteArray.mk ⟨z.2⟩) :: lbf u := fun _ _ => rfl
    cases j with
    | zero => rw [List.set_cons_zero, e, e]; simp
    | succ j => rw [List.set_cons_succ, e, e, ih, show (j + 1) * 2 = j * 2 + 1 + 1 by omega]; simp
/-- a label stored -/
theorem OwnL.set {w : World} {base g n cap : Nat} {ls : List LbT} (h : OwnL w base (.slice (some ⟨g, 0, none⟩) n cap) ls) (j : Nat) (x : LbT) :
    OwnL ((w.setCell ⟨g, j * 2, none⟩ (.string (ByteArray.mk ⟨x.1⟩))).setCell ⟨g, j * 2 + 1, none⟩ (.string (ByteArray.mk ⟨x.2⟩))) base (.slice (some ⟨g, 0, none⟩) n cap) (ls.set j x) ∧
    w.grownBy ((w.setCell ⟨g, j * 2, none⟩ (.string (ByteArray.mk ⟨x.1⟩))).setCell ⟨g, j * 2 + 1, none⟩ (.string (ByteArray.mk ⟨x.2⟩))) (some g) := by
  have hn : n = ls.length := by
    rcases h.2 with ⟨h', _⟩ | ⟨_, _, _, h', _⟩
    · simp at h'
    · simp at h'; exact h'.2.1
  subst hn
  obtain ⟨h1, g1⟩ := World.ownsRow.stored h (j * 2) (.string (ByteArray.mk ⟨x.1⟩))
  obtain ⟨h2, g2⟩ := World.ownsRow.stored h1 (j * 2 + 1) (.string (ByteArray.mk ⟨x.2⟩))
  refine ⟨?_, gb_trans g1 g2 (fun k hk _ => hk.symm)⟩
  unfold OwnL
  rw [List.length_set, lbf_set]
  exact h2
theorem OwnL.frozen {w : World} {base g n cap : Nat} {ls : List LbT} (h : OwnL w base (.slice (some ⟨g, 0, none⟩) n cap) ls) (j : Nat) : w.frozen? ⟨g, j, none⟩ = false := by
  have hn : n = ls.length := by
    rcases h.2 with ⟨h', _⟩ | ⟨_, _, _, h', _⟩
    · simp at h'
    · simp at h'; exact h'.2.1
  subst hn
  exact World.ownsRow.frozenAt h j
theorem OwnL.form {w : World} {base : Nat} {v : Value} {ls : List LbT} (h : OwnL w base v ls) (hl : 0 < ls.length) : ∃ g cap, v = .slice (some ⟨g, 0, none⟩) ls.length cap ∧ base ≤ g ∧ g < w.heap.size ∧ ls.length ≤ cap ∧ cap ≤ 9223372036854775807 ∧ ∀ j, j < ls.length → w.cell? ⟨g, j * 2, none⟩ = some (.string (ByteArray.mk ⟨(ls.getD j ([], [])).1⟩)) ∧ w.cell? ⟨g, j * 2 + 1, none⟩ = some (.string (ByteArray.mk ⟨(ls.getD j ([], [])).2⟩)) := by
  have h0 := h
  rcases h.2 with ⟨rfl, hn⟩ | ⟨g, cap, cur, rfl, hbg, hh, hnc, hcm, hcs, htake⟩
  · omega
  · refine ⟨g, cap, rfl, hbg, (Array.getElem?_eq_some_iff.1 hh).1, hnc, by unfold maxLen at hcm; exact hcm, fun j hj => ?_⟩
    have hg := lbf_get ls j hj
    have hc := World.ownsRow.cells h0 rfl
    have c0 := hc _ _ hg.1
    have c1 := hc _ _ hg.2
    rw [Go.WideShapes.add_plain] at c0 c1
    simp only [Nat.zero_add] at c0 c1
    exact ⟨c0, c1⟩
theorem OwnL.shape {w : World} {base : Nat} {v : Value} {ls : List LbT} (h : OwnL w base v ls) : ∃ a c, v = .slice a ls.length c := by
  rcases h.2 with ⟨rfl, hn⟩ | ⟨g, cap, cur, rfl, _⟩
  · exact ⟨none, 0, by rw [hn]⟩
  · exact ⟨_, _, rfl⟩
theorem OwnL.lt {w : World} {base : Nat} {v : Value} {ls : List LbT} (h : OwnL w base v ls) : ∀ k, v.ownBlock = some k → base ≤ k ∧ k < w.heap.size := World.ownsRow.lt h
theorem gbs (w : World) (g j : Nat) (u : Value) : w.grownBy (w.setCell ⟨g, j, none⟩ u) (some g) :=
  ⟨rfl, rfl, rfl, by simp, fun k _ hk => Below.heap_setCell _ _ _ _ (fun e => hk (by rw [e]))⟩
def spB : List UInt8 := [115, 112, 111, 105, 108, 116]

end Go.Proofs.YtpglhdnepmcahaaGreatDoor
