/-
  Ck5, CkG, in one text.
-/
import Derived.Test.YtkiefmhampfhoaaDoorCk3
import Derived.Lib.ConvBytes
import Derived.Test.YtkiefmhampfhoaaDoorLaws
/- Ck5 -/
namespace Go.Proofs.YtkiefmhampfhoaaDoor
open Go.RowKit

/-- 'string(b)' of whatever bytes -/
theorem run_strU {w : World} {v : Value} {l : List UInt8} (h : Rd w v l) : (convert 36 9 v).run Tryd.prog w = .ok (.string (ByteArray.mk ⟨l⟩)) w := by
  obtain ⟨a, c, rfl, h1, h2, h3, h4⟩ := h
  cases a with
  | none =>
    have := h4 rfl
    have hl : l = [] := List.eq_nil_of_length_eq_zero (by omega)
    subst hl
    rw [run_convert_bytes_string w 36 9 5 none _ c Tryd.underlying36 Tryd.underlying5 Tryd.underlying9]
    simp [Conv.bytesToString]
    rfl
  | some ad =>
    refine run_convert_bytes_back w 36 9 5 ad c l Tryd.underlying36 Tryd.underlying5 Tryd.underlying9 (fun j hj => ?_)
    obtain ⟨b, o, hb, hc⟩ := h3 j hj
    cases hb
    rw [Go.WideShapes.add_plain, hc]
    simp [hj]
theorem pack1 : ckBytes 1 (bytesBits (uv (zz 1000)) ++ bitsOf 4607182418800017408 64) = [0, 1, 208, 15, 63, 240, 0, 0, 0, 0, 0, 0] := by decide +kernel

set_option maxHeartbeats 3200000 in
theorem awake_any (w : World) : Calls Tryd.prog 19 #[] w fun e w' => e = .returned (.bool true) ∧ w.grownBy w' none := by
  go_enter Tryd.func19, Tryd.ntmps19
  go_wp2_with fail
  refine (chunkNew_any _).mono ?_
  rintro e w1 ⟨g, rfl, hw1, hg1, hgg⟩
  have H1 : Hid (Wr (past 0 0 0 0 false 0 0) w1 g (.slice none 0 0) [] ∧ w.grownBy w1 none ∧ w.heap.size ≤ g) := ⟨hw1, hg1, hgg⟩
  clear hw1 hg1 hgg
  go_wp2_with fail
  refine (append_ok g _ [] 0 0 4607182418800017408 0 1000 0 false 0 0 _ _ H1.out.1 (by omega) (.inl rfl) (by omega) (put_first g 4607182418800017408 1000 _ H1.out.1 (by omega) (by omega))).mono ?_
  rintro e w2 ⟨rfl, v2, hw2, hf2⟩
  have H2 : Hid (Wr (past 1 1000 4607182418800017408 1000 false 0 0) w2 g v2 (bytesBits (uv (zz 1000)) ++ bitsOf 4607182418800017408 64) ∧ w.grownBy w2 none) := by
    refine ⟨hw2, hf2.os.trans H1.out.2.1.os, hf2.tape.trans H1.out.2.1.tape, hf2.output.trans H1.out.2.1.output, Nat.le_trans H1.out.2.1.size hf2.size, fun k hk _ => ?_⟩
    have := H1.out.2.1.size
    rw [hf2.block k (by omega) (by have := H1.out.2.2; omega) (by simp [Value.ownBlock]), H1.out.2.1.block k hk (by simp)]
  clear hw2 hf2 H1
  go_wp2_with fail
  refine (append_old g v2 _ 1 4607182418800017408 _ 1000 1000 1000 false 0 0 _ H2.out.1 (by omega) (by omega) (by omega)).mono ?_
  rintro e w3 ⟨rfl, hg3⟩
  have H3 : Hid (Wr (past 1 1000 4607182418800017408 1000 false 0 0) w3 g v2 (bytesBits (uv (zz 1000)) ++ bitsOf 4607182418800017408 64) ∧ w.grownBy w3 none) := ⟨H2.out.1.keep hg3, gb_none H2.out.2 hg3⟩
  clear hg3 H2
  go_wp2_with fail
  have hbl : (bytesBits (uv (zz 1000)) ++ bitsOf 4607182418800017408 64).length ≤ 8388608 := by decide +kernel
  refine (bytes_any g v2 _ 1 _ _ _ false 0 0 _ H3.out.1 (by omega) hbl).mono ?_
  rintro e w4 ⟨v4, rfl, ho4, hg4⟩
  rw [pack1] at ho4
  have H4 : Hid (Wr (past 1 1000 4607182418800017408 1000 false 0 0) w4 g v2 (bytesBits (uv (zz 1000)) ++ bitsOf 4607182418800017408 64) ∧ w.grownBy w4 none) := ⟨H3.out.1.keep hg4, gb_none H3.out.2 hg4⟩
  have hcv := run_strU ho4.rd
  clear ho4 hg4 H3 hbl
  go_wp2_with fail
  refine (len_any g v2 _ 1 _ _ _ false 0 0 _ H4.out.1).mono ?_
  rintro e w5 ⟨rfl, rfl⟩
  go_wp2
  go_ret
  exact ⟨rfl, H4.out.2⟩
end Go.Proofs.YtkiefmhampfhoaaDoor

/- CkG -/
namespace Go.Proofs.YtkiefmhampfhoaaDoor
open Go.RowKit

/-- the cells behind an address -/
def RdC (w : World) (a : Option Addr) (news : List Value) : Prop := ∀ j u, news[j]? = some u → ∃ ad, a = some ad ∧ w.cell? (ad.add j) = some u
theorem run_appG (w : World) (ty T E : TypeId) (i0 : TypeInfo) (z : Value) (size bytes base : Nat) (hT : Tryd.prog.underlying T = some (.slice E)) (hi : Tryd.prog.info? E = some i0) (hz0 : i0.zero = some z) (hz1 : i0.size = size) (hz2 : i0.bytes = bytes) (hzs : z.cells.size = size) (hpos : 0 < size) (hby : bytes ≤ 4096)
    (v : Value) (n : Nat) (xs : List Value) (hown : w.ownsRow base E size v n xs) (a : Option Addr) (m c : Nat) (news : List Value) (hl : news.length = m * size) (hra : RdC w a news) (hnil : a = none → m = 0 ∧ c = 0) (h1 : ∀ u ∈ news, u.oneCell' = true)
    (hsz : n + m ≤ 4194304) (hbase : base ≤ w.heap.size) :
    ∃ v' w', (Builtin.append_ #[T, T] ty #[v, .slice a m c]).run Tryd.prog w = .ok v' w' ∧ w'.ownsRow base E size v' (n + m) (xs ++ news) ∧ Fr w w' v v' := by
  cases a with
  | none =>
    obtain ⟨rfl, rfl⟩ := hnil rfl
    have hn0 : news = [] := List.eq_nil_of_length_eq_zero (by omega)
    subst hn0
    refine ⟨v, w, run_append_owned_none w base T ty E i0 size hT hi v n _ hown, by simpa using hown, Fr.refl _ _⟩
  | some ad =>
    have hcell : ∀ j u, news[j]? = some u → w.cell? (ad.add j) = some u := fun j u hj => by
      obtain ⟨ad', e, hc⟩ := hra j u hj
      cases e
      exact hc
    have hb1 : (n + m + (n + m) / 4 + 192) * bytes ≤ 5243072 * 4096 := Nat.mul_le_mul (by omega) hby
    obtain ⟨v', w', hr, ho, hg, hiff⟩ := run_append_own_wide (P := Tryd.prog) w base T ty E i0 z size bytes hT hi hz0 hz1 hz2 hzs hpos v n xs hown
      ad m c news hl hcell h1 (by unfold maxLen; omega) (by omega) hbase
    refine ⟨v', w', hr, ho, hg, ?_⟩
    intro k hk
    rcases hown.2 with ⟨rfl, hn⟩ | ⟨g, cap, cur, rfl, hbg, hh, hnc, hcm', hcs, htake⟩
    · by_cases hm0 : m = 0
      · have := hiff.2 ⟨rfl, hm0⟩
        subst this
        simp [Value.ownBlock] at hk
      · subst hn
        have hb2 : m * bytes ≤ 4194304 * 4096 := Nat.mul_le_mul (by omega) hby
        have hn' := run_append_nil (P := Tryd.prog) w T ty E i0 z hT hi hz0 ad m c news (by rw [hz1]; exact hl) hcell (by omega) (by omega) (by rw [hz2]; omega)
        rw [hr] at hn'
        injection hn' with e1 e2
        subst e1
        simp [Value.ownBlock] at hk
        exact .inr (by omega)
    · by_cases hroom : n + m ≤ cap
      · have hn' := run_append_room (P := Tryd.prog) w T ty E i0 hT hi g n cap cur hh ad m c news (by rw [hz1]; exact hl) hcell h1 hroom (by rw [hz1, hl, hcs]; exact (by rw [← Nat.add_mul]; exact Nat.mul_le_mul_right _ hroom))
        rw [hr] at hn'
        injection hn' with e1 e2
        subst e1
        exact .inl (by simpa [Value.ownBlock] using hk.symm)
      · have hn' := run_append_grow (P := Tryd.prog) w T ty E i0 z hT hi hz0 ⟨g, 0, none⟩ n cap xs (by rw [hz1]; exact hown.1) (World.ownsRow.cells hown rfl) ad m c news (by rw [hz1]; exact hl) hcell (by omega) (by omega) (by rw [hz2]; exact growslice_fits_wide (by omega) (by omega))
        rw [hr] at hn'
        injection hn' with e1 e2
        subst e1
        simp [Value.ownBlock] at hk
        exact .inr (by omega)
theorem wp_appG {w : World} {ops : Array Oper} {rest : List Oper} {o : Oper} {a : Act} {Q : Exit → Act → World → Prop} (hgd : o.guard = none) (s x : Operand) (T E : TypeId)
    (ho : o.op = .call { callee := .builtin .append, args := #[s, x], argTypes := #[T, T] })
    (i0 : TypeInfo) (z : Value) (size bytes base : Nat) (hT : Tryd.prog.underlying T = some (.slice E)) (hi : Tryd.prog.info? E = some i0) (hz0 : i0.zero = some z) (hz1 : i0.size = size) (hz2 : i0.bytes = bytes) (hzs : z.cells.size = size) (hpos : 0 < size) (hby : bytes ≤ 4096)
    (v : Value) (n : Nat) (xs : List Value) (ad : Option Addr) (m c : Nat) (news : List Value) (hs : a.eval s = v) (hx : a.eval x = .slice ad m c) (hown : w.ownsRow base E size v n xs) (hl : news.length = m * size) (hra : RdC w ad news) (hnil : ad = none → m = 0 ∧ c = 0) (h1 : ∀ u ∈ news, u.oneCell' = true)
    (hsz : n + m ≤ 4194304) (hbase : base ≤ w.heap.size)
    (h : ∀ v' w', w'.ownsRow base E size v' (n + m) (xs ++ news) → Fr w w' v v' → wpList Tryd.prog ops Q rest (a.put o.dst v') w') : wpList Tryd.prog ops Q (o :: rest) a w := by
  refine wpList_plain hgd fun K hK => ?_
  obtain ⟨v', w', hrun, h2, h3⟩ := run_appG w o.type T E i0 z size bytes base hT hi hz0 hz1 hz2 hzs hpos hby v n xs hown ad m c news hl hra hnil h1 hsz hbase
  unfold Oper.wp execOp
  simp only [ho, resolve, invoke, builtin, Sem.run_bind, Sem.run_pure, Result.andThen_ok, List.map_toArray, List.map_cons, List.map_nil, hs, hx, hrun]
  exact hK _ _ (h v' w' h2 h3)
end Go.Proofs.YtkiefmhampfhoaaDoor
