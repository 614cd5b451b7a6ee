/-
  LxDm, LxDn, in one text.
-/
import Derived.Test.YtifjdfmmafbhkaaGreatDoorLxDl
/- LxDm -/
namespace Go.Proofs.YtifjdfmmafbhkaaGreatDoor
open Go.RowKit

def hvN (c : Nat) : Nat := if c ≤ 57 then c - 48 else if 97 ≤ c then c - 87 else c - 55
theorem escW_hv (l : LxS) (h0 : byN l 0 = 120) (h1 : hxB (byN l 1) = true) (h2 : hxB (byN l 2) = true) (h3 : byN l 1 < 56) : escW l = (hvN (byN l 1) * 16 + hvN (byN l 2), 3) := by
  unfold escW
  rw [if_pos h0, if_pos ⟨h1, h2, h3⟩]
  rfl
theorem parseUint_any (w : World) (x y : UInt8) (hx : hxB x.toNat = true) (hx7 : x.toNat < 56) (hy : hxB y.toNat = true) :
    Calls Tryz.prog 58 #[.string (ByteArray.mk ⟨[x, y]⟩), .int .i64 16, .int .i64 8] w fun e w' => e = .returned (.tuple #[.int .u64 ((hvN x.toNat * 16 + hvN y.toNat : Nat) : Int), .nilIface]) ∧ w.grownBy w' none := by
  have HC : Hid (Calls Tryz.prog 74 #[.string (ByteArray.mk ⟨[x, y]⟩), .int .i64 16, .int .i64 8] w fun e w' => e = .returned (.tuple #[.int .u64 ((hvN x.toNat * 16 + hvN y.toNat : Nat) : Int), .nilIface]) ∧ w.grownBy w' none) := by
    rw [hxB_iff] at hx hy
    have e1 : hvN x.toNat = x.toNat - 48 := by unfold hvN; rw [if_pos (by omega)]
    by_cases c : y.toNat ≤ 57
    · have e2 : hvN y.toNat = y.toNat - 48 := by unfold hvN; rw [if_pos c]
      rw [e1, e2]
      exact parseHex_any w x y (by omega) (by omega)
    · have e2 : hvN y.toNat = if 97 ≤ y.toNat then y.toNat - 87 else y.toNat - 55 := by unfold hvN; rw [if_neg c]
      rw [e1, e2]
      exact parseHexL_any w x y (by omega) (by omega)
  generalize hvN x.toNat * 16 + hvN y.toNat = V at *
  clear hx hx7 hy
  go_enter Tryz.func58, Tryz.ntmps58
  go_wp2_with fail
  refine HC.out.mono ?_
  rintro e w1 ⟨rfl, hg1⟩
  have H1 := hidJ hg1
  clear hg1 HC
  go_wp2
  go_ret2
  exact ⟨rfl, H1.out⟩
end Go.Proofs.YtifjdfmmafbhkaaGreatDoor

/- LxDn -/
namespace Go.Proofs.YtifjdfmmafbhkaaGreatDoor
open Go.RowKit

theorem refT_eqf (q : Nat) (l : LxS) (f g : Nat) (hf : l.length ≤ f) (hg : l.length ≤ g) : refT q f l = refT q g l := by
  cases h : refT q f l with
  | some x => exact (refT_fuel q f l g x h hg).symm
  | none =>
    cases h' : refT q g l with
    | none => rfl
    | some x => rw [refT_fuel q g l f x h' hf] at h; cases h
/-- what a string says from place i of a text on -/
def txR (q : Nat) (l : LxS) (i : Nat) : Option (LxS × Nat) := refT q l.length (l.drop i)
theorem txR_out (q : Nat) (l : LxS) (i : Nat) (h : l.length ≤ i) : txR q l i = none := by
  unfold txR
  rw [List.drop_eq_nil_of_le h]
  cases l.length <;> rfl
theorem txR_step (q : Nat) (l : LxS) (i : Nat) (h : i < l.length) : txR q l i =
    if byN l i = q then some ([], 1)
    else if byN l i = 10 then none
    else if byN l i = 92 then (if (escW (l.drop (i + 1))).2 = 0 then none else (txR q l (i + 1 + (escW (l.drop (i + 1))).2)).map fun x => (UInt8.ofNat (escW (l.drop (i + 1))).1 :: x.1, 1 + (escW (l.drop (i + 1))).2 + x.2))
    else (txR q l (i + 1)).map fun x => (UInt8.ofNat (byN l i) :: x.1, 1 + x.2) := by
  have hd : l.drop i = l[i] :: l.drop (i + 1) := List.drop_eq_getElem_cons h
  have hb : byN l i = (l[i]).toNat := by
    unfold byN
    rw [List.getD, List.getElem?_eq_getElem h]
    rfl
  unfold txR
  obtain ⟨n, hn⟩ : ∃ n, l.length = n + 1 := ⟨l.length - 1, by omega⟩
  rw [hd, hn, refT, hb, UInt8.ofNat_toNat, ← hn, List.drop_drop]
  have e1 : ∀ k, refT q n (l.drop (i + 1 + k)) = refT q l.length (l.drop (i + 1 + k)) := fun k => refT_eqf q _ _ _ (by rw [List.length_drop]; omega) (by rw [List.length_drop]; omega)
  have e0 := e1 0
  rw [Nat.add_zero] at e0
  rw [e1, e0]
/-- the string that begins at p: what has been read so far, and what is left -/
def TxS (l : LxS) (p i : Nat) (acc : LxS) : Prop := txR (byN l p) l (p + 1) = (txR (byN l p) l i).map fun x => (acc ++ x.1, (i - (p + 1)) + x.2)
theorem TxS.start (l : LxS) (p : Nat) : TxS l p (p + 1) [] := by
  unfold TxS
  cases txR (byN l p) l (p + 1) with
  | none => rfl
  | some x => simp
theorem TxS.plain {l : LxS} {p i : Nat} {acc : LxS} (h : TxS l p i acc) (hi : i < l.length) (hp : p + 1 ≤ i) (h1 : ¬ byN l i = byN l p) (h2 : ¬ byN l i = 10) (h3 : ¬ byN l i = 92) : TxS l p (i + 1) (acc ++ [UInt8.ofNat (byN l i)]) := by
  unfold TxS at h ⊢
  rw [h, txR_step _ l i hi, if_neg h1, if_neg h2, if_neg h3, Option.map_map]
  congr 1
  funext x
  simp only [Function.comp, List.append_assoc, List.singleton_append, Prod.mk.injEq, true_and]
  omega
theorem TxS.esc {l : LxS} {p i : Nat} {acc : LxS} (h : TxS l p i acc) (hi : i < l.length) (hp : p + 1 ≤ i) (h1 : ¬ byN l i = byN l p) (h3 : byN l i = 92) (c k : Nat) (he : escW (l.drop (i + 1)) = (c, k)) (hk : k ≠ 0) : TxS l p (i + 1 + k) (acc ++ [UInt8.ofNat c]) := by
  unfold TxS at h ⊢
  rw [h, txR_step _ l i hi, if_neg h1, if_neg (by omega), if_pos h3, he, if_neg hk, Option.map_map]
  congr 1
  funext x
  simp only [Function.comp, List.append_assoc, List.singleton_append, Prod.mk.injEq, true_and]
  omega
/-- it is no string -/
theorem TxS.bad {l : LxS} {p i : Nat} {acc : LxS} (h : TxS l p i acc) (hn : txR (byN l p) l i = none) : txR (byN l p) l (p + 1) = none := by
  unfold TxS at h
  rw [h, hn]
  rfl
theorem TxS.out {l : LxS} {p i : Nat} {acc : LxS} (h : TxS l p i acc) (hi : l.length ≤ i) : txR (byN l p) l (p + 1) = none := h.bad (txR_out _ _ _ hi)
theorem TxS.line {l : LxS} {p i : Nat} {acc : LxS} (h : TxS l p i acc) (hi : i < l.length) (h1 : ¬ byN l i = byN l p) (h2 : byN l i = 10) : txR (byN l p) l (p + 1) = none := h.bad (by rw [txR_step _ l i hi, if_neg h1, if_pos h2])
theorem TxS.noesc {l : LxS} {p i : Nat} {acc : LxS} (h : TxS l p i acc) (hi : i < l.length) (h1 : ¬ byN l i = byN l p) (h3 : byN l i = 92) (he : (escW (l.drop (i + 1))).2 = 0) : txR (byN l p) l (p + 1) = none := h.bad (by rw [txR_step _ l i hi, if_neg h1, if_neg (by omega), if_pos h3, if_pos he])
theorem TxS.fin {l : LxS} {p i : Nat} {acc : LxS} (h : TxS l p i acc) (hi : i < l.length) (hp : p + 1 ≤ i) (h1 : byN l i = byN l p) : txR (byN l p) l (p + 1) = some (acc, i - p) := by
  unfold TxS at h
  rw [h, txR_step _ l i hi, if_pos h1]
  simp only [Option.map_some, List.append_nil, Option.some.injEq, Prod.mk.injEq, true_and]
  omega
theorem strW_tx (l : LxS) (p : Nat) (hp : p < l.length) (hq : byN l p = 34 ∨ byN l p = 39) : strW (l.drop p) = (txR (byN l p) l (p + 1)).bind fun x => if Lib.validD ((l.drop (p + 1)).take (x.2 - 1)) = true then some (x.1, 1 + x.2) else none := by
  have hb : byN (l.drop p) 0 = byN l p := by rw [byN_drop, Nat.add_zero]
  rw [strW_ref _ (by rw [hb]; exact hq)]
  unfold txW txR
  rw [hb, List.drop_drop, refT_eqf _ (l.drop (p + 1)) (l.drop p).length l.length (by rw [List.length_drop, List.length_drop]; omega) (by rw [List.length_drop]; omega)]
theorem strW_tx_none (l : LxS) (p : Nat) (hp : p < l.length) (hq : byN l p = 34 ∨ byN l p = 39) (h : txR (byN l p) l (p + 1) = none) : strW (l.drop p) = none := by
  rw [strW_tx l p hp hq, h]
  rfl
/-- the end: right where the bytes between the quotes are right, and then what it says is right too -/
theorem strW_tx_fin (l : LxS) (p i : Nat) (acc : LxS) (hp : p < l.length) (hpi : p + 1 ≤ i) (hq : byN l p = 34 ∨ byN l p = 39) (h : txR (byN l p) l (p + 1) = some (acc, i - p)) :
    strW (l.drop p) = (if Lib.validD ((l.drop p).take (i - p)) = true then some (acc, i + 1 - p) else none) ∧ (Lib.validD ((l.drop p).take (i - p)) = true → Lib.validD acc = true) := by
  have hd : l.drop p = l[p] :: l.drop (p + 1) := List.drop_eq_getElem_cons hp
  have hb : byN l p = (l[p]).toNat := by
    unfold byN
    rw [List.getD, List.getElem?_eq_getElem hp]
    rfl
  have e : Lib.validD ((l.drop p).take (i - p)) = Lib.validD ((l.drop (p + 1)).take (i - p - 1)) := by
    obtain ⟨m, hm⟩ : ∃ m, i - p = m + 1 := ⟨i - p - 1, by omega⟩
    rw [hd, hm, List.take_succ_cons, Lib.validD_cons _ _ (by omega)]
    rfl
  have hS := strW_tx l p hp hq
  rw [h] at hS
  have hS : strW (l.drop p) = if Lib.validD ((l.drop (p + 1)).take (i - p - 1)) = true then some (acc, 1 + (i - p)) else none := hS
  rw [← e, show 1 + (i - p) = i + 1 - p by omega] at hS
  refine ⟨hS, fun hv => ?_⟩
  rw [if_pos hv] at hS
  unfold strW at hS
  obtain ⟨z, hz, hz2⟩ := Option.map_eq_some_iff.1 hS
  have := strG_valid _ _ _ (by have := byN_lt (l.drop p) 0; omega) z hz
  have e2 : z.1 = acc := congrArg Prod.fst hz2
  rw [← e2]
  exact this
end Go.Proofs.YtifjdfmmafbhkaaGreatDoor
