/-
  A disk's calls, one by one, of whatever disk: Cut, Remove, Rename: the walks.
-/
import Derived.Test.YtgafmplmngbbfaaDiskQ2
namespace Go.Proofs.Ytgafmplmngbbfaa
open Go.RowKit Go.Maps Go.WideMaps

/-- what Cut answers, and the files behind it -/
def cutE (M : Fls) (l : Bs) (n : Int) : Nat := match M l with | some (c, _) => if 0 ≤ n ∧ n ≤ (c.length : Int) then 0 else 1 | none => findE M l
def cutM (M : Fls) (l : Bs) (n : Int) : Fls := match M l with | some (c, z) => if 0 ≤ n ∧ n ≤ (c.length : Int) then upd M l (some (c.take n.toNat, min z n.toNat)) else M | none => M

set_option maxHeartbeats 1600000 in
theorem cut_out (w : World) (gd gf : Nat) (s : ByteArray) (a : Option Addr) (L cap : Nat) (n : Int) (hn : n < 0 ∨ (L : Int) < n) (HF : Hid (Calls Try.prog 44 #[.pointer (some ⟨gd, 0, none⟩), .string s] w fun e w' => e = .returned (.tuple #[.pointer (some ⟨gf, 0, none⟩), .int .i64 0]) ∧ w' = w))
    (h0 : w.cell? ⟨gf, 0, none⟩ = some (.slice a L cap)) :
    Calls Try.prog 28 #[.pointer (some ⟨gd, 0, none⟩), .string s, .int .i64 n] w fun e w' => e = .returned (.int .i64 1) ∧ w' = w := by
  by_cases h : n < 0
  · clear hn
    go_enter Try.func28, Try.ntmps28
    go_wp2_with fail
    refine HF.out.mono ?_
    rintro e w1 ⟨rfl, hw1⟩
    rw [hw1]
    clear hw1 w1
    go_wp2
    go_ret
    exact ⟨rfl, rfl⟩
  · have h2 : (L : Int) < n := by omega
    clear hn
    go_enter Try.func28, Try.ntmps28
    go_wp2_with fail
    refine HF.out.mono ?_
    rintro e w1 ⟨rfl, hw1⟩
    rw [hw1]
    clear hw1 w1
    go_wp2
    go_ret
    exact ⟨rfl, rfl⟩

set_option maxHeartbeats 1600000 in
theorem cut_in (w : World) (gd gf : Nat) (s : ByteArray) (a : Option Addr) (L cap N : Nat) (hn : (N : Int) ≤ (L : Int)) (HF : Hid (Calls Try.prog 44 #[.pointer (some ⟨gd, 0, none⟩), .string s] w fun e w' => e = .returned (.tuple #[.pointer (some ⟨gf, 0, none⟩), .int .i64 0]) ∧ w' = w))
    (h0 : w.cell? ⟨gf, 0, none⟩ = some (.slice a L cap)) (Q : World → Prop) (HC : Hid (Calls Try.prog 51 #[.pointer (some ⟨gf, 0, none⟩), .int .i64 (N : Int)] w fun e w' => e = .returned (.tuple #[]) ∧ Q w')) :
    Calls Try.prog 28 #[.pointer (some ⟨gd, 0, none⟩), .string s, .int .i64 (N : Int)] w fun e w' => e = .returned (.int .i64 0) ∧ Q w' := by
  go_enter Try.func28, Try.ntmps28
  go_wp2_with fail
  refine HF.out.mono ?_
  rintro e w1 ⟨rfl, hw1⟩
  rw [hw1]
  clear hw1 w1
  go_wp2_with fail
  refine HC.out.mono ?_
  rintro e w2 ⟨rfl, hq⟩
  have HQ : Hid (Q w2) := hq
  clear hq
  go_wp2
  go_ret
  exact ⟨rfl, HQ.out⟩

/-- CUT -/
theorem cut_ok (w : World) (S : Nat → Prop) (gd N : Nat) (M : Fls) (l : Bs) (n : Int) (hl : l.length ≤ 9223372036854775807) (h : DiskOK w S gd M N) :
    Calls Try.prog 28 #[.pointer (some ⟨gd, 0, none⟩), .string (ByteArray.mk ⟨l⟩), .int .i64 n] w fun e w' =>
      e = .returned (.int .i64 (cutE M l n : Int)) ∧ Ch w w' S ∧ DiskOK w' (Gr S w w') gd (cutM M l n) N := by
  cases hm : M l with
  | none =>
    have hE : findE M l ≠ 0 := by
      rcases findE_cases M l with ⟨_, p, hp, _⟩ | h1 | h1
      · rw [hm] at hp; cases hp
      · omega
      · omega
    have e1 : cutE M l n = findE M l := by simp [cutE, hm]
    have e2 : cutM M l n = M := by simp [cutM, hm]
    rw [e1, e2]
    refine (cut_fails w gd _ n (findE M l) (E_ne hE) (find_fails w S gd N M l hl h hE)).mono ?_
    rintro e w' ⟨rfl, rfl⟩
    exact ⟨rfl, Ch.refl _ _, DiskOK.gr h⟩
  | some p =>
    obtain ⟨c, z⟩ := p
    have h0 := h
    obtain ⟨gm, D, gf, u, hd⟩ := h
    obtain ⟨a, cap, hu⟩ := (hd.own l c z hm).shape
    have hb := hd.file l c z hm
    have hcell : w.cell? ⟨gf l, 0, none⟩ = some (.slice a c.length cap) := by simp [World.cell?, hb, hu]
    by_cases hn : 0 ≤ n ∧ n ≤ (c.length : Int)
    · obtain ⟨K, rfl⟩ := Int.eq_ofNat_of_zero_le hn.1
      have e1 : cutE M l (K : Int) = 0 := by simp only [cutE, hm, if_pos hn]
      have e2 : cutM M l (K : Int) = upd M l (some (c.take K, min z K)) := by simp only [cutM, hm, if_pos hn, Int.toNat_natCast]
      rw [e1, e2]
      have hf := hd.fits l c z hm
      have hcut := cut_any w 0 (gf l) (u l) c z K hb (hd.own l c z hm) (by omega) (by omega) hf.2.2
      refine (cut_in w gd (gf l) _ a c.length cap K hn.2 (hd.find hm hl) hcell (fun w' => Ch w w' S ∧ DiskOK w' (Gr S w w') gd (upd M l (some (c.take K, min z K))) N) (hcut.mono ?_)).mono ?_
      · rintro e w' ⟨u', rfl, hf', ho', hob, hg⟩
        have hch : Ch w w' (fun k => k = gf l) := Ch.of_gb hg (fun k hk _ => by cases hk; rfl)
        refine ⟨rfl, hch.mono (fun k _ e => by rw [e]; exact (hd.inF l c z hm).1), _, _, _, _, hd.turn l (c.take K) c (min z K) z u' hm hch (fun k _ e => .inl e) hf' (ho'.mono (Nat.zero_le _)) ?_ (fun k hk => by rw [hob] at hk; cases hk; exact .inr (Nat.le_refl _))⟩
        rw [List.length_take]
        omega
      · rintro e w' ⟨rfl, hq⟩
        exact ⟨rfl, hq⟩
    · have e1 : cutE M l n = 1 := by simp only [cutE, hm, if_neg hn]
      have e2 : cutM M l n = M := by simp only [cutM, hm, if_neg hn]
      rw [e1, e2]
      refine (cut_out w gd (gf l) _ a c.length cap n (by omega) (hd.find hm hl) hcell).mono ?_
      rintro e w' ⟨rfl, rfl⟩
      exact ⟨rfl, Ch.refl _ _, DiskOK.gr h0⟩

set_option maxHeartbeats 1600000 in
theorem remove_there (w : World) (gd gf gm n : Nat) (l : Bs) (D : DataW Unit) (hl : l.length ≤ 9223372036854775807) (HF : Hid (Calls Try.prog 44 #[.pointer (some ⟨gd, 0, none⟩), .string (ByteArray.mk ⟨l⟩)] w fun e w' => e = .returned (.tuple #[.pointer (some ⟨gf, 0, none⟩), .int .i64 0]) ∧ w' = w))
    (h0 : w.cell? ⟨gd, 0, none⟩ = some (.map (some gm))) (hown : w.ownsMap Try.prog 9 ptrElem gm n D) :
    Calls Try.prog 30 #[.pointer (some ⟨gd, 0, none⟩), .string (ByteArray.mk ⟨l⟩)] w fun e w' => e = .returned (.int .i64 0) ∧ w'.ownsMap Try.prog 9 ptrElem gm n (D.del (.string l)) ∧ w.grownBy w' (some gm) := by
  have HK : Hid (keyOf Try.prog 9 (.string (ByteArray.mk ⟨l⟩)) = some (.string l)) := keyS l (by unfold maxLen; omega)
  have HO : Hid (w.ownsMap Try.prog 9 ptrElem gm n D) := hown
  clear hown hl
  generalize ByteArray.mk ⟨l⟩ = s at *
  go_enter Try.func30, Try.ntmps30
  go_wp2_with fail
  refine HF.out.mono ?_
  rintro e w1 ⟨rfl, hw1⟩
  rw [hw1]
  clear hw1 w1
  go_wp2_with (first
    | (at_delete; refine wpList_delete_own _ rfl _ _ 64 9 rfl 67 lawS Try.underlying64 _ gm n D rfl HO.out _ _ rfl HK.out ?_; intro w2 ho2 ht2)
    | go_in)
  have H2 : Hid (w2.ownsMap Try.prog 9 ptrElem gm n (D.del (.string l)) ∧ w.grownBy w2 (some gm)) := ⟨ho2, ht2.grown⟩
  clear ho2 ht2
  go_wp2
  go_ret
  exact ⟨rfl, H2.out⟩

/-- REMOVE -/
theorem remove_ok (w : World) (S : Nat → Prop) (gd N : Nat) (M : Fls) (l : Bs) (hl : l.length ≤ 9223372036854775807) (h : DiskOK w S gd M N) :
    Calls Try.prog 30 #[.pointer (some ⟨gd, 0, none⟩), .string (ByteArray.mk ⟨l⟩)] w fun e w' =>
      e = .returned (.int .i64 (findE M l : Int)) ∧ Ch w w' S ∧ DiskOK w' (Gr S w w') gd (upd M l none) (if (M l).isSome then N - 1 else N) := by
  cases hm : M l with
  | none =>
    have hE : findE M l ≠ 0 := by
      rcases findE_cases M l with ⟨_, p, hp, _⟩ | h1 | h1
      · rw [hm] at hp; cases hp
      · omega
      · omega
    have e2 : upd M l none = M := by
      funext k
      by_cases e : k = l
      · subst e; rw [upd_same, hm]
      · rw [upd_other _ _ e]
    rw [e2]
    refine (remove_fails w gd _ (findE M l) (E_ne hE) (find_fails w S gd N M l hl h hE)).mono ?_
    rintro e w' ⟨rfl, rfl⟩
    exact ⟨rfl, Ch.refl _ _, DiskOK.gr h⟩
  | some p =>
    obtain ⟨c, z⟩ := p
    obtain ⟨gm, D, gf, u, hd⟩ := h
    rw [findE_some (hd.fits l c z hm).1 hm]
    refine (remove_there w gd (gf l) gm N l D hl (hd.find hm hl) hd.cell hd.map).mono ?_
    rintro e w' ⟨rfl, ho, hg⟩
    have hch : Ch w w' (fun k => k = gm) := Ch.of_gb hg (fun k hk _ => by cases hk; rfl)
    exact ⟨rfl, hch.mono (fun k _ e => by rw [e]; exact hd.inM), DiskOK.gr ⟨gm, _, gf, u, hd.del l c z N hm ho hch⟩⟩
end Go.Proofs.Ytgafmplmngbbfaa
