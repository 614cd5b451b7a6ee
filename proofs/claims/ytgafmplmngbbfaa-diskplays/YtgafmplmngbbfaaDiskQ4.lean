/-
  A disk's calls, one by one, of whatever disk: Rename: the walk.
-/
import Derived.Test.YtgafmplmngbbfaaDiskQ3
namespace Go.Proofs.Ytgafmplmngbbfaa
open Go.RowKit Go.Maps Go.WideMaps

/-- what Rename answers, and the files behind it -/
def renameE (M : Fls) (l t : Bs) : Nat := if nameOk l = true then (if nameOk t = true then (if (M l).isSome then 0 else 5) else 40) else 40
def renameM (M : Fls) (l t : Bs) : Fls := if renameE M l t = 0 then upd (upd M l none) t (M l) else M
def renameN (M : Fls) (l t : Bs) (N : Nat) : Nat := if renameE M l t = 0 then N - 1 + (if (upd M l none t).isSome then 0 else 1) else N

set_option maxHeartbeats 1600000 in
theorem rename_bad (w : World) (gd : Nat) (s t : ByteArray) (HF : Hid (Calls Try.prog 44 #[.pointer (some ⟨gd, 0, none⟩), .string s] w fun e w' => e = .returned (.tuple #[.pointer none, .int .i64 40]) ∧ w' = w)) :
    Calls Try.prog 29 #[.pointer (some ⟨gd, 0, none⟩), .string s, .string t] w fun e w' => e = .returned (.int .i64 40) ∧ w' = w := by
  go_enter Try.func29, Try.ntmps29
  go_wp2_with fail
  refine HF.out.mono ?_
  rintro e w1 ⟨rfl, hw1⟩
  rw [hw1]
  clear hw1 w1
  go_wp2
  go_ret
  exact ⟨rfl, rfl⟩
set_option maxHeartbeats 1600000 in
theorem rename_to (w : World) (gd : Nat) (p : Value) (E : Int) (s t : ByteArray) (hE : E = 0 ∨ E = 5) (HF : Hid (Calls Try.prog 44 #[.pointer (some ⟨gd, 0, none⟩), .string s] w fun e w' => e = .returned (.tuple #[p, .int .i64 E]) ∧ w' = w))
    (HN : Hid (Calls Try.prog 52 #[.string t] w fun e w' => e = .returned (.bool false) ∧ w' = w)) :
    Calls Try.prog 29 #[.pointer (some ⟨gd, 0, none⟩), .string s, .string t] w fun e w' => e = .returned (.int .i64 40) ∧ w' = w := by
  rcases hE with rfl | rfl
  all_goals
    go_enter Try.func29, Try.ntmps29
    go_wp2_with fail
    refine HF.out.mono ?_
    rintro e w1 ⟨rfl, hw1⟩
    rw [hw1]
    clear hw1 w1
    go_wp2_with fail
    refine HN.out.mono ?_
    rintro e w1 ⟨rfl, hw1⟩
    rw [hw1]
    clear hw1 w1
    go_wp2
    go_ret
    exact ⟨rfl, rfl⟩
set_option maxHeartbeats 1600000 in
theorem rename_none (w : World) (gd : Nat) (s t : ByteArray) (HF : Hid (Calls Try.prog 44 #[.pointer (some ⟨gd, 0, none⟩), .string s] w fun e w' => e = .returned (.tuple #[.pointer none, .int .i64 5]) ∧ w' = w))
    (HN : Hid (Calls Try.prog 52 #[.string t] w fun e w' => e = .returned (.bool true) ∧ w' = w)) :
    Calls Try.prog 29 #[.pointer (some ⟨gd, 0, none⟩), .string s, .string t] w fun e w' => e = .returned (.int .i64 5) ∧ w' = w := by
  go_enter Try.func29, Try.ntmps29
  go_wp2_with fail
  refine HF.out.mono ?_
  rintro e w1 ⟨rfl, hw1⟩
  rw [hw1]
  clear hw1 w1
  go_wp2_with fail
  refine HN.out.mono ?_
  rintro e w1 ⟨rfl, hw1⟩
  rw [hw1]
  clear hw1 w1
  go_wp2
  go_ret
  exact ⟨rfl, rfl⟩
set_option maxHeartbeats 1600000 in
theorem rename_there (w : World) (gd gf gm n : Nat) (l t : Bs) (D : DataW Unit) (hl : l.length ≤ 9223372036854775807) (ht : t.length ≤ 9223372036854775807) (hn : n < 1099511627776) (hok : nameOk t = true)
    (HF : Hid (Calls Try.prog 44 #[.pointer (some ⟨gd, 0, none⟩), .string (ByteArray.mk ⟨l⟩)] w fun e w' => e = .returned (.tuple #[.pointer (some ⟨gf, 0, none⟩), .int .i64 0]) ∧ w' = w))
    (h0 : w.cell? ⟨gd, 0, none⟩ = some (.map (some gm))) (hown : w.ownsMap Try.prog 9 ptrElem gm n D) (hne : gd ≠ gm) :
    Calls Try.prog 29 #[.pointer (some ⟨gd, 0, none⟩), .string (ByteArray.mk ⟨l⟩), .string (ByteArray.mk ⟨t⟩)] w fun e w' => e = .returned (.int .i64 0) ∧ w'.ownsMap Try.prog 9 ptrElem gm (n + 1) ((D.del (.string l)).put (.string t) (.lit (.int .i64 (gf : Int)))) ∧ w.grownBy w' (some gm) ∧
      ∃ w1, w1.ownsMap Try.prog 9 ptrElem gm n (D.del (.string l)) ∧ w.grownBy w1 (some gm) ∧ w1.grownBy w' (some gm) := by
  have HN1 := isName_any t w ht
  rw [hok] at HN1
  have HN : Hid (Calls Try.prog 52 #[.string (ByteArray.mk ⟨t⟩)] w fun e w' => e = .returned (.bool true) ∧ w' = w) := HN1
  have HK : Hid (keyOf Try.prog 9 (.string (ByteArray.mk ⟨l⟩)) = some (.string l)) := keyS l (by unfold maxLen; omega)
  have HO : Hid (w.ownsMap Try.prog 9 ptrElem gm n D ∧ gd < w.heap.size ∧ gd ≠ gm ∧ w.cell? ⟨gd, 0, none⟩ = some (.map (some gm))) := ⟨hown, block_lt h0, hne, h0⟩
  have HP : Hid (∀ w1 (h1 : w1.cell? ⟨gd, 0, none⟩ = some (.map (some gm))) (h2 : w1.ownsMap Try.prog 9 ptrElem gm n (D.del (.string l))), Calls Try.prog 45 #[.pointer (some ⟨gd, 0, none⟩), .string (ByteArray.mk ⟨t⟩), .pointer (some ⟨gf, 0, none⟩)] w1 fun e w' => e = .returned (.tuple #[]) ∧ w'.ownsMap Try.prog 9 ptrElem gm (n + 1) ((D.del (.string l)).put (.string t) (.lit (.int .i64 (gf : Int)))) ∧ w1.grownBy w' (some gm)) :=
    fun w1 h1 h2 => put_any gd gm n gf (D.del (.string l)) t w1 ht (by unfold maxLen; omega) h1 h2
  clear hown hl ht hok HN1 hne hn
  generalize ByteArray.mk ⟨l⟩ = s at *
  generalize ByteArray.mk ⟨t⟩ = s2 at *
  go_enter Try.func29, Try.ntmps29
  go_wp2_with fail
  refine HF.out.mono ?_
  rintro e w1 ⟨rfl, hw1⟩
  rw [hw1]
  clear hw1 w1
  go_wp2_with fail
  refine HN.out.mono ?_
  rintro e w1 ⟨rfl, hw1⟩
  rw [hw1]
  clear hw1 w1
  go_wp2_with (first
    | (at_delete; refine wpList_delete_own _ rfl _ _ 64 9 rfl 67 lawS Try.underlying64 _ gm n D rfl HO.out.1 _ _ rfl HK.out ?_; intro w2 ho2 ht2)
    | fail)
  have H2 : Hid (w2.ownsMap Try.prog 9 ptrElem gm n (D.del (.string l)) ∧ w.grownBy w2 (some gm)) := ⟨ho2, ht2.grown⟩
  have hc2 : w2.cell? ⟨gd, 0, none⟩ = some (.map (some gm)) := by
    rw [← HO.out.2.2.2]
    exact World.cell?_of_block (H2.out.2.block gd HO.out.2.1 (fun e => HO.out.2.2.1 (Option.some.inj e)))
  clear ho2 ht2
  go_wp2_with fail
  refine (HP.out w2 hc2 H2.out.1).mono ?_
  rintro e w3 ⟨rfl, ho3, hg3⟩
  have H3 : Hid (w3.ownsMap Try.prog 9 ptrElem gm (n + 1) ((D.del (.string l)).put (.string t) (.lit (.int .i64 (gf : Int)))) ∧ w.grownBy w3 (some gm) ∧ ∃ w1, w1.ownsMap Try.prog 9 ptrElem gm n (D.del (.string l)) ∧ w.grownBy w1 (some gm) ∧ w1.grownBy w3 (some gm)) :=
    ⟨ho3, gb_trans H2.out.2 hg3 (fun k hk _ => hk.symm), w2, H2.out.1, H2.out.2, hg3⟩
  clear ho3 hg3 H2
  go_wp2
  go_ret
  exact ⟨rfl, H3.out⟩

/-- RENAME -/
theorem rename_ok (w : World) (S : Nat → Prop) (gd N : Nat) (M : Fls) (l t : Bs) (hl : l.length ≤ 9223372036854775807) (ht : t.length ≤ 9223372036854775807) (h : DiskOK w S gd M N) :
    Calls Try.prog 29 #[.pointer (some ⟨gd, 0, none⟩), .string (ByteArray.mk ⟨l⟩), .string (ByteArray.mk ⟨t⟩)] w fun e w' =>
      e = .returned (.int .i64 (renameE M l t : Int)) ∧ Ch w w' S ∧ DiskOK w' (Gr S w w') gd (renameM M l t) (renameN M l t N) := by
  have stay : ∀ E : Nat, renameE M l t = E → E ≠ 0 → (∀ e w', e = Ending.returned (.int .i64 (E : Int)) ∧ w' = w → e = .returned (.int .i64 (renameE M l t : Int)) ∧ Ch w w' S ∧ DiskOK w' (Gr S w w') gd (renameM M l t) (renameN M l t N)) := by
    rintro E hE h0 e w' ⟨rfl, rfl⟩
    have e1 : renameM M l t = M := if_neg (by rw [hE]; exact h0)
    have e2 : renameN M l t N = N := if_neg (by rw [hE]; exact h0)
    rw [e1, e2, hE]
    exact ⟨rfl, Ch.refl _ _, DiskOK.gr h⟩
  by_cases hok : nameOk l = true
  · have h0 := h
    obtain ⟨gm, D, gf, u, hd⟩ := h
    by_cases hot : nameOk t = true
    · have HN1 := isName_any t w ht
      rw [hot] at HN1
      cases hm : M l with
      | none =>
        have hE : renameE M l t = 5 := by simp [renameE, hok, hot, hm]
        obtain ⟨n1, n2⟩ := hd.has_not hm
        exact (rename_none w gd _ _ (find_none gd gm N D l w hl hok hd.cell hd.map n1 n2) HN1).mono (stay 5 hE (by omega))
      | some p =>
        obtain ⟨c, z⟩ := p
        have hE : renameE M l t = 0 := by simp [renameE, hok, hot, hm]
        have e1 : renameM M l t = upd (upd M l none) t (some (c, z)) := by rw [renameM, if_pos hE, hm]
        have e2 : renameN M l t N = N - 1 + (if (upd M l none t).isSome then 0 else 1) := if_pos hE
        rw [hE, e1, e2]
        refine (rename_there w gd (gf l) gm N l t D hl ht (by have := hd.most; omega) hot (hd.find hm hl) hd.cell hd.map hd.ne_dm).mono ?_
        rintro e w' ⟨rfl, ho, hg, w1, ho1, hg1, hg2⟩
        have hch : Ch w w' (fun k => k = gm) := Ch.of_gb hg (fun k hk _ => by cases hk; rfl)
        have hch1 : Ch w w1 (fun k => k = gm) := Ch.of_gb hg1 (fun k hk _ => by cases hk; rfl)
        have hch2 : Ch w1 w' (fun k => k = gm) := Ch.of_gb hg2 (fun k hk _ => by cases hk; rfl)
        have hd1 := hd.del l c z N hm ho1 hch1
        have hf := hd.file l c z hm
        have hpos : 1 ≤ N := by
          have h1 := size_del (k := .string l) (hd.map.tidy lawS)
          rw [hd.has, hd.size, hm] at h1
          simp at h1
          omega
        have key : ∀ {l' : Bs} {c' : Bs} {z' : Nat}, upd M l none l' = some (c', z') → l' ≠ l ∧ M l' = some (c', z') := by
          intro l' c' z' hl'
          by_cases e : l' = l
          · subst e; rw [upd_same] at hl'; cases hl'
          · rw [upd_other _ _ e] at hl'; exact ⟨e, hl'⟩
        have hp := hd1.put (w' := w') (T := fun k => k = gm) t c z (gf l) (N + 1) (u l) ho (by have := hd.most; split <;> omega) hch2 (fun e => hd.ne_dm e)
          (fun l' c' z' _ hm' => ⟨fun e => hd.ne_mf (key hm').2 e.symm, fun k hk e => (hd.ne_u (key hm').2).2.1 (by rw [hk, e])⟩)
          (by rw [hch.block (some_lt hf) (fun e => hd.ne_mf hm e.symm)]; exact hf) ((hd.own l c z hm).via (fun k hk => hch.block ((hd.own l c z hm).lt k hk).2 (fun e => (hd.ne_u hm).2.1 (by rw [hk, e]))))
          ⟨hot, (hd.fits l c z hm).2⟩ (.inl (hd.inF l c z hm).1)
          (fun l' c' z' _ hm' => (hd.apart l' l (by simp [(key hm').2]) (by simp [hm]) (key hm').1).1)
          (fun k hk => .inl ((hd.inF l c z hm).2 k hk))
          (fun l' c' z' _ hm' k hk hk' => (hd.apart l' l (by simp [(key hm').2]) (by simp [hm]) (key hm').1).2 k hk' hk)
        refine ⟨rfl, hch.mono (fun k _ e => by rw [e]; exact hd.inM), _, _, _, _, hp.mono (fun k _ hk => ?_)⟩
        rcases hk with hk | ⟨hk1, hk2⟩
        · exact .inl hk
        · exact .inr ⟨by have := hg1.size; omega, hk2⟩
    · have hot' : nameOk t = false := by simpa using hot
      have hE : renameE M l t = 40 := by simp [renameE, hok, hot']
      have HN1 := isName_any t w ht
      rw [hot'] at HN1
      cases hm : M l with
      | none =>
        obtain ⟨n1, n2⟩ := hd.has_not hm
        exact (rename_to w gd _ 5 _ _ (.inr rfl) (find_none gd gm N D l w hl hok hd.cell hd.map n1 n2) HN1).mono (stay 40 hE (by omega))
      | some p =>
        obtain ⟨c, z⟩ := p
        exact (rename_to w gd _ 0 _ _ (.inl rfl) (hd.find hm hl) HN1).mono (stay 40 hE (by omega))
  · have hok' : nameOk l = false := by simpa using hok
    have hE : renameE M l t = 40 := by simp [renameE, hok']
    exact (rename_bad w gd _ _ (find_bad gd l w hl hok')).mono (stay 40 hE (by omega))
end Go.Proofs.Ytgafmplmngbbfaa
