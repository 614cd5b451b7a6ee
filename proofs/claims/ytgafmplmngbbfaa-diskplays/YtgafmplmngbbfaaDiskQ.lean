/-
  A disk's calls, one by one, of whatever disk: New, Append, Sync, Read: the walks.
-/
import Derived.Test.YtgafmplmngbbfaaDiskS
namespace Go.Proofs.Ytgafmplmngbbfaa
open Go.RowKit Go.Maps Go.WideMaps

theorem Gr.mk {S : Nat → Prop} {w w' : World} {k : Nat} (h : S k) : Gr S w w' k := .inl h
set_option maxHeartbeats 1600000 in
theorem new_ok (w : World) : Calls Try.prog 9 #[] w fun e w' => ∃ gd, e = .returned (.pointer (some ⟨gd, 0, none⟩)) ∧ DiskOK w' (fun k => w.heap.size ≤ k ∧ k < w'.heap.size) gd (fun _ => none) 0 ∧ w.grownBy w' none := by
  have hmm := @run_makeMap Try.prog
  go_enter Try.func9, Try.ntmps9
  go_wp2
  go_ret
  refine ⟨w.heap.size + 1, rfl, ⟨w.heap.size, .map [], fun _ => 0, fun _ => .slice none 0 0, ?_, (World.ownsMap_made _ _ _ _).alloc _, rfl, by omega, by simp, by (simp; omega), fun l => rfl, ?_, ?_, ?_, ?_, ?_, ?_⟩, gb_none (World.grownBy_alloc _ _ none) (World.grownBy_alloc _ _ none)⟩
  · have := alloc_at (w.alloc (.map #[] 0)) (.cells #[.map (some w.heap.size)] 66)
    simpa using this
  all_goals (intros; simp at *)

/-- what Append answers -/
def appendE (M : Fls) (N : Nat) (l b : Bs) : Nat :=
  if nameOk l = true then
    match M l with
    | none => if 256 ≤ N then 8 else if 1048576 < b.length then 4 else 0
    | some (c, _) => if 1048576 < c.length + b.length then 4 else 0
  else 40
/-- the file behind it -/
def appendF (M : Fls) (l b : Bs) : Bs × Nat :=
  match M l with
  | none => (b, 0)
  | some (c, z) => (c ++ b, z)

set_option maxHeartbeats 1600000 in
theorem append_bad (gd : Nat) (l : Bs) (v : Value) (w : World) (hl : l.length ≤ 9223372036854775807) (hok : nameOk l = false) :
    Calls Try.prog 17 #[.pointer (some ⟨gd, 0, none⟩), .string (ByteArray.mk ⟨l⟩), v] w fun e w' => e = .returned (.int .i64 40) ∧ w' = w := by
  have HF : Hid (Calls Try.prog 44 #[.pointer (some ⟨gd, 0, none⟩), .string (ByteArray.mk ⟨l⟩)] w fun e w' => e = .returned (.tuple #[.pointer none, .int .i64 40]) ∧ w' = w) := find_bad gd l w hl hok
  clear hl hok
  generalize ByteArray.mk ⟨l⟩ = s at *
  go_enter Try.func17, Try.ntmps17
  go_wp2_with fail
  refine HF.out.mono ?_
  rintro e w1 ⟨rfl, hw1⟩
  rw [hw1]
  clear hw1 w1
  go_wp2
  go_ret
  exact ⟨rfl, rfl⟩

set_option maxHeartbeats 1600000 in
theorem append_full (gd gm n : Nat) (D : DataW Unit) (l : Bs) (v : Value) (w : World) (hl : l.length ≤ 9223372036854775807) (hok : nameOk l = true) (hc : w.cell? ⟨gd, 0, none⟩ = some (.map (some gm)))
    (hown : w.ownsMap Try.prog 9 ptrElem gm n D) (hhas : Maps.has D (.string l) = false) (hat : D.atKey (.string l) (.lit (.int .i64 (-1))) = .lit (.int .i64 (-1))) (hsz : ¬ (Maps.size D : Int) < 256) :
    Calls Try.prog 17 #[.pointer (some ⟨gd, 0, none⟩), .string (ByteArray.mk ⟨l⟩), v] w fun e w' => e = .returned (.int .i64 8) ∧ w' = w := by
  have HF : Hid (Calls Try.prog 44 #[.pointer (some ⟨gd, 0, none⟩), .string (ByteArray.mk ⟨l⟩)] w fun e w' => e = .returned (.tuple #[.pointer none, .int .i64 5]) ∧ w' = w) := find_none gd gm n D l w hl hok hc hown hhas hat
  have hlen := fun ty => hown.len Try.underlying64 ty
  clear hown hhas hat hok hl
  generalize ByteArray.mk ⟨l⟩ = s at *
  generalize hS : Maps.size D = Z at *
  clear hS
  go_enter Try.func17, Try.ntmps17
  go_wp2_with fail
  refine HF.out.mono ?_
  rintro e w1 ⟨rfl, hw1⟩
  rw [hw1]
  clear hw1 w1
  go_wp2
  go_ret
  exact ⟨rfl, rfl⟩

set_option maxRecDepth 8000 in
set_option maxHeartbeats 1600000 in
theorem append_long (gd gm n : Nat) (D : DataW Unit) (l b : Bs) (v : Value) (w : World) (hl : l.length ≤ 9223372036854775807) (hok : nameOk l = true) (hc : w.cell? ⟨gd, 0, none⟩ = some (.map (some gm)))
    (hown : w.ownsMap Try.prog 9 ptrElem gm n D) (hhas : Maps.has D (.string l) = false) (hat : D.atKey (.string l) (.lit (.int .i64 (-1))) = .lit (.int .i64 (-1))) (hsz : (Maps.size D : Int) < 256) (hv : Rd w v b) (hb : 1048576 < b.length) :
    Calls Try.prog 17 #[.pointer (some ⟨gd, 0, none⟩), .string (ByteArray.mk ⟨l⟩), v] w fun e w' => e = .returned (.int .i64 4) ∧ w.grownBy w' none := by
  have HF : Hid (Calls Try.prog 44 #[.pointer (some ⟨gd, 0, none⟩), .string (ByteArray.mk ⟨l⟩)] w fun e w' => e = .returned (.tuple #[.pointer none, .int .i64 5]) ∧ w' = w) := find_none gd gm n D l w hl hok hc hown hhas hat
  have hlen := fun ty => hown.len Try.underlying64 ty
  obtain ⟨a, c, rfl, hbc, hcm, -, -⟩ := hv
  unfold maxLen at hcm
  have hb2 : (1048576 : Int) < (b.length : Int) := by omega
  have hb3 : (b.length : Int) ≤ 9223372036854775807 := by omega
  clear hown hhas hat hok hl hbc hcm hb
  generalize ByteArray.mk ⟨l⟩ = s at *
  generalize hS : Maps.size D = Z at *
  generalize b.length = L at *
  clear hS
  go_enter Try.func17, Try.ntmps17
  go_wp2_with fail
  refine HF.out.mono ?_
  rintro e w1 ⟨rfl, hw1⟩
  rw [hw1]
  clear hw1 w1
  go_wp2
  go_ret
  exact ⟨rfl, World.grownBy_alloc _ _ none⟩

set_option maxHeartbeats 1600000 in
theorem append_more (gd gm n gf : Nat) (D : DataW Unit) (l b c : Bs) (u v : Value) (w : World) (hl : l.length ≤ 9223372036854775807) (hok : nameOk l = true) (hc : w.cell? ⟨gd, 0, none⟩ = some (.map (some gm)))
    (hown : w.ownsMap Try.prog 9 ptrElem gm n D) (hhas : Maps.has D (.string l) = true) (hat : D.atKey (.string l) (.lit (.int .i64 (-1))) = .lit (.int .i64 (gf : Int)))
    (h0 : w.cell? ⟨gf, 0, none⟩ = some u) (ho : Own w 0 u c) (hv : Rd w v b) (hb : 1048576 < c.length + b.length) (hcl : c.length ≤ 1048576) :
    Calls Try.prog 17 #[.pointer (some ⟨gd, 0, none⟩), .string (ByteArray.mk ⟨l⟩), v] w fun e w' => e = .returned (.int .i64 4) ∧ w' = w := by
  have HF : Hid (Calls Try.prog 44 #[.pointer (some ⟨gd, 0, none⟩), .string (ByteArray.mk ⟨l⟩)] w fun e w' => e = .returned (.tuple #[.pointer (some ⟨gf, 0, none⟩), .int .i64 0]) ∧ w' = w) := find_there gd gm n gf D l w hl hok hc hown hhas hat
  obtain ⟨a, cc, rfl, hbc, hcm, -, -⟩ := hv
  obtain ⟨a1, c1, rfl⟩ := ho.shape
  unfold maxLen at hcm
  have hb2 : (1048576 : Int) - (c.length : Int) < (b.length : Int) := by omega
  have hb3 : (b.length : Int) ≤ 9223372036854775807 := by omega
  have hb4 : (c.length : Int) ≤ 1048576 := by omega
  clear hown hhas hat hok hl hbc hcm hb hcl ho
  generalize ByteArray.mk ⟨l⟩ = s at *
  generalize b.length = L at *
  generalize c.length = L1 at *
  go_enter Try.func17, Try.ntmps17
  go_wp2_with fail
  refine HF.out.mono ?_
  rintro e w1 ⟨rfl, hw1⟩
  rw [hw1]
  clear hw1 w1
  go_wp2
  go_ret
  exact ⟨rfl, rfl⟩

theorem DiskW.cell {w : World} {S : Nat → Prop} {gd N gm : Nat} {M : Fls} {D : DataW Unit} {gf : Bs → Nat} {u : Bs → Value} (h : DiskW w S gd M N gm D gf u) : w.cell? ⟨gd, 0, none⟩ = some (.map (some gm)) := by
  simp [World.cell?, h.box]
theorem DiskW.has_not {w : World} {S : Nat → Prop} {gd N gm : Nat} {M : Fls} {D : DataW Unit} {gf : Bs → Nat} {u : Bs → Value} (h : DiskW w S gd M N gm D gf u) {l : Bs} (hl : M l = none) : Maps.has D (.string l) = false ∧ D.atKey (.string l) (.lit (.int .i64 (-1))) = .lit (.int .i64 (-1)) := by
  have : Maps.has D (.string l) = false := by rw [h.has, hl]; rfl
  exact ⟨this, atKey_of_not_has this _⟩
theorem DiskW.has_yes {w : World} {S : Nat → Prop} {gd N gm : Nat} {M : Fls} {D : DataW Unit} {gf : Bs → Nat} {u : Bs → Value} (h : DiskW w S gd M N gm D gf u) {l c : Bs} {z : Nat} (hl : M l = some (c, z)) : Maps.has D (.string l) = true := by
  rw [h.has, hl]; rfl
theorem DiskOK.gr {w w' : World} {S : Nat → Prop} {gd N : Nat} {M : Fls} (h : DiskOK w' S gd M N) : DiskOK w' (Gr S w w') gd M N := h.mono (fun _ _ => Or.inl)

/-- APPEND, of whatever disk -/
theorem append_ok (w : World) (S : Nat → Prop) (gd N : Nat) (M : Fls) (l b : Bs) (v : Value) (hl : l.length ≤ 9223372036854775807) (h : DiskOK w S gd M N) (hv : Rd w v b) :
    Calls Try.prog 17 #[.pointer (some ⟨gd, 0, none⟩), .string (ByteArray.mk ⟨l⟩), v] w fun e w' =>
      e = .returned (.int .i64 (appendE M N l b : Int)) ∧ Ch w w' S ∧ DiskOK w' (Gr S w w') gd (if appendE M N l b = 0 then upd M l (some (appendF M l b)) else M) (if appendE M N l b = 0 ∧ (M l).isSome = false then N + 1 else N) := by
  by_cases hok : nameOk l = true
  · obtain ⟨gm, D, gf, u, hd⟩ := h
    cases hm : M l with
    | none =>
      obtain ⟨hn1, hn2⟩ := hd.has_not hm
      by_cases hN : 256 ≤ N
      · have hE : appendE M N l b = 8 := by simp [appendE, hok, hm, hN]
        rw [hE]
        refine (append_full gd gm N D l v w hl hok hd.cell hd.map hn1 hn2 (by rw [hd.size]; omega)).mono ?_
        rintro e w' ⟨rfl, rfl⟩
        exact ⟨rfl, Ch.refl _ _, DiskOK.gr (by simpa using ⟨gm, D, gf, u, hd⟩)⟩
      · by_cases hb : 1048576 < b.length
        · have hE : appendE M N l b = 4 := by simp [appendE, hok, hm, hN, hb]
          rw [hE]
          refine (append_long gd gm N D l b v w hl hok hd.cell hd.map hn1 hn2 (by rw [hd.size]; omega) hv hb).mono ?_
          rintro e w' ⟨rfl, hg⟩
          exact ⟨rfl, Ch.of_gb hg (fun k hk => by cases hk), DiskOK.gr (DiskOK.keep (by simpa using ⟨gm, D, gf, u, hd⟩) hg)⟩
        · have hE : appendE M N l b = 0 := by simp [appendE, hok, hm, hN, hb]
          have hF : appendF M l b = (b, 0) := by simp [appendF, hm]
          rw [hE, hF]
          refine (append_newB gd gm N D l b v w hl hok hd.cell hd.map (by omega) hn1 hn2 (by rw [hd.size]; omega) hv (by omega)).mono ?_
          rintro e w' ⟨u', rfl, hfile, ho, hmp, hg⟩
          have hch : Ch w w' (fun k => k = gm) := Ch.of_gb hg (fun k hk _ => by cases hk; rfl)
          refine ⟨rfl, hch.mono (fun k _ e => by rw [e]; exact hd.inM), ?_⟩
          have := hd.put (w' := w') (T := fun k => k = gm) l b 0 w.heap.size (N + 1) u' hmp (by rw [hm]; simp; omega) hch (fun e => hd.ne_dm e)
            (fun l' c' z' _ hm' => ⟨fun e => hd.ne_mf hm' e.symm, fun k hk e => (hd.ne_u hm').2.1 (by rw [hk, e])⟩) (by simpa using hfile) (ho.mono (Nat.zero_le _)) ⟨hok, Nat.zero_le _, by omega⟩ (.inr (Nat.le_refl _))
            (fun l' c' z' _ hm' e => by have := some_lt (hd.file l' c' z' hm'); omega) (fun k hk => .inr (ho.lt k hk).1)
            (fun l' c' z' _ hm' k hk hk' => by have := (ho.lt k hk).1; have := ((hd.own l' c' z' hm').lt k hk').2; omega)
          rw [hm] at this
          simp only [Option.isSome_none, Bool.false_eq_true, if_false] at this
          simpa using ⟨_, _, _, _, this⟩
    | some p =>
      obtain ⟨c, z⟩ := p
      have hfit := hd.fits l c z hm
      by_cases hb : 1048576 < c.length + b.length
      · have hE : appendE M N l b = 4 := by simp [appendE, hok, hm, hb]
        rw [hE]
        refine (append_more gd gm N (gf l) D l b c (u l) v w hl hok hd.cell hd.map (hd.has_yes hm) (hd.at' l c z hm) (by simp [World.cell?, hd.file l c z hm]) (hd.own l c z hm) hv hb hfit.2.2).mono ?_
        rintro e w' ⟨rfl, rfl⟩
        exact ⟨rfl, Ch.refl _ _, DiskOK.gr (by simpa using ⟨gm, D, gf, u, hd⟩)⟩
      · have hE : appendE M N l b = 0 := by simp [appendE, hok, hm, hb]
        have hF : appendF M l b = (c ++ b, z) := by simp [appendF, hm]
        rw [hE, hF]
        have hu := hd.ne_u hm
        refine (append_thereB w gd gm N (gf l) D l b c (u l) v (.int .i64 (z : Int)) hl hok hd.cell hd.map (by have := hd.most; omega) (hd.has_yes hm) (hd.at' l c z hm) (hd.file l c z hm) (hd.own l c z hm) (hu.2.2 l c z hm) hu.1 (hd.ne_df hm) hv (by omega)).mono ?_
        rintro e w' ⟨u', rfl, hfile, ho, hub, hmp, hch⟩
        have hin := hd.inF l c z hm
        refine ⟨rfl, hch.mono (fun k _ e => e.elim (fun e => by rw [e]; exact hin.1) (fun e => e.elim (fun e => by rw [e]; exact hd.inM) (hin.2 k))), ?_⟩
        have ap := fun l' c' z' (e : l' ≠ l) (hm' : M l' = some (c', z')) => hd.apart l' l (by simp [hm']) (by simp [hm]) e
        have := hd.put (w' := w') l (c ++ b) z (gf l) (N + 1) u' hmp (by rw [hm]; simpa using hd.most) hch (fun e => e.elim (hd.ne_df hm) (fun e => e.elim hd.ne_dm hu.1))
          (fun l' c' z' e hm' => ⟨fun x => x.elim (ap l' c' z' e hm').1 (fun x => x.elim (fun x => hd.ne_mf hm' x.symm) (hu.2.2 l' c' z' hm')), fun k hk x => by
            rcases x with x | x | x
            · exact (hd.ne_u hm').2.2 l c z hm (by rw [hk, x])
            · exact (hd.ne_u hm').2.1 (by rw [hk, x])
            · exact (ap l' c' z' e hm').2 k hk x⟩) (by simpa using hfile) ho ⟨hok, by simp; omega, by simp; omega⟩ (.inl hin.1)
          (fun l' c' z' e hm' => (ap l' c' z' e hm').1) (fun k hk => (hub k hk).imp (fun e => hin.2 k e.symm) id)
          (fun l' c' z' e hm' k hk hk' => by
            rcases hub k hk with x | x
            · exact (ap l' c' z' e hm').2 k hk' x.symm
            · have := ((hd.own l' c' z' hm').lt k hk').2; omega)
        rw [hm] at this
        simp only [Option.isSome_some, if_true, Nat.add_zero] at this
        simpa using ⟨_, _, _, _, this⟩
  · have hok' : nameOk l = false := by simpa using hok
    have hE : appendE M N l b = 40 := by simp [appendE, hok']
    rw [hE]
    refine (append_bad gd l v w hl hok').mono ?_
    rintro e w' ⟨rfl, rfl⟩
    exact ⟨rfl, Ch.refl _ _, DiskOK.gr (by simpa using h)⟩
end Go.Proofs.Ytgafmplmngbbfaa
