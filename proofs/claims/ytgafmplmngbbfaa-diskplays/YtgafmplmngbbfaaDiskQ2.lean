/-
  A disk's calls, one by one, of whatever disk: Sync, Read, Size, Cut, Remove: the walks.
-/
import Derived.Test.YtgafmplmngbbfaaDiskQ
namespace Go.Proofs.Ytgafmplmngbbfaa
open Go.RowKit Go.Maps Go.WideMaps

/-- what every call with a name answers, if the file is not there -/
def findE (M : Fls) (l : Bs) : Nat := if nameOk l = true then (if (M l).isSome then 0 else 5) else 40
theorem findE_some {M : Fls} {l : Bs} {p : Bs × Nat} (hok : nameOk l = true) (h : M l = some p) : findE M l = 0 := by simp [findE, hok, h]
theorem findE_none {M : Fls} {l : Bs} (hok : nameOk l = true) (h : M l = none) : findE M l = 5 := by simp [findE, hok, h]
theorem findE_bad {M : Fls} {l : Bs} (hok : nameOk l = false) : findE M l = 40 := by simp [findE, hok]

theorem findE_cases (M : Fls) (l : Bs) : (findE M l = 0 ∧ ∃ p, M l = some p ∧ nameOk l = true) ∨ (findE M l = 5 ∧ M l = none ∧ nameOk l = true) ∨ (findE M l = 40 ∧ nameOk l = false) := by
  by_cases hok : nameOk l = true
  · cases h : M l with
    | none => exact .inr (.inl ⟨findE_none hok h, rfl, hok⟩)
    | some p => exact .inl ⟨findE_some hok h, p, rfl, hok⟩
  · have hok' : nameOk l = false := by simpa using hok
    exact .inr (.inr ⟨findE_bad hok', hok'⟩)

theorem find_fails (w : World) (S : Nat → Prop) (gd N : Nat) (M : Fls) (l : Bs) (hl : l.length ≤ 9223372036854775807) (h : DiskOK w S gd M N) (hE : findE M l ≠ 0) :
    Calls Try.prog 44 #[.pointer (some ⟨gd, 0, none⟩), .string (ByteArray.mk ⟨l⟩)] w fun e w' => e = .returned (.tuple #[.pointer none, .int .i64 (findE M l : Int)]) ∧ w' = w := by
  rcases findE_cases M l with ⟨h0, _⟩ | ⟨h0, h1, h2⟩ | ⟨h0, h1⟩
  · exact absurd h0 hE
  · obtain ⟨gm, D, gf, u, hd⟩ := h
    rw [h0]
    obtain ⟨n1, n2⟩ := hd.has_not h1
    exact find_none gd gm N D l w hl h2 hd.cell hd.map n1 n2
  · rw [h0]
    exact find_bad gd l w hl h1
theorem DiskW.find {w : World} {S : Nat → Prop} {gd N gm : Nat} {M : Fls} {D : DataW Unit} {gf : Bs → Nat} {u : Bs → Value} (h : DiskW w S gd M N gm D gf u) {l c : Bs} {z : Nat} (hm : M l = some (c, z)) (hl : l.length ≤ 9223372036854775807) :
    Calls Try.prog 44 #[.pointer (some ⟨gd, 0, none⟩), .string (ByteArray.mk ⟨l⟩)] w fun e w' => e = .returned (.tuple #[.pointer (some ⟨gf l, 0, none⟩), .int .i64 0]) ∧ w' = w :=
  find_there gd gm N (gf l) D l w hl (h.fits l c z hm).1 h.cell h.map (h.has_yes hm) (h.at' l c z hm)

set_option maxHeartbeats 1600000 in
theorem sync_fails (w : World) (gd : Nat) (s : ByteArray) (E : Nat) (hE : ((E : Int) != 0) = true) (HF : Hid (Calls Try.prog 44 #[.pointer (some ⟨gd, 0, none⟩), .string s] w fun e w' => e = .returned (.tuple #[.pointer none, .int .i64 (E : Int)]) ∧ w' = w)) :
    Calls Try.prog 27 #[.pointer (some ⟨gd, 0, none⟩), .string s] w fun e w' => e = .returned (.int .i64 (E : Int)) ∧ w' = w := by
  go_enter Try.func27, Try.ntmps27
  go_wp2_with fail
  refine HF.out.mono ?_
  rintro e w1 ⟨rfl, hw1⟩
  rw [hw1]
  clear hw1 w1
  go_wp2
  go_ret
  exact ⟨rfl, rfl⟩
set_option maxHeartbeats 1600000 in
theorem read_fails (w : World) (gd : Nat) (s : ByteArray) (E : Nat) (hE : ((E : Int) != 0) = true) (HF : Hid (Calls Try.prog 44 #[.pointer (some ⟨gd, 0, none⟩), .string s] w fun e w' => e = .returned (.tuple #[.pointer none, .int .i64 (E : Int)]) ∧ w' = w)) :
    Calls Try.prog 21 #[.pointer (some ⟨gd, 0, none⟩), .string s] w fun e w' => e = .returned (.tuple #[.slice none 0 0, .int .i64 (E : Int)]) ∧ w' = w := by
  go_enter Try.func21, Try.ntmps21
  go_wp2_with fail
  refine HF.out.mono ?_
  rintro e w1 ⟨rfl, hw1⟩
  rw [hw1]
  clear hw1 w1
  go_wp2
  go_ret2
  exact ⟨rfl, rfl⟩
set_option maxHeartbeats 1600000 in
theorem size_fails (w : World) (gd : Nat) (s : ByteArray) (E : Nat) (hE : ((E : Int) != 0) = true) (HF : Hid (Calls Try.prog 44 #[.pointer (some ⟨gd, 0, none⟩), .string s] w fun e w' => e = .returned (.tuple #[.pointer none, .int .i64 (E : Int)]) ∧ w' = w)) :
    Calls Try.prog 22 #[.pointer (some ⟨gd, 0, none⟩), .string s] w fun e w' => e = .returned (.tuple #[.int .i64 0, .int .i64 0, .int .i64 (E : Int)]) ∧ w' = w := by
  go_enter Try.func22, Try.ntmps22
  go_wp2_with fail
  refine HF.out.mono ?_
  rintro e w1 ⟨rfl, hw1⟩
  rw [hw1]
  clear hw1 w1
  go_wp2
  go_ret3
  exact ⟨rfl, rfl⟩
set_option maxHeartbeats 1600000 in
theorem cut_fails (w : World) (gd : Nat) (s : ByteArray) (n : Int) (E : Nat) (hE : ((E : Int) != 0) = true) (HF : Hid (Calls Try.prog 44 #[.pointer (some ⟨gd, 0, none⟩), .string s] w fun e w' => e = .returned (.tuple #[.pointer none, .int .i64 (E : Int)]) ∧ w' = w)) :
    Calls Try.prog 28 #[.pointer (some ⟨gd, 0, none⟩), .string s, .int .i64 n] w fun e w' => e = .returned (.int .i64 (E : Int)) ∧ w' = w := by
  go_enter Try.func28, Try.ntmps28
  go_wp2_with fail
  refine HF.out.mono ?_
  rintro e w1 ⟨rfl, hw1⟩
  rw [hw1]
  clear hw1 w1
  go_wp2
  go_ret
  exact ⟨rfl, rfl⟩
set_option maxHeartbeats 1600000 in
theorem remove_fails (w : World) (gd : Nat) (s : ByteArray) (E : Nat) (hE : ((E : Int) != 0) = true) (HF : Hid (Calls Try.prog 44 #[.pointer (some ⟨gd, 0, none⟩), .string s] w fun e w' => e = .returned (.tuple #[.pointer none, .int .i64 (E : Int)]) ∧ w' = w)) :
    Calls Try.prog 30 #[.pointer (some ⟨gd, 0, none⟩), .string s] w fun e w' => e = .returned (.int .i64 (E : Int)) ∧ w' = w := by
  go_enter Try.func30, Try.ntmps30
  go_wp2_with fail
  refine HF.out.mono ?_
  rintro e w1 ⟨rfl, hw1⟩
  rw [hw1]
  clear hw1 w1
  go_wp2
  go_ret
  exact ⟨rfl, rfl⟩

theorem E_ne {E : Nat} (h : E ≠ 0) : ((E : Int) != 0) = true := by rw [bne_iff_ne]; omega

/-- SYNC -/
theorem sync_ok (w : World) (S : Nat → Prop) (gd N : Nat) (M : Fls) (l : Bs) (hl : l.length ≤ 9223372036854775807) (h : DiskOK w S gd M N) :
    Calls Try.prog 27 #[.pointer (some ⟨gd, 0, none⟩), .string (ByteArray.mk ⟨l⟩)] w fun e w' =>
      e = .returned (.int .i64 (findE M l : Int)) ∧ Ch w w' S ∧ DiskOK w' (Gr S w w') gd (match M l with | some (c, _) => upd M l (some (c, c.length)) | none => M) N := by
  rcases findE_cases M l with ⟨h0, p, hm, hok⟩ | hE
  · obtain ⟨c, z⟩ := p
    obtain ⟨gm, D, gf, u, hd⟩ := h
    obtain ⟨a, cap, hu⟩ := (hd.own l c z hm).shape
    rw [h0, hm]
    have hb := hd.file l c z hm
    refine (sync_there gd gm N (gf l) D l a c.length cap (.int .i64 (z : Int)) w hl hok hd.cell hd.map (hd.has_yes hm) (hd.at' l c z hm) (by simp [World.cell?, hb, hu]) (by simp [World.cell?, hb]) (by simp [World.frozen?, hb])).mono ?_
    rintro e w' ⟨rfl, rfl⟩
    have hch : Ch w (w.setCell ⟨gf l, 1, none⟩ (.int .i64 (c.length : Int))) (fun k => k = gf l) := Ch.of_gb (gb_set0 w (gf l) 1 _) (fun k hk _ => by cases hk; rfl)
    refine ⟨rfl, hch.mono (fun k _ e => by rw [e]; exact (hd.inF l c z hm).1), _, _, _, _, hd.turn l c c c.length z (u l) hm hch (fun k _ e => .inl e) (block_set1 _ _ _ _ _ _ hb) ?_ ⟨Nat.le_refl _, (hd.fits l c z hm).2.2⟩ (fun k hk => .inl hk)⟩
    exact (hd.own l c z hm).via (fun k hk => hch.block ((hd.own l c z hm).lt k hk).2 (fun e => (hd.ne_u hm).2.2 l c z hm (by rw [hk, e])))
  · have hE0 : findE M l ≠ 0 := by rcases hE with h | h <;> omega
    have hm : M l = none := by
      rcases hE with h1 | h1
      · exact h1.2.1
      · obtain ⟨gm, D, gf, u, hd⟩ := h
        cases hm : M l with
        | none => rfl
        | some p =>
          obtain ⟨c, z⟩ := p
          have := (hd.fits l c z hm).1
          rw [h1.2] at this
          cases this
    rw [hm]
    refine (sync_fails w gd _ (findE M l) (E_ne hE0) (find_fails w S gd N M l hl h hE0)).mono ?_
    rintro e w' ⟨rfl, rfl⟩
    exact ⟨rfl, Ch.refl _ _, DiskOK.gr h⟩
theorem none_of_fail {w : World} {S : Nat → Prop} {gd N : Nat} {M : Fls} {l : Bs} (h : DiskOK w S gd M N) (hE : findE M l ≠ 0) : M l = none := by
  rcases findE_cases M l with ⟨h0, _⟩ | ⟨h0, h1, h2⟩ | ⟨h0, h1⟩
  · exact absurd h0 hE
  · exact h1
  · obtain ⟨gm, D, gf, u, hd⟩ := h
    cases hm : M l with
    | none => rfl
    | some p =>
      obtain ⟨c, z⟩ := p
      have := (hd.fits l c z hm).1
      rw [h1] at this
      cases this

/-- the bytes of a file -/
def bytesOf (M : Fls) (l : Bs) : Bs := match M l with | some (c, _) => c | none => []
def syncedOf (M : Fls) (l : Bs) : Nat := match M l with | some (_, z) => z | none => 0
/-- READ -/
theorem read_ok (w : World) (S : Nat → Prop) (gd N : Nat) (M : Fls) (l : Bs) (hl : l.length ≤ 9223372036854775807) (h : DiskOK w S gd M N) :
    Calls Try.prog 21 #[.pointer (some ⟨gd, 0, none⟩), .string (ByteArray.mk ⟨l⟩)] w fun e w' =>
      ∃ v, e = .returned (.tuple #[v, .int .i64 (findE M l : Int)]) ∧ Own w' w.heap.size v (bytesOf M l) ∧ w.grownBy w' none := by
  by_cases hE : findE M l = 0
  · rcases findE_cases M l with ⟨h0, p, hm, hok⟩ | h1
    · obtain ⟨c, z⟩ := p
      obtain ⟨gm, D, gf, u, hd⟩ := h
      rw [hE]
      have hb : bytesOf M l = c := by simp [bytesOf, hm]
      rw [hb]
      exact read_there gd gm N (gf l) D l c (u l) w hl hok hd.cell hd.map (hd.has_yes hm) (hd.at' l c z hm) (by simp [World.cell?, hd.file l c z hm]) (hd.own l c z hm).rd (hd.fits l c z hm).2.2
    · rcases h1 with h1 | h1 <;> omega
  · have hb : bytesOf M l = [] := by simp [bytesOf, none_of_fail h hE]
    rw [hb]
    refine (read_fails w gd _ (findE M l) (E_ne hE) (find_fails w S gd N M l hl h hE)).mono ?_
    rintro e w' ⟨rfl, rfl⟩
    exact ⟨_, rfl, Own.nil _ _, gb_refl _ _⟩

set_option maxHeartbeats 1600000 in
theorem size_there (w : World) (gd gf : Nat) (s : ByteArray) (a : Option Addr) (L cap z : Nat) (HF : Hid (Calls Try.prog 44 #[.pointer (some ⟨gd, 0, none⟩), .string s] w fun e w' => e = .returned (.tuple #[.pointer (some ⟨gf, 0, none⟩), .int .i64 0]) ∧ w' = w))
    (h0 : w.cell? ⟨gf, 0, none⟩ = some (.slice a L cap)) (h1 : w.cell? ⟨gf, 1, none⟩ = some (.int .i64 (z : Int))) :
    Calls Try.prog 22 #[.pointer (some ⟨gd, 0, none⟩), .string s] w fun e w' => e = .returned (.tuple #[.int .i64 (L : Int), .int .i64 (z : Int), .int .i64 0]) ∧ w.grownBy w' none := by
  go_enter Try.func22, Try.ntmps22
  go_wp2_with fail
  refine HF.out.mono ?_
  rintro e w1 ⟨rfl, hw1⟩
  rw [hw1]
  clear hw1 w1
  go_wp2_with fail
  go_region
  all_goals (try go_wp2)
  all_goals go_ret3
  all_goals exact ⟨rfl, gb_drew _ _⟩

/-- SIZE -/
theorem size_ok (w : World) (S : Nat → Prop) (gd N : Nat) (M : Fls) (l : Bs) (hl : l.length ≤ 9223372036854775807) (h : DiskOK w S gd M N) :
    Calls Try.prog 22 #[.pointer (some ⟨gd, 0, none⟩), .string (ByteArray.mk ⟨l⟩)] w fun e w' =>
      e = .returned (.tuple #[.int .i64 ((bytesOf M l).length : Int), .int .i64 (syncedOf M l : Int), .int .i64 (findE M l : Int)]) ∧ w.grownBy w' none := by
  by_cases hE : findE M l = 0
  · rcases findE_cases M l with ⟨h0, p, hm, hok⟩ | h1
    · obtain ⟨c, z⟩ := p
      obtain ⟨gm, D, gf, u, hd⟩ := h
      rw [hE]
      have hb : bytesOf M l = c := by simp [bytesOf, hm]
      have hz : syncedOf M l = z := by simp [syncedOf, hm]
      rw [hb, hz]
      obtain ⟨a, cap, hu⟩ := (hd.own l c z hm).shape
      exact size_there w gd (gf l) _ a c.length cap z (hd.find hm hl) (by simp [World.cell?, hd.file l c z hm, hu]) (by simp [World.cell?, hd.file l c z hm])
    · rcases h1 with h1 | h1 <;> omega
  · have hm := none_of_fail h hE
    have hb : bytesOf M l = [] := by simp [bytesOf, hm]
    have hz : syncedOf M l = 0 := by simp [syncedOf, hm]
    rw [hb, hz]
    refine (size_fails w gd _ (findE M l) (E_ne hE) (find_fails w S gd N M l hl h hE)).mono ?_
    rintro e w' ⟨rfl, rfl⟩
    exact ⟨rfl, gb_refl _ _⟩
end Go.Proofs.Ytgafmplmngbbfaa
