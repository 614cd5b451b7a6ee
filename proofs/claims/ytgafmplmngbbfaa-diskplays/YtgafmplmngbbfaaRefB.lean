/-
  find, Sync, Read, Size of the document's disk: the walks.
-/
import Derived.Test.YtgafmplmngbbfaaRefA
namespace Go.Proofs.Ytgafmplmngbbfaa
open Go.RowKit Go.Maps Go.WideMaps

set_option maxHeartbeats 1600000 in
theorem refFind_bad (w : World) (gr : Nat) (l : Bs) (hl : l.length ≤ 9223372036854775807) (hok : nameOk l = false) :
    Calls Try.prog 53 #[.pointer (some ⟨gr, 0, none⟩), .string (ByteArray.mk ⟨l⟩)] w fun e w' => e = .returned (.tuple #[.int .i64 0, .int .i64 40]) ∧ w' = w := by
  have HN := refName_any l w hl
  rw [hok] at HN
  have HN2 : Hid (Calls Try.prog 24 #[.string (ByteArray.mk ⟨l⟩)] w fun e w' => e = .returned (.bool false) ∧ w' = w) := HN
  clear HN hok hl
  generalize ByteArray.mk ⟨l⟩ = s at *
  go_enter Try.func53, Try.ntmps53
  go_wp2_with fail
  refine HN2.out.mono ?_
  rintro e w1 ⟨rfl, hw1⟩
  rw [hw1]
  clear hw1 w1
  go_wp2
  go_ret2
  exact ⟨rfl, rfl⟩
set_option maxHeartbeats 1600000 in
theorem refFind_at (w : World) (S : Nat → Prop) (gr : Nat) (v : Value) (rs : List RF) (l : Bs) (hl : l.length ≤ 9223372036854775807) (hok : nameOk l = true) (h : RefW w S gr v rs) (p : Int) (hp : posR rs l = p) (hpp : p = -1 ∨ 0 ≤ p) :
    Calls Try.prog 53 #[.pointer (some ⟨gr, 0, none⟩), .string (ByteArray.mk ⟨l⟩)] w fun e w' => e = .returned (if p < 0 then .tuple #[.int .i64 0, .int .i64 5] else .tuple #[.int .i64 p, .int .i64 0]) ∧ w' = w := by
  have HN := refName_any l w hl
  rw [hok] at HN
  have HN2 : Hid (Calls Try.prog 24 #[.string (ByteArray.mk ⟨l⟩)] w fun e w' => e = .returned (.bool true) ∧ w' = w) := HN
  have HAt := at_any w S gr v rs l h
  rw [hp] at HAt
  have HA : Hid (Calls Try.prog 49 #[.pointer (some ⟨gr, 0, none⟩), .string (ByteArray.mk ⟨l⟩)] w fun e w' => e = .returned (.int .i64 p) ∧ w' = w) := HAt
  clear HN hok hl HAt h hp
  generalize ByteArray.mk ⟨l⟩ = s at *
  rcases hpp with rfl | hpp
  · go_enter Try.func53, Try.ntmps53
    go_wp2_with fail
    refine HN2.out.mono ?_
    rintro e w1 ⟨rfl, hw1⟩
    rw [hw1]
    clear hw1 w1
    go_wp2_with fail
    refine HA.out.mono ?_
    rintro e w1 ⟨rfl, hw1⟩
    rw [hw1]
    clear hw1 w1
    go_wp2
    go_ret2
    exact ⟨rfl, rfl⟩
  · have hpn : ¬ p < 0 := by omega
    rw [if_neg hpn]
    go_enter Try.func53, Try.ntmps53
    go_wp2_with fail
    refine HN2.out.mono ?_
    rintro e w1 ⟨rfl, hw1⟩
    rw [hw1]
    clear hw1 w1
    go_wp2_with fail
    refine HA.out.mono ?_
    rintro e w1 ⟨rfl, hw1⟩
    rw [hw1]
    clear hw1 w1
    go_wp2
    go_ret2
    exact ⟨rfl, rfl⟩
/-- what find tells: an error, or where the file stands -/
theorem refFind_no (w : World) (S : Nat → Prop) (gr N : Nat) (M : Fls) (l : Bs) (hl : l.length ≤ 9223372036854775807) (h : RefOK w S gr M N) (hE : findE M l ≠ 0) :
    Calls Try.prog 53 #[.pointer (some ⟨gr, 0, none⟩), .string (ByteArray.mk ⟨l⟩)] w fun e w' => e = .returned (.tuple #[.int .i64 0, .int .i64 (findE M l : Int)]) ∧ w' = w := by
  obtain ⟨v, rs, hW, hM, -⟩ := h
  rcases findE_cases M l with ⟨h0, _⟩ | ⟨h0, h1, h2⟩ | ⟨h0, h1⟩
  · exact absurd h0 hE
  · rw [h0]
    rcases posR_cases rs l with ⟨hp, -, -⟩ | ⟨k, -, -, -, hlk⟩
    · exact refFind_at w S gr v rs l hl h2 hW (-1) hp (.inl rfl)
    · rw [hM, hlk] at h1; cases h1
  · rw [h0]
    exact refFind_bad w gr l hl h1
theorem refFind_yes (w : World) (S : Nat → Prop) (gr : Nat) (v : Value) (rs : List RF) (M : Fls) (l : Bs) (hl : l.length ≤ 9223372036854775807) (hW : RefW w S gr v rs) (hM : ∀ l, M l = lkR rs l) (hE : findE M l = 0) : ∃ k : Nat, k < rs.length ∧ (rs.getD k rfZ).name = l ∧ M l = some ((rs.getD k rfZ).bytes, (rs.getD k rfZ).synced) ∧
    Calls Try.prog 53 #[.pointer (some ⟨gr, 0, none⟩), .string (ByteArray.mk ⟨l⟩)] w fun e w' => e = .returned (.tuple #[.int .i64 (k : Int), .int .i64 0]) ∧ w' = w := by
  rcases findE_cases M l with ⟨-, p, hp, hok⟩ | h1 | h1
  · rcases posR_cases rs l with ⟨-, -, hlk⟩ | ⟨k, hpos, hk, hnm, hlk⟩
    · rw [hM, hlk] at hp; cases hp
    · refine ⟨k, hk, hnm, by rw [hM, hlk], ?_⟩
      have := refFind_at w S gr v rs l hl hok hW (k : Int) hpos (.inr (by omega))
      rw [if_neg (by omega)] at this
      exact this
  · omega
  · omega
theorem Hnone {w : World} {S : Nat → Prop} {gr N : Nat} {M : Fls} {l : Bs} (h : RefOK w S gr M N) (hE : findE M l ≠ 0) : M l = none := by
  rcases findE_cases M l with ⟨h0, _⟩ | ⟨h0, h1, h2⟩ | ⟨h0, h1⟩
  · exact absurd h0 hE
  · exact h1
  · obtain ⟨v, rs, hW, hM, -⟩ := h
    cases hm : M l with
    | none => rfl
    | some p =>
      rcases posR_cases rs l with ⟨-, -, hlk⟩ | ⟨k, -, hk, hnm, -⟩
      · rw [hM, hlk] at hm; cases hm
      · have := (hW.fits _ (getD_mem hk)).1
        rw [hnm, h1] at this
        cases this

set_option maxHeartbeats 1600000 in
theorem refSync_fails (w : World) (gr : Nat) (s : ByteArray) (E : Nat) (hE : ((E : Int) == 0) = false) (HF : Hid (Calls Try.prog 53 #[.pointer (some ⟨gr, 0, none⟩), .string s] w fun e w' => e = .returned (.tuple #[.int .i64 0, .int .i64 (E : Int)]) ∧ w' = w)) :
    Calls Try.prog 35 #[.pointer (some ⟨gr, 0, none⟩), .string s] w fun e w' => e = .returned (.int .i64 (E : Int)) ∧ w' = w := by
  go_enter Try.func35, Try.ntmps35
  go_wp2_with fail
  refine HF.out.mono ?_
  rintro e w1 ⟨rfl, hw1⟩
  rw [hw1]
  clear hw1 w1
  go_wp2
  go_ret
  exact ⟨rfl, rfl⟩
set_option maxHeartbeats 1600000 in
theorem refSync_at (w : World) (gr g k L cap : Nat) (s : ByteArray) (a1 : Option Addr) (L1 c1 : Nat) (z : Value) (hk : (k : Int) < (L : Int)) (HF : Hid (Calls Try.prog 53 #[.pointer (some ⟨gr, 0, none⟩), .string s] w fun e w' => e = .returned (.tuple #[.int .i64 (k : Int), .int .i64 0]) ∧ w' = w))
    (h0 : w.cell? ⟨gr, 0, none⟩ = some (.slice (some ⟨g, 0, none⟩) L cap)) (h1 : w.cell? ⟨g, k * 3 + 1, none⟩ = some (.slice a1 L1 c1)) (h2 : w.cell? ⟨g, k * 3 + 2, none⟩ = some z) (hf : w.frozen? ⟨g, k * 3 + 2, none⟩ = false) :
    Calls Try.prog 35 #[.pointer (some ⟨gr, 0, none⟩), .string s] w fun e w' => e = .returned (.int .i64 0) ∧ w' = (w.setCell ⟨g, k * 3 + 2, none⟩ (.int .i64 (L1 : Int))).drew := by
  go_enter Try.func35, Try.ntmps35
  go_wp2_with fail
  refine HF.out.mono ?_
  rintro e w1 ⟨rfl, hw1⟩
  rw [hw1]
  clear hw1 w1
  go_wp2_with fail
  go_region
  all_goals (try go_wp2)
  all_goals go_ret
  all_goals exact ⟨rfl, rfl⟩
theorem RefW.drew {w : World} {S : Nat → Prop} {gr : Nat} {v : Value} {rs : List RF} (h : RefW w S gr v rs) : RefW w.drew S gr v rs := h.frame (T := fun _ => False) (Ch.of_gb (gb_drew w none) (fun k hk => by cases hk)) (fun _ _ _ => id)
theorem E_eq {E : Nat} (h : E ≠ 0) : ((E : Int) == 0) = false := by rw [beq_eq_false_iff_ne]; omega

/-- one file of the document's disk turned: what a call that stores into its row leaves -/
theorem RefW.turned {w : World} {S S' : Nat → Prop} {gr g cap k : Nat} {rs : List RF} {M : Fls} (h : RefW w S gr (.slice (some ⟨g, 0, none⟩) rs.length cap) rs) (hM : ∀ l, M l = lkR rs l) (hk : k < rs.length) (r' : RF) (hn : r'.name = (rs.getD k rfZ).name) (f : Nat) (x : Value) (hf : f < 3) (hx : rfc r' = (rfc (rs.getD k rfZ)).set f x)
    (hS : ∀ k, S k → S' k) (hb : Rb w S' r'.val r'.bytes) (hfit : r'.synced ≤ r'.bytes.length ∧ r'.bytes.length ≤ 1048576) :
    RefW (w.setCell ⟨g, k * 3 + f, none⟩ x) S' gr (.slice (some ⟨g, 0, none⟩) rs.length cap) (rs.take k ++ r' :: rs.drop (k + 1)) ∧ (∀ l, upd M (rs.getD k rfZ).name (some (r'.bytes, r'.synced)) l = lkR (rs.take k ++ r' :: rs.drop (k + 1)) l) ∧ (rs.take k ++ r' :: rs.drop (k + 1)).length = rs.length ∧ Ch w (w.setCell ⟨g, k * 3 + f, none⟩ x) S := by
  have hsp := split_at hk
  have hAl : (rs.take k).length = k := by rw [List.length_take]; omega
  have hlen : (rs.take k ++ r' :: rs.drop (k + 1)).length = rs.length := by
    conv => rhs; rw [hsp]
    simp
  have hT : RefW w S gr (.slice (some ⟨g, 0, none⟩) (rs.take k ++ rs.getD k rfZ :: rs.drop (k + 1)).length cap) (rs.take k ++ rs.getD k rfZ :: rs.drop (k + 1)) := by rw [← hsp]; exact h
  have ht := hT.turn hn f x hf hx hS hb hfit
  rw [hAl, ← hsp] at ht
  refine ⟨ht, fun l => ?_, hlen, Ch.of_gb (gb_set0 w g _ x) (fun j hj _ => by cases hj; exact h.inR g rfl)⟩
  have := congrFun (lkR_set hT.srt hn) l
  rw [this, ← hsp]
  have e : M = fun l => lkR rs l := funext hM
  rw [e]

/-- SYNC -/
theorem refSync_ok (w : World) (S : Nat → Prop) (gr N : Nat) (M : Fls) (l : Bs) (hl : l.length ≤ 9223372036854775807) (h : RefOK w S gr M N) :
    Calls Try.prog 35 #[.pointer (some ⟨gr, 0, none⟩), .string (ByteArray.mk ⟨l⟩)] w fun e w' =>
      e = .returned (.int .i64 (findE M l : Int)) ∧ Ch w w' S ∧ RefOK w' (Gr S w w') gr (match M l with | some (c, _) => upd M l (some (c, c.length)) | none => M) N := by
  by_cases hE : findE M l = 0
  · obtain ⟨v, rs, hW, hM, rfl⟩ := h
    obtain ⟨k, hk, hnm, hMl, hf⟩ := refFind_yes w S gr v rs M l hl hW hM hE
    obtain ⟨g, cap, rfl, -, -, hcells⟩ := hW.cells (by intro e; rw [e] at hk; simp at hk)
    obtain ⟨a1, c1, hval⟩ : ∃ a1 c1, (rs.getD k rfZ).val = .slice a1 (rs.getD k rfZ).bytes.length c1 := by obtain ⟨⟨a, c, e, _⟩, _⟩ := hW.each _ (getD_mem hk); exact ⟨a, c, e⟩
    have hc := hcells k hk
    rw [hE, hMl]
    refine (refSync_at w gr g k rs.length cap _ a1 (rs.getD k rfZ).bytes.length c1 _ (by omega) hf (by simp [World.cell?, hW.box]) (by rw [hc.2.1, hval]) hc.2.2 (by obtain ⟨cur, ho⟩ := hW.row_obj (k := g) rfl; simp [World.frozen?, ho])).mono ?_
    rintro e w' ⟨rfl, rfl⟩
    have ht := hW.turned hM hk ⟨(rs.getD k rfZ).name, (rs.getD k rfZ).val, (rs.getD k rfZ).bytes, (rs.getD k rfZ).bytes.length⟩ rfl 2 (.int .i64 ((rs.getD k rfZ).bytes.length : Int)) (by omega) rfl (S' := S) (fun _ h => h) (hW.each (rs.getD k rfZ) (getD_mem hk)) ⟨Nat.le_refl _, (hW.fits _ (getD_mem hk)).2.2⟩
    refine ⟨rfl, ht.2.2.2.trans (Ch.of_gb (S := fun _ => False) (gb_drew _ none) (fun k hk => by cases hk)) (fun _ _ h => h.elim), RefOK.gr ⟨_, _, ht.1.drew, ?_, ht.2.2.1⟩⟩
    intro l'
    have e : upd M l (some ((rs.getD k rfZ).bytes, (rs.getD k rfZ).bytes.length)) l' = upd M (rs.getD k rfZ).name (some ((rs.getD k rfZ).bytes, (rs.getD k rfZ).bytes.length)) l' := by rw [hnm]
    exact e.trans (ht.2.1 l')
  · rw [Hnone h hE]
    refine (refSync_fails w gr _ (findE M l) (E_eq hE) (refFind_no w S gr N M l hl h hE)).mono ?_
    rintro e w' ⟨rfl, rfl⟩
    exact ⟨rfl, Ch.refl _ _, RefOK.gr h⟩

set_option maxHeartbeats 1600000 in
theorem refRead_fails (w : World) (gr : Nat) (s : ByteArray) (E : Nat) (hE : ((E : Int) != 0) = true) (HF : Hid (Calls Try.prog 53 #[.pointer (some ⟨gr, 0, none⟩), .string s] w fun e w' => e = .returned (.tuple #[.int .i64 0, .int .i64 (E : Int)]) ∧ w' = w)) :
    Calls Try.prog 41 #[.pointer (some ⟨gr, 0, none⟩), .string s] w fun e w' => e = .returned (.tuple #[.slice none 0 0, .int .i64 (E : Int)]) ∧ w' = w := by
  go_enter Try.func41, Try.ntmps41
  go_wp2_with fail
  refine HF.out.mono ?_
  rintro e w1 ⟨rfl, hw1⟩
  rw [hw1]
  clear hw1 w1
  go_wp2
  go_ret2
  exact ⟨rfl, rfl⟩
set_option maxHeartbeats 1600000 in
theorem refRead_at (w : World) (gr g k L cap : Nat) (s : ByteArray) (v : Value) (b : Bs) (hk : (k : Int) < (L : Int)) (HF : Hid (Calls Try.prog 53 #[.pointer (some ⟨gr, 0, none⟩), .string s] w fun e w' => e = .returned (.tuple #[.int .i64 (k : Int), .int .i64 0]) ∧ w' = w))
    (h0 : w.cell? ⟨gr, 0, none⟩ = some (.slice (some ⟨g, 0, none⟩) L cap)) (h1 : w.cell? ⟨g, k * 3 + 1, none⟩ = some v) (hv : Rd w v b) (hb : b.length ≤ 1048576) :
    Calls Try.prog 41 #[.pointer (some ⟨gr, 0, none⟩), .string s] w fun e w' => ∃ u, e = .returned (.tuple #[u, .int .i64 0]) ∧ Own w' w.heap.size u b ∧ w.grownBy w' none := by
  have HV : Hid (Rd w v b ∧ b.length ≤ 1048576) := ⟨hv, hb⟩
  obtain ⟨a, c, rfl, -, -, -, -⟩ := hv
  go_enter Try.func41, Try.ntmps41
  go_wp2_with fail
  refine HF.out.mono ?_
  rintro e w1 ⟨rfl, hw1⟩
  rw [hw1]
  clear hw1 w1
  go_wp2_with (at_builtin; refine wp_app rfl _ _ rfl w.heap.size _ _ [] b rfl rfl (Own.nil _ _) HV.out.1 ?c1 (Nat.le_refl _) ?_)
  case c1 => have := HV.out.2; simp; omega
  intro v2 w2 ho2 hf2
  have H2 : Hid (Own w2 w.heap.size v2 b ∧ w.grownBy w2 none) := ⟨by simpa using ho2, hf2.1⟩
  clear ho2 hf2
  go_wp2
  go_ret2
  exact ⟨_, rfl, H2.out⟩
/-- READ -/
theorem refRead_ok (w : World) (S : Nat → Prop) (gr N : Nat) (M : Fls) (l : Bs) (hl : l.length ≤ 9223372036854775807) (h : RefOK w S gr M N) :
    Calls Try.prog 41 #[.pointer (some ⟨gr, 0, none⟩), .string (ByteArray.mk ⟨l⟩)] w fun e w' =>
      ∃ v, e = .returned (.tuple #[v, .int .i64 (findE M l : Int)]) ∧ Own w' w.heap.size v (bytesOf M l) ∧ w.grownBy w' none := by
  by_cases hE : findE M l = 0
  · obtain ⟨v, rs, hW, hM, rfl⟩ := h
    obtain ⟨k, hk, hnm, hMl, hf⟩ := refFind_yes w S gr v rs M l hl hW hM hE
    obtain ⟨g, cap, rfl, -, -, hcells⟩ := hW.cells (by intro e; rw [e] at hk; simp at hk)
    have hc := hcells k hk
    rw [hE, show bytesOf M l = (rs.getD k rfZ).bytes from by simp only [bytesOf, hMl]]
    exact refRead_at w gr g k rs.length cap _ _ _ (by omega) hf (by simp [World.cell?, hW.box]) hc.2.1 (hW.each _ (getD_mem hk)).1 (hW.fits _ (getD_mem hk)).2.2
  · rw [show bytesOf M l = [] from by simp only [bytesOf, Hnone h hE]]
    refine (refRead_fails w gr _ (findE M l) (E_ne hE) (refFind_no w S gr N M l hl h hE)).mono ?_
    rintro e w' ⟨rfl, rfl⟩
    exact ⟨_, rfl, Own.nil _ _, gb_refl _ _⟩

set_option maxHeartbeats 1600000 in
theorem refSize_fails (w : World) (gr : Nat) (s : ByteArray) (E : Nat) (hE : ((E : Int) != 0) = true) (HF : Hid (Calls Try.prog 53 #[.pointer (some ⟨gr, 0, none⟩), .string s] w fun e w' => e = .returned (.tuple #[.int .i64 0, .int .i64 (E : Int)]) ∧ w' = w)) :
    Calls Try.prog 42 #[.pointer (some ⟨gr, 0, none⟩), .string s] w fun e w' => e = .returned (.tuple #[.int .i64 0, .int .i64 0, .int .i64 (E : Int)]) ∧ w' = w := by
  go_enter Try.func42, Try.ntmps42
  go_wp2_with fail
  refine HF.out.mono ?_
  rintro e w1 ⟨rfl, hw1⟩
  rw [hw1]
  clear hw1 w1
  go_wp2
  go_ret3
  exact ⟨rfl, rfl⟩
set_option maxHeartbeats 1600000 in
theorem refSize_at (w : World) (gr g k L cap : Nat) (s : ByteArray) (a1 : Option Addr) (L1 c1 : Nat) (z : Nat) (hk : (k : Int) < (L : Int)) (HF : Hid (Calls Try.prog 53 #[.pointer (some ⟨gr, 0, none⟩), .string s] w fun e w' => e = .returned (.tuple #[.int .i64 (k : Int), .int .i64 0]) ∧ w' = w))
    (h0 : w.cell? ⟨gr, 0, none⟩ = some (.slice (some ⟨g, 0, none⟩) L cap)) (h1 : w.cell? ⟨g, k * 3 + 1, none⟩ = some (.slice a1 L1 c1)) (h2 : w.cell? ⟨g, k * 3 + 2, none⟩ = some (.int .i64 (z : Int))) :
    Calls Try.prog 42 #[.pointer (some ⟨gr, 0, none⟩), .string s] w fun e w' => e = .returned (.tuple #[.int .i64 (L1 : Int), .int .i64 (z : Int), .int .i64 0]) ∧ w.grownBy w' none := by
  go_enter Try.func42, Try.ntmps42
  go_wp2_with fail
  refine HF.out.mono ?_
  rintro e w1 ⟨rfl, hw1⟩
  rw [hw1]
  clear hw1 w1
  go_wp2_with fail
  go_region
  all_goals (try go_wp2)
  all_goals go_ret3
  all_goals exact ⟨rfl, gb_drew _ _⟩
/-- SIZE -/
theorem refSize_ok (w : World) (S : Nat → Prop) (gr N : Nat) (M : Fls) (l : Bs) (hl : l.length ≤ 9223372036854775807) (h : RefOK w S gr M N) :
    Calls Try.prog 42 #[.pointer (some ⟨gr, 0, none⟩), .string (ByteArray.mk ⟨l⟩)] w fun e w' =>
      e = .returned (.tuple #[.int .i64 ((bytesOf M l).length : Int), .int .i64 (syncedOf M l : Int), .int .i64 (findE M l : Int)]) ∧ w.grownBy w' none := by
  by_cases hE : findE M l = 0
  · obtain ⟨v, rs, hW, hM, rfl⟩ := h
    obtain ⟨k, hk, hnm, hMl, hf⟩ := refFind_yes w S gr v rs M l hl hW hM hE
    obtain ⟨g, cap, rfl, -, -, hcells⟩ := hW.cells (by intro e; rw [e] at hk; simp at hk)
    obtain ⟨a1, c1, hval⟩ : ∃ a1 c1, (rs.getD k rfZ).val = .slice a1 (rs.getD k rfZ).bytes.length c1 := by obtain ⟨⟨a, c, e, _⟩, _⟩ := hW.each _ (getD_mem hk); exact ⟨a, c, e⟩
    have hc := hcells k hk
    rw [hE, show bytesOf M l = (rs.getD k rfZ).bytes from by simp only [bytesOf, hMl], show syncedOf M l = (rs.getD k rfZ).synced from by simp only [syncedOf, hMl]]
    exact refSize_at w gr g k rs.length cap _ a1 _ c1 _ (by omega) hf (by simp [World.cell?, hW.box]) (by rw [hc.2.1, hval]) hc.2.2
  · rw [show bytesOf M l = [] from by simp only [bytesOf, Hnone h hE], show syncedOf M l = 0 from by simp only [syncedOf, Hnone h hE]]
    refine (refSize_fails w gr _ (findE M l) (E_ne hE) (refFind_no w S gr N M l hl h hE)).mono ?_
    rintro e w' ⟨rfl, rfl⟩
    exact ⟨rfl, gb_refl _ _⟩
end Go.Proofs.Ytgafmplmngbbfaa
