/-
  The statements' fixed calls ('known') come to true: the walk.
-/
import Derived.Test.YtgafmplmngbbfaaDiskX
import Derived.Lib.SlBytesConst
import Derived.Laws.IdiomStrings
namespace Go.Proofs.Ytgafmplmngbbfaa
open Go.RowKit Go.Maps Go.WideMaps

theorem conv_const (w : World) (C : Array Value) (n c : Nat) : (convert 31 31 (.slice (some ⟨w.heap.size, 0, none⟩) n c)).run Try.prog (w.alloc (.cells C 5)) = .ok (.slice (some ⟨w.heap.size, 0, none⟩) n c) (w.alloc (.cells C 5 (C.size, C.size + 1))) :=
  Go.Lib.run_convert_bytes_const w 31 5 C n c Try.underlying31 Try.underlying5

/-- 'string(b)' of whatever bytes -/
theorem run_str {w : World} {v : Value} {l : Bs} (h : Rd w v l) : (convert 31 9 v).run Try.prog w = .ok (.string (ByteArray.mk ⟨l⟩)) w := by
  obtain ⟨a, c, rfl, h1, h2, h3, h4⟩ := h
  cases a with
  | none =>
    have := h4 rfl
    have hl : l = [] := List.eq_nil_of_length_eq_zero (by omega)
    subst hl
    rw [run_convert_bytes_string w 31 9 5 none _ c Try.underlying31 Try.underlying5 Try.underlying9]
    simp [Conv.bytesToString]
    rfl
  | some ad =>
    refine run_convert_bytes_back w 31 9 5 ad c l Try.underlying31 Try.underlying5 Try.underlying9 (fun j hj => ?_)
    obtain ⟨b, o, hb, hc⟩ := h3 j hj
    cases hb
    rw [Go.WideShapes.add_plain, hc]
    simp [hj]

/-- all of a disk's blocks lie from a place on -/
def From (n : Nat) : Nat → Prop := fun k => n ≤ k
theorem DiskOK.from {w0 w w' : World} {gd N : Nat} {M : Fls} (h : DiskOK w' (Gr (From w0.heap.size) w w') gd M N) (hs : w0.heap.size ≤ w.heap.size) : DiskOK w' (From w0.heap.size) gd M N :=
  h.mono (fun _ _ hk => hk.elim id (fun h => Nat.le_trans hs h.1))
theorem Ch.from {w0 w w' : World} (h0 : w0.grownBy w none) (h : Ch w w' (From w0.heap.size)) : w0.grownBy w' none :=
  ((Ch.of_gb (S := fun _ => False) h0 (fun _ hk => by cases hk)).mono (T := From w0.heap.size) (fun _ _ => False.elim)).trans h (fun _ _ h => h) |>.gb (fun _ hk h => by unfold From at h; omega)
theorem name_a : nameOk [97] = true := by decide +kernel
theorem kp_a : KpOk [⟨[97], 1⟩] := by decide

set_option maxRecDepth 8000 in
set_option maxHeartbeats 3200000 in
theorem known_any (w : World) : Calls Try.prog 18 #[] w fun e w' => e = .returned (.bool true) ∧ w.grownBy w' none := by
  have hcv := conv_const
  go_enter Try.func18, Try.ntmps18
  go_wp2_with fail
  refine (new_ok _).mono ?_
  rintro e w1 ⟨gd, rfl, hd1, hg1⟩
  have H1 : Hid (w.grownBy w1 none ∧ DiskOK w1 (From w.heap.size) gd (fun _ => none) 0) := ⟨hg1, hd1.mono (fun k _ h => h.1)⟩
  clear hd1 hg1
  go_wp2_with fail
  refine (append_ok _ (From w.heap.size) gd 0 (fun _ => none) [97] [49, 50] _ (by simp) (H1.out.2.keep (World.grownBy_alloc _ _ none)) (Rd_lit _ [49, 50] 2 rfl (by simp) _ rfl)).mono ?_
  rintro e w2 ⟨rfl, hc2, hd2⟩
  have hE2 : appendE (fun _ => none) 0 [97] [49, 50] = 0 := by simp [appendE, name_a]
  have hF2 : appendF (fun _ => none) [97] [49, 50] = ([49, 50], 0) := rfl
  rw [hE2, hF2] at hd2
  simp only [if_true, Option.isSome_none, and_self] at hd2
  rw [hE2]
  have H2 : Hid (w.grownBy w2 none ∧ DiskOK w2 (From w.heap.size) gd (upd (fun _ => none) [97] (some ([49, 50], 0))) (0 + 1)) :=
    ⟨Ch.from (gb_none H1.out.1 (World.grownBy_alloc _ _ none)) hc2, hd2.from (by have := H1.out.1.size; simp; omega)⟩
  clear hc2 hd2 hE2 hF2 H1
  go_wp2_with fail
  refine (sync_ok _ (From w.heap.size) gd (0 + 1) _ [97] (by simp) H2.out.2).mono ?_
  rintro e w3 ⟨rfl, hc3, hd3⟩
  rw [findE_some name_a (upd_same _ _ _)]
  rw [upd_same] at hd3
  have hM : upd (upd (fun _ => none) [97] (some ([49, 50], 0))) [97] (some ([49, 50], ([49, 50] : Bs).length)) = upd (fun _ => none) [97] (some ([49, 50], 2)) := by
    funext k
    by_cases e : k = [97]
    · subst e; rw [upd_same, upd_same]; rfl
    · rw [upd_other _ _ e, upd_other _ _ e, upd_other _ _ e]
  have H3 : Hid (w.grownBy w3 none ∧ DiskOK w3 (From w.heap.size) gd (upd (fun _ => none) [97] (some ([49, 50], 2))) (0 + 1)) := by
    refine ⟨Ch.from H2.out.1 hc3, ?_⟩
    rw [← hM]
    exact hd3.from H2.out.1.size
  clear hc3 hd3 hM H2
  go_wp2_with fail
  refine (append_ok _ (From w.heap.size) gd (0 + 1) (upd (fun _ => none) [97] (some ([49, 50], 2))) [97] [51, 52, 53] _ (by simp) (H3.out.2.keep (World.grownBy_alloc _ _ none)) (Rd_lit _ [51, 52, 53] 3 rfl (by simp) _ rfl)).mono ?_
  rintro e w4 ⟨rfl, hc4, hd4⟩
  have hE4 : appendE (upd (fun _ => none) [97] (some ([49, 50], 2))) (0 + 1) [97] [51, 52, 53] = 0 := by simp [appendE, name_a, upd_same]
  have hF4 : appendF (upd (fun _ => none) [97] (some ([49, 50], 2))) [97] [51, 52, 53] = ([49, 50, 51, 52, 53], 2) := by simp [appendF, upd_same]
  have hM4 : upd (upd (fun _ => none) [97] (some ([49, 50], 2))) [97] (some ([49, 50, 51, 52, 53], 2)) = upd (fun _ => none) [97] (some ([49, 50, 51, 52, 53], 2)) := by
    funext k
    by_cases e : k = [97]
    · subst e; rw [upd_same, upd_same]
    · rw [upd_other _ _ e, upd_other _ _ e, upd_other _ _ e]
  rw [hE4, hF4, hM4, upd_same] at hd4
  simp only [if_true, Option.isSome_some, Bool.true_eq_false, and_false, if_false] at hd4
  rw [hE4]
  have H4 : Hid (w.grownBy w4 none ∧ DiskOK w4 (From w.heap.size) gd (upd (fun _ => none) [97] (some ([49, 50, 51, 52, 53], 2))) (0 + 1)) :=
    ⟨Ch.from (gb_none H3.out.1 (World.grownBy_alloc _ _ none)) hc4, hd4.from (by have := H3.out.1.size; simp; omega)⟩
  clear hc4 hd4 hE4 hF4 hM4 H3
  go_wp2_with fail
  refine (crash_ok _ (From w.heap.size) gd (0 + 1) _ _ [⟨[97], 1⟩] (H4.out.2.keep (World.grownBy_alloc _ _ none)) ?kps).mono ?_
  case kps =>
    refine ⟨_, _, rfl, by simp [maxLen], fun j hj => ?_⟩
    have hj0 : j = 0 := by simpa using hj
    subst hj0
    refine ⟨by simp [maxLen], by decide, _, _, rfl, ?_, ?_⟩
    · simp only [World.cell?, alloc_at]; rfl
    · simp only [World.cell?, alloc_at]; rfl
  rintro e w5 ⟨hc5, hcase⟩
  rcases hcase with ⟨-, rfl, hd5⟩ | ⟨hno, -⟩
  case inr => exact absurd kp_a hno
  have hM5 : crashM (upd (fun _ => none) [97] (some ([49, 50, 51, 52, 53], 2))) [⟨[97], 1⟩] (fun _ => false) = upd (fun _ => none) [97] (some ([49, 50, 51], 3)) := by
    funext k
    by_cases e : k = [97]
    · subst e
      unfold crashM
      rw [upd_same, upd_same]
      rfl
    · unfold crashM
      rw [upd_other _ _ e, upd_other _ _ e]
      rfl
  rw [hM5] at hd5
  have H5 : Hid (w.grownBy w5 none ∧ DiskOK w5 (From w.heap.size) gd (upd (fun _ => none) [97] (some ([49, 50, 51], 3))) (0 + 1)) :=
    ⟨Ch.from (gb_none H4.out.1 (World.grownBy_alloc _ _ none)) hc5, hd5.from (by have := H4.out.1.size; simp; omega)⟩
  clear hc5 hd5 hM5 H4
  go_wp2_with fail
  refine (read_ok _ (From w.heap.size) gd (0 + 1) _ [97] (by simp) H5.out.2).mono ?_
  rintro e w6 ⟨v6, rfl, ho6, hg6⟩
  have hb6 : bytesOf (upd (fun _ => none) [97] (some ([49, 50, 51], 3))) [97] = [49, 50, 51] := by simp [bytesOf, upd_same]
  rw [hb6] at ho6
  rw [findE_some name_a (upd_same _ _ _)]
  have hst := run_str ho6.rd
  have e3 : ByteArray.mk ⟨[49, 50, 51]⟩ = ByteArray.mk #[49, 50, 51] := rfl
  rw [e3] at hst
  obtain ⟨a6, c6, rfl⟩ := ho6.shape
  have hst3 : (convert 31 9 (.slice a6 3 c6)).run Try.prog w6 = .ok (.string (ByteArray.mk #[49, 50, 51])) w6 := hst
  have H6 : Hid (w.grownBy w6 none) := gb_none H5.out.1 hg6
  clear ho6 hg6 hb6 H5 e3 hst
  go_wp2
  go_ret
  exact ⟨rfl, H6.out⟩
end Go.Proofs.Ytgafmplmngbbfaa
