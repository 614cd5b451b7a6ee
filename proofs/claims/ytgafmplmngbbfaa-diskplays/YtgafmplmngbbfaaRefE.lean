/-
  Remove and Rename of the document's disk: the walks.
-/
import Derived.Test.YtgafmplmngbbfaaRefD
import Derived.Test.YtgafmplmngbbfaaDiskQ4
namespace Go.Proofs.Ytgafmplmngbbfaa
open Go.RowKit Go.Maps Go.WideMaps

/-- the document's disk with a file less -/
theorem outR_ok {w : World} {S : Nat → Prop} {gr k : Nat} {v : Value} {rs : List RF} {M : Fls} (h : RefW w S gr v rs) (hM : ∀ l, M l = lkR rs l) (hk : k < rs.length) :
    Calls Try.prog 54 #[.pointer (some ⟨gr, 0, none⟩), .int .i64 (k : Int)] w fun e w' => e = .returned (.agg #[.string (ByteArray.mk ⟨(rs.getD k rfZ).name⟩), (rs.getD k rfZ).val, .int .i64 ((rs.getD k rfZ).synced : Int)]) ∧ Ch w w' (fun k => k = gr) ∧ RefOK w' (Gr S w w') gr (upd M (rs.getD k rfZ).name none) (rs.length - 1) ∧ Rb w' (Gr S w w') (rs.getD k rfZ).val (rs.getD k rfZ).bytes := by
  refine (outR_any w S gr v rs k h hk).mono ?_
  rintro e w' ⟨he, hc, v', hW⟩
  have hsp := split_at hk
  have hlen : (rs.take k ++ rs.drop (k + 1)).length = rs.length - 1 := by
    rw [List.length_append, List.length_take, List.length_drop]; omega
  refine ⟨he, hc, ⟨v', _, hW, fun l => ?_, hlen⟩, ?_⟩
  · have hs := h.srt
    rw [hsp] at hs
    have := congrFun (lkR_del hs) l
    rw [this, ← hsp]
    have e : M = fun l => lkR rs l := funext hM
    rw [e]
  · have hb := h.each _ (getD_mem hk)
    refine ⟨hb.1.ch hc (fun b hb' _ e => (h.ne_val (getD_mem hk)).1 (by rw [hb', e])), fun b hb' => ?_⟩
    obtain ⟨h1, cur, fr, h2⟩ := hb.2 b hb'
    exact ⟨.inl h1, cur, fr, by rw [hc.block (some_lt h2) (fun e => (h.ne_val (getD_mem hk)).1 (by rw [hb', e]))]; exact h2⟩

set_option maxHeartbeats 1600000 in
theorem refRemove_fails (w : World) (gr : Nat) (s : ByteArray) (E : Nat) (hE : ((E : Int) == 0) = false) (HF : Hid (Calls Try.prog 53 #[.pointer (some ⟨gr, 0, none⟩), .string s] w fun e w' => e = .returned (.tuple #[.int .i64 0, .int .i64 (E : Int)]) ∧ w' = w)) :
    Calls Try.prog 38 #[.pointer (some ⟨gr, 0, none⟩), .string s] w fun e w' => e = .returned (.int .i64 (E : Int)) ∧ w' = w := by
  go_enter Try.func38, Try.ntmps38
  go_wp2_with fail
  refine HF.out.mono ?_
  rintro e w1 ⟨rfl, hw1⟩
  rw [hw1]
  clear hw1 w1
  go_wp2
  go_ret
  exact ⟨rfl, rfl⟩
set_option maxHeartbeats 1600000 in
theorem refRemove_at (w : World) (gr k : Nat) (s : ByteArray) (v : Value) (Q : World → Prop) (HF : Hid (Calls Try.prog 53 #[.pointer (some ⟨gr, 0, none⟩), .string s] w fun e w' => e = .returned (.tuple #[.int .i64 (k : Int), .int .i64 0]) ∧ w' = w))
    (HO : Hid (Calls Try.prog 54 #[.pointer (some ⟨gr, 0, none⟩), .int .i64 (k : Int)] w fun e w' => e = .returned v ∧ Q w')) :
    Calls Try.prog 38 #[.pointer (some ⟨gr, 0, none⟩), .string s] w fun e w' => e = .returned (.int .i64 0) ∧ Q w' := by
  go_enter Try.func38, Try.ntmps38
  go_wp2_with fail
  refine HF.out.mono ?_
  rintro e w1 ⟨rfl, hw1⟩
  rw [hw1]
  clear hw1 w1
  go_wp2_with fail
  refine HO.out.mono ?_
  rintro e w1 ⟨rfl, hq⟩
  have HQ : Hid (Q w1) := hq
  clear hq
  go_wp2
  go_ret
  exact ⟨rfl, HQ.out⟩
/-- REMOVE -/
theorem refRemove_ok (w : World) (S : Nat → Prop) (gr N : Nat) (M : Fls) (l : Bs) (hl : l.length ≤ 9223372036854775807) (h : RefOK w S gr M N) :
    Calls Try.prog 38 #[.pointer (some ⟨gr, 0, none⟩), .string (ByteArray.mk ⟨l⟩)] w fun e w' =>
      e = .returned (.int .i64 (findE M l : Int)) ∧ Ch w w' S ∧ RefOK w' (Gr S w w') gr (upd M l none) (if (M l).isSome then N - 1 else N) := by
  by_cases hE : findE M l = 0
  · obtain ⟨v, rs, hW, hM, rfl⟩ := h
    obtain ⟨k, hk, hnm, hMl, hf⟩ := refFind_yes w S gr v rs M l hl hW hM hE
    rw [hE, hMl]
    refine (refRemove_at w gr k _ _ _ hf ((outR_ok hW hM hk).mono (fun e w' h => ⟨h.1, h.2⟩))).mono ?_
    rintro e w' ⟨rfl, h1, h2, -⟩
    rw [hnm] at h2
    exact ⟨rfl, h1.mono (fun k _ e => by rw [e]; exact hW.inB), h2⟩
  · have hM := Hnone h hE
    have e1 : upd M l none = M := by
      funext l'
      by_cases e : l' = l
      · subst e; rw [upd_same, hM]
      · rw [upd_other _ _ e]
    rw [e1, hM]
    refine (refRemove_fails w gr _ (findE M l) (E_eq hE) (refFind_no w S gr N M l hl h hE)).mono ?_
    rintro e w' ⟨rfl, rfl⟩
    exact ⟨rfl, Ch.refl _ _, RefOK.gr h⟩
end Go.Proofs.Ytgafmplmngbbfaa
