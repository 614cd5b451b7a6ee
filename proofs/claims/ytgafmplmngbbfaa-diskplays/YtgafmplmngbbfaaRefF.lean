/-
  Rename of the document's disk: the walk.
-/
import Derived.Test.YtgafmplmngbbfaaRefE
namespace Go.Proofs.Ytgafmplmngbbfaa
open Go.RowKit Go.Maps Go.WideMaps

theorem hid_mk' {p : Prop} (h : p) : Hid p := h
theorem Rb.off_box {w w' : World} {S : Nat → Prop} {gr : Nat} {v x : Value} {l : Bs} (h : Rb w S v l) (hb : w.heap[gr]? = some (.cells #[x] 28)) (hc : Ch w w' (fun k => k = gr)) : Rb w' S v l := by
  have hne : v.ownBlock ≠ some gr := fun e => by
    obtain ⟨_, cur, fr, h2⟩ := h.2 gr e
    rw [hb] at h2
    simp at h2
  refine ⟨h.1.ch hc (fun b hb' _ e => hne (by rw [hb', e])), fun b hb' => ?_⟩
  obtain ⟨h1, cur, fr, h2⟩ := h.2 b hb'
  exact ⟨h1, cur, fr, by rw [hc.block (some_lt h2) (fun e => hne (by rw [hb', e]))]; exact h2⟩
theorem RefOK.box {w : World} {S : Nat → Prop} {gr N : Nat} {M : Fls} (h : RefOK w S gr M N) : ∃ x, w.heap[gr]? = some (.cells #[x] 28) ∧ S gr := by
  obtain ⟨v, rs, hW, -, -⟩ := h
  exact ⟨v, hW.box, hW.inB⟩
theorem putR_in (w : World) (S : Nat → Prop) (gr N : Nat) (M : Fls) (r : RF) (h : RefOK w S gr M N) (hr : Rb w S r.val r.bytes) (hf : nameOk r.name = true ∧ r.synced ≤ r.bytes.length ∧ r.bytes.length ≤ 1048576) (hno : M r.name = none) (hlt : N < 256) :
    Calls Try.prog 50 #[.pointer (some ⟨gr, 0, none⟩), .agg #[.string (ByteArray.mk ⟨r.name⟩), r.val, .int .i64 (r.synced : Int)]] w fun e w' => e = .returned (.tuple #[]) ∧ Ch w w' S ∧ RefOK w' (Gr S w w') gr (upd M r.name (some (r.bytes, r.synced))) (N + 1) := by
  obtain ⟨v, rs, hW, hM, rfl⟩ := h
  have hn : ∀ q ∈ rs, q.name ≠ r.name := by
    rcases posR_cases rs r.name with ⟨-, h, -⟩ | ⟨k, -, -, -, h⟩
    · exact h
    · rw [hM, h] at hno; cases hno
  refine (putR_ok w S gr v rs r hW hr hf hn hlt).mono ?_
  rintro e w' ⟨he, hc, v', K, hW'⟩
  refine ⟨he, hc.mono (fun k _ e => by rw [e]; exact hW.inB), v', _, hW', fun l => ?_, ?_⟩
  · have := congrFun (lkR_ins hW'.srt) l
    rw [this, List.take_append_drop]
    have e : M = fun l => lkR rs l := funext hM
    rw [e]
  · rw [List.length_append, List.length_cons, List.length_take, List.length_drop]; omega
theorem atR_ok (w : World) (S : Nat → Prop) (gr N : Nat) (M : Fls) (l : Bs) (h : RefOK w S gr M N) : ∃ p : Int, ((p = -1 ∧ M l = none) ∨ ∃ k : Nat, p = (k : Int) ∧ (M l).isSome = true ∧ ∃ c, M l = some c ∧ 0 < N ∧ Calls Try.prog 54 #[.pointer (some ⟨gr, 0, none⟩), .int .i64 (k : Int)] w fun e w' => ∃ v, e = .returned v ∧ Ch w w' (fun k => k = gr) ∧ RefOK w' (Gr S w w') gr (upd M l none) (N - 1)) ∧
    Calls Try.prog 49 #[.pointer (some ⟨gr, 0, none⟩), .string (ByteArray.mk ⟨l⟩)] w fun e w' => e = .returned (.int .i64 p) ∧ w' = w := by
  obtain ⟨v, rs, hW, hM, rfl⟩ := h
  have hA := at_any w S gr v rs l hW
  refine ⟨posR rs l, ?_, hA⟩
  rcases posR_cases rs l with ⟨h1, -, h3⟩ | ⟨k, h1, h2, h3, h4⟩
  · exact .inl ⟨h1, by rw [hM, h3]⟩
  · refine .inr ⟨k, h1, by rw [hM, h4]; rfl, _, by rw [hM, h4], by omega, ?_⟩
    refine (outR_ok hW hM h2).mono ?_
    rintro e w' ⟨he, h5, h6, -⟩
    rw [h3] at h6
    exact ⟨_, he, h5, h6⟩

set_option maxHeartbeats 1600000 in
theorem refRename_bad1 (w : World) (gr : Nat) (s t : ByteArray) (H1 : Hid (∀ w', Calls Try.prog 24 #[.string s] w' fun e w'' => e = .returned (.bool false) ∧ w'' = w')) :
    Calls Try.prog 37 #[.pointer (some ⟨gr, 0, none⟩), .string s, .string t] w fun e w' => e = .returned (.int .i64 40) ∧ w' = w := by
  go_enter Try.func37, Try.ntmps37
  go_wp2_with fail
  refine (H1.out _).mono ?_
  rintro e w1 ⟨rfl, hw1⟩
  rw [hw1]
  clear hw1 w1
  go_wp2
  go_ret
  exact ⟨rfl, rfl⟩
set_option maxHeartbeats 1600000 in
theorem refRename_bad2 (w : World) (gr : Nat) (s t : ByteArray) (H1 : Hid (∀ w', Calls Try.prog 24 #[.string s] w' fun e w'' => e = .returned (.bool true) ∧ w'' = w')) (H2 : Hid (∀ w', Calls Try.prog 24 #[.string t] w' fun e w'' => e = .returned (.bool false) ∧ w'' = w')) :
    Calls Try.prog 37 #[.pointer (some ⟨gr, 0, none⟩), .string s, .string t] w fun e w' => e = .returned (.int .i64 40) ∧ w' = w := by
  go_enter Try.func37, Try.ntmps37
  go_wp2_with fail
  refine (H1.out _).mono ?_
  rintro e w1 ⟨rfl, hw1⟩
  rw [hw1]
  clear hw1 w1
  go_wp2_with fail
  refine (H2.out _).mono ?_
  rintro e w1 ⟨rfl, hw1⟩
  rw [hw1]
  clear hw1 w1
  go_wp2
  go_ret
  exact ⟨rfl, rfl⟩
set_option maxHeartbeats 1600000 in
theorem refRename_no (w : World) (gr : Nat) (s t : ByteArray) (E : Nat) (k : Int) (hE : ((E : Int) != 0) = true ∨ (E = 0 ∧ (s.toList == t.toList) = true)) (H1 : Hid (∀ w', Calls Try.prog 24 #[.string s] w' fun e w'' => e = .returned (.bool true) ∧ w'' = w')) (H2 : Hid (∀ w', Calls Try.prog 24 #[.string t] w' fun e w'' => e = .returned (.bool true) ∧ w'' = w'))
    (HF : Hid (Calls Try.prog 53 #[.pointer (some ⟨gr, 0, none⟩), .string s] w fun e w' => e = .returned (.tuple #[.int .i64 k, .int .i64 (E : Int)]) ∧ w' = w)) :
    Calls Try.prog 37 #[.pointer (some ⟨gr, 0, none⟩), .string s, .string t] w fun e w' => e = .returned (.int .i64 (E : Int)) ∧ w' = w := by
  rcases hE with hE | ⟨rfl, hE⟩
  · go_enter Try.func37, Try.ntmps37
    go_wp2_with fail
    refine (H1.out _).mono ?_
    rintro e w1 ⟨rfl, hw1⟩
    rw [hw1]
    clear hw1 w1
    go_wp2_with fail
    refine (H2.out _).mono ?_
    rintro e w1 ⟨rfl, hw1⟩
    rw [hw1]
    clear hw1 w1
    go_wp2_with fail
    refine HF.out.mono ?_
    rintro e w1 ⟨rfl, hw1⟩
    rw [hw1]
    clear hw1 w1
    go_wp2
    go_ret
    exact ⟨rfl, rfl⟩
  · go_enter Try.func37, Try.ntmps37
    go_wp2_with fail
    refine (H1.out _).mono ?_
    rintro e w1 ⟨rfl, hw1⟩
    rw [hw1]
    clear hw1 w1
    go_wp2_with fail
    refine (H2.out _).mono ?_
    rintro e w1 ⟨rfl, hw1⟩
    rw [hw1]
    clear hw1 w1
    go_wp2_with fail
    refine HF.out.mono ?_
    rintro e w1 ⟨rfl, hw1⟩
    rw [hw1]
    clear hw1 w1
    go_wp2
    go_ret
    exact ⟨rfl, rfl⟩

set_option maxRecDepth 8000 in
set_option maxHeartbeats 3200000 in
theorem refRename_at (w : World) (S : Nat → Prop) (gr N k : Nat) (M : Fls) (l t : Bs) (s0 : ByteArray) (c : Bs) (z : Nat) (va : Option Addr) (vl vc : Nat) (hS : ∀ k, S k → k < w.heap.size) (hok : nameOk t = true) (hc : z ≤ c.length ∧ c.length ≤ 1048576) (hN : N ≤ 256) (hN0 : 0 < N) (hgr : S gr)
    (HE : Hid (∀ s1, ByteArray.mk ⟨t⟩ = s1 → (s0.toList == s1.toList) = false))
    (H1 : Hid (∀ w', Calls Try.prog 24 #[.string s0] w' fun e w'' => e = .returned (.bool true) ∧ w'' = w')) (H2 : Hid (∀ w', Calls Try.prog 24 #[.string (ByteArray.mk ⟨t⟩)] w' fun e w'' => e = .returned (.bool true) ∧ w'' = w'))
    (HF : Hid (Calls Try.prog 53 #[.pointer (some ⟨gr, 0, none⟩), .string s0] w fun e w' => e = .returned (.tuple #[.int .i64 (k : Int), .int .i64 0]) ∧ w' = w))
    (HO : Hid (∀ W, w.grownBy W none → Calls Try.prog 54 #[.pointer (some ⟨gr, 0, none⟩), .int .i64 (k : Int)] W fun e w' => e = .returned (.agg #[.string s0, .slice va vl vc, .int .i64 (z : Int)]) ∧ Ch W w' (fun k => k = gr) ∧ RefOK w' (Gr S W w') gr (upd M l none) (N - 1) ∧ Rb w' (Gr S W w') (.slice va vl vc) c)) :
    Calls Try.prog 37 #[.pointer (some ⟨gr, 0, none⟩), .string s0, .string (ByteArray.mk ⟨t⟩)] w fun e w' => e = .returned (.int .i64 0) ∧ Ch w w' S ∧ RefOK w' (Gr S w w') gr (upd (upd M l none) t (some (c, z))) (N - 1 + (if (upd M l none t).isSome then 0 else 1)) := by
  have HX : Hid ((∀ k, S k → k < w.heap.size) ∧ nameOk t = true ∧ (z ≤ c.length ∧ c.length ≤ 1048576) ∧ N ≤ 256 ∧ 0 < N ∧ S gr) := ⟨hS, hok, hc, hN, hN0, hgr⟩
  clear hS hok hc hN hN0 hgr
  generalize hNN : (N - 1 + (if (upd M l none t).isSome then 0 else 1)) = NN
  have HNN : Hid ((N - 1 + (if (upd M l none t).isSome then 0 else 1)) = NN) := hNN
  clear hNN
  generalize hs1 : ByteArray.mk ⟨t⟩ = s1 at *
  have HS1 : Hid (ByteArray.mk ⟨t⟩ = s1) := hs1
  have hse := HE.out s1 rfl
  clear hs1 HE
  go_enter Try.func37, Try.ntmps37
  go_wp2_with fail
  refine (H1.out _).mono ?_
  rintro e w1 ⟨rfl, hw1⟩
  rw [hw1]
  clear hw1 w1
  go_wp2_with fail
  refine (H2.out _).mono ?_
  rintro e w1 ⟨rfl, hw1⟩
  rw [hw1]
  clear hw1 w1
  go_wp2_with fail
  refine HF.out.mono ?_
  rintro e w1 ⟨rfl, hw1⟩
  rw [hw1]
  clear hw1 w1
  go_wp2_with fail
  refine (HO.out _ (gb_refl _ _)).mono ?_
  rintro e w1 ⟨rfl, hc1, hr1, hb1⟩
  have hgA : w1.grownBy (w1.alloc (.cells #[.string s1, .slice va vl vc, .int .i64 (z : Int)] 56)) none := World.grownBy_alloc _ _ none
  have hr2 := hr1.keep hgA
  have hb2 : Rb (w1.alloc (.cells #[.string s1, .slice va vl vc, .int .i64 (z : Int)] 56)) (Gr S w w1) (.slice va vl vc) c := hb1.frame (T := fun _ => False) (Ch.of_gb hgA (fun k hk => by cases hk)) (fun _ _ _ => id)
  obtain ⟨x, hx, -⟩ := hr1.box
  have hz1 := hc1.size
  obtain ⟨p, hp, hat⟩ := atR_ok _ _ gr _ _ t hr2
  rw [HS1.out] at hat
  rcases hp with ⟨rfl, hnone⟩ | ⟨kk, rfl, -, ct, hct, hN1, hout⟩
  · have HAt := hid_mk' hat
    have HP := hid_mk' (putR_in _ (Gr S w w1) gr (N - 1) (upd M l none) ⟨t, .slice va vl vc, c, z⟩ hr2 hb2 ⟨HX.out.2.1, HX.out.2.2.1⟩ hnone (by have := HX.out; omega))
    have HY : Hid (Ch w w1 (fun k => k = gr) ∧ upd M l none t = none ∧ w.heap.size ≤ w1.heap.size) := ⟨hc1, hnone, hz1⟩
    simp only [HS1.out] at HP
    clear hc1 hr1 hb1 hr2 hb2 hgA hx hz1 hat hnone
    go_wp2_with fail
    refine HAt.out.mono ?_
    rintro e w2 ⟨rfl, hw2⟩
    rw [hw2]
    clear hw2 w2
    go_wp2_with fail
    refine HP.out.mono ?_
    rintro e w2 ⟨rfl, hc2, hr3⟩
    have HZ : Hid (Ch w w2 S ∧ RefOK w2 (Gr S w w2) gr (upd (upd M l none) t (some (c, z))) NN) := by
      obtain ⟨y1, y2, y3⟩ := HY.out
      have hs2 := hc2.size
      have hsa : (w1.alloc (.cells #[.string s1, .slice va vl vc, .int .i64 (z : Int)] 56)).heap.size = w1.heap.size + 1 := by simp
      refine ⟨((y1.mono (T := S) (fun k _ e => by rw [e]; exact HX.out.2.2.2.2.2)).trans (Ch.of_gb (S := fun _ => False) (World.grownBy_alloc w1 _ none) (fun k hk => by cases hk)) (fun _ _ h => h.elim)).trans hc2 (fun k hk h => ?_), ?_⟩
      · rcases h with h | h
        · exact h
        · omega
      · rw [← HNN.out, y2]
        refine hr3.mono (fun k hk h => ?_)
        rcases h with (h | h) | h
        · exact .inl h
        · exact .inr ⟨h.1, hk⟩
        · exact .inr ⟨by omega, hk⟩
    clear hc2 hr3 HY HP
    go_wp2
    go_ret
    exact ⟨rfl, HZ.out⟩
  · have HAt := hid_mk' hat
    have HOut := hid_mk' hout
    have HY : Hid (Ch w w1 (fun k => k = gr) ∧ upd M l none t = some ct ∧ w.heap.size ≤ w1.heap.size ∧ 0 < N - 1) := ⟨hc1, hct, hz1, hN1⟩
    have hxA : (w1.alloc (.cells #[.string s1, .slice va vl vc, .int .i64 (z : Int)] 56)).heap[gr]? = some (.cells #[x] 28) := by rw [hgA.block gr (some_lt hx) (by simp)]; exact hx
    have HB : Hid (Rb (w1.alloc (.cells #[.string s1, .slice va vl vc, .int .i64 (z : Int)] 56)) (Gr S w w1) (.slice va vl vc) c ∧ (w1.alloc (.cells #[.string s1, .slice va vl vc, .int .i64 (z : Int)] 56)).heap[gr]? = some (.cells #[x] 28) ∧ gr < w1.heap.size) := ⟨hb2, hxA, some_lt hx⟩
    clear hc1 hr1 hb1 hr2 hb2 hgA hx hz1 hat hct hN1 hout hxA
    go_wp2_with fail
    refine HAt.out.mono ?_
    rintro e w2 ⟨rfl, hw2⟩
    rw [hw2]
    clear hw2 w2
    go_wp2_with fail
    refine HOut.out.mono ?_
    rintro e w2 ⟨v2, rfl, hc2, hr2⟩
    have hs2 := hc2.size
    have hsa : (w1.alloc (.cells #[.string s1, .slice va vl vc, .int .i64 (z : Int)] 56)).heap.size = w1.heap.size + 1 := by simp
    have hblk : w2.heap[w1.heap.size]? = some (.cells #[.string s1, .slice va vl vc, .int .i64 (z : Int)] 56) := by
      rw [hc2.block (by omega) (fun e => by have e' : w1.heap.size = gr := e; have := HB.out.2.2; omega)]
      exact alloc_at _ _
    have e0 : w2.cell? ⟨w1.heap.size, 0, none⟩ = some (.string s1) := by simp [World.cell?, hblk]
    have e1 : w2.cell? ⟨w1.heap.size, 1, none⟩ = some (.slice va vl vc) := by simp [World.cell?, hblk]
    have e2 : w2.cell? ⟨w1.heap.size, 2, none⟩ = some (.int .i64 (z : Int)) := by simp [World.cell?, hblk]
    have hb3 := HB.out.1.off_box HB.out.2.1 hc2
    have HP := hid_mk' (putR_in w2 _ gr (N - 1 - 1) (upd (upd M l none) t none) ⟨t, .slice va vl vc, c, z⟩ hr2 (hb3.mono (fun k _ h => .inl h)) ⟨HX.out.2.1, HX.out.2.2.1⟩ (upd_same _ _ _) (by have := HX.out; omega))
    simp only [HS1.out, upd_upd] at HP
    have HC2 := hid_mk' hc2
    have HS2 := hid_mk' hs2
    clear hc2 hr2 hb3 hblk hs2 hsa
    go_wp2_with fail
    refine HP.out.mono ?_
    rintro e w3 ⟨rfl, hc3, hr3⟩
    have HZ : Hid (Ch w w3 S ∧ RefOK w3 (Gr S w w3) gr (upd (upd M l none) t (some (c, z))) NN) := by
      obtain ⟨y1, y2, y3, y4⟩ := HY.out
      have hs3 := hc3.size
      have hs2 := HS2.out
      have hsa : (w1.alloc (.cells #[.string s1, .slice va vl vc, .int .i64 (z : Int)] 56)).heap.size = w1.heap.size + 1 := by simp
      refine ⟨(((y1.mono (T := S) (fun k _ e => by rw [e]; exact HX.out.2.2.2.2.2)).trans (Ch.of_gb (S := fun _ => False) (World.grownBy_alloc w1 _ none) (fun k hk => by cases hk)) (fun _ _ h => h.elim)).trans HC2.out (fun k _ e => by rw [show k = gr from e]; exact HX.out.2.2.2.2.2)).trans hc3 (fun k hk h => ?_), ?_⟩
      · rcases h with (h | h) | h
        · exact h
        · omega
        · omega
      · have hnn : N - 1 - 1 + 1 = NN := by rw [← HNN.out, y2]; simp; omega
        rw [← hnn]
        refine hr3.mono (fun k hk h => ?_)
        rcases h with ((h | h) | h) | h
        · exact .inl h
        · exact .inr ⟨h.1, hk⟩
        · exact .inr ⟨by omega, hk⟩
        · exact .inr ⟨by omega, hk⟩
    clear hc3 hr3 HY HP
    go_wp2
    go_ret
    exact ⟨rfl, HZ.out⟩

/-- RENAME -/
theorem refRename_ok (w : World) (S : Nat → Prop) (gr N : Nat) (M : Fls) (l t : Bs) (hl : l.length ≤ 9223372036854775807) (ht : t.length ≤ 9223372036854775807) (h : RefOK w S gr M N) :
    Calls Try.prog 37 #[.pointer (some ⟨gr, 0, none⟩), .string (ByteArray.mk ⟨l⟩), .string (ByteArray.mk ⟨t⟩)] w fun e w' =>
      e = .returned (.int .i64 (renameE M l t : Int)) ∧ Ch w w' S ∧ RefOK w' (Gr S w w') gr (renameM M l t) (renameN M l t N) := by
  have stay : ∀ E : Nat, renameE M l t = E → E ≠ 0 → (∀ e w', e = Ending.returned (.int .i64 (E : Int)) ∧ w' = w → e = .returned (.int .i64 (renameE M l t : Int)) ∧ Ch w w' S ∧ RefOK w' (Gr S w w') gr (renameM M l t) (renameN M l t N)) := by
    rintro E hE h0 e w' ⟨rfl, rfl⟩
    have e1 : renameM M l t = M := if_neg (by rw [hE]; exact h0)
    have e2 : renameN M l t N = N := if_neg (by rw [hE]; exact h0)
    rw [e1, e2, hE]
    exact ⟨rfl, Ch.refl _ _, RefOK.gr h⟩
  have H1 := fun w' => refName_any l w' hl
  have H2 := fun w' => refName_any t w' ht
  by_cases hok : nameOk l = true
  · rw [hok] at H1
    by_cases hot : nameOk t = true
    · rw [hot] at H2
      by_cases hE : findE M l = 0
      · obtain ⟨v, rs, hW0, hM, rfl⟩ := h
        have hW := hW0.mono (T := fun k => S k ∧ k < w.heap.size) (fun k hk hs => ⟨hs, hk⟩)
        obtain ⟨k, hk, hnm, hMl, hf⟩ := refFind_yes w _ gr v rs M l hl hW hM hE
        have hR : renameE M l t = 0 := by simp [renameE, hok, hot, hMl]
        have e1 : renameM M l t = upd (upd M l none) t (M l) := if_pos hR
        have e2 : renameN M l t rs.length = rs.length - 1 + (if (upd M l none t).isSome then 0 else 1) := if_pos hR
        have hfit := hW.fits _ (getD_mem hk)
        by_cases hlt : l = t
        · subst hlt
          refine (refRename_no w gr _ _ 0 (k : Int) (.inr ⟨rfl, by simp⟩) H1 H2 hf).mono ?_
          rintro e w' ⟨rfl, rfl⟩
          have e3 : upd (upd M l none) l (M l) = M := by
            funext l'
            by_cases e : l' = l
            · subst e; rw [upd_same]
            · rw [upd_other _ _ e, upd_other _ _ e]
          rw [hR, e1, e2, e3, upd_same]
          have e4 : rs.length - 1 + (if (none : Option (Bs × Nat)).isSome then 0 else 1) = rs.length := by simp; omega
          rw [e4]
          exact ⟨rfl, Ch.refl _ _, RefOK.gr ⟨v, rs, hW0, hM, rfl⟩⟩
        · obtain ⟨a1, c1, hval⟩ : ∃ a1 c1, (rs.getD k rfZ).val = .slice a1 (rs.getD k rfZ).bytes.length c1 := by obtain ⟨⟨a, c, e, _⟩, _⟩ := hW.each _ (getD_mem hk); exact ⟨a, c, e⟩
          rw [hR, e1, e2, hMl]
          refine (refRename_at w (fun k => S k ∧ k < w.heap.size) gr rs.length k M l t (ByteArray.mk ⟨l⟩) (rs.getD k rfZ).bytes (rs.getD k rfZ).synced a1 (rs.getD k rfZ).bytes.length c1 (fun k h => h.2) hot hfit.2 hW.most (by omega) hW.inB (fun s1 hs => by rw [← hs, str_eq]; exact decide_eq_false hlt) H1 H2 hf (fun W hg => ?_)).mono ?_
          · have hW' := hW.frame (T := fun _ => False) (Ch.of_gb hg (fun k hk => by cases hk)) (fun _ _ _ => id)
            have ho := outR_ok hW' hM hk
            rw [hnm, hval] at ho
            exact ho
          · rintro e w' ⟨rfl, h1, h2⟩
            exact ⟨rfl, h1.mono (fun k _ h => h.1), h2.mono (fun k hk h => h.elim (fun h => .inl h.1) .inr)⟩
      · have hn := Hnone h hE
        have hR : renameE M l t = 5 := by simp [renameE, hok, hot, hn]
        have h5 : findE M l = 5 := by
          rcases findE_cases M l with ⟨h0, _⟩ | ⟨h0, _⟩ | ⟨h0, h1⟩
          · exact absurd h0 hE
          · exact h0
          · rw [hok] at h1; cases h1
        refine (refRename_no w gr _ _ (findE M l) 0 (.inl (E_ne hE)) H1 H2 (refFind_no w S gr N M l hl h hE)).mono ?_
        rw [h5]
        exact stay 5 hR (by omega)
    · have hot' : nameOk t = false := by simpa using hot
      rw [hot'] at H2
      exact (refRename_bad2 w gr _ _ H1 H2).mono (stay 40 (by simp [renameE, hot']) (by omega))
  · have hok' : nameOk l = false := by simpa using hok
    rw [hok'] at H1
    exact (refRename_bad1 w gr _ _ H1).mono (stay 40 (by simp [renameE, hok']) (by omega))
end Go.Proofs.Ytgafmplmngbbfaa
