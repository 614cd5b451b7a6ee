/-
  One call of both disks: step: the walks. Crash; Read and Size.
-/
import Derived.Test.YtgafmplmngbbfaaDStep
namespace Go.Proofs.Ytgafmplmngbbfaa
open Go.RowKit Go.Maps Go.WideMaps Go.Sort

def crashE (ks : List Kp) : Nat := if KpOk ks then 0 else 1
def crashN (M : Fls) (ks : List Kp) : Fls := if KpOk ks then crashM M ks (fun _ => false) else M
set_option maxRecDepth 8000 in
set_option maxHeartbeats 3200000 in
theorem step_crash (w0 wr : World) (gd gr N : Nat) (M : Fls) (s s2 : ByteArray) (vB : Value) (n : Int) (va : Option Addr) (vc : Nat) (ks : List Kp) (hv : KpsIn w0 (.slice va ks.length vc) ks) (hnil : va = none → vc = 0) (hL : ks.length ≤ 5864062014634) (Sd Sr : Nat → Prop) (h : DuoW w0 wr Sd Sr gd gr M N M N) :
    Calls Try.prog 12 #[.pointer (some ⟨gd, 0, none⟩), .pointer (some ⟨gr, 0, none⟩), .agg #[.int .i64 5, .string s, .string s2, vB, .int .i64 n, .slice va ks.length vc]] wr fun e w' => e = .returned (.bool true) ∧ DuoX w0 wr w' Sd Sr gd gr (crashN M ks) N := by
  obtain ⟨M', hM'⟩ : ∃ M', M' = crashN M ks := ⟨_, rfl⟩
  obtain ⟨E, hE⟩ : ∃ E : Nat, E = crashE ks := ⟨_, rfl⟩
  have HD : Hid (∀ W, AtW wr W #[.int .i64 5, .string s, .string s2, vB, .int .i64 n, .slice va ks.length vc] → Calls Try.prog 39 #[.pointer (some ⟨gd, 0, none⟩), .slice va ks.length vc] W fun e w' => e = .returned (.tuple #[.int .i64 (E : Int), .bool true]) ∧ Hid (LeftX w0 wr w' Sd Sr gd gr M' N M N ∧ w'.heap[wr.heap.size]? = some (.cells #[.int .i64 5, .string s, .string s2, vB, .int .i64 n, .slice va ks.length vc] 34)) ∧ w'.cell? ⟨wr.heap.size, 5, none⟩ = some (.slice va ks.length vc)) := fun W hW => by
    have hg := hW.1
    have hsz := hg.size
    refine (crashL_any W Sd gd N M va vc ks (fun k hk => by have := (h.bd k hk).2.1; omega) (h.d.keep hg) (hv.keep (gb_none h.g hg)) hnil hL (fun hne k hk hs => by have := hv.lt0 hne k hk; have := (h.bd k hs).1; omega)).mono ?_
    rintro e w' ⟨h2, h3⟩
    have h4 : e = .returned (.tuple #[.int .i64 (E : Int), .bool true]) ∧ DiskOK w' (Gr Sd W w') gd M' N := by
      rcases h3 with ⟨hk, he, hd⟩ | ⟨hk, he, hd⟩
      · rw [hM', hE, crashE, crashN, if_pos hk, if_pos hk]; exact ⟨he, hd⟩
      · rw [hM', hE, crashE, crashN, if_neg hk, if_neg hk]; exact ⟨he, hd⟩
    have hl := h.leftD hg h2 h4.2
    have hb := (hl.2 wr.heap.size (Nat.le_refl _) (some_lt hW.2)).trans hW.2
    exact ⟨h4.1, ⟨hl.1, hb⟩, by simp [World.cell?, hb]⟩
  have HR : Hid (∀ W, LeftX w0 wr W Sd Sr gd gr M' N M N ∧ W.heap[wr.heap.size]? = some (.cells #[.int .i64 5, .string s, .string s2, vB, .int .i64 n, .slice va ks.length vc] 34) → Calls Try.prog 40 #[.pointer (some ⟨gr, 0, none⟩), .slice va ks.length vc] W fun e w' => e = .returned (.int .i64 (E : Int)) ∧ Hid (DuoX w0 wr w' Sd Sr gd gr M' N) ∧ w'.cell? ⟨wr.heap.size, 5, none⟩ = some (.slice va ks.length vc)) := fun W hW => by
    obtain ⟨⟨Sd', hd, hx1, hx2⟩, hb0⟩ := hW
    have hr := hd.r
    obtain ⟨v, rs, hW2, hM2, hN2⟩ := hr
    refine (refCrash_any W Sr gr v rs M va vc ks hW2 hM2 (hv.keep hd.g) (fun hne k hk hs => by have := hv.lt0 hne k hk; have := (h.br k hs).1; omega)).mono ?_
    rintro e w' ⟨h2, h3⟩
    rw [hN2] at h3
    have h4 : e = .returned (.int .i64 (E : Int)) ∧ RefOK w' (Gr Sr W w') gr M' N := by
      rcases h3 with ⟨hk, he, hd⟩ | ⟨hk, he, hd⟩
      · rw [hM', hE, crashE, crashN, if_pos hk, if_pos hk]; exact ⟨he, hd⟩
      · rw [hM', hE, crashE, crashN, if_neg hk, if_neg hk]; exact ⟨he, hd⟩
    have hb := (h2.block (some_lt hb0) (fun hk => by have := (h.br _ hk).2; omega)).trans hb0
    exact ⟨h4.1, hd.leftR hx1 hx2 h2 h4.2, by simp [World.cell?, hb]⟩
  have HA : Hid (AtW wr (wr.alloc (.cells #[.int .i64 5, .string s, .string s2, vB, .int .i64 n, .slice va ks.length vc] 34)) #[.int .i64 5, .string s, .string s2, vB, .int .i64 n, .slice va ks.length vc]) := ⟨World.grownBy_alloc _ _ none, alloc_at _ _⟩
  rw [← hM']
  clear hM' hE h hv hnil hL
  generalize ks.length = KL at *
  go_enter Try.func12, Try.ntmps12
  go_wp2_with fail
  refine (HD.out _ HA.out).mono ?_
  rintro e w2 ⟨rfl, H2, c5⟩
  generalize hb0 : wr.heap.size = b0 at *
  clear hb0
  go_wp2_with fail
  refine (HR.out _ H2.out).mono ?_
  rintro e w3 ⟨rfl, H3, e1⟩
  go_wp2
  go_ret
  exact ⟨rfl, H3.out⟩

set_option maxRecDepth 8000 in
set_option maxHeartbeats 3200000 in
theorem step_read (w0 wr : World) (gd gr N : Nat) (M : Fls) (nm : Bs) (s2 : ByteArray) (vB vK : Value) (kd n : Int) (hkd : kd < 0 ∨ 5 < kd) (hn : nm.length ≤ 9223372036854775807) (Sd Sr : Nat → Prop) (h : DuoW w0 wr Sd Sr gd gr M N M N) :
    Calls Try.prog 12 #[.pointer (some ⟨gd, 0, none⟩), .pointer (some ⟨gr, 0, none⟩), .agg #[.int .i64 kd, .string (ByteArray.mk ⟨nm⟩), .string s2, vB, .int .i64 n, vK]] wr fun e w' => e = .returned (.bool true) ∧ DuoX w0 wr w' Sd Sr gd gr M N := by
  obtain ⟨E, hE⟩ : ∃ E : Nat, E = findE M nm := ⟨_, rfl⟩
  obtain ⟨LB, hLB⟩ : ∃ E : Nat, E = (bytesOf M nm).length := ⟨_, rfl⟩
  obtain ⟨Z, hZ⟩ : ∃ E : Nat, E = syncedOf M nm := ⟨_, rfl⟩
  obtain ⟨s, hs⟩ : ∃ s, s = ByteArray.mk ⟨nm⟩ := ⟨_, rfl⟩
  have hlb : (bytesOf M nm).length ≤ 1048576 := by
    obtain ⟨v, rs, hW, hM, -⟩ := h.r
    unfold bytesOf
    rw [hM]
    rcases posR_cases rs nm with ⟨-, -, h3⟩ | ⟨k, -, h2, -, h4⟩
    · rw [h3]; simp
    · rw [h4]; exact (hW.fits _ (getD_mem h2)).2.2
  have H1 : Hid (∀ W, wr.grownBy W none → Calls Try.prog 21 #[.pointer (some ⟨gd, 0, none⟩), .string s] W fun e w' => ∃ v, e = .returned (.tuple #[v, .int .i64 (E : Int)]) ∧ Hid (Own w' wr.heap.size v (bytesOf M nm) ∧ W.grownBy w' none)) := fun W hg => by
    rw [hs, hE]
    refine (read_ok W Sd gd N M nm hn (h.d.keep hg)).mono ?_
    rintro e w' ⟨v, h1, h2, h3⟩
    exact ⟨v, h1, h2.mono hg.size, h3⟩
  have H2 : Hid (∀ W, wr.grownBy W none → Calls Try.prog 41 #[.pointer (some ⟨gr, 0, none⟩), .string s] W fun e w' => ∃ v, e = .returned (.tuple #[v, .int .i64 (E : Int)]) ∧ Hid (Rd w' v (bytesOf M nm) ∧ W.grownBy w' none)) := fun W hg => by
    rw [hs, hE]
    refine (refRead_ok W Sr gr N M nm hn (h.r.keep hg)).mono ?_
    rintro e w' ⟨v, h1, h2, h3⟩
    exact ⟨v, h1, h2.rd, h3⟩
  have H3 : Hid (∀ W, wr.grownBy W none → Calls Try.prog 22 #[.pointer (some ⟨gd, 0, none⟩), .string s] W fun e w' => e = .returned (.tuple #[.int .i64 (LB : Int), .int .i64 (Z : Int), .int .i64 (E : Int)]) ∧ Hid (W.grownBy w' none)) := fun W hg => by
    rw [hs, hE, hLB, hZ]
    refine (size_ok W Sd gd N M nm hn (h.d.keep hg)).mono ?_
    rintro e w' ⟨h1, h2⟩
    exact ⟨h1, by first | exact h2 | (rw [h2]; exact gb_refl _ _)⟩
  have H4 : Hid (∀ W, wr.grownBy W none → Calls Try.prog 42 #[.pointer (some ⟨gr, 0, none⟩), .string s] W fun e w' => e = .returned (.tuple #[.int .i64 (LB : Int), .int .i64 (Z : Int), .int .i64 (E : Int)]) ∧ Hid (W.grownBy w' none)) := fun W hg => by
    rw [hs, hE, hLB, hZ]
    refine (refSize_ok W Sr gr N M nm hn (h.r.keep hg)).mono ?_
    rintro e w' ⟨h1, h2⟩
    exact ⟨h1, h2⟩
  have HE : Hid (∀ W, wr.grownBy W none → DuoX w0 wr W Sd Sr gd gr M N) := fun W hg => ⟨Sd, Sr, h.keep hg, Ch.of_gb hg (fun k hk => by cases hk), fun _ _ h => h, fun _ _ h => h⟩
  have HB := hid_mk' hlb
  rw [← hs]
  clear hE hLB hZ hs h hlb hn
  generalize bytesOf M nm = bs at *
  have hk0 : (kd == 0) = false := by rw [beq_eq_false_iff_ne]; omega
  have hk1 : (kd == 1) = false := by rw [beq_eq_false_iff_ne]; omega
  have hk2 : (kd == 2) = false := by rw [beq_eq_false_iff_ne]; omega
  have hk3 : (kd == 3) = false := by rw [beq_eq_false_iff_ne]; omega
  have hk4 : (kd == 4) = false := by rw [beq_eq_false_iff_ne]; omega
  have hk5 : (kd == 5) = false := by rw [beq_eq_false_iff_ne]; omega
  clear hkd
  go_enter Try.func12, Try.ntmps12
  go_wp2_with fail
  have hgA : wr.grownBy (wr.alloc (.cells #[.int .i64 kd, .string s, .string s2, vB, .int .i64 n, vK] 34)) none := World.grownBy_alloc _ _ none
  have cA : (wr.alloc (.cells #[.int .i64 kd, .string s, .string s2, vB, .int .i64 n, vK] 34)).cell? ⟨wr.heap.size, 1, none⟩ = some (.string s) := by
    have := alloc_at wr (.cells #[.int .i64 kd, .string s, .string s2, vB, .int .i64 n, vK] 34)
    simp only [World.cell?, this]
    rfl
  refine (H1.out _ hgA).mono ?_
  rintro e w1 ⟨v1, rfl, R1⟩
  have G1 := hid_mk' (gb_none hgA R1.out.2)
  have c1 := cell_keep cA R1.out.2
  clear cA hgA
  go_wp2_with fail
  refine (H2.out _ G1.out).mono ?_
  rintro e w2 ⟨v2, rfl, R2⟩
  have G2 := hid_mk' (gb_none G1.out R2.out.2)
  have c2 := cell_keep c1 R2.out.2
  go_wp2_with fail
  refine (H3.out _ G2.out).mono ?_
  rintro e w3 ⟨rfl, R3⟩
  have G3 := hid_mk' (gb_none G2.out R3.out)
  have c3 := cell_keep c2 R3.out
  go_wp2_with fail
  refine (H4.out _ G3.out).mono ?_
  rintro e w4 ⟨rfl, R4⟩
  have G4 := hid_mk' (gb_none G3.out R4.out)
  have HV : Hid (Own w4 wr.heap.size v1 bs ∧ Rd w4 v2 bs) := ⟨((R1.out.1.keep R2.out.2).keep R3.out).keep R4.out, (R2.out.1.keep R3.out).keep R4.out⟩
  have HS : Hid (Calls Try.prog 23 #[v1, v2] w4 fun e w' => e = .returned (.bool true) ∧ w4.grownBy w' none) := by
    have := same_any v1 v2 bs bs w4 HV.out.1.rd HV.out.2
    rw [decide_eq_true rfl] at this
    exact this
  clear R1 R2 R3 R4 G1 G2 G3 c1 c2 c3 H1 H2 H3 H4
  go_wp2_with fail
  refine HS.out.mono ?_
  rintro e w5 ⟨rfl, hg5⟩
  have G5 := hid_mk' (gb_none G4.out hg5)
  have HO : Hid (Calls Try.prog 34 #[v1] w5 fun e w' => e = .returned (.tuple #[]) ∧ Hid (DuoX w0 wr w' Sd Sr gd gr M N)) := by
    have ho := HV.out.1.keep hg5
    refine (spoil_any v1 wr.heap.size bs w5 ho G5.out.size (by have := HB.out; omega)).mono ?_
    rintro e w' ⟨h1, h2⟩
    exact ⟨h1, HE.out _ (gb_new G5.out h2 (fun k hk => (ho.lt k hk).1))⟩
  clear hg5
  go_wp2_with fail
  refine HO.out.mono ?_
  rintro e w6 ⟨rfl, H6⟩
  go_wp2
  go_ret
  exact ⟨rfl, H6.out⟩
end Go.Proofs.Ytgafmplmngbbfaa
