/-
  One call of both disks: step: the walks. Sync, Cut, Rename, Remove.
-/
import Derived.Test.YtgafmplmngbbfaaDCrash
import Derived.Deep.RegionHeld3
namespace Go.Proofs.Ytgafmplmngbbfaa
open Go.RowKit Go.Maps Go.WideMaps Go.Sort

def syncM (M : Fls) (l : Bs) : Fls := match M l with | some (c, _) => upd M l (some (c, c.length)) | none => M
theorem blk_one (w : World) (o : Obj) : ((w.alloc o).drew).heap[w.heap.size]? = some o := alloc_at w o
/-- what a call of the project's disk leaves, the document's being there -/
def LeftX (w0 wr w' : World) (Sd Sr : Nat → Prop) (gd gr : Nat) (M' : Fls) (N' : Nat) (M : Fls) (N : Nat) : Prop := ∃ Sd', DuoW w0 w' Sd' Sr gd gr M' N' M N ∧ Ch wr w' Sd ∧ ∀ k, k < wr.heap.size → Sd' k → Sd k
/-- what a call of both leaves: their own blocks alone have changed -/
def DuoX (w0 wr w' : World) (Sd Sr : Nat → Prop) (gd gr : Nat) (M' : Fls) (N' : Nat) : Prop := ∃ Sd' Sr', DuoW w0 w' Sd' Sr' gd gr M' N' M' N' ∧ Ch wr w' (fun k => Sd k ∨ Sr k) ∧ (∀ k, k < wr.heap.size → Sd' k → Sd k) ∧ ∀ k, k < wr.heap.size → Sr' k → Sr k
theorem DuoX.duo {w0 wr w' : World} {Sd Sr : Nat → Prop} {gd gr N' : Nat} {M' : Fls} (h : DuoX w0 wr w' Sd Sr gd gr M' N') : Duo w0 w' gd gr M' N' := by
  obtain ⟨Sd', Sr', h, -⟩ := h
  exact ⟨Sd', Sr', h⟩
/-- the call's own variable lies in its block -/
def AtW (wr W : World) (cs : Array Value) : Prop := wr.grownBy W none ∧ W.heap[wr.heap.size]? = some (.cells cs 34)
theorem AtW.drew {wr W : World} {cs : Array Value} (h : AtW wr W cs) : AtW wr W.drew cs := ⟨gb_none h.1 (gb_drew _ none), h.2⟩
theorem DuoW.leftD {w0 wr W w' : World} {Sd Sr : Nat → Prop} {gd gr N N' : Nat} {M M' : Fls} (h : DuoW w0 wr Sd Sr gd gr M N M N) (hg : wr.grownBy W none) (hc : Ch W w' Sd) (hd : DiskOK w' (Gr Sd W w') gd M' N') : LeftX w0 wr w' Sd Sr gd gr M' N' M N ∧ ∀ k, wr.heap.size ≤ k → k < W.heap.size → w'.heap[k]? = W.heap[k]? := by
  have hz := hg.size
  refine ⟨⟨_, (h.keep hg).setD hc hd, (Ch.of_gb (S := Sd) hg (fun k hk => by cases hk)).trans hc (fun _ _ h => h), fun k hk hs => ?_⟩, fun k hk1 hk2 => hc.block hk2 (fun hs => by have := (h.bd k hs).2.1; omega)⟩
  rcases hs with hs | hs
  · exact hs
  · omega
theorem DuoW.leftR {w0 wr W w' : World} {Sd Sr Sd' : Nat → Prop} {gd gr N N' : Nat} {M M' : Fls} (h : DuoW w0 W Sd' Sr gd gr M' N' M N) (h1 : Ch wr W Sd) (h2 : ∀ k, k < wr.heap.size → Sd' k → Sd k) (hc : Ch W w' Sr) (hr : RefOK w' (Gr Sr W w') gr M' N') : DuoX w0 wr w' Sd Sr gd gr M' N' := by
  have hz := h1.size
  refine ⟨_, _, h.setR hc hr, (h1.mono (fun _ _ h => .inl h)).trans hc (fun _ _ h => .inr h), h2, fun k hk hs => ?_⟩
  rcases hs with hs | hs
  · exact hs
  · omega

set_option maxRecDepth 8000 in
set_option maxHeartbeats 3200000 in
theorem step_sync (w0 wr : World) (gd gr N : Nat) (M : Fls) (nm to : Bs) (vB vK : Value) (n : Int) (hn : nm.length ≤ 9223372036854775807) (Sd Sr : Nat → Prop) (h : DuoW w0 wr Sd Sr gd gr M N M N) :
    Calls Try.prog 12 #[.pointer (some ⟨gd, 0, none⟩), .pointer (some ⟨gr, 0, none⟩), .agg #[.int .i64 1, .string (ByteArray.mk ⟨nm⟩), .string (ByteArray.mk ⟨to⟩), vB, .int .i64 n, vK]] wr fun e w' => e = .returned (.bool true) ∧ DuoX w0 wr w' Sd Sr gd gr (syncM M nm) (N) := by
  obtain ⟨M', hM'⟩ : ∃ M', M' = (syncM M nm) := ⟨_, rfl⟩
  obtain ⟨N', hN'⟩ : ∃ N', N' = (N) := ⟨_, rfl⟩
  obtain ⟨E, hE⟩ : ∃ E : Nat, E = findE M nm := ⟨_, rfl⟩
  obtain ⟨s, hs⟩ : ∃ s, s = ByteArray.mk ⟨nm⟩ := ⟨_, rfl⟩
  obtain ⟨s2, hs2⟩ : ∃ s, s = ByteArray.mk ⟨to⟩ := ⟨_, rfl⟩
  have HD : Hid (∀ W, AtW wr W #[.int .i64 1, .string s, .string s2, vB, .int .i64 n, vK] → Calls Try.prog 27 #[.pointer (some ⟨gd, 0, none⟩), .string s] W fun e w' => e = .returned (.int .i64 (E : Int)) ∧ Hid (LeftX w0 wr w' Sd Sr gd gr M' N' M N ∧ w'.heap[wr.heap.size]? = some (.cells #[.int .i64 1, .string s, .string s2, vB, .int .i64 n, vK] 34)) ∧ w'.cell? ⟨wr.heap.size, 1, none⟩ = some (.string s) ∧ w'.cell? ⟨wr.heap.size, 2, none⟩ = some (.string s2) ∧ w'.cell? ⟨wr.heap.size, 4, none⟩ = some (.int .i64 n)) := fun W hW => by
    have hg := hW.1
    rw [hs]
    refine (sync_ok W Sd gd N M nm hn (h.d.keep hg)).mono ?_
    rintro e w' ⟨h1, h2, h3⟩
    have h3' : DiskOK w' (Gr Sd W w') gd (syncM M nm) (N) := h3
    rw [← hM', ← hN'] at h3'
    rw [← hE] at h1
    have hl := h.leftD hg h2 h3'
    have hb := (hl.2 wr.heap.size (Nat.le_refl _) (some_lt hW.2)).trans hW.2
    rw [← hs]
    exact ⟨h1, ⟨hl.1, hb⟩, by simp [World.cell?, hb], by simp [World.cell?, hb], by simp [World.cell?, hb]⟩
  have HR : Hid (∀ W, LeftX w0 wr W Sd Sr gd gr M' N' M N ∧ W.heap[wr.heap.size]? = some (.cells #[.int .i64 1, .string s, .string s2, vB, .int .i64 n, vK] 34) → Calls Try.prog 35 #[.pointer (some ⟨gr, 0, none⟩), .string s] W fun e w' => e = .returned (.int .i64 (E : Int)) ∧ Hid (DuoX w0 wr w' Sd Sr gd gr M' N') ∧ w'.cell? ⟨wr.heap.size, 1, none⟩ = some (.string s) ∧ w'.cell? ⟨wr.heap.size, 2, none⟩ = some (.string s2) ∧ w'.cell? ⟨wr.heap.size, 4, none⟩ = some (.int .i64 n)) := fun W hW => by
    obtain ⟨⟨Sd', hd, hx1, hx2⟩, hb0⟩ := hW
    rw [hs]
    refine (refSync_ok W Sr gr N M nm hn hd.r).mono ?_
    rintro e w' ⟨h1, h2, h3⟩
    have h3' : RefOK w' (Gr Sr W w') gr (syncM M nm) (N) := h3
    rw [← hM', ← hN'] at h3'
    rw [← hE] at h1
    have hb := (h2.block (some_lt hb0) (fun hk => by have := (h.br _ hk).2; omega)).trans hb0
    rw [← hs]
    exact ⟨h1, hd.leftR hx1 hx2 h2 h3', by simp [World.cell?, hb], by simp [World.cell?, hb], by simp [World.cell?, hb]⟩
  have HA : Hid (AtW wr (wr.alloc (.cells #[.int .i64 1, .string s, .string s2, vB, .int .i64 n, vK] 34)) #[.int .i64 1, .string s, .string s2, vB, .int .i64 n, vK]) := ⟨World.grownBy_alloc _ _ none, alloc_at _ _⟩
  rw [← hM', ← hN', ← hs, ← hs2]
  clear hM' hN' hE h hs hs2
  go_enter Try.func12, Try.ntmps12
  go_wp2_with fail
  generalize hW1 : wr.alloc (.cells #[.int .i64 1, .string s, .string s2, vB, .int .i64 n, vK] 34) = w1 at *
  clear hW1
  have c1 : w1.cell? ⟨wr.heap.size, 1, none⟩ = some (.string s) := by simp [World.cell?, HA.out.2]
  have c2 : w1.cell? ⟨wr.heap.size, 2, none⟩ = some (.string s2) := by simp [World.cell?, HA.out.2]
  have c4 : w1.cell? ⟨wr.heap.size, 4, none⟩ = some (.int .i64 n) := by simp [World.cell?, HA.out.2]
  generalize hb0 : wr.heap.size = b0 at *
  clear hb0
  go_region_held3 (fun w' => w'.cell? ⟨b0, 1, none⟩ = some (.string s) ∧ w'.cell? ⟨b0, 2, none⟩ = some (.string s2) ∧ w'.cell? ⟨b0, 4, none⟩ = some (.int .i64 n)) (go_keep)
    (first
      | (go_at_call 27; refine (HD.out _ ?_).mono ?_; (first | exact HA.out | exact HA.out.drew); rintro e w2 ⟨rfl, H2, d1, d2, d4⟩)
      | (go_at_call 35; refine (HR.out _ H2.out).mono ?_; rintro e w3 ⟨rfl, H3, e1, e2, e4⟩))
  all_goals go_wp2
  all_goals go_ret
  all_goals exact ⟨rfl, H3.out⟩
set_option maxRecDepth 8000 in
set_option maxHeartbeats 3200000 in
theorem step_cut (w0 wr : World) (gd gr N : Nat) (M : Fls) (nm to : Bs) (vB vK : Value) (n : Int) (hn : nm.length ≤ 9223372036854775807) (Sd Sr : Nat → Prop) (h : DuoW w0 wr Sd Sr gd gr M N M N) :
    Calls Try.prog 12 #[.pointer (some ⟨gd, 0, none⟩), .pointer (some ⟨gr, 0, none⟩), .agg #[.int .i64 2, .string (ByteArray.mk ⟨nm⟩), .string (ByteArray.mk ⟨to⟩), vB, .int .i64 n, vK]] wr fun e w' => e = .returned (.bool true) ∧ DuoX w0 wr w' Sd Sr gd gr (cutM M nm n) (N) := by
  obtain ⟨M', hM'⟩ : ∃ M', M' = (cutM M nm n) := ⟨_, rfl⟩
  obtain ⟨N', hN'⟩ : ∃ N', N' = (N) := ⟨_, rfl⟩
  obtain ⟨E, hE⟩ : ∃ E : Nat, E = cutE M nm n := ⟨_, rfl⟩
  obtain ⟨s, hs⟩ : ∃ s, s = ByteArray.mk ⟨nm⟩ := ⟨_, rfl⟩
  obtain ⟨s2, hs2⟩ : ∃ s, s = ByteArray.mk ⟨to⟩ := ⟨_, rfl⟩
  have HD : Hid (∀ W, AtW wr W #[.int .i64 2, .string s, .string s2, vB, .int .i64 n, vK] → Calls Try.prog 28 #[.pointer (some ⟨gd, 0, none⟩), .string s, .int .i64 n] W fun e w' => e = .returned (.int .i64 (E : Int)) ∧ Hid (LeftX w0 wr w' Sd Sr gd gr M' N' M N ∧ w'.heap[wr.heap.size]? = some (.cells #[.int .i64 2, .string s, .string s2, vB, .int .i64 n, vK] 34)) ∧ w'.cell? ⟨wr.heap.size, 1, none⟩ = some (.string s) ∧ w'.cell? ⟨wr.heap.size, 2, none⟩ = some (.string s2) ∧ w'.cell? ⟨wr.heap.size, 4, none⟩ = some (.int .i64 n)) := fun W hW => by
    have hg := hW.1
    rw [hs]
    refine (cut_ok W Sd gd N M nm n hn (h.d.keep hg)).mono ?_
    rintro e w' ⟨h1, h2, h3⟩
    have h3' : DiskOK w' (Gr Sd W w') gd (cutM M nm n) (N) := h3
    rw [← hM', ← hN'] at h3'
    rw [← hE] at h1
    have hl := h.leftD hg h2 h3'
    have hb := (hl.2 wr.heap.size (Nat.le_refl _) (some_lt hW.2)).trans hW.2
    rw [← hs]
    exact ⟨h1, ⟨hl.1, hb⟩, by simp [World.cell?, hb], by simp [World.cell?, hb], by simp [World.cell?, hb]⟩
  have HR : Hid (∀ W, LeftX w0 wr W Sd Sr gd gr M' N' M N ∧ W.heap[wr.heap.size]? = some (.cells #[.int .i64 2, .string s, .string s2, vB, .int .i64 n, vK] 34) → Calls Try.prog 36 #[.pointer (some ⟨gr, 0, none⟩), .string s, .int .i64 n] W fun e w' => e = .returned (.int .i64 (E : Int)) ∧ Hid (DuoX w0 wr w' Sd Sr gd gr M' N') ∧ w'.cell? ⟨wr.heap.size, 1, none⟩ = some (.string s) ∧ w'.cell? ⟨wr.heap.size, 2, none⟩ = some (.string s2) ∧ w'.cell? ⟨wr.heap.size, 4, none⟩ = some (.int .i64 n)) := fun W hW => by
    obtain ⟨⟨Sd', hd, hx1, hx2⟩, hb0⟩ := hW
    rw [hs]
    refine (refCut_ok W Sr gr N M nm n hn hd.r).mono ?_
    rintro e w' ⟨h1, h2, h3⟩
    have h3' : RefOK w' (Gr Sr W w') gr (cutM M nm n) (N) := h3
    rw [← hM', ← hN'] at h3'
    rw [← hE] at h1
    have hb := (h2.block (some_lt hb0) (fun hk => by have := (h.br _ hk).2; omega)).trans hb0
    rw [← hs]
    exact ⟨h1, hd.leftR hx1 hx2 h2 h3', by simp [World.cell?, hb], by simp [World.cell?, hb], by simp [World.cell?, hb]⟩
  have HA : Hid (AtW wr (wr.alloc (.cells #[.int .i64 2, .string s, .string s2, vB, .int .i64 n, vK] 34)) #[.int .i64 2, .string s, .string s2, vB, .int .i64 n, vK]) := ⟨World.grownBy_alloc _ _ none, alloc_at _ _⟩
  rw [← hM', ← hN', ← hs, ← hs2]
  clear hM' hN' hE h hs hs2
  go_enter Try.func12, Try.ntmps12
  go_wp2_with fail
  generalize hW1 : wr.alloc (.cells #[.int .i64 2, .string s, .string s2, vB, .int .i64 n, vK] 34) = w1 at *
  clear hW1
  have c1 : w1.cell? ⟨wr.heap.size, 1, none⟩ = some (.string s) := by simp [World.cell?, HA.out.2]
  have c2 : w1.cell? ⟨wr.heap.size, 2, none⟩ = some (.string s2) := by simp [World.cell?, HA.out.2]
  have c4 : w1.cell? ⟨wr.heap.size, 4, none⟩ = some (.int .i64 n) := by simp [World.cell?, HA.out.2]
  generalize hb0 : wr.heap.size = b0 at *
  clear hb0
  go_region_held3 (fun w' => w'.cell? ⟨b0, 1, none⟩ = some (.string s) ∧ w'.cell? ⟨b0, 2, none⟩ = some (.string s2) ∧ w'.cell? ⟨b0, 4, none⟩ = some (.int .i64 n)) (go_keep)
    (first
      | (go_at_call 28; refine (HD.out _ ?_).mono ?_; (first | exact HA.out | exact HA.out.drew); rintro e w2 ⟨rfl, H2, d1, d2, d4⟩)
      | (go_at_call 36; refine (HR.out _ H2.out).mono ?_; rintro e w3 ⟨rfl, H3, e1, e2, e4⟩))
  all_goals go_wp2
  all_goals go_ret
  all_goals exact ⟨rfl, H3.out⟩
set_option maxRecDepth 8000 in
set_option maxHeartbeats 3200000 in
theorem step_rename (w0 wr : World) (gd gr N : Nat) (M : Fls) (nm to : Bs) (vB vK : Value) (n : Int) (hn : nm.length ≤ 9223372036854775807) (ht : to.length ≤ 9223372036854775807) (Sd Sr : Nat → Prop) (h : DuoW w0 wr Sd Sr gd gr M N M N) :
    Calls Try.prog 12 #[.pointer (some ⟨gd, 0, none⟩), .pointer (some ⟨gr, 0, none⟩), .agg #[.int .i64 3, .string (ByteArray.mk ⟨nm⟩), .string (ByteArray.mk ⟨to⟩), vB, .int .i64 n, vK]] wr fun e w' => e = .returned (.bool true) ∧ DuoX w0 wr w' Sd Sr gd gr (renameM M nm to) (renameN M nm to N) := by
  obtain ⟨M', hM'⟩ : ∃ M', M' = (renameM M nm to) := ⟨_, rfl⟩
  obtain ⟨N', hN'⟩ : ∃ N', N' = (renameN M nm to N) := ⟨_, rfl⟩
  obtain ⟨E, hE⟩ : ∃ E : Nat, E = renameE M nm to := ⟨_, rfl⟩
  obtain ⟨s, hs⟩ : ∃ s, s = ByteArray.mk ⟨nm⟩ := ⟨_, rfl⟩
  obtain ⟨s2, hs2⟩ : ∃ s, s = ByteArray.mk ⟨to⟩ := ⟨_, rfl⟩
  have HD : Hid (∀ W, AtW wr W #[.int .i64 3, .string s, .string s2, vB, .int .i64 n, vK] → Calls Try.prog 29 #[.pointer (some ⟨gd, 0, none⟩), .string s, .string s2] W fun e w' => e = .returned (.int .i64 (E : Int)) ∧ Hid (LeftX w0 wr w' Sd Sr gd gr M' N' M N ∧ w'.heap[wr.heap.size]? = some (.cells #[.int .i64 3, .string s, .string s2, vB, .int .i64 n, vK] 34)) ∧ w'.cell? ⟨wr.heap.size, 1, none⟩ = some (.string s) ∧ w'.cell? ⟨wr.heap.size, 2, none⟩ = some (.string s2) ∧ w'.cell? ⟨wr.heap.size, 4, none⟩ = some (.int .i64 n)) := fun W hW => by
    have hg := hW.1
    rw [hs, hs2]
    refine (rename_ok W Sd gd N M nm to hn ht (h.d.keep hg)).mono ?_
    rintro e w' ⟨h1, h2, h3⟩
    have h3' : DiskOK w' (Gr Sd W w') gd (renameM M nm to) (renameN M nm to N) := h3
    rw [← hM', ← hN'] at h3'
    rw [← hE] at h1
    have hl := h.leftD hg h2 h3'
    have hb := (hl.2 wr.heap.size (Nat.le_refl _) (some_lt hW.2)).trans hW.2
    rw [← hs, ← hs2]
    exact ⟨h1, ⟨hl.1, hb⟩, by simp [World.cell?, hb], by simp [World.cell?, hb], by simp [World.cell?, hb]⟩
  have HR : Hid (∀ W, LeftX w0 wr W Sd Sr gd gr M' N' M N ∧ W.heap[wr.heap.size]? = some (.cells #[.int .i64 3, .string s, .string s2, vB, .int .i64 n, vK] 34) → Calls Try.prog 37 #[.pointer (some ⟨gr, 0, none⟩), .string s, .string s2] W fun e w' => e = .returned (.int .i64 (E : Int)) ∧ Hid (DuoX w0 wr w' Sd Sr gd gr M' N') ∧ w'.cell? ⟨wr.heap.size, 1, none⟩ = some (.string s) ∧ w'.cell? ⟨wr.heap.size, 2, none⟩ = some (.string s2) ∧ w'.cell? ⟨wr.heap.size, 4, none⟩ = some (.int .i64 n)) := fun W hW => by
    obtain ⟨⟨Sd', hd, hx1, hx2⟩, hb0⟩ := hW
    rw [hs, hs2]
    refine (refRename_ok W Sr gr N M nm to hn ht hd.r).mono ?_
    rintro e w' ⟨h1, h2, h3⟩
    have h3' : RefOK w' (Gr Sr W w') gr (renameM M nm to) (renameN M nm to N) := h3
    rw [← hM', ← hN'] at h3'
    rw [← hE] at h1
    have hb := (h2.block (some_lt hb0) (fun hk => by have := (h.br _ hk).2; omega)).trans hb0
    rw [← hs, ← hs2]
    exact ⟨h1, hd.leftR hx1 hx2 h2 h3', by simp [World.cell?, hb], by simp [World.cell?, hb], by simp [World.cell?, hb]⟩
  have HA : Hid (AtW wr (wr.alloc (.cells #[.int .i64 3, .string s, .string s2, vB, .int .i64 n, vK] 34)) #[.int .i64 3, .string s, .string s2, vB, .int .i64 n, vK]) := ⟨World.grownBy_alloc _ _ none, alloc_at _ _⟩
  rw [← hM', ← hN', ← hs, ← hs2]
  clear hM' hN' hE h hs hs2
  go_enter Try.func12, Try.ntmps12
  go_wp2_with fail
  generalize hW1 : wr.alloc (.cells #[.int .i64 3, .string s, .string s2, vB, .int .i64 n, vK] 34) = w1 at *
  clear hW1
  have c1 : w1.cell? ⟨wr.heap.size, 1, none⟩ = some (.string s) := by simp [World.cell?, HA.out.2]
  have c2 : w1.cell? ⟨wr.heap.size, 2, none⟩ = some (.string s2) := by simp [World.cell?, HA.out.2]
  have c4 : w1.cell? ⟨wr.heap.size, 4, none⟩ = some (.int .i64 n) := by simp [World.cell?, HA.out.2]
  generalize hb0 : wr.heap.size = b0 at *
  clear hb0
  go_region_held3 (fun w' => w'.cell? ⟨b0, 1, none⟩ = some (.string s) ∧ w'.cell? ⟨b0, 2, none⟩ = some (.string s2) ∧ w'.cell? ⟨b0, 4, none⟩ = some (.int .i64 n)) (go_keep)
    (first
      | (go_at_call 29; refine (HD.out _ ?_).mono ?_; (first | exact HA.out | exact HA.out.drew); rintro e w2 ⟨rfl, H2, d1, d2, d4⟩)
      | (go_at_call 37; refine (HR.out _ H2.out).mono ?_; rintro e w3 ⟨rfl, H3, e1, e2, e4⟩))
  all_goals go_wp2
  all_goals go_ret
  all_goals exact ⟨rfl, H3.out⟩
set_option maxRecDepth 8000 in
set_option maxHeartbeats 3200000 in
theorem step_remove (w0 wr : World) (gd gr N : Nat) (M : Fls) (nm to : Bs) (vB vK : Value) (n : Int) (hn : nm.length ≤ 9223372036854775807) (Sd Sr : Nat → Prop) (h : DuoW w0 wr Sd Sr gd gr M N M N) :
    Calls Try.prog 12 #[.pointer (some ⟨gd, 0, none⟩), .pointer (some ⟨gr, 0, none⟩), .agg #[.int .i64 4, .string (ByteArray.mk ⟨nm⟩), .string (ByteArray.mk ⟨to⟩), vB, .int .i64 n, vK]] wr fun e w' => e = .returned (.bool true) ∧ DuoX w0 wr w' Sd Sr gd gr (upd M nm none) (if (M nm).isSome then N - 1 else N) := by
  obtain ⟨M', hM'⟩ : ∃ M', M' = (upd M nm none) := ⟨_, rfl⟩
  obtain ⟨N', hN'⟩ : ∃ N', N' = (if (M nm).isSome then N - 1 else N) := ⟨_, rfl⟩
  obtain ⟨E, hE⟩ : ∃ E : Nat, E = findE M nm := ⟨_, rfl⟩
  obtain ⟨s, hs⟩ : ∃ s, s = ByteArray.mk ⟨nm⟩ := ⟨_, rfl⟩
  obtain ⟨s2, hs2⟩ : ∃ s, s = ByteArray.mk ⟨to⟩ := ⟨_, rfl⟩
  have HD : Hid (∀ W, AtW wr W #[.int .i64 4, .string s, .string s2, vB, .int .i64 n, vK] → Calls Try.prog 30 #[.pointer (some ⟨gd, 0, none⟩), .string s] W fun e w' => e = .returned (.int .i64 (E : Int)) ∧ Hid (LeftX w0 wr w' Sd Sr gd gr M' N' M N ∧ w'.heap[wr.heap.size]? = some (.cells #[.int .i64 4, .string s, .string s2, vB, .int .i64 n, vK] 34)) ∧ w'.cell? ⟨wr.heap.size, 1, none⟩ = some (.string s) ∧ w'.cell? ⟨wr.heap.size, 2, none⟩ = some (.string s2) ∧ w'.cell? ⟨wr.heap.size, 4, none⟩ = some (.int .i64 n)) := fun W hW => by
    have hg := hW.1
    rw [hs]
    refine (remove_ok W Sd gd N M nm hn (h.d.keep hg)).mono ?_
    rintro e w' ⟨h1, h2, h3⟩
    have h3' : DiskOK w' (Gr Sd W w') gd (upd M nm none) (if (M nm).isSome then N - 1 else N) := h3
    rw [← hM', ← hN'] at h3'
    rw [← hE] at h1
    have hl := h.leftD hg h2 h3'
    have hb := (hl.2 wr.heap.size (Nat.le_refl _) (some_lt hW.2)).trans hW.2
    rw [← hs]
    exact ⟨h1, ⟨hl.1, hb⟩, by simp [World.cell?, hb], by simp [World.cell?, hb], by simp [World.cell?, hb]⟩
  have HR : Hid (∀ W, LeftX w0 wr W Sd Sr gd gr M' N' M N ∧ W.heap[wr.heap.size]? = some (.cells #[.int .i64 4, .string s, .string s2, vB, .int .i64 n, vK] 34) → Calls Try.prog 38 #[.pointer (some ⟨gr, 0, none⟩), .string s] W fun e w' => e = .returned (.int .i64 (E : Int)) ∧ Hid (DuoX w0 wr w' Sd Sr gd gr M' N') ∧ w'.cell? ⟨wr.heap.size, 1, none⟩ = some (.string s) ∧ w'.cell? ⟨wr.heap.size, 2, none⟩ = some (.string s2) ∧ w'.cell? ⟨wr.heap.size, 4, none⟩ = some (.int .i64 n)) := fun W hW => by
    obtain ⟨⟨Sd', hd, hx1, hx2⟩, hb0⟩ := hW
    rw [hs]
    refine (refRemove_ok W Sr gr N M nm hn hd.r).mono ?_
    rintro e w' ⟨h1, h2, h3⟩
    have h3' : RefOK w' (Gr Sr W w') gr (upd M nm none) (if (M nm).isSome then N - 1 else N) := h3
    rw [← hM', ← hN'] at h3'
    rw [← hE] at h1
    have hb := (h2.block (some_lt hb0) (fun hk => by have := (h.br _ hk).2; omega)).trans hb0
    rw [← hs]
    exact ⟨h1, hd.leftR hx1 hx2 h2 h3', by simp [World.cell?, hb], by simp [World.cell?, hb], by simp [World.cell?, hb]⟩
  have HA : Hid (AtW wr (wr.alloc (.cells #[.int .i64 4, .string s, .string s2, vB, .int .i64 n, vK] 34)) #[.int .i64 4, .string s, .string s2, vB, .int .i64 n, vK]) := ⟨World.grownBy_alloc _ _ none, alloc_at _ _⟩
  rw [← hM', ← hN', ← hs, ← hs2]
  clear hM' hN' hE h hs hs2
  go_enter Try.func12, Try.ntmps12
  go_wp2_with fail
  generalize hW1 : wr.alloc (.cells #[.int .i64 4, .string s, .string s2, vB, .int .i64 n, vK] 34) = w1 at *
  clear hW1
  have c1 : w1.cell? ⟨wr.heap.size, 1, none⟩ = some (.string s) := by simp [World.cell?, HA.out.2]
  have c2 : w1.cell? ⟨wr.heap.size, 2, none⟩ = some (.string s2) := by simp [World.cell?, HA.out.2]
  have c4 : w1.cell? ⟨wr.heap.size, 4, none⟩ = some (.int .i64 n) := by simp [World.cell?, HA.out.2]
  generalize hb0 : wr.heap.size = b0 at *
  clear hb0
  go_region_held3 (fun w' => w'.cell? ⟨b0, 1, none⟩ = some (.string s) ∧ w'.cell? ⟨b0, 2, none⟩ = some (.string s2) ∧ w'.cell? ⟨b0, 4, none⟩ = some (.int .i64 n)) (go_keep)
    (first
      | (go_at_call 30; refine (HD.out _ ?_).mono ?_; (first | exact HA.out | exact HA.out.drew); rintro e w2 ⟨rfl, H2, d1, d2, d4⟩)
      | (go_at_call 38; refine (HR.out _ H2.out).mono ?_; rintro e w3 ⟨rfl, H3, e1, e2, e4⟩))
  all_goals go_wp2
  all_goals go_ret
  all_goals exact ⟨rfl, H3.out⟩
end Go.Proofs.Ytgafmplmngbbfaa
