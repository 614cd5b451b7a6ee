/-
  What a crash keeps: facts for DiskKeeps.
-/
import Derived.Test.YtgafmplmngbbfaaDApart
namespace Go.Proofs.Ytgafmplmngbbfaa
open Go.RowKit Go.Maps Go.WideMaps Go.Sort

theorem DiskOK.fit {w : World} {S : Nat → Prop} {gd N : Nat} {M : Fls} (h : DiskOK w S gd M N) {l c : Bs} {z : Nat} (hl : M l = some (c, z)) : nameOk l = true ∧ z ≤ c.length ∧ c.length ≤ 1048576 := by
  obtain ⟨gm, D, gf, u, hd⟩ := h
  exact hd.fits l c z hl
theorem Rd.first {w : World} {a : Option Addr} {c : Nat} {l : List UInt8} (h : Rd w (.slice a l.length c) l) (n : Nat) (hn : n ≤ l.length) : Rd w (.slice a n c) (l.take n) := by
  have ht : (l.take n).length = n := by rw [List.length_take]; omega
  obtain ⟨a', c', hv, h1, h2, h3, h4⟩ := h
  simp only [Value.slice.injEq] at hv
  obtain ⟨rfl, -, rfl⟩ := hv
  refine ⟨a, c, by rw [ht], by omega, h2, fun j hj => ?_, h4⟩
  rw [ht] at hj
  obtain ⟨b, o, hb, hc⟩ := h3 j (by omega)
  refine ⟨b, o, hb, ?_⟩
  rw [hc]
  simp [List.getD, hj]
/-- what a crash left: a prefix, not shorter than what was synced -/
def KeptM (M M' : Fls) : Prop := ∀ l c z, M l = some (c, z) → ∃ c' z', M' l = some (c', z') ∧ c' = c.take c'.length ∧ z ≤ c'.length ∧ c'.length ≤ c.length
def SyncedAll (M : Fls) : Prop := ∀ l c z, M l = some (c, z) → z = c.length
theorem kept_same {w : World} {S : Nat → Prop} {gd N : Nat} {M : Fls} (h : DiskOK w S gd M N) : KeptM M M := fun l c z hl => ⟨c, z, hl, by simp, (h.fit hl).2.1, Nat.le_refl _⟩
theorem kept_crash {w : World} {S : Nat → Prop} {gd N : Nat} {M : Fls} (h : DiskOK w S gd M N) (ks : List Kp) : KeptM M (crashM M ks (fun _ => false)) ∧ SyncedAll (crashM M ks (fun _ => false)) := by
  refine ⟨fun l c z hl => ?_, fun l c z hl => ?_⟩
  · have hz := (h.fit hl).2.1
    obtain ⟨h1, h2, h3, h4⟩ := crashF_head (keptAt ks l).toNat (c, z) hz
    exact ⟨(crashF (keptAt ks l).toNat (c, z)).1, (crashF (keptAt ks l).toNat (c, z)).2, by simp [crashM, hl], h1, h2, h3⟩
  · unfold crashM at hl
    cases hM : M l with
    | none => rw [hM] at hl; cases hl
    | some p =>
      rw [hM] at hl
      simp only [Option.map_some, Bool.false_eq_true, if_false, Option.some.injEq] at hl
      obtain ⟨h1, h2, h3, h4⟩ := crashF_head (keptAt ks l).toNat p (h.fit (z := p.2) (c := p.1) hM).2.1
      rw [hl] at h4
      exact h4
theorem crash_synced {M : Fls} (h : SyncedAll M) (ks : List Kp) : crashM M ks (fun _ => false) = M := by
  funext l
  unfold crashM
  cases hM : M l with
  | none => rfl
  | some p =>
    obtain ⟨c, z⟩ := p
    have := h l c z hM
    subst this
    simp [crashF]
/-- two disks: as it was, and behind a crash -/
structure KeepS (w W : World) (gd gc N : Nat) (M M' : Fls) : Prop where
  d : ∃ S, DiskOK W S gd M' N
  c : ∃ S, DiskOK W S gc M N
  g : w.grownBy W none
  k : KeptM M M'
theorem KeepS.keep {w W W' : World} {gd gc N : Nat} {M M' : Fls} (h : KeepS w W gd gc N M M') (hg : W.grownBy W' none) : KeepS w W' gd gc N M M' := by
  obtain ⟨S, hd⟩ := h.d
  obtain ⟨T, hc⟩ := h.c
  exact ⟨⟨S, hd.keep hg⟩, ⟨T, hc.keep hg⟩, gb_none h.g hg, h.k⟩
/-- Copy, and then Crash -/
theorem keep_copy (w w1 : World) (gd gr N : Nat) (M : Fls) (h : Duo w w1 gd gr M N) (v : Value) (ks : List Kp) (hv : KpsIn w v ks) :
    Calls Try.prog 10 #[.pointer (some ⟨gd, 0, none⟩)] w1 fun e w2 => ∃ gc, e = .returned (.pointer (some ⟨gc, 0, none⟩)) ∧
      Hid (Calls Try.prog 20 #[.pointer (some ⟨gd, 0, none⟩), v] w2 fun e w3 => (e = .returned (.int .i64 0) ∧ Hid (∃ M', KeepS w w3 gd gc N M M' ∧ SyncedAll M' ∧ ∀ l, (M' l).isSome = (M l).isSome)) ∨ (e = .returned (.int .i64 1) ∧ Hid (KeepS w w3 gd gc N M M))) := by
  obtain ⟨Sd, Sr, h⟩ := h
  refine (copy_ok w1 Sd gd N M h.d).mono ?_
  rintro e w2 ⟨gc, rfl, hc, hg⟩
  refine ⟨gc, rfl, ?_⟩
  refine (crash_ok w2 Sd gd N M v ks (h.d.keep hg) ((hv.keep h.g).keep hg)).mono ?_
  rintro e w3 ⟨hch, hx⟩
  have hg3 : w.grownBy w3 none := ((Ch.of_gb (S := Sd) (gb_none h.g hg) (fun k hk => by cases hk)).trans hch (fun _ _ h => h)).gb (fun k hk h' => by have := (h.bd k h').1; omega)
  have hc3 := hc.frame hch (fun k _ hk hs => by have := (h.bd k hs).2.1; omega)
  rcases hx with ⟨-, rfl, hd⟩ | ⟨-, rfl, hd⟩
  · exact .inl ⟨rfl, _, ⟨⟨_, hd⟩, ⟨_, hc3⟩, hg3, (kept_crash h.d ks).1⟩, (kept_crash h.d ks).2, fun l => crashM_isSome M ks _ l⟩
  · exact .inr ⟨rfl, ⟨_, hd⟩, ⟨_, hc3⟩, hg3, kept_same h.d⟩
/-- once more: a copy, and a crash that changes nothing -/
theorem keep_again (w w1 : World) (S : Nat → Prop) (gd N : Nat) (M : Fls) (h : DiskOK w1 S gd M N) (hs : SyncedAll M) (hw : w.grownBy w1 none) (v : Value) (ks : List Kp) (hv : KpsIn w v ks) :
    Calls Try.prog 10 #[.pointer (some ⟨gd, 0, none⟩)] w1 fun e w2 => ∃ gc, e = .returned (.pointer (some ⟨gc, 0, none⟩)) ∧ Hid (w1.grownBy w2 none ∧
      Calls Try.prog 20 #[.pointer (some ⟨gc, 0, none⟩), v] w2 fun e w3 => ∃ E : Int, e = .returned (.int .i64 E) ∧ Hid ((∃ S, DiskOK w3 S gd M N) ∧ (∃ S, DiskOK w3 S gc M N) ∧ w1.grownBy w3 none)) := by
  refine (copy_ok w1 S gd N M h).mono ?_
  rintro e w2 ⟨gc, rfl, hc, hg⟩
  refine ⟨gc, rfl, hg, ?_⟩
  refine (crash_ok w2 _ gc N M v ks hc ((hv.keep hw).keep hg)).mono ?_
  rintro e w3 ⟨hch, hx⟩
  have hg3 : w1.grownBy w3 none := ((Ch.of_gb (S := fun k => w1.heap.size ≤ k ∧ k < w2.heap.size) hg (fun k hk => by cases hk)).trans hch (fun _ _ h => h)).gb (fun k hk h' => by omega)
  rcases hx with ⟨-, rfl, hd⟩ | ⟨-, rfl, hd⟩
  · rw [crash_synced hs] at hd
    exact ⟨0, rfl, ⟨_, h.keep hg3⟩, ⟨_, hd⟩, hg3⟩
  · exact ⟨1, rfl, ⟨_, h.keep hg3⟩, ⟨_, hd⟩, hg3⟩
/-- the names of both, which are the same -/
theorem keep_list (w W : World) (gd gc N : Nat) (M M' : Fls) (h : KeepS w W gd gc N M M') (hk : ∀ l, (M' l).isSome = (M l).isSome) :
    Calls Try.prog 14 #[.pointer (some ⟨gc, 0, none⟩)] W fun e w' => ∃ a c ss, e = .returned (.slice a (List.length ss) c) ∧ Hid (RdS w' (.slice a ss.length c) ss ∧ (∀ l, l ∈ ss → (M l).isSome = true) ∧ W.grownBy w' none ∧ ss.length = N ∧
      Calls Try.prog 14 #[.pointer (some ⟨gd, 0, none⟩)] w' fun e w'' => ∃ v, e = .returned v ∧ Hid (RdS w'' v ss ∧ RdS w'' (.slice a ss.length c) ss ∧ W.grownBy w'' none)) := by
  obtain ⟨S, hd⟩ := h.d
  obtain ⟨T, hc⟩ := h.c
  refine (list_ok W T gc N M hc).mono ?_
  rintro e w' ⟨v, ss, rfl, ho, hp, hn, hm, hN, hg⟩
  have hr := ho.rd
  obtain ⟨a, c, rfl, h2, h3⟩ := hr
  refine ⟨a, c, ss, rfl, ho.rd, fun l hl => (hm l).1 hl, hg, hN, ?_⟩
  refine (list_ok w' S gd N M' (hd.keep hg)).mono ?_
  rintro e w'' ⟨v, ss', rfl, ho', hp', hn', hm', hN', hg'⟩
  have e : ss' = ss := rising_eq (rising_of hp' hn') (rising_of hp hn) (fun l => by rw [hm', hm, hk])
  subst e
  exact ⟨v, rfl, ho'.rd, ho.rd.keep hg', gb_none hg hg'⟩
end Go.Proofs.Ytgafmplmngbbfaa
