/-
  Two disks and, from some call on, copies of them beside: facts for DiskPlays.
-/
import Derived.Test.YtgafmplmngbbfaaDAlike
namespace Go.Proofs.Ytgafmplmngbbfaa
open Go.RowKit Go.Maps Go.WideMaps Go.Sort

/-- both disks, and a copy of each that nothing of them reaches -/
def PlayQ (w wr : World) (gd gr gc gw : Nat) : Prop := ∃ M N Sd Sr Mc Nc Tc Tr, DuoW w wr Sd Sr gd gr M N M N ∧ DuoW w wr Tc Tr gc gw Mc Nc Mc Nc ∧ ∀ k, Tc k ∨ Tr k → ¬ Sd k ∧ ¬ Sr k
theorem PlayQ.duo {w wr : World} {gd gr gc gw : Nat} (h : PlayQ w wr gd gr gc gw) : ∃ M N, Duo w wr gd gr M N := by
  obtain ⟨M, N, Sd, Sr, Mc, Nc, Tc, Tr, h, -, -⟩ := h
  exact ⟨M, N, Sd, Sr, h⟩
theorem PlayQ.keep {w wr wr' : World} {gd gr gc gw : Nat} (h : PlayQ w wr gd gr gc gw) (hg : wr.grownBy wr' none) : PlayQ w wr' gd gr gc gw := by
  obtain ⟨M, N, Sd, Sr, Mc, Nc, Tc, Tr, h1, h2, h3⟩ := h
  exact ⟨M, N, Sd, Sr, Mc, Nc, Tc, Tr, h1.keep hg, h2.keep hg, h3⟩
theorem play_keep {w wr wr' : World} {gd gr : Nat} (h : ∃ M N, Duo w wr gd gr M N) (hg : wr.grownBy wr' none) : ∃ M N, Duo w wr' gd gr M N := by
  obtain ⟨M, N, h⟩ := h
  exact ⟨M, N, h.keep hg⟩
theorem play_gb {w wr : World} {gd gr : Nat} (h : ∃ M N, Duo w wr gd gr M N) : w.grownBy wr none := by
  obtain ⟨M, N, Sd, Sr, h⟩ := h
  exact h.g
theorem play_stepA (w wr : World) (gd gr : Nat) (h : ∃ M N, Duo w wr gd gr M N) (v : Value) (o : Opm) (ho : OpIn w v o) :
    Calls Try.prog 12 #[.pointer (some ⟨gd, 0, none⟩), .pointer (some ⟨gr, 0, none⟩), v] wr fun e w' => e = .returned (.bool true) ∧ Hid (∃ M N, Duo w w' gd gr M N) := by
  obtain ⟨M, N, Sd, Sr, hD⟩ := h
  exact (step_any w wr gd gr N M _ _ ho Sd Sr hD).mono (fun e w' h => ⟨h.1, _, _, h.2.duo⟩)
theorem play_stepB (w wr : World) (gd gr gc gw : Nat) (h : PlayQ w wr gd gr gc gw) (v : Value) (o : Opm) (ho : OpIn w v o) :
    Calls Try.prog 12 #[.pointer (some ⟨gd, 0, none⟩), .pointer (some ⟨gr, 0, none⟩), v] wr fun e w' => e = .returned (.bool true) ∧ Hid (PlayQ w w' gd gr gc gw) := by
  obtain ⟨M, N, Sd, Sr, Mc, Nc, Tc, Tr, h1, h2, h3⟩ := h
  refine (step_any w wr gd gr N M _ _ ho Sd Sr h1).mono ?_
  rintro e w' ⟨rfl, Sd', Sr', hd, hc, hx1, hx2⟩
  have hz := hc.size
  refine ⟨rfl, _, _, Sd', Sr', Mc, Nc, Tc, Tr, hd, ⟨h2.d.frame hc (fun k _ hk hs => ?_), h2.r.frame hc (fun k _ hk hs => ?_), hd.g, fun k hk => ?_, fun k hk => ?_⟩, fun k hk => ?_⟩
  · exact hs.elim (h3 k (.inl hk)).1 (h3 k (.inl hk)).2
  · exact hs.elim (h3 k (.inr hk)).1 (h3 k (.inr hk)).2
  · exact ⟨(h2.bd k hk).1, by have := (h2.bd k hk).2.1; omega, (h2.bd k hk).2.2⟩
  · exact ⟨(h2.br k hk).1, by have := (h2.br k hk).2; omega⟩
  · have hlt : k < wr.heap.size := hk.elim (fun h => (h2.bd k h).2.1) (fun h => (h2.br k h).2)
    exact ⟨fun hs => (h3 k hk).1 (hx1 k hlt hs), fun hs => (h3 k hk).2 (hx2 k hlt hs)⟩
/-- a copy of each -/
theorem play_copy (w wr : World) (gd gr : Nat) (h : ∃ M N, Duo w wr gd gr M N) :
    Calls Try.prog 10 #[.pointer (some ⟨gd, 0, none⟩)] wr fun e w1 => ∃ gc, e = .returned (.pointer (some ⟨gc, 0, none⟩)) ∧
      Hid (Calls Try.prog 11 #[.pointer (some ⟨gr, 0, none⟩)] w1 fun e w2 => ∃ gw, e = .returned (.pointer (some ⟨gw, 0, none⟩)) ∧ Hid (PlayQ w w2 gd gr gc gw)) := by
  obtain ⟨M, N, Sd, Sr, hD⟩ := h
  refine (copy_ok wr Sd gd N M hD.d).mono ?_
  rintro e w1 ⟨gc, rfl, hc, hg⟩
  refine ⟨gc, rfl, ?_⟩
  refine (refCopy_ok w1 Sr gr N M (hD.r.keep hg)).mono ?_
  rintro e w2 ⟨gw, rfl, hr, hg2⟩
  have hz0 := hD.g.size
  have hz1 := hg.size
  have hz2 := hg2.size
  refine ⟨gw, rfl, M, N, Sd, Sr, M, N, _, _, (hD.keep hg).keep hg2, ⟨hc.keep hg2, hr, gb_none (gb_none hD.g hg) hg2, fun k hk => ?_, fun k hk => ?_⟩, fun k hk => ?_⟩
  · exact ⟨by omega, by omega, fun h => by omega⟩
  · exact ⟨by omega, by omega⟩
  · have hle : wr.heap.size ≤ k := by rcases hk with h | h <;> omega
    exact ⟨fun hs => by have := (hD.bd k hs).2.1; omega, fun hs => by have := (hD.br k hs).2; omega⟩
/-- the names of both -/
theorem play_list (w wr : World) (gd gr : Nat) (h : ∃ M N, Duo w wr gd gr M N) :
    Calls Try.prog 14 #[.pointer (some ⟨gd, 0, none⟩)] wr fun e w1 => ∃ v, e = .returned v ∧
      Hid (Calls Try.prog 15 #[.pointer (some ⟨gr, 0, none⟩)] w1 fun e w2 => ∃ u, e = .returned u ∧
        Hid (Calls Try.prog 13 #[v, u] w2 fun e w3 => e = .returned (.bool true) ∧ Hid (wr.grownBy w3 none))) := by
  obtain ⟨M, N, Sd, Sr, hD⟩ := h
  refine (list_ok wr Sd gd N M hD.d).mono ?_
  rintro e w1 ⟨v, ss, rfl, ho, hp, hn, hm, -, hg⟩
  refine ⟨v, rfl, ?_⟩
  refine (refList_ok w1 Sr gr N M (hD.r.keep hg)).mono ?_
  rintro e w2 ⟨u, ss', rfl, ho', hp', hm', -, hg'⟩
  have e : ss' = ss := rising_eq hp' (rising_of hp hn) (fun l => by rw [hm', hm])
  subst e
  refine ⟨u, rfl, ?_⟩
  refine (texts_same v u ss' w2 (ho.rd.keep hg') ho'.rd).mono ?_
  rintro e w3 ⟨rfl, hg3⟩
  exact ⟨rfl, gb_none (gb_none hg hg') hg3⟩
theorem play_alike (w wr : World) (gd gr : Nat) (h : ∃ M N, Duo w wr gd gr M N) :
    Calls Try.prog 16 #[.pointer (some ⟨gd, 0, none⟩), .pointer (some ⟨gr, 0, none⟩)] wr fun e w' => e = .returned (.bool true) ∧ Hid (w.grownBy w' none) := by
  obtain ⟨M, N, Sd, Sr, hD⟩ := h
  exact (alike_any wr Sd Sr gd gr N M hD.d hD.r).mono (fun e w' h => ⟨h.1, gb_none hD.g h.2⟩)
theorem play_alikeC (w wr : World) (gd gr gc gw : Nat) (h : PlayQ w wr gd gr gc gw) :
    Calls Try.prog 16 #[.pointer (some ⟨gc, 0, none⟩), .pointer (some ⟨gw, 0, none⟩)] wr fun e w' => e = .returned (.bool true) ∧ Hid (PlayQ w w' gd gr gc gw) := by
  have h0 := h
  obtain ⟨M, N, Sd, Sr, Mc, Nc, Tc, Tr, h1, h2, h3⟩ := h
  exact (alike_any wr Tc Tr gc gw Nc Mc h2.d h2.r).mono (fun e w' h => ⟨h.1, h0.keep h.2⟩)
/-- the copy goes on by itself -/
theorem play_append (w wr : World) (gd gr gc gw : Nat) (h : PlayQ w wr gd gr gc gw) (l b : Bs) (hl : l.length ≤ 9223372036854775807) (v : Value) (hv : Rd wr v b) :
    Calls Try.prog 17 #[.pointer (some ⟨gc, 0, none⟩), .string (ByteArray.mk ⟨l⟩), v] wr fun e w' => ∃ E : Int, e = .returned (.int .i64 E) ∧ Hid (∃ M N, Duo w w' gd gr M N) := by
  obtain ⟨M, N, Sd, Sr, Mc, Nc, Tc, Tr, h1, h2, h3⟩ := h
  refine (append_ok wr Tc gc Nc Mc l b v hl h2.d hv).mono ?_
  rintro e w' ⟨rfl, hc, -⟩
  have hz := hc.size
  refine ⟨_, rfl, M, N, Sd, Sr, h1.d.frame hc (fun k _ hk hs => (h3 k (.inl hs)).1 hk), h1.r.frame hc (fun k _ hk hs => (h3 k (.inl hs)).2 hk), ?_, fun k hk => ?_, fun k hk => ?_⟩
  · exact ((Ch.of_gb (S := Tc) h1.g (fun k hk => by cases hk)).trans hc (fun _ _ h => h)).gb (fun k hk h' => by have := (h2.bd k h').1; omega)
  · exact ⟨(h1.bd k hk).1, by have := (h1.bd k hk).2.1; omega, (h1.bd k hk).2.2⟩
  · exact ⟨(h1.br k hk).1, by have := (h1.br k hk).2; omega⟩
end Go.Proofs.Ytgafmplmngbbfaa
