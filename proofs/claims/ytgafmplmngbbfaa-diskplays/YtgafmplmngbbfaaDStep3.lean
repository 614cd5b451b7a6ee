/-
  One call of both disks: step: the walks. Append.
-/
import Derived.Test.YtgafmplmngbbfaaDStep2
namespace Go.Proofs.Ytgafmplmngbbfaa
open Go.RowKit Go.Maps Go.WideMaps Go.Sort

def appendM (M : Fls) (N : Nat) (l b : Bs) : Fls := if appendE M N l b = 0 then upd M l (some (appendF M l b)) else M
def appendN (M : Fls) (N : Nat) (l b : Bs) : Nat := if appendE M N l b = 0 ∧ (M l).isSome = false then N + 1 else N
/-- bytes that are lent, as they were -/
def LentW (w : World) (base g : Nat) (v : Value) (l : Bs) : Prop := LentAs w base v l ∧ Own w base v l ∧ v.ownBlock = some g
theorem LentW.via {w w' : World} {base g : Nat} {v : Value} {l : Bs} (h : LentW w base g v l) (hb : w'.heap[g]? = w.heap[g]?) : LentW w' base g v l := by
  obtain ⟨⟨g', cap, rfl, h1, h2⟩, h3, h4⟩ := h
  have e : g' = g := by simpa [Value.ownBlock] using h4
  subst e
  refine ⟨⟨g', cap, rfl, h1, ?_⟩, row_via h3 (fun k hk => by cases hk; exact hb), rfl⟩
  obtain ⟨a, c, hv, x1, x2, x3, x4⟩ := h2
  refine ⟨a, c, hv, x1, x2, fun j hj => ?_, x4⟩
  obtain ⟨b, o, hbo, hc⟩ := x3 j hj
  refine ⟨b, o, hbo, ?_⟩
  rw [← hc]
  simp only [Value.slice.injEq] at hv
  have e2 : b = g' := by
    have := hv.1
    rw [hbo] at this
    simp at this
    exact this.1.symm
  rw [e2]
  exact World.cell?_of_block (a := ⟨g', o + j, none⟩) hb

set_option maxRecDepth 8000 in
set_option maxHeartbeats 3200000 in
theorem step_append (w0 wr : World) (gd gr N : Nat) (M : Fls) (nm : Bs) (s2 : ByteArray) (vK : Value) (n : Int) (ba : Option Addr) (bc : Nat) (bs : Bs) (hv : Rd w0 (.slice ba bs.length bc) bs) (hL : bs.length ≤ 140737488351232) (hn : nm.length ≤ 9223372036854775807) (Sd Sr : Nat → Prop) (h : DuoW w0 wr Sd Sr gd gr M N M N) :
    Calls Try.prog 12 #[.pointer (some ⟨gd, 0, none⟩), .pointer (some ⟨gr, 0, none⟩), .agg #[.int .i64 0, .string (ByteArray.mk ⟨nm⟩), .string s2, .slice ba bs.length bc, .int .i64 n, vK]] wr fun e w' => e = .returned (.bool true) ∧ DuoX w0 wr w' Sd Sr gd gr (appendM M N nm bs) (appendN M N nm bs) := by
  obtain ⟨M', hM'⟩ : ∃ M', M' = appendM M N nm bs := ⟨_, rfl⟩
  obtain ⟨N', hN'⟩ : ∃ N', N' = appendN M N nm bs := ⟨_, rfl⟩
  obtain ⟨E, hE⟩ : ∃ E : Nat, E = appendE M N nm bs := ⟨_, rfl⟩
  obtain ⟨s, hs⟩ : ∃ s, s = ByteArray.mk ⟨nm⟩ := ⟨_, rfl⟩
  obtain ⟨LB, hLB⟩ : ∃ L, L = bs.length := ⟨_, rfl⟩
  rw [← hLB] at hv ⊢
  obtain ⟨cs, hcs⟩ : ∃ cs : Array Value, cs = #[.int .i64 0, .string s, .string s2, .slice ba LB bc, .int .i64 n, vK] := ⟨_, rfl⟩
  have HA : Hid (AtW wr (wr.alloc (.cells cs 34)) cs) := ⟨World.grownBy_alloc _ _ none, alloc_at _ _⟩
  have H1 : Hid (∀ W, AtW wr W cs → Calls Try.prog 32 #[.slice ba LB bc] W fun e w' => ∃ v, e = .returned v ∧ Hid (AtW wr w' cs ∧ ∃ g, LentW w' (wr.heap.size + 1) g v bs ∧ wr.heap.size < g ∧ g < w'.heap.size)) := fun W hW => by
    have hz := some_lt hW.2
    refine (lent_any (.slice ba LB bc) bs W (hv.keep (gb_none h.g hW.1)) (by omega)).mono ?_
    rintro e w' ⟨v, h1, h2, h3, h4⟩
    obtain ⟨g, cap, hvv, hg, hr⟩ := h2
    refine ⟨v, h1, ⟨gb_none hW.1 h4, by rw [h4.block _ hz (by simp)]; exact hW.2⟩, g, ⟨⟨g, cap, hvv, by omega, hr⟩, h3.mono (by omega), by rw [hvv]; rfl⟩, by omega, (h3.lt g (by rw [hvv]; rfl)).2⟩
  have H2 : Hid (∀ W g v, AtW wr W cs ∧ LentW W (wr.heap.size + 1) g v bs ∧ wr.heap.size < g ∧ g < W.heap.size → Calls Try.prog 17 #[.pointer (some ⟨gd, 0, none⟩), .string s, v] W fun e w' => e = .returned (.int .i64 (E : Int)) ∧ Hid ((∃ Sd', DuoW w0 w' Sd' Sr gd gr M' N' M N ∧ ¬ Sd' g ∧ Ch wr w' Sd ∧ ∀ k, k < wr.heap.size → Sd' k → Sd k) ∧ LentW w' (wr.heap.size + 1) g v bs ∧ wr.heap.size < g ∧ g < w'.heap.size ∧ w'.heap[wr.heap.size]? = some (.cells cs 34)) ∧ w'.cell? ⟨wr.heap.size, 1, none⟩ = some (.string s) ∧ w'.cell? ⟨wr.heap.size, 3, none⟩ = some (.slice ba LB bc)) := fun W g v hW => by
    obtain ⟨hA, hl, hg1, hg2⟩ := hW
    rw [hs]
    refine (append_ok W Sd gd N M nm bs v hn (h.d.keep hA.1) hl.1.rd).mono ?_
    rintro e w' ⟨h1, h2, h3⟩
    have h3' : DiskOK w' (Gr Sd W w') gd (appendM M N nm bs) (appendN M N nm bs) := h3
    rw [← hM', ← hN'] at h3'
    rw [← hE] at h1
    have hnot : ∀ k, wr.heap.size ≤ k → ¬ Sd k := fun k hk hs => by have := (h.bd k hs).2.1; omega
    have hb : w'.heap[wr.heap.size]? = some (.cells cs 34) := (h2.block (some_lt hA.2) (hnot _ (Nat.le_refl _))).trans hA.2
    have hz := h2.size
    rw [← hs]
    have hzA := hA.1.size
    refine ⟨h1, ⟨⟨_, (h.keep hA.1).setD h2 h3', fun hk => ?_, (Ch.of_gb (S := Sd) hA.1 (fun k hk => by cases hk)).trans h2 (fun _ _ h => h), fun k hk hs => hs.elim id (fun h => by omega)⟩, hl.via (h2.block hg2 (hnot _ (by omega))), hg1, by omega, hb⟩, by simp [World.cell?, hb, hcs], by simp [World.cell?, hb, hcs]⟩
    rcases hk with hk | hk
    · exact hnot _ (by omega) hk
    · omega
  have H3 : Hid (∀ W g v, ((∃ Sd', DuoW w0 W Sd' Sr gd gr M' N' M N ∧ ¬ Sd' g ∧ Ch wr W Sd ∧ ∀ k, k < wr.heap.size → Sd' k → Sd k) ∧ LentW W (wr.heap.size + 1) g v bs ∧ wr.heap.size < g ∧ g < W.heap.size ∧ W.heap[wr.heap.size]? = some (.cells cs 34)) → Calls Try.prog 26 #[.pointer (some ⟨gr, 0, none⟩), .string s, .slice ba LB bc] W fun e w' => e = .returned (.int .i64 (E : Int)) ∧ Hid ((∃ Sd' Sr', DuoW w0 w' Sd' Sr' gd gr M' N' M' N' ∧ ¬ Sd' g ∧ ¬ Sr' g ∧ Ch wr w' (fun k => Sd k ∨ Sr k) ∧ (∀ k, k < wr.heap.size → Sd' k → Sd k) ∧ ∀ k, k < wr.heap.size → Sr' k → Sr k) ∧ LentW w' (wr.heap.size + 1) g v bs ∧ wr.heap.size < g ∧ g < w'.heap.size) ∧ w'.cell? ⟨wr.heap.size, 1, none⟩ = some (.string s) ∧ w'.cell? ⟨wr.heap.size, 3, none⟩ = some (.slice ba LB bc)) := fun W g v hW => by
    obtain ⟨⟨Sd', hd, hng, hx1, hx2⟩, hl, hg1, hg2, hb0⟩ := hW
    have hxz := hx1.size
    rw [hs]
    refine (refAppend_ok W Sr gr N M nm bs _ hn hd.r (hv.keep hd.g)).mono ?_
    rintro e w' ⟨h1, h2, h3⟩
    have h3' : RefOK w' (Gr Sr W w') gr (appendM M N nm bs) (appendN M N nm bs) := h3
    rw [← hM', ← hN'] at h3'
    rw [← hE] at h1
    have hnot : ∀ k, wr.heap.size ≤ k → ¬ Sr k := fun k hk hs => by have := (h.br k hs).2; omega
    have hb : w'.heap[wr.heap.size]? = some (.cells cs 34) := (h2.block (some_lt hb0) (hnot _ (Nat.le_refl _))).trans hb0
    have hz := h2.size
    rw [← hs]
    refine ⟨h1, ⟨⟨_, _, hd.setR h2 h3', hng, fun hk => ?_, (hx1.mono (fun _ _ h => .inl h)).trans h2 (fun _ _ h => .inr h), hx2, fun k hk hs => hs.elim id (fun h => by omega)⟩, hl.via (h2.block hg2 (hnot _ (by omega))), hg1, by omega⟩, by simp [World.cell?, hb, hcs], by simp [World.cell?, hb, hcs]⟩
    rcases hk with hk | hk
    · exact hnot _ (by omega) hk
    · omega
  have H4 : Hid (∀ W g v, ((∃ Sd' Sr', DuoW w0 W Sd' Sr' gd gr M' N' M' N' ∧ ¬ Sd' g ∧ ¬ Sr' g ∧ Ch wr W (fun k => Sd k ∨ Sr k) ∧ (∀ k, k < wr.heap.size → Sd' k → Sd k) ∧ ∀ k, k < wr.heap.size → Sr' k → Sr k) ∧ LentW W (wr.heap.size + 1) g v bs ∧ wr.heap.size < g ∧ g < W.heap.size) → Calls Try.prog 33 #[v, .slice ba LB bc] W fun e w' => e = .returned (.bool true) ∧ Hid ((∃ Sd' Sr', DuoW w0 w' Sd' Sr' gd gr M' N' M' N' ∧ ¬ Sd' g ∧ ¬ Sr' g ∧ Ch wr w' (fun k => Sd k ∨ Sr k) ∧ (∀ k, k < wr.heap.size → Sd' k → Sd k) ∧ ∀ k, k < wr.heap.size → Sr' k → Sr k) ∧ LentW w' (wr.heap.size + 1) g v bs ∧ wr.heap.size < g ∧ g < w'.heap.size)) := fun W g v hW => by
    obtain ⟨⟨Sd', Sr', hd, hng1, hng2, hx1, hx2, hx3⟩, hl, hg1, hg2⟩ := hW
    refine (keptB_any v _ _ bs W hl.1 (hv.keep hd.g)).mono ?_
    rintro e w' ⟨h1, h2⟩
    have hz := h2.size
    exact ⟨h1, ⟨Sd', Sr', hd.keep h2, hng1, hng2, hx1.trans (Ch.of_gb (S := fun _ => False) h2 (fun k hk => by cases hk)) (fun _ _ h => h.elim), hx2, hx3⟩, hl.via (h2.block _ hg2 (by simp)), hg1, by omega⟩
  have H5 : Hid (∀ W g v, ((∃ Sd' Sr', DuoW w0 W Sd' Sr' gd gr M' N' M' N' ∧ ¬ Sd' g ∧ ¬ Sr' g ∧ Ch wr W (fun k => Sd k ∨ Sr k) ∧ (∀ k, k < wr.heap.size → Sd' k → Sd k) ∧ ∀ k, k < wr.heap.size → Sr' k → Sr k) ∧ LentW W (wr.heap.size + 1) g v bs ∧ wr.heap.size < g ∧ g < W.heap.size) → Calls Try.prog 34 #[v] W fun e w' => e = .returned (.tuple #[]) ∧ Hid (DuoX w0 wr w' Sd Sr gd gr M' N')) := fun W g v hW => by
    obtain ⟨⟨Sd', Sr', hd, hng1, hng2, hx1, hx2, hx3⟩, hl, hg1, hg2⟩ := hW
    refine (spoil_any v _ bs W hl.2.1 (by omega) (by omega)).mono ?_
    rintro e w' ⟨h1, h2⟩
    rw [hl.2.2] at h2
    have hch : Ch W w' (fun k => k = g) := Ch.of_gb h2 (fun k hk _ => by cases hk; rfl)
    have hz := h2.size
    have hw0 := h.g.size
    refine ⟨h1, Sd', Sr', ⟨hd.d.frame hch (fun k _ hk e => hng1 (by rw [← e]; exact hk)), hd.r.frame hch (fun k _ hk e => hng2 (by rw [← e]; exact hk)), gb_new hd.g h2 (fun k hk => by cases hk; omega), fun k hk => ?_, fun k hk => ?_⟩, hx1.trans hch (fun k hk e => by have e' : k = g := e; omega), hx2, hx3⟩
    · obtain ⟨x, y, z⟩ := hd.bd k hk
      exact ⟨x, by omega, z⟩
    · obtain ⟨x, y⟩ := hd.br k hk
      exact ⟨x, by omega⟩
  rw [← hM', ← hN', ← hs]
  clear hM' hN' hE h hs hv hL hLB hn
  go_enter Try.func12, Try.ntmps12
  rw [hcs] at HA H1 H2 H3
  clear hcs
  go_wp2_with fail
  refine (H1.out _ HA.out).mono ?_
  rintro e w1 ⟨v1, rfl, R1⟩
  obtain ⟨g, hg⟩ := R1.out.2
  have c1 : w1.cell? ⟨wr.heap.size, 1, none⟩ = some (.string s) := by simp [World.cell?, R1.out.1.2]
  have c3 : w1.cell? ⟨wr.heap.size, 3, none⟩ = some (.slice ba LB bc) := by simp [World.cell?, R1.out.1.2]
  have G1 := hid_mk' (And.intro R1.out.1 hg)
  clear hg
  go_wp2_with fail
  refine (H2.out _ _ _ G1.out).mono ?_
  rintro e w2 ⟨rfl, R2, d1, d3⟩
  clear c1 c3 G1 R1 HA
  go_wp2_with fail
  refine (H3.out _ _ _ R2.out).mono ?_
  rintro e w3 ⟨rfl, R3, e1, e3⟩
  clear d1 d3 R2 H2
  go_wp2_with fail
  refine (H4.out _ _ _ R3.out).mono ?_
  rintro e w4 ⟨rfl, R4⟩
  clear e1 e3 R3 H3
  go_wp2_with fail
  refine (H5.out _ _ _ R4.out).mono ?_
  rintro e w5 ⟨rfl, R5⟩
  go_wp2
  go_ret
  exact ⟨rfl, R5.out⟩

/-- the files behind a call -/
structure Opm where
  kind : Int
  name : Bs
  to : Bs
  b : Bs
  n : Int
  ks : List Kp
def stepM (o : Opm) (M : Fls) (N : Nat) : Fls :=
  if o.kind = 0 then appendM M N o.name o.b else if o.kind = 1 then syncM M o.name else if o.kind = 2 then cutM M o.name o.n else if o.kind = 3 then renameM M o.name o.to else if o.kind = 4 then upd M o.name none else if o.kind = 5 then crashN M o.ks else M
def stepN (o : Opm) (M : Fls) (N : Nat) : Nat :=
  if o.kind = 0 then appendN M N o.name o.b else if o.kind = 3 then renameN M o.name o.to N else if o.kind = 4 then (if (M o.name).isSome then N - 1 else N) else N
/-- a call reads as this -/
def OpIn (w : World) (v : Value) (o : Opm) : Prop := ∃ ba bc va vc, v = .agg #[.int .i64 o.kind, .string (ByteArray.mk ⟨o.name⟩), .string (ByteArray.mk ⟨o.to⟩), .slice ba o.b.length bc, .int .i64 o.n, .slice va o.ks.length vc] ∧ Rd w (.slice ba o.b.length bc) o.b ∧ KpsIn w (.slice va o.ks.length vc) o.ks ∧ (va = none → vc = 0) ∧ o.name.length ≤ 9223372036854775807 ∧ o.to.length ≤ 9223372036854775807 ∧ o.b.length ≤ 140737488351232 ∧ o.ks.length ≤ 5864062014634
/-- STEP -/
theorem step_any (w0 wr : World) (gd gr N : Nat) (M : Fls) (v : Value) (o : Opm) (hv : OpIn w0 v o) (Sd Sr : Nat → Prop) (h : DuoW w0 wr Sd Sr gd gr M N M N) :
    Calls Try.prog 12 #[.pointer (some ⟨gd, 0, none⟩), .pointer (some ⟨gr, 0, none⟩), v] wr fun e w' => e = .returned (.bool true) ∧ DuoX w0 wr w' Sd Sr gd gr (stepM o M N) (stepN o M N) := by
  obtain ⟨ba, bc, va, vc, rfl, h1, h2, h3, h5, h6, h7, h8⟩ := hv
  obtain ⟨kind, nm, to, b, n, ks⟩ := o
  simp only at *
  by_cases k0 : kind = 0
  · subst k0
    exact step_append w0 wr gd gr N M nm _ _ n ba bc b h1 h7 h5 Sd Sr h
  · by_cases k1 : kind = 1
    · subst k1
      exact step_sync w0 wr gd gr N M nm to _ _ n h5 Sd Sr h
    · by_cases k2 : kind = 2
      · subst k2
        exact step_cut w0 wr gd gr N M nm to _ _ n h5 Sd Sr h
      · by_cases k3 : kind = 3
        · subst k3
          exact step_rename w0 wr gd gr N M nm to _ _ n h5 h6 Sd Sr h
        · by_cases k4 : kind = 4
          · subst k4
            exact step_remove w0 wr gd gr N M nm to _ _ n h5 Sd Sr h
          · by_cases k5 : kind = 5
            · subst k5
              exact step_crash w0 wr gd gr N M _ _ _ n va vc ks h2 h3 h8 Sd Sr h
            · have e1 : stepM ⟨kind, nm, to, b, n, ks⟩ M N = M := by simp [stepM, k0, k1, k2, k3, k4, k5]
              have e2 : stepN ⟨kind, nm, to, b, n, ks⟩ M N = N := by simp [stepN, k0, k3, k4]
              rw [e1, e2]
              exact step_read w0 wr gd gr N M nm _ _ _ kind n (by omega) h5 Sd Sr h
end Go.Proofs.Ytgafmplmngbbfaa
