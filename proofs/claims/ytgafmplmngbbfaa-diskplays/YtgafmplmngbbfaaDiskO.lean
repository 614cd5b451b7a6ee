/-
  A disk as a whole: which blocks it has, what its files hold, and what stays while other blocks are written. Plain facts; no walk.
-/
import Derived.Test.YtgafmplmngbbfaaDiskC
import Derived.Maps.Ext
import Derived.Maps.RangeWalk
namespace Go.Proofs.Ytgafmplmngbbfaa
open Go.RowKit Go.Maps Go.WideMaps

/-- what is written of old blocks lies in S; all others stay -/
def Ch (w w' : World) (S : Nat → Prop) : Prop :=
  w'.os = w.os ∧ w'.tape = w.tape ∧ w'.output = w.output ∧ w.heap.size ≤ w'.heap.size ∧ ∀ k, k < w.heap.size → ¬ S k → w'.heap[k]? = w.heap[k]?
theorem Ch.refl (w : World) (S : Nat → Prop) : Ch w w S := ⟨rfl, rfl, rfl, Nat.le_refl _, fun _ _ _ => rfl⟩
theorem Ch.size {w w' : World} {S : Nat → Prop} (h : Ch w w' S) : w.heap.size ≤ w'.heap.size := h.2.2.2.1
theorem Ch.block {w w' : World} {S : Nat → Prop} (h : Ch w w' S) {k : Nat} (hk : k < w.heap.size) (hs : ¬ S k) : w'.heap[k]? = w.heap[k]? := h.2.2.2.2 k hk hs
theorem Ch.trans {w w1 w2 : World} {S T : Nat → Prop} (h1 : Ch w w1 S) (h2 : Ch w1 w2 T) (hT : ∀ k, k < w.heap.size → T k → S k) : Ch w w2 S :=
  ⟨h2.1.trans h1.1, h2.2.1.trans h1.2.1, h2.2.2.1.trans h1.2.2.1, Nat.le_trans h1.size h2.size, fun k hk hs =>
    (h2.block (Nat.lt_of_lt_of_le hk h1.size) (fun ht => hs (hT k hk ht))).trans (h1.block hk hs)⟩
theorem Ch.mono {w w' : World} {S T : Nat → Prop} (h : Ch w w' S) (hT : ∀ k, k < w.heap.size → S k → T k) : Ch w w' T :=
  ⟨h.1, h.2.1, h.2.2.1, h.size, fun k hk hs => h.block hk (fun hk' => hs (hT k hk hk'))⟩
theorem Ch.of_gb {w w' : World} {g : Option Nat} {S : Nat → Prop} (h : w.grownBy w' g) (hg : ∀ k, g = some k → k < w.heap.size → S k) : Ch w w' S :=
  ⟨h.os, h.tape, h.output, h.size, fun k hk hs => h.block k hk (fun e => hs (hg k e.symm hk))⟩
theorem Ch.gb {w w' : World} {S : Nat → Prop} (h : Ch w w' S) (hs : ∀ k, k < w.heap.size → ¬ S k) : w.grownBy w' none :=
  ⟨h.1, h.2.1, h.2.2.1, h.size, fun k hk _ => h.block hk (hs k hk)⟩

theorem Own.via {w w' : World} {base : Nat} {v : Value} {l : List UInt8} (h : Own w base v l) (hk : ∀ k, v.ownBlock = some k → w'.heap[k]? = w.heap[k]?) : Own w' base v l := by
  refine ⟨h.1, ?_⟩
  rcases h.2 with hn | ⟨g, cap, cur, rfl, hb, hgg, rest⟩
  · exact .inl hn
  · exact .inr ⟨g, cap, cur, rfl, hb, by rw [hk g rfl]; exact hgg, rest⟩
theorem Own.obj {w : World} {base : Nat} {v : Value} {l : List UInt8} (h : Own w base v l) {k : Nat} (hk : v.ownBlock = some k) : ∃ cur, w.heap[k]? = some (.cells cur 5 (0, 0)) := by
  rcases h.2 with ⟨rfl, _⟩ | ⟨g, cap, cur, rfl, hb, hgg, rest⟩
  · simp [Value.ownBlock] at hk
  · simp only [Value.ownBlock, Option.some.injEq] at hk
    subst hk
    exact ⟨cur, hgg⟩
theorem Rd.via {w w' : World} {v : Value} {l : List UInt8} (h : Rd w v l) (hk : ∀ k, v.ownBlock = some k → k < w.heap.size → w'.heap[k]? = w.heap[k]?) : Rd w' v l := by
  obtain ⟨a, c, rfl, h1, h2, h3, h4⟩ := h
  refine ⟨a, c, rfl, h1, h2, ?_, h4⟩
  intro j hj
  obtain ⟨b, o, rfl, hc⟩ := h3 j hj
  refine ⟨b, o, rfl, ?_⟩
  rw [← hc]
  exact World.cell?_of_block (hk b rfl (block_lt hc))
theorem Rd.ch {w w' : World} {v : Value} {l : List UInt8} {S : Nat → Prop} (h : Rd w v l) (hc : Ch w w' S) (hs : ∀ k, v.ownBlock = some k → k < w.heap.size → ¬ S k) : Rd w' v l :=
  h.via (fun k hk hlt => hc.block hlt (hs k hk hlt))

abbrev Bs := List UInt8
/-- files by their names: bytes, and how many of them are synced -/
abbrev Fls := Bs → Option (Bs × Nat)
def upd (M : Fls) (l : Bs) (x : Option (Bs × Nat)) : Fls := fun k => if k = l then x else M k
theorem upd_same (M : Fls) (l : Bs) (x : Option (Bs × Nat)) : upd M l x l = x := if_pos rfl
theorem upd_other (M : Fls) {l k : Bs} (x : Option (Bs × Nat)) (h : k ≠ l) : upd M l x k = M k := if_neg h

/-- A DISK: its box gd, its map gm, which reads as D; the files' boxes gf, their bytes u; all in blocks of S -/
structure DiskW (w : World) (S : Nat → Prop) (gd : Nat) (M : Fls) (N gm : Nat) (D : DataW Unit) (gf : Bs → Nat) (u : Bs → Value) : Prop where
  box : w.heap[gd]? = some (.cells #[.map (some gm)] 66)
  map : w.ownsMap Try.prog 9 ptrElem gm N D
  size : Maps.size D = N
  most : N ≤ 256
  inD : S gd
  inM : S gm
  has : ∀ l, Maps.has D (.string l) = (M l).isSome
  at' : ∀ l c z, M l = some (c, z) → D.atKey (.string l) (.lit (.int .i64 (-1))) = .lit (.int .i64 (gf l : Int))
  file : ∀ l c z, M l = some (c, z) → w.heap[gf l]? = some (.cells #[u l, .int .i64 (z : Int)] 77)
  own : ∀ l c z, M l = some (c, z) → Own w 0 (u l) c
  fits : ∀ l c z, M l = some (c, z) → nameOk l = true ∧ z ≤ c.length ∧ c.length ≤ 1048576
  inF : ∀ l c z, M l = some (c, z) → S (gf l) ∧ ∀ k, (u l).ownBlock = some k → S k
  apart : ∀ l l', M l ≠ none → M l' ≠ none → l ≠ l' → gf l ≠ gf l' ∧ ∀ k, (u l).ownBlock = some k → (u l').ownBlock ≠ some k
def DiskOK (w : World) (S : Nat → Prop) (gd : Nat) (M : Fls) (N : Nat) : Prop := ∃ gm D gf u, DiskW w S gd M N gm D gf u

theorem own_tight {w : World} {gm n N : Nat} {D : DataW Unit} (h : w.ownsMap Try.prog 9 ptrElem gm n D) (hs : Maps.size D = N) : w.ownsMap Try.prog 9 ptrElem gm N D := by
  obtain ⟨es, clock, hb, F, hn, rfl⟩ := h
  refine ⟨es, clock, hb, F, ?_, rfl⟩
  rw [← hs]
  simp [Maps.size, length_sorted]
theorem map_obj {w : World} {gm n : Nat} {D : DataW Unit} (h : w.ownsMap Try.prog 9 ptrElem gm n D) : ∃ es clock, w.heap[gm]? = some (.map es clock) := by
  obtain ⟨es, clock, hb, _⟩ := h
  exact ⟨es, clock, hb⟩
theorem map_via {w w' : World} {gm n : Nat} {D : DataW Unit} (h : w.ownsMap Try.prog 9 ptrElem gm n D) (hb : w'.heap[gm]? = w.heap[gm]?) : w'.ownsMap Try.prog 9 ptrElem gm n D := by
  obtain ⟨es, clock, hb', r⟩ := h
  exact ⟨es, clock, hb.trans hb', r⟩
theorem some_lt {w : World} {k : Nat} {o : Obj} (h : w.heap[k]? = some o) : k < w.heap.size := (Array.getElem?_eq_some_iff.1 h).1

/-- the blocks that a disk has differ by what lies in them -/
theorem DiskW.ne_dm {w : World} {S : Nat → Prop} {gd N gm : Nat} {M : Fls} {D : DataW Unit} {gf : Bs → Nat} {u : Bs → Value} (h : DiskW w S gd M N gm D gf u) : gd ≠ gm := by
  intro e
  obtain ⟨es, ck, hm⟩ := map_obj h.map
  have := h.box
  rw [e, hm] at this
  cases this
theorem DiskW.ne_df {w : World} {S : Nat → Prop} {gd N gm : Nat} {M : Fls} {D : DataW Unit} {gf : Bs → Nat} {u : Bs → Value} (h : DiskW w S gd M N gm D gf u) {l c : Bs} {z : Nat} (hl : M l = some (c, z)) : gd ≠ gf l := by
  intro e
  have h1 := h.box
  rw [e, h.file l c z hl] at h1
  simp at h1
theorem DiskW.ne_mf {w : World} {S : Nat → Prop} {gd N gm : Nat} {M : Fls} {D : DataW Unit} {gf : Bs → Nat} {u : Bs → Value} (h : DiskW w S gd M N gm D gf u) {l c : Bs} {z : Nat} (hl : M l = some (c, z)) : gm ≠ gf l := by
  intro e
  obtain ⟨es, ck, hm⟩ := map_obj h.map
  rw [e, h.file l c z hl] at hm
  cases hm
theorem DiskW.ne_u {w : World} {S : Nat → Prop} {gd N gm : Nat} {M : Fls} {D : DataW Unit} {gf : Bs → Nat} {u : Bs → Value} (h : DiskW w S gd M N gm D gf u) {l c : Bs} {z : Nat} (hl : M l = some (c, z)) :
    (u l).ownBlock ≠ some gd ∧ (u l).ownBlock ≠ some gm ∧ ∀ l' c' z', M l' = some (c', z') → (u l).ownBlock ≠ some (gf l') := by
  refine ⟨fun e => ?_, fun e => ?_, fun l' c' z' hl' e => ?_⟩
  · obtain ⟨cur, hc⟩ := (h.own l c z hl).obj e
    rw [h.box] at hc
    simp at hc
  · obtain ⟨cur, hc⟩ := (h.own l c z hl).obj e
    obtain ⟨es, ck, hm⟩ := map_obj h.map
    rw [hm] at hc
    cases hc
  · obtain ⟨cur, hc⟩ := (h.own l c z hl).obj e
    rw [h.file l' c' z' hl'] at hc
    simp at hc

/-- a disk stays while none of its blocks is written -/
theorem DiskW.frame {w w' : World} {S T : Nat → Prop} {gd N gm : Nat} {M : Fls} {D : DataW Unit} {gf : Bs → Nat} {u : Bs → Value} (h : DiskW w S gd M N gm D gf u) (hc : Ch w w' T) (hT : ∀ k, k < w.heap.size → S k → ¬ T k) : DiskW w' S gd M N gm D gf u where
  box := by rw [hc.block (some_lt h.box) (hT _ (some_lt h.box) h.inD)]; exact h.box
  map := map_via h.map (hc.block h.map.lt (hT _ h.map.lt h.inM))
  size := h.size
  most := h.most
  inD := h.inD
  inM := h.inM
  has := h.has
  at' := h.at'
  file := fun l c z hl => by
    have := h.file l c z hl
    rw [hc.block (some_lt this) (hT _ (some_lt this) (h.inF l c z hl).1)]
    exact this
  own := fun l c z hl => (h.own l c z hl).via (fun k hk => hc.block ((h.own l c z hl).lt k hk).2 (hT _ ((h.own l c z hl).lt k hk).2 ((h.inF l c z hl).2 k hk)))
  fits := h.fits
  inF := h.inF
  apart := h.apart
theorem DiskOK.frame {w w' : World} {S T : Nat → Prop} {gd N : Nat} {M : Fls} (h : DiskOK w S gd M N) (hc : Ch w w' T) (hT : ∀ k, k < w.heap.size → S k → ¬ T k) : DiskOK w' S gd M N := by
  obtain ⟨gm, D, gf, u, h⟩ := h
  exact ⟨gm, D, gf, u, h.frame hc hT⟩
theorem DiskOK.keep {w w' : World} {S : Nat → Prop} {gd N : Nat} {M : Fls} (h : DiskOK w S gd M N) (hg : w.grownBy w' none) : DiskOK w' S gd M N :=
  h.frame (T := fun _ => False) (Ch.of_gb hg (fun k hk => by cases hk)) (fun _ _ _ => id)
theorem DiskW.mono {w : World} {S T : Nat → Prop} {gd N gm : Nat} {M : Fls} {D : DataW Unit} {gf : Bs → Nat} {u : Bs → Value} (h : DiskW w S gd M N gm D gf u) (hT : ∀ k, k < w.heap.size → S k → T k) : DiskW w T gd M N gm D gf u :=
  { h with
    inD := hT _ (some_lt h.box) h.inD
    inM := hT _ h.map.lt h.inM
    inF := fun l c z hl => ⟨hT _ (some_lt (h.file l c z hl)) (h.inF l c z hl).1, fun k hk => hT _ ((h.own l c z hl).lt k hk).2 ((h.inF l c z hl).2 k hk)⟩ }
theorem DiskOK.mono {w : World} {S T : Nat → Prop} {gd N : Nat} {M : Fls} (h : DiskOK w S gd M N) (hT : ∀ k, k < w.heap.size → S k → T k) : DiskOK w T gd M N := by
  obtain ⟨gm, D, gf, u, h⟩ := h
  exact ⟨gm, D, gf, u, h.mono hT⟩
/-- S, and what is new between two worlds -/
def Gr (S : Nat → Prop) (w w' : World) : Nat → Prop := fun k => S k ∨ (w.heap.size ≤ k ∧ k < w'.heap.size)

/-- a map that has the same at each string has it wherever -/
theorem keyOf_string_inv {key : Value} {kl : Lit} (h : keyOf Try.prog 9 key = some kl) : ∃ l : Bs, key = .string (ByteArray.mk ⟨l⟩) ∧ kl = .string l ∧ l.length ≤ maxLen := by
  have hu := Try.underlying9
  cases key <;> simp [keyOf, hu, mapKey] at h
  rename_i s
  obtain ⟨h1, rfl⟩ := h
  refine ⟨s.data.toList, rfl, rfl, ?_⟩
  simpa using h1
theorem lit_ne {l l' : Bs} (h : l ≠ l') : Lit.string l ≠ Lit.string l' := fun e => h (by cases e; rfl)
end Go.Proofs.Ytgafmplmngbbfaa
