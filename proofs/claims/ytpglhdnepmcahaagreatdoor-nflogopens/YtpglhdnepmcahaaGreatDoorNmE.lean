/-
  Nfa, Nfb, in one text.
-/
import Derived.Test.YtpglhdnepmcahaaGreatDoorNmD
import Derived.Deep.QuietTactic
import Derived.BigQuiet
/- Nfa -/
namespace Go.Proofs.YtpglhdnepmcahaaGreatDoor
open Go.RowKit Go.Shelf Go.Sort

set_option maxRecDepth 8000 in
set_option maxHeartbeats 3200000 in
theorem compareA_any (W : World) (x y : LbT) :
    Calls Tryz.prog 180 #[.agg #[.string (ByteArray.mk ⟨x.1⟩), .string (ByteArray.mk ⟨x.2⟩)], .agg #[.string (ByteArray.mk ⟨y.1⟩), .string (ByteArray.mk ⟨y.2⟩)]] W fun e w' => e = .returned (.int .i64 (cmpL x y)) ∧ ∃ q os', w' = grow (W.drewN q) os' := by
  have HR : Hid (cmpL x y = if cmpS x.1 y.1 ≠ 0 then cmpS x.1 y.1 else cmpS x.2 y.2) := rfl
  have HA : Hid (∀ w, Calls Tryz.prog 130 #[.string (ByteArray.mk ⟨x.1⟩), .string (ByteArray.mk ⟨y.1⟩)] w fun e w' => e = .returned (.int .i64 (cmpS x.1 y.1)) ∧ w' = w) := fun w => compareS_any w _ _
  have HB : Hid (∀ w, Calls Tryz.prog 130 #[.string (ByteArray.mk ⟨x.2⟩), .string (ByteArray.mk ⟨y.2⟩)] w fun e w' => e = .returned (.int .i64 (cmpS x.2 y.2)) ∧ w' = w) := fun w => compareS_any w _ _
  generalize cmpL x y = r at *
  generalize cmpS x.1 y.1 = r1 at *
  generalize cmpS x.2 y.2 = r2 at *
  go_enter Tryz.func180, Tryz.ntmps180
  go_wp2_with fail
  have HO : Hid (∀ w : World, Calls Tryz.prog 129 #[.slice (some ⟨w.heap.size, 0, none⟩) 2 2] (w.alloc (.cells #[.int .i64 r1, .int .i64 r2] 3)).drew fun e w' => e = .returned (.int .i64 r) ∧ w' = (w.alloc (.cells #[.int .i64 r1, .int .i64 r2] 3)).drew) := fun w => by
    have hb := Go.heap_alloc_new w (.cells #[.int .i64 r1, .int .i64 r2] 3)
    rw [HR.out]
    refine or_any _ _ r1 r2 ?_ ?_
    · show (w.alloc (.cells #[.int .i64 r1, .int .i64 r2] 3)).cell? _ = _
      rw [World.cell?, hb]; rfl
    · show (w.alloc (.cells #[.int .i64 r1, .int .i64 r2] 3)).cell? _ = _
      rw [World.cell?, hb]; rfl
  have hb1 := Go.heap_alloc_new (W.alloc (.cells #[.string (ByteArray.mk ⟨x.1⟩), .string (ByteArray.mk ⟨x.2⟩)] 81)) (.cells #[.string (ByteArray.mk ⟨y.1⟩), .string (ByteArray.mk ⟨y.2⟩)] 81)
  have hb0 : ((W.alloc (.cells #[.string (ByteArray.mk ⟨x.1⟩), .string (ByteArray.mk ⟨x.2⟩)] 81)).alloc (.cells #[.string (ByteArray.mk ⟨y.1⟩), .string (ByteArray.mk ⟨y.2⟩)] 81)).heap[W.heap.size]? = some (.cells #[.string (ByteArray.mk ⟨x.1⟩), .string (ByteArray.mk ⟨x.2⟩)] 81) :=
    ((World.grownBy_alloc _ _ none).block _ (Array.getElem?_eq_some_iff.1 (Go.heap_alloc_new W _)).1 (by simp)).trans (Go.heap_alloc_new W _)
  have hgr : Hid (∀ C, ∃ os', (((W.alloc (.cells #[.string (ByteArray.mk ⟨x.1⟩), .string (ByteArray.mk ⟨x.2⟩)] 81)).alloc (.cells #[.string (ByteArray.mk ⟨y.1⟩), .string (ByteArray.mk ⟨y.2⟩)] 81)).alloc C).drew = grow (W.drewN 1) os') := fun C => ⟨_, by rw [alloc_eq_grow, alloc_eq_grow, alloc_eq_grow, grow_grow, grow_grow]; rfl⟩
  have hsz : (W.alloc (.cells #[.string (ByteArray.mk ⟨x.1⟩), .string (ByteArray.mk ⟨x.2⟩)] 81)).heap.size = W.heap.size + 1 := by simp
  rw [hsz] at hb1
  generalize (W.alloc (.cells #[.string (ByteArray.mk ⟨x.1⟩), .string (ByteArray.mk ⟨x.2⟩)] 81)).alloc (.cells #[.string (ByteArray.mk ⟨y.1⟩), .string (ByteArray.mk ⟨y.2⟩)] 81) = W1 at *
  clear hsz
  have q0 : W1.cell? ⟨W.heap.size, 0, none⟩ = some (.string (ByteArray.mk ⟨x.1⟩)) := by rw [World.cell?, hb0]; rfl
  have q1 : W1.cell? ⟨W.heap.size, 1, none⟩ = some (.string (ByteArray.mk ⟨x.2⟩)) := by rw [World.cell?, hb0]; rfl
  have q2 : W1.cell? ⟨W.heap.size + 1, 0, none⟩ = some (.string (ByteArray.mk ⟨y.1⟩)) := by rw [World.cell?, hb1]; rfl
  have q3 : W1.cell? ⟨W.heap.size + 1, 1, none⟩ = some (.string (ByteArray.mk ⟨y.2⟩)) := by rw [World.cell?, hb1]; rfl
  clear hb0 hb1
  generalize ByteArray.mk ⟨x.1⟩ = x1 at *
  generalize ByteArray.mk ⟨x.2⟩ = x2 at *
  generalize ByteArray.mk ⟨y.1⟩ = y1 at *
  generalize ByteArray.mk ⟨y.2⟩ = y2 at *
  generalize hbe : W.heap.size = b0 at *
  clear hbe
  generalize hbf : b0 + 1 = b1 at *
  clear hbf
  go_region_held3 (fun w' => w'.cell? ⟨b0, 0, none⟩ = some (.string x1) ∧ w'.cell? ⟨b0, 1, none⟩ = some (.string x2) ∧ w'.cell? ⟨b1, 0, none⟩ = some (.string y1) ∧ w'.cell? ⟨b1, 1, none⟩ = some (.string y2)) (go_keep)
    (first
      | (go_at_call_of 130 x1; with_reducible refine (HA.out _).mono ?_; rintro e w' ⟨rfl, rfl⟩)
      | (go_at_call_of 130 x2; with_reducible refine (HB.out _).mono ?_; rintro e w' ⟨rfl, rfl⟩)
      | (go_at_call 129; with_reducible refine (HO.out _).mono ?_; rintro e w' ⟨rfl, rfl⟩))
  go_wp2
  go_ret
  exact ⟨rfl, 1, hgr.out _⟩

/-- a mark with the slices of its lists -/
abbrev MkX := MkR × Value × Value
def keyX (x : MkX) : LbT := (x.1.rcv, x.1.key)
def addV (a : LbT) : Value := .agg #[.string (ByteArray.mk ⟨a.1⟩), .string (ByteArray.mk ⟨a.2⟩)]
def markX (x : MkX) : Value := markV x.1 x.2.1 x.2.2
def entV (x : MkX) : Value := .agg #[.string (ByteArray.mk ⟨x.1.rcv⟩), .string (ByteArray.mk ⟨x.1.key⟩), .string (ByteArray.mk ⟨x.1.rcv⟩), .string (ByteArray.mk ⟨x.1.key⟩), .int .i64 x.1.tim, x.2.1, x.2.2]
set_option maxRecDepth 8000 in
set_option maxHeartbeats 1600000 in
theorem find1_any (w : World) (x : MkX) (a : LbT) (hs : (∃ a n c, x.2.1 = .slice a n c) ∧ ∃ a n c, x.2.2 = .slice a n c) :
    Calls Tryz.prog 106 #[entV x, addV a] w fun e w' => e = .returned (.int .i64 (cmpL (keyX x) a)) ∧ w.grownBy w' none := by
  have HC : Hid (∀ W, w.grownBy W none → Calls Tryz.prog 180 #[addV (keyX x), addV a] W fun e w' => e = .returned (.int .i64 (cmpL (keyX x) a)) ∧ Hid (w.grownBy w' none)) := fun W hW => (compareA_any W (keyX x) a).mono fun e w' ⟨h1, q, os', h2⟩ => ⟨h1, by rw [h2]; exact gb_none hW (grow_gb _ _ _)⟩
  have HE : Hid (∀ C D, w.grownBy ((w.alloc C).alloc D) none) := fun C D => gb_none (World.grownBy_alloc _ _ none) (World.grownBy_alloc _ _ none)
  obtain ⟨⟨fa, fn, fc, hf⟩, sa, sn, sc, hs⟩ := hs
  generalize cmpL (keyX x) a = r at *
  unfold entV
  rw [hf, hs]
  clear hf hs
  unfold addV keyX at HC
  unfold addV
  dsimp only at HC
  generalize ByteArray.mk ⟨x.1.rcv⟩ = br at *
  generalize ByteArray.mk ⟨x.1.key⟩ = bk at *
  generalize ByteArray.mk ⟨a.1⟩ = ar at *
  generalize ByteArray.mk ⟨a.2⟩ = ak at *
  have hm : ∀ w : World, (method 308 81 (.agg #[.string br, .string bk]) "tocsin/nflog.compare").run Tryz.prog w = .ok (180, .agg #[.string br, .string bk]) w := fun _ => by kernel_rfl
  have hna : ∀ w : World, (nilAhead 308 81 (.agg #[.string br, .string bk]) "tocsin/nflog.compare").run Tryz.prog w = .ok (some false) w := fun _ => by kernel_rfl
  go_enter Tryz.func106, Tryz.ntmps106
  go_wp2_with fail
  refine (HC.out _ (HE.out _ _)).mono ?_
  rintro e w1 ⟨rfl, H1⟩
  clear HC HE
  go_wp2
  go_ret
  exact ⟨rfl, H1.out⟩
end Go.Proofs.YtpglhdnepmcahaaGreatDoor

/- Nfb -/
namespace Go.Proofs.YtpglhdnepmcahaaGreatDoor
open Go.RowKit Go.Shelf Go.Sort

def mZ : MkR := ⟨[], [], 0, [], []⟩
def xZ : MkX := (mZ, nilV, nilV)
def entC (x : MkX) : List Value := [.string (ByteArray.mk ⟨x.1.rcv⟩), .string (ByteArray.mk ⟨x.1.key⟩), .string (ByteArray.mk ⟨x.1.rcv⟩), .string (ByteArray.mk ⟨x.1.key⟩), .int .i64 x.1.tim, x.2.1, x.2.2]
def entF (l : List MkX) : List Value := l.flatMap entC
theorem entF_len (l : List MkX) : (entF l).length = l.length * 7 := by
  induction l with
  | nil => rfl
  | cons o xs ih =>
    have : entF (o :: xs) = entC o ++ entF xs := rfl
    rw [this, List.length_append, ih]
    simp [entC]
    omega
theorem entF_append (a b : List MkX) : entF (a ++ b) = entF a ++ entF b := by simp [entF]
theorem entF_get (xs : List MkX) : ∀ j f, j < xs.length → f < 7 → (entF xs)[j * 7 + f]? = (entC (xs.getD j xZ))[f]? := by
  induction xs with
  | nil => intro j f hj; simp at hj
  | cons o xs ih =>
    intro j f hj hf
    have e : entF (o :: xs) = entC o ++ entF xs := rfl
    have hl : (entC o).length = 7 := rfl
    rw [e]
    cases j with
    | zero =>
      rw [Nat.zero_mul, Nat.zero_add, List.getElem?_append_left (by omega)]
      rfl
    | succ j =>
      rw [List.getElem?_append_right (by omega), hl]
      have e2 : (j + 1) * 7 + f - 7 = j * 7 + f := by omega
      rw [e2, ih j f (by simpa using hj) hf]
      rfl
/-- a row of entries of the log's own -/
def OwnE (w : World) (base : Nat) (v : Value) (l : List MkX) : Prop := w.ownsRow base 117 7 v l.length (entF l)
theorem OwnE.nil (w : World) (base : Nat) : OwnE w base (.slice none 0 0) [] := World.ownsRow_nil w base _ _
theorem OwnE.keep {w w' : World} {base : Nat} {v : Value} {l : List MkX} (h : OwnE w base v l) (hg : w.grownBy w' none) : OwnE w' base v l := World.ownsRow.kept h hg (by cases v.ownBlock <;> simp)
theorem OwnE.shape {w : World} {base : Nat} {v : Value} {l : List MkX} (h : OwnE w base v l) : ∃ a c, v = .slice a l.length c := by
  rcases h.2 with ⟨rfl, hn⟩ | ⟨g, cap, cur, rfl, _⟩
  · exact ⟨none, 0, by rw [hn]⟩
  · exact ⟨_, _, rfl⟩
theorem OwnE.mono {w : World} {base base' : Nat} {v : Value} {l : List MkX} (h : OwnE w base v l) (hb : base' ≤ base) : OwnE w base' v l := by
  obtain ⟨h1, h2⟩ := h
  refine ⟨h1, ?_⟩
  rcases h2 with h2 | ⟨g, cap, cur, hv, hg, r⟩
  · exact .inl h2
  · exact .inr ⟨g, cap, cur, hv, by omega, r⟩
/-- its cells -/
theorem OwnE.cells {w : World} {base : Nat} {v : Value} {l : List MkX} (h : OwnE w base v l) {j : Nat} (hj : j < l.length) : ∃ g c, v = .slice (some ⟨g, 0, none⟩) l.length c ∧ l.length ≤ c ∧ c ≤ 9223372036854775807 ∧ g < w.heap.size ∧ w.cell? ⟨g, j * 7, none⟩ = some (.string (ByteArray.mk ⟨(l.getD j xZ).1.rcv⟩)) ∧ w.cell? ⟨g, j * 7 + 1, none⟩ = some (.string (ByteArray.mk ⟨(l.getD j xZ).1.key⟩)) ∧ w.cell? ⟨g, j * 7 + 2, none⟩ = some (.string (ByteArray.mk ⟨(l.getD j xZ).1.rcv⟩)) ∧ w.cell? ⟨g, j * 7 + 3, none⟩ = some (.string (ByteArray.mk ⟨(l.getD j xZ).1.key⟩)) ∧ w.cell? ⟨g, j * 7 + 4, none⟩ = some (.int .i64 (l.getD j xZ).1.tim) ∧ w.cell? ⟨g, j * 7 + 5, none⟩ = some (l.getD j xZ).2.1 ∧ w.cell? ⟨g, j * 7 + 6, none⟩ = some (l.getD j xZ).2.2 := by
  have h0 := h
  rcases h.2 with ⟨-, hn⟩ | ⟨g, cap, cur, rfl, hg, hh, hnc, hcm, hcs, ht⟩
  · omega
  · have hc := fun f (hf : f < 7) => World.ownsRow.cellAt h0 (j * 7 + f) (by omega)
    have e := fun f (hf : f < 7) => (hc f hf).trans (entF_get l j f hj hf)
    unfold maxLen at hcm
    exact ⟨g, cap, rfl, hnc, hcm, some_lt hh, e 0 (by omega), e 1 (by omega), e 2 (by omega), e 3 (by omega), e 4 (by omega), e 5 (by omega), e 6 (by omega)⟩
/-- rising by receiver and key -/
def risM (l : List MkX) : Prop := l.Pairwise fun x y => cmpL (keyX x) (keyX y) < 0
/-- the log at gx holds these marks -/
structure LgM (w : World) (gx : Nat) (l : List MkX) : Prop where
  row : ∃ v, Boxed w gx 74 v ∧ OwnE w 0 v l
  ris : risM l
  each : ∀ x ∈ l, RdM w x.1 x.2.1 x.2.2 ∧ rightM x.1 = 0
  len : l.length ≤ 500
theorem LgM.keep {w w' : World} {gx : Nat} {l : List MkX} (h : LgM w gx l) (hg : w.grownBy w' none) : LgM w' gx l := by
  obtain ⟨v, h1, h2⟩ := h.row
  exact ⟨⟨v, h1.kept hg (by simp), h2.keep hg⟩, h.ris, fun x hx => ⟨(h.each x hx).1.keep hg, (h.each x hx).2⟩, h.len⟩
theorem RdM.zero (w : World) : RdM w mZ nilV nilV := ⟨RdLL.nil w, RdLL.nil w, ⟨by simp [mZ], fun j => by simp [mZ]; exact LbIn.nil⟩, ⟨by simp [mZ], fun j => by simp [mZ]; exact LbIn.nil⟩, by simp [mZ], by simp [mZ]⟩
/-- the mark of an address, or none -/
def getM (l : List MkX) (a : LbT) : MkX := (l.find? fun x => decide (keyX x = a)).getD xZ
def hasM (l : List MkX) (a : LbT) : Bool := l.any fun x => decide (keyX x = a)
theorem LgM.got {w : World} {gx : Nat} {l : List MkX} (h : LgM w gx l) (a : LbT) : RdM w (getM l a).1 (getM l a).2.1 (getM l a).2.2 := by
  unfold getM
  cases hf : l.find? fun x => decide (keyX x = a) with
  | none => exact RdM.zero w
  | some x => exact (h.each x (List.mem_of_find?_eq_some hf)).1
theorem risM_at {l : List MkX} (h : risM l) {i j : Nat} (hij : i < j) (hj : j < l.length) : cmpL (keyX (l.getD i xZ)) (keyX (l.getD j xZ)) < 0 := by
  have := List.pairwise_iff_getElem.1 h i j (by omega) hj hij
  have e1 : l.getD j xZ = l[j] := by simp [List.getD, hj]
  have e2 : l.getD i xZ = l[i]'(by omega) := by simp [List.getD, show i < l.length by omega]
  rwa [e1, e2]
/-- where an address stands, or would -/
def AtE (l : List MkX) (a : LbT) (p : Nat) : Prop := p ≤ l.length ∧ (∀ k, k < p → cmpL (keyX (l.getD k xZ)) a < 0) ∧ ∀ k, p ≤ k → k < l.length → 0 ≤ cmpL (keyX (l.getD k xZ)) a
theorem AtE.has {l : List MkX} {a : LbT} {p : Nat} (hs : risM l) (h : AtE l a p) : hasM l a = (decide (p < l.length) && decide (keyX (l.getD p xZ) = a)) := by
  rw [Bool.eq_iff_iff, Bool.and_eq_true, decide_eq_true_eq, decide_eq_true_eq]
  unfold hasM
  rw [List.any_eq_true]
  constructor
  · rintro ⟨x, hx, he⟩
    have he := of_decide_eq_true he
    obtain ⟨k, hk, rfl⟩ := List.mem_iff_getElem.1 hx
    have ek : l.getD k xZ = l[k] := by simp [List.getD, hk]
    have hpk : p ≤ k := by
      rcases Nat.lt_or_ge k p with h1 | h1
      · have := h.2.1 k h1
        rw [ek, he, cmpL_zero.2 rfl] at this
        omega
      · exact h1
    refine ⟨by omega, ?_⟩
    rcases Nat.lt_or_ge p k with h1 | h1
    · have h2 := risM_at hs h1 hk
      have h3 := h.2.2 p (Nat.le_refl _) (by omega)
      rw [ek, he] at h2
      omega
    · have : p = k := by omega
      rw [this, ek]
      exact he
  · rintro ⟨h1, h2⟩
    have e : l.getD p xZ = l[p] := by simp [List.getD, h1]
    exact ⟨l[p], by simp, decide_eq_true (by rw [← e]; exact h2)⟩
theorem AtE.get {l : List MkX} {a : LbT} {p : Nat} (hs : risM l) (hp : p < l.length) (he : keyX (l.getD p xZ) = a) : getM l a = l.getD p xZ := by
  have e : l.getD p xZ = l[p] := by simp [List.getD, hp]
  unfold getM
  cases hf : l.find? fun x => decide (keyX x = a) with
  | none =>
    exfalso
    rw [List.find?_eq_none] at hf
    have := hf l[p] (by simp)
    rw [← e] at this
    exact this (decide_eq_true he)
  | some x =>
    have h1 := List.find?_some hf
    have h1 := of_decide_eq_true h1
    obtain ⟨k, hk, rfl⟩ := List.mem_iff_getElem.1 (List.mem_of_find?_eq_some hf)
    have ek : l.getD k xZ = l[k] := by simp [List.getD, hk]
    show l[k] = _
    rcases Nat.lt_trichotomy k p with h2 | h2 | h2
    · have := risM_at hs h2 hp
      rw [ek, h1, he, cmpL_zero.2 rfl] at this
      omega
    · subst h2
      exact ek.symm
    · have := risM_at hs h2 hk
      rw [ek, h1, he, cmpL_zero.2 rfl] at this
      omega
theorem getM_none {l : List MkX} {a : LbT} (h : hasM l a = false) : getM l a = xZ := by
  unfold getM
  have : l.find? (fun x => decide (keyX x = a)) = none := by
    rw [List.find?_eq_none]
    intro x hx he
    have : hasM l a = true := List.any_eq_true.2 ⟨x, hx, he⟩
    rw [h] at this
    cases this
  rw [this]
  rfl
theorem lt_ltL {x y z : LbT} (h1 : cmpL x y < 0) (h2 : cmpL y z < 0) : cmpL x z < 0 := cmpL_trans h1 h2

set_option maxRecDepth 8000 in
set_option maxHeartbeats 12800000 in
theorem bsearchE_any (w : World) (v : Value) (l : List MkX) (a : LbT) (hv : OwnE w 0 v l) (hs : risM l) (hl : l.length ≤ 500) (hsh : ∀ x ∈ l, (∃ a n c, x.2.1 = .slice a n c) ∧ ∃ a n c, x.2.2 = .slice a n c) :
    Calls Tryz.prog 105 #[v, addV a, .func (.func 106) #[] #[]] w fun e w' => ∃ (p : Nat) (b : Bool), e = .returned (.tuple #[.int .i64 (p : Int), .bool b]) ∧ AtE l a p ∧ w.grownBy w' none := by
  have HV := hidJ (And.intro hv (And.intro hs hsh))
  obtain ⟨va, c, rfl⟩ := hv.shape
  clear hv hs hsh
  obtain ⟨N, hN⟩ : ∃ N, l.length = N := ⟨_, rfl⟩
  have HN := hidJ hN
  rw [hN] at hl HV
  rw [hN]
  clear hN
  unfold addV
  generalize hW0 : w.alloc (.cells #[.string (ByteArray.mk ⟨a.1⟩), .string (ByteArray.mk ⟨a.2⟩)] 81) = W0 at *
  have HW : Hid (w.grownBy W0 none ∧ W0.cell? ⟨w.heap.size, 0, none⟩ = some (.string (ByteArray.mk ⟨a.1⟩)) ∧ W0.cell? ⟨w.heap.size, 1, none⟩ = some (.string (ByteArray.mk ⟨a.2⟩)) ∧ w.heap.size < W0.heap.size) := by
    have hb := Go.heap_alloc_new w (.cells #[.string (ByteArray.mk ⟨a.1⟩), .string (ByteArray.mk ⟨a.2⟩)] 81)
    refine ⟨by rw [← hW0]; exact World.grownBy_alloc _ _ none, ?_, ?_, by rw [← hW0]; simp⟩
    · rw [← hW0, World.cell?, hb]; rfl
    · rw [← hW0, World.cell?, hb]; rfl
  -- an entry, and what is found of it
  have HE : Hid (∀ j, j < N → ∀ wr, W0.grownBy wr none → ∃ g cc fa fn fc sa sn sc, va = some ⟨g, 0, none⟩ ∧ c = cc ∧ wr.cell? ⟨g, j * 7, none⟩ = some (.string (ByteArray.mk ⟨(l.getD j xZ).1.rcv⟩)) ∧ wr.cell? ⟨g, j * 7 + 1, none⟩ = some (.string (ByteArray.mk ⟨(l.getD j xZ).1.key⟩)) ∧ wr.cell? ⟨g, j * 7 + 2, none⟩ = some (.string (ByteArray.mk ⟨(l.getD j xZ).1.rcv⟩)) ∧ wr.cell? ⟨g, j * 7 + 3, none⟩ = some (.string (ByteArray.mk ⟨(l.getD j xZ).1.key⟩)) ∧ wr.cell? ⟨g, j * 7 + 4, none⟩ = some (.int .i64 (l.getD j xZ).1.tim) ∧ wr.cell? ⟨g, j * 7 + 5, none⟩ = some (.slice fa fn fc) ∧ wr.cell? ⟨g, j * 7 + 6, none⟩ = some (.slice sa sn sc) ∧ wr.cell? ⟨w.heap.size, 0, none⟩ = some (.string (ByteArray.mk ⟨a.1⟩)) ∧ wr.cell? ⟨w.heap.size, 1, none⟩ = some (.string (ByteArray.mk ⟨a.2⟩)) ∧
      ∀ W, wr.grownBy W none → Calls Tryz.prog 106 #[.agg #[.string (ByteArray.mk ⟨(l.getD j xZ).1.rcv⟩), .string (ByteArray.mk ⟨(l.getD j xZ).1.key⟩), .string (ByteArray.mk ⟨(l.getD j xZ).1.rcv⟩), .string (ByteArray.mk ⟨(l.getD j xZ).1.key⟩), .int .i64 (l.getD j xZ).1.tim, .slice fa fn fc, .slice sa sn sc], .agg #[.string (ByteArray.mk ⟨a.1⟩), .string (ByteArray.mk ⟨a.2⟩)]] W fun e w' => e = .returned (.int .i64 (cmpL (keyX (l.getD j xZ)) a)) ∧ (w'.cell? ⟨g, j * 7, none⟩ = some (.string (ByteArray.mk ⟨(l.getD j xZ).1.rcv⟩)) ∧ w'.cell? ⟨g, j * 7 + 1, none⟩ = some (.string (ByteArray.mk ⟨(l.getD j xZ).1.key⟩)) ∧ w'.cell? ⟨g, j * 7 + 2, none⟩ = some (.string (ByteArray.mk ⟨(l.getD j xZ).1.rcv⟩)) ∧ w'.cell? ⟨g, j * 7 + 3, none⟩ = some (.string (ByteArray.mk ⟨(l.getD j xZ).1.key⟩)) ∧ w'.cell? ⟨g, j * 7 + 4, none⟩ = some (.int .i64 (l.getD j xZ).1.tim) ∧ w'.cell? ⟨g, j * 7 + 5, none⟩ = some (.slice fa fn fc) ∧ w'.cell? ⟨g, j * 7 + 6, none⟩ = some (.slice sa sn sc) ∧ w'.cell? ⟨w.heap.size, 0, none⟩ = some (.string (ByteArray.mk ⟨a.1⟩)) ∧ w'.cell? ⟨w.heap.size, 1, none⟩ = some (.string (ByteArray.mk ⟨a.2⟩))) ∧ Hid (W0.grownBy w' none)) := by
    intro j hj wr hwr
    have hjl : j < l.length := by have := HN.out; omega
    obtain ⟨g, cc, e0, -, -, hgl, d0, d1, d2, d3, d4, d5, d6⟩ := (HV.out.1.keep (gb_none HW.out.1 hwr)).cells (j := j) hjl
    have hmem : l.getD j xZ ∈ l := by simp [List.getD, hjl]
    obtain ⟨⟨fa, fn, fc, ef⟩, sa, sn, sc, es⟩ := HV.out.2.2 _ hmem
    simp only [Value.slice.injEq] at e0
    have b0 := (World.cell?_of_block (hwr.block _ (block_lt HW.out.2.1) (by simp))).trans HW.out.2.1
    have b1 := (World.cell?_of_block (hwr.block _ (block_lt HW.out.2.1) (by simp))).trans HW.out.2.2.1
    rw [ef] at d5
    rw [es] at d6
    refine ⟨g, cc, fa, fn, fc, sa, sn, sc, e0.1, e0.2.2, d0, d1, d2, d3, d4, d5, d6, b0, b1, fun W hW => ?_⟩
    have hc := find1_any W (l.getD j xZ) a (HV.out.2.2 _ hmem)
    unfold entV addV at hc
    rw [ef, es] at hc
    refine hc.mono ?_
    rintro e w' ⟨q1, q2⟩
    have hk := gb_none hW q2
    have kc : ∀ {b o : Nat} {u : Value}, wr.cell? ⟨b, o, none⟩ = some u → w'.cell? ⟨b, o, none⟩ = some u := fun h => (World.cell?_of_block (hk.block _ (block_lt h) (by simp))).trans h
    exact ⟨q1, ⟨kc d0, kc d1, kc d2, kc d3, kc d4, kc d5, kc d6, kc b0, kc b1⟩, gb_none hwr hk⟩
  generalize ByteArray.mk ⟨a.1⟩ = ar at *
  generalize ByteArray.mk ⟨a.2⟩ = ak at *
  go_enter Tryz.func105, Tryz.ntmps105
  go_wp2
  clear hW0
  obtain ⟨b0, hb0⟩ : ∃ b0, b0 = w.heap.size := ⟨_, rfl⟩
  rw [← hb0] at HE ⊢
  clear hb0
  go_loopw [9, 10] (fun ui uj wr => ∃ i j : Nat, i ≤ j ∧ j ≤ N ∧ ui = .int .i64 i ∧ uj = .int .i64 j ∧ Hid (W0.grownBy wr none ∧ (∀ k, k < i → cmpL (keyX (l.getD k xZ)) a < 0) ∧ ∀ k, j ≤ k → k < N → 0 ≤ cmpL (keyX (l.getD k xZ)) a)) (fun ui uj _ => (intOf uj).toNat - (intOf ui).toNat)
  case atStart => exact ⟨0, N, by omega, by omega, rfl, rfl, gb_refl _ _, fun k hk => by omega, fun k h1 h2 => by omega⟩
  case round =>
    obtain ⟨i, j, hij, hjl, rfl, rfl, hr⟩ := hrel
    by_cases hlt : i < j
    · have hi : (i : Int) < (j : Int) := by omega
      obtain ⟨h, hh⟩ : ∃ h, h = (i + j) / 2 := ⟨_, rfl⟩
      have hhi : ((i : Int) + (j : Int)) / 2 = (h : Int) := by omega
      have hih : i ≤ h := by omega
      have hhj : h < j := by omega
      have hhl : (h : Int) < (N : Int) := by omega
      have hu : IntKind.u64.wrap ((i : Int) + (j : Int)) = (i : Int) + (j : Int) := by rw [IntKind.wrap_u64]; omega
      clear hh
      obtain ⟨g, cc, fa, fn, fc, sa, sn, sc, rfl, rfl, d0, d1, d2, d3, d4, d5, d6, e0, e1, hcall⟩ := HE.out h (by omega) wr hr.out.1
      have HO := hidJ hcall
      have HD : Hid (wr.grownBy wr.drew none) := gb_drew _ _
      clear hcall
      generalize ByteArray.mk ⟨(l.getD h xZ).1.rcv⟩ = br at *
      generalize ByteArray.mk ⟨(l.getD h xZ).1.key⟩ = bk at *
      generalize (l.getD h xZ).1.tim = tm at *
      by_cases hn' : cmpL (keyX (l.getD h xZ)) a < 0
      · have HEE : Hid (∀ k, k < h + 1 → cmpL (keyX (l.getD k xZ)) a < 0) := fun k hk => by
          by_cases e : k = h
          · rw [e]; exact hn'
          · exact lt_ltL (risM_at HV.out.2.1 (by omega : k < h) (by have := HN.out; omega)) hn'
        generalize cmpL (keyX (l.getD h xZ)) a = r at *
        go_wp2
        go_region_held3 (fun w' => w'.cell? ⟨g, h * 7, none⟩ = some (.string br) ∧ w'.cell? ⟨g, h * 7 + 1, none⟩ = some (.string bk) ∧ w'.cell? ⟨g, h * 7 + 2, none⟩ = some (.string br) ∧ w'.cell? ⟨g, h * 7 + 3, none⟩ = some (.string bk) ∧ w'.cell? ⟨g, h * 7 + 4, none⟩ = some (.int .i64 tm) ∧ w'.cell? ⟨g, h * 7 + 5, none⟩ = some (.slice fa fn fc) ∧ w'.cell? ⟨g, h * 7 + 6, none⟩ = some (.slice sa sn sc) ∧ w'.cell? ⟨b0, 0, none⟩ = some (.string ar) ∧ w'.cell? ⟨b0, 1, none⟩ = some (.string ak)) (go_keep)
          (first | (go_at_call 106; with_reducible refine (HO.out _ HD.out).mono ?_; rintro e w2 ⟨rfl, ⟨k0, k1, k2, k3, k4, k5, k6, k7, k8⟩, H2⟩))
        have H1 : Hid (W0.grownBy w2 none ∧ (∀ k, k < h + 1 → cmpL (keyX (l.getD k xZ)) a < 0) ∧ ∀ k, j ≤ k → k < N → 0 ≤ cmpL (keyX (l.getD k xZ)) a) := ⟨H2.out, HEE.out, hr.out.2.2⟩
        clear HO hr HEE hu hhi
        go_wp2
        go_roundw
        case rel => exact ⟨h + 1, j, by omega, by omega, by simp, rfl, H1.out⟩
        case measure => simp [intOf]; omega
      · have HEE : Hid (∀ k, h ≤ k → k < N → 0 ≤ cmpL (keyX (l.getD k xZ)) a) := fun k hk hkl => by
          by_cases e2 : k = h
          · rw [e2]; omega
          · rcases Int.lt_or_le (cmpL (keyX (l.getD k xZ)) a) 0 with e | e
            · exact absurd (lt_ltL (risM_at HV.out.2.1 (by omega : h < k) (by have := HN.out; omega)) e) hn'
            · exact e
        generalize cmpL (keyX (l.getD h xZ)) a = r at *
        go_wp2
        go_region_held3 (fun w' => w'.cell? ⟨g, h * 7, none⟩ = some (.string br) ∧ w'.cell? ⟨g, h * 7 + 1, none⟩ = some (.string bk) ∧ w'.cell? ⟨g, h * 7 + 2, none⟩ = some (.string br) ∧ w'.cell? ⟨g, h * 7 + 3, none⟩ = some (.string bk) ∧ w'.cell? ⟨g, h * 7 + 4, none⟩ = some (.int .i64 tm) ∧ w'.cell? ⟨g, h * 7 + 5, none⟩ = some (.slice fa fn fc) ∧ w'.cell? ⟨g, h * 7 + 6, none⟩ = some (.slice sa sn sc) ∧ w'.cell? ⟨b0, 0, none⟩ = some (.string ar) ∧ w'.cell? ⟨b0, 1, none⟩ = some (.string ak)) (go_keep)
          (first | (go_at_call 106; with_reducible refine (HO.out _ HD.out).mono ?_; rintro e w2 ⟨rfl, ⟨k0, k1, k2, k3, k4, k5, k6, k7, k8⟩, H2⟩))
        have H1 : Hid (W0.grownBy w2 none ∧ (∀ k, k < i → cmpL (keyX (l.getD k xZ)) a < 0) ∧ ∀ k, h ≤ k → k < N → 0 ≤ cmpL (keyX (l.getD k xZ)) a) := ⟨H2.out, hr.out.2.1, HEE.out⟩
        clear HO hr HEE hu hhi
        go_wp2
        go_roundw
        case rel => exact ⟨i, h, by omega, by omega, rfl, rfl, H1.out⟩
        case measure => simp [intOf]; omega
    · obtain rfl : i = j := by omega
      have hi : ¬ (i : Int) < (i : Int) := by omega
      have HF : Hid (AtE l a i ∧ w.grownBy wr none) := ⟨⟨by have := HN.out; omega, hr.out.2.1, by rw [HN.out]; exact hr.out.2.2⟩, gb_none HW.out.1 hr.out.1⟩
      have HG := hidJ hr.out.1
      by_cases hil : i < N
      · have hili : (i : Int) < (N : Int) := by omega
        obtain ⟨g, cc, fa, fn, fc, sa, sn, sc, rfl, rfl, d0, d1, d2, d3, d4, d5, d6, e0, e1, hcall⟩ := HE.out i hil wr hr.out.1
        have HO := hidJ hcall
        have HD : Hid (wr.grownBy wr.drew none) := gb_drew _ _
        clear hcall hr
        generalize ByteArray.mk ⟨(l.getD i xZ).1.rcv⟩ = br at *
        generalize ByteArray.mk ⟨(l.getD i xZ).1.key⟩ = bk at *
        generalize (l.getD i xZ).1.tim = tm at *
        generalize cmpL (keyX (l.getD i xZ)) a = r at *
        have hgd : decide (i < N) = true := decide_eq_true hil
        have hgd2 : decide ((i : Int) < (N : Int)) = true := decide_eq_true hili
        obtain ⟨h, hh⟩ : ∃ h, h = i := ⟨_, rfl⟩
        subst hh
        go_wp2
        go_region_held3 (fun w' => w'.cell? ⟨g, h * 7, none⟩ = some (.string br) ∧ w'.cell? ⟨g, h * 7 + 1, none⟩ = some (.string bk) ∧ w'.cell? ⟨g, h * 7 + 2, none⟩ = some (.string br) ∧ w'.cell? ⟨g, h * 7 + 3, none⟩ = some (.string bk) ∧ w'.cell? ⟨g, h * 7 + 4, none⟩ = some (.int .i64 tm) ∧ w'.cell? ⟨g, h * 7 + 5, none⟩ = some (.slice fa fn fc) ∧ w'.cell? ⟨g, h * 7 + 6, none⟩ = some (.slice sa sn sc) ∧ w'.cell? ⟨b0, 0, none⟩ = some (.string ar) ∧ w'.cell? ⟨b0, 1, none⟩ = some (.string ak)) (go_keep)
          (first | (go_at_call 106; with_reducible refine (HO.out _ HD.out).mono ?_; rintro e w2 ⟨rfl, ⟨k0, k1, k2, k3, k4, k5, k6, k7, k8⟩, H2⟩))
        have H3 : Hid (AtE l a h ∧ w.grownBy w2 none) := ⟨HF.out.1, gb_none HW.out.1 H2.out⟩
        clear HO HF
        go_wp2
        go_ret2
        exact ⟨h, _, rfl, H3.out⟩
      · have hili : ¬ (i : Int) < (N : Int) := by omega
        have hgd : decide (i < N) = false := decide_eq_false hil
        have hgd2 : decide ((i : Int) < (N : Int)) = false := decide_eq_false hili
        clear hr HE
        go_wp2
        go_region
        go_wp2
        go_ret2
        exact ⟨i, _, rfl, HF.out.1, gb_none HF.out.2 (gb_drew _ none)⟩
end Go.Proofs.YtpglhdnepmcahaaGreatDoor
