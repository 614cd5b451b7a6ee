/-
  LbJ0, LbJr, LbJp, in one text.
-/
import Derived.Test.YtkipnkpnkhfjhabGreatDoorLbCr
import Derived.Test.YtkipnkpnkhfjhabGreatDoorMgC
import Derived.Test.YtkipnkpnkhfjhabGreatDoorLbSp
/- LbJ0 -/
namespace Go.Proofs.YtkipnkpnkhfjhabGreatDoor
open Go.RowKit

/-- what is written of old blocks lies in S; all others stay -/
def Ch (w w' : World) (S : Nat → Prop) : Prop :=
  w'.os = w.os ∧ w'.tape = w.tape ∧ w'.output = w.output ∧ w.heap.size ≤ w'.heap.size ∧ ∀ k, k < w.heap.size → ¬ S k → w'.heap[k]? = w.heap[k]?
theorem Ch.refl (w : World) (S : Nat → Prop) : Ch w w S := ⟨rfl, rfl, rfl, Nat.le_refl _, fun _ _ _ => rfl⟩
theorem Ch.size {w w' : World} {S : Nat → Prop} (h : Ch w w' S) : w.heap.size ≤ w'.heap.size := h.2.2.2.1
theorem Ch.block {w w' : World} {S : Nat → Prop} (h : Ch w w' S) {k : Nat} (hk : k < w.heap.size) (hs : ¬ S k) : w'.heap[k]? = w.heap[k]? := h.2.2.2.2 k hk hs
theorem Ch.trans {w w1 w2 : World} {S T : Nat → Prop} (h1 : Ch w w1 S) (h2 : Ch w1 w2 T) (hT : ∀ k, k < w.heap.size → T k → S k) : Ch w w2 S :=
  ⟨h2.1.trans h1.1, h2.2.1.trans h1.2.1, h2.2.2.1.trans h1.2.2.1, Nat.le_trans h1.size h2.size, fun k hk hs =>
    (h2.block (Nat.lt_of_lt_of_le hk h1.size) (fun ht => hs (hT k hk ht))).trans (h1.block hk hs)⟩
theorem Ch.mono {w w' : World} {S T : Nat → Prop} (h : Ch w w' S) (hT : ∀ k, k < w.heap.size → S k → T k) : Ch w w' T :=
  ⟨h.1, h.2.1, h.2.2.1, h.size, fun k hk hs => h.block hk (fun hk' => hs (hT k hk hk'))⟩
theorem Ch.of_gb {w w' : World} {g : Option Nat} {S : Nat → Prop} (h : w.grownBy w' g) (hg : ∀ k, g = some k → k < w.heap.size → S k) : Ch w w' S :=
  ⟨h.os, h.tape, h.output, h.size, fun k hk hs => h.block k hk (fun e => hs (hg k e.symm hk))⟩
theorem Ch.gb {w w' : World} {S : Nat → Prop} (h : Ch w w' S) (hs : ∀ k, k < w.heap.size → ¬ S k) : w.grownBy w' none :=
  ⟨h.1, h.2.1, h.2.2.1, h.size, fun k hk _ => h.block hk (hs k hk)⟩
/-- S, and what is new between two worlds -/
def Gr (S : Nat → Prop) (w w' : World) : Nat → Prop := fun k => S k ∨ (w.heap.size ≤ k ∧ k < w'.heap.size)
theorem some_lt {w : World} {k : Nat} {o : Obj} (h : w.heap[k]? = some o) : k < w.heap.size := (Array.getElem?_eq_some_iff.1 h).1
theorem row_via {w w' : World} {E : TypeId} {size base n : Nat} {v : Value} {xs : List Value} (h : w.ownsRow base E size v n xs) (hk : ∀ k, v.ownBlock = some k → w'.heap[k]? = w.heap[k]?) : w'.ownsRow base E size v n xs := by
  refine ⟨h.1, ?_⟩
  rcases h.2 with hn | ⟨g, cap, cur, rfl, hb, hgg, rest⟩
  · exact .inl hn
  · exact .inr ⟨g, cap, cur, rfl, hb, by rw [hk g rfl]; exact hgg, rest⟩
theorem row_objE {w : World} {E : TypeId} {size base n : Nat} {v : Value} {xs : List Value} (h : w.ownsRow base E size v n xs) {k : Nat} (hk : v.ownBlock = some k) : ∃ cur, w.heap[k]? = some (.cells cur E (0, 0)) := by
  rcases h.2 with ⟨rfl, _⟩ | ⟨g, cap, cur, rfl, hb, hgg, rest⟩
  · simp [Value.ownBlock] at hk
  · simp only [Value.ownBlock, Option.some.injEq] at hk
    subst hk
    exact ⟨cur, hgg⟩
theorem RdL.via {w w' : World} {v : Value} {ls : List LbT} (h : RdL w v ls) (hk : ∀ k, v.ownBlock = some k → k < w.heap.size → w'.heap[k]? = w.heap[k]?) : RdL w' v ls := by
  obtain ⟨a, c, rfl, h1, h2, h3, h4⟩ := h
  refine ⟨a, c, rfl, h1, h2, fun j hj => ?_, h4⟩
  obtain ⟨b, o, rfl, c0, c1⟩ := h3 j hj
  have hb := hk b rfl (block_lt c0)
  exact ⟨b, o, rfl, (World.cell?_of_block hb).trans c0, (World.cell?_of_block hb).trans c1⟩
theorem RdL.ch {w w' : World} {v : Value} {ls : List LbT} {S : Nat → Prop} (h : RdL w v ls) (hc : Ch w w' S) (hs : ∀ k, v.ownBlock = some k → k < w.heap.size → ¬ S k) : RdL w' v ls :=
  h.via (fun k hk hlt => hc.block hlt (hs k hk hlt))

/-- labels in blocks of S that hold labels alone -/
def Rl (w : World) (S : Nat → Prop) (v : Value) (ls : List LbT) : Prop := RdL w v ls ∧ ∀ k, v.ownBlock = some k → S k ∧ ∃ cur fr, w.heap[k]? = some (.cells cur 70 fr)
theorem Rl.frame {w w' : World} {S T : Nat → Prop} {v : Value} {ls : List LbT} (h : Rl w S v ls) (hc : Ch w w' T) (hT : ∀ k, k < w.heap.size → S k → ¬ T k) : Rl w' S v ls := by
  refine ⟨h.1.ch hc (fun k hk hlt => hT k hlt (h.2 k hk).1), fun k hk => ⟨(h.2 k hk).1, ?_⟩⟩
  obtain ⟨cur, fr, hb⟩ := (h.2 k hk).2
  exact ⟨cur, fr, by rw [hc.block (some_lt hb) (hT k (some_lt hb) (h.2 k hk).1)]; exact hb⟩
theorem Rl.mono {w : World} {S T : Nat → Prop} {v : Value} {ls : List LbT} (h : Rl w S v ls) (hT : ∀ k, k < w.heap.size → S k → T k) : Rl w T v ls :=
  ⟨h.1, fun k hk => ⟨by obtain ⟨cur, fr, hb⟩ := (h.2 k hk).2; exact hT k (some_lt hb) (h.2 k hk).1, (h.2 k hk).2⟩⟩
theorem Rl.one {w : World} {S : Nat → Prop} {v : Value} {ls : List LbT} (h : Rl w S v ls) : v.oneCell' = true := by
  obtain ⟨⟨a, c, rfl, _⟩, _⟩ := h
  rfl
theorem OwnL.rl {w : World} {base : Nat} {v : Value} {ls : List LbT} {S : Nat → Prop} (h : OwnL w base v ls) (hS : ∀ k, v.ownBlock = some k → S k) : Rl w S v ls :=
  ⟨h.rd, fun k hk => ⟨hS k hk, by obtain ⟨cur, hc⟩ := row_objE h hk; exact ⟨cur, _, hc⟩⟩⟩

structure IdR where
  num : Nat
  val : Value
  lbs : List LbT
def idZ : IdR := ⟨0, .slice none 0 0, []⟩
def idc (r : IdR) : List Value := [.int .i64 (r.num : Int), r.val]
def idf (rs : List IdR) : List Value := rs.flatMap idc
theorem idf_len (rs : List IdR) : (idf rs).length = rs.length * 2 := by
  induction rs with
  | nil => rfl
  | cons o rs ih =>
    have : idf (o :: rs) = idc o ++ idf rs := rfl
    rw [this, List.length_append, ih]
    simp [idc]
    omega
theorem idf_append (a b : List IdR) : idf (a ++ b) = idf a ++ idf b := by simp [idf]
theorem idf_get (rs : List IdR) : ∀ j f, j < rs.length → f < 2 → (idf rs)[j * 2 + f]? = (idc (rs.getD j idZ))[f]? := by
  induction rs with
  | nil => intro j f hj; simp at hj
  | cons o rs ih =>
    intro j f hj hf
    have e : idf (o :: rs) = idc o ++ idf rs := rfl
    have hl : (idc o).length = 2 := rfl
    rw [e]
    cases j with
    | zero =>
      rw [Nat.zero_mul, Nat.zero_add, List.getElem?_append_left (by omega)]
      rfl
    | succ j =>
      rw [List.getElem?_append_right (by omega), hl]
      have e2 : (j + 1) * 2 + f - 2 = j * 2 + f := by omega
      rw [e2, ih j f (by simpa using hj) hf]
      rfl
theorem idf_take (rs : List IdR) (k : Nat) : (idf rs).take (k * 2) = idf (rs.take k) := by
  have h : idf rs = idf (rs.take k) ++ idf (rs.drop k) := by rw [← idf_append, List.take_append_drop]
  by_cases hk : k ≤ rs.length
  · rw [h, List.take_append_of_le_length (by rw [idf_len, List.length_take]; omega), List.take_of_length_le (by rw [idf_len, List.length_take]; omega)]
  · rw [List.take_of_length_le (by rw [idf_len]; omega), List.take_of_length_le (l := rs) (by omega)]
theorem idf_drop (rs : List IdR) (k : Nat) (hk : k ≤ rs.length) : (idf rs).drop (k * 2) = idf (rs.drop k) := by
  have h : idf rs = idf (rs.take k) ++ idf (rs.drop k) := by rw [← idf_append, List.take_append_drop]
  have hl : (idf (rs.take k)).length = k * 2 := by rw [idf_len, List.length_take]; omega
  rw [h, ← hl, List.drop_left]

/-- THE DOCUMENT's NUMBERING: its box gr, its row v of sets rs, the last number; all in blocks of S -/
structure RefI (w : World) (S : Nat → Prop) (gr : Nat) (v : Value) (rs : List IdR) (last : Nat) : Prop where
  box : w.heap[gr]? = some (.cells #[v, .int .i64 (last : Int)] 28)
  row : w.ownsRow 0 41 2 v rs.length (idf rs)
  inB : S gr
  inR : ∀ k, v.ownBlock = some k → S k
  each : ∀ r ∈ rs, Rl w S r.val r.lbs
  rise : rs.Pairwise (fun a b => a.num < b.num)
  upto : ∀ r ∈ rs, 0 < r.num ∧ r.num ≤ last
  most : rs.length ≤ 1000

theorem RefI.ne_row {w : World} {S : Nat → Prop} {gr last : Nat} {v : Value} {rs : List IdR} (h : RefI w S gr v rs last) : v.ownBlock ≠ some gr := by
  intro e
  obtain ⟨cur, hc⟩ := row_objE h.row e
  rw [h.box] at hc
  simp at hc
theorem RefI.ne_val {w : World} {S : Nat → Prop} {gr last : Nat} {v : Value} {rs : List IdR} (h : RefI w S gr v rs last) {r : IdR} (hr : r ∈ rs) : r.val.ownBlock ≠ some gr ∧ ∀ k, v.ownBlock = some k → r.val.ownBlock ≠ some k := by
  refine ⟨fun e => ?_, fun k hk e => ?_⟩
  · obtain ⟨cur, fr, hc⟩ := ((h.each r hr).2 gr e).2
    rw [h.box] at hc
    simp at hc
  · obtain ⟨cur, fr, hc⟩ := ((h.each r hr).2 k e).2
    obtain ⟨cur', hc'⟩ := row_objE h.row hk
    rw [hc'] at hc
    simp at hc
theorem RefI.frame {w w' : World} {S T : Nat → Prop} {gr last : Nat} {v : Value} {rs : List IdR} (h : RefI w S gr v rs last) (hc : Ch w w' T) (hT : ∀ k, k < w.heap.size → S k → ¬ T k) : RefI w' S gr v rs last where
  box := by rw [hc.block (some_lt h.box) (hT _ (some_lt h.box) h.inB)]; exact h.box
  row := row_via h.row (fun k hk => hc.block (h.row.lt k hk).2 (hT _ (h.row.lt k hk).2 (h.inR k hk)))
  inB := h.inB
  inR := h.inR
  each := fun r hr => (h.each r hr).frame hc hT
  rise := h.rise
  upto := h.upto
  most := h.most
theorem RefI.keep {w w' : World} {S : Nat → Prop} {gr last : Nat} {v : Value} {rs : List IdR} (h : RefI w S gr v rs last) (hg : w.grownBy w' none) : RefI w' S gr v rs last :=
  h.frame (T := fun _ => False) (Ch.of_gb hg (fun k hk => by cases hk)) (fun _ _ _ => id)
theorem RefI.mono {w : World} {S T : Nat → Prop} {gr last : Nat} {v : Value} {rs : List IdR} (h : RefI w S gr v rs last) (hT : ∀ k, k < w.heap.size → S k → T k) : RefI w T gr v rs last :=
  { h with
    inB := hT _ (some_lt h.box) h.inB
    inR := fun k hk => hT _ (h.row.lt k hk).2 (h.inR k hk)
    each := fun r hr => (h.each r hr).mono hT }
theorem RefI.shape {w : World} {S : Nat → Prop} {gr last : Nat} {v : Value} {rs : List IdR} (h : RefI w S gr v rs last) : ∃ a c, v = .slice a rs.length c ∧ rs.length ≤ c ∧ c ≤ maxLen := by
  rcases h.row.2 with ⟨rfl, hn⟩ | ⟨g, cap, cur, rfl, _, _, h1, h2, _⟩
  · exact ⟨none, 0, by rw [hn], by omega, by unfold maxLen; omega⟩
  · exact ⟨_, _, rfl, h1, h2⟩
/-- the cells of a set in the row -/
theorem RefI.cells {w : World} {S : Nat → Prop} {gr last : Nat} {v : Value} {rs : List IdR} (h : RefI w S gr v rs last) (hne : rs ≠ []) : ∃ g cap, v = .slice (some ⟨g, 0, none⟩) rs.length cap ∧ rs.length ≤ cap ∧ cap ≤ maxLen ∧ g < w.heap.size ∧ ∀ j, j < rs.length →
    w.cell? ⟨g, j * 2, none⟩ = some (.int .i64 ((rs.getD j idZ).num : Int)) ∧ w.cell? ⟨g, j * 2 + 1, none⟩ = some (rs.getD j idZ).val := by
  have h0 := h.row
  rcases h.row.2 with ⟨rfl, hn⟩ | ⟨g, cap, cur, rfl, hg, hh, hnc, hcm, hcs, ht⟩
  · exact absurd (List.eq_nil_of_length_eq_zero hn) hne
  · refine ⟨g, cap, rfl, hnc, hcm, some_lt hh, fun j hj => ?_⟩
    have e : ∀ f, f < 2 → w.cell? ⟨g, j * 2 + f, none⟩ = (idc (rs.getD j idZ))[f]? := fun f hf => by
      rw [World.ownsRow.cellAt h0 (j * 2 + f) (by omega), idf_get rs j f hj hf]
    exact ⟨e 0 (by omega), e 1 (by omega)⟩
theorem RefI.boxes {w : World} {S : Nat → Prop} {gr last : Nat} {v : Value} {rs : List IdR} (h : RefI w S gr v rs last) : w.cell? ⟨gr, 0, none⟩ = some v ∧ w.cell? ⟨gr, 1, none⟩ = some (.int .i64 (last : Int)) ∧ w.frozen? ⟨gr, 0, none⟩ = false ∧ w.frozen? ⟨gr, 1, none⟩ = false := by
  have hb := h.box
  exact ⟨by simp [World.cell?, hb], by simp [World.cell?, hb], by simp [World.frozen?, hb], by simp [World.frozen?, hb]⟩
theorem getI_mem {rs : List IdR} {j : Nat} (h : j < rs.length) : rs.getD j idZ ∈ rs := by simp [h]

/-- where a set stands -/
def posI (rs : List IdR) (ls : List LbT) : Int := match rs.findIdx? (fun r => decide (r.lbs = ls)) with | some k => (k : Int) | none => -1
theorem posI_none {rs : List IdR} {ls : List LbT} (h : ∀ j, j < rs.length → (rs.getD j idZ).lbs ≠ ls) : posI rs ls = -1 := by
  have : rs.findIdx? (fun r => decide (r.lbs = ls)) = none := by
    rw [List.findIdx?_eq_none_iff]
    intro x hx
    obtain ⟨j, hj, rfl⟩ := List.mem_iff_getElem.1 hx
    have := h j hj
    simp [hj] at this
    simpa using this
  simp [posI, this]
theorem posI_some {rs : List IdR} {ls : List LbT} {k : Nat} (hk : k < rs.length) (h : ∀ j, j < k → (rs.getD j idZ).lbs ≠ ls) (he : (rs.getD k idZ).lbs = ls) : posI rs ls = (k : Int) := by
  have : rs.findIdx? (fun r => decide (r.lbs = ls)) = some k := by
    rw [List.findIdx?_eq_some_iff_getElem]
    refine ⟨hk, ?_, fun j hj => ?_⟩
    · simp [hk] at he
      simpa using he
    · have h1 : j < rs.length := by omega
      have := h j hj
      simp [h1] at this
      simpa using this
  simp [posI, this]
theorem posI_cases (rs : List IdR) (ls : List LbT) : (posI rs ls = -1 ∧ ∀ q ∈ rs, q.lbs ≠ ls) ∨ ∃ k : Nat, posI rs ls = (k : Int) ∧ k < rs.length ∧ (rs.getD k idZ).lbs = ls ∧ ∀ j, j < k → (rs.getD j idZ).lbs ≠ ls := by
  cases h : rs.findIdx? (fun r => decide (r.lbs = ls)) with
  | none =>
    exact .inl ⟨by simp [posI, h], fun q hq e => by
      have := List.findIdx?_eq_none_iff.1 h q hq
      simp [e] at this⟩
  | some k =>
    obtain ⟨hk, h1, h2⟩ := List.findIdx?_eq_some_iff_getElem.1 h
    refine .inr ⟨k, by simp [posI, h], hk, by simpa [hk] using h1, fun j hj => ?_⟩
    have := h2 j hj
    have hj' : j < rs.length := by omega
    simpa [hj'] using this
end Go.Proofs.YtkipnkpnkhfjhabGreatDoor

/- LbJr -/
namespace Go.Proofs.YtkipnkpnkhfjhabGreatDoor
open Go.RowKit

set_option maxHeartbeats 1600000 in
theorem refSame_any (w : World) (v u : Value) (ls ms : List LbT) (hv : RdL w v ls) (hu : RdL w u ms) :
    Calls Tryz.prog 47 #[v, u] w fun e w' => e = .returned (.bool (decide (ls = ms))) ∧ w.grownBy w' none := by
  have HC := refCompare_any w v u ls ms hv hu
  have HC : Hid (Calls Tryz.prog 70 #[v, u] w fun e w' => e = .returned (.int .i64 (cmpLs ls ms)) ∧ w.grownBy w' none) := HC
  have hz := cmpLs_zero ls ms
  have HB : Hid ((cmpLs ls ms == 0) = decide (ls = ms)) := by
    show (cmpLs ls ms == 0) = decide (ls = ms)
    rw [Bool.eq_iff_iff]
    simp [hz]
  clear hz
  generalize cmpLs ls ms = C at *
  generalize decide (ls = ms) = B at *
  obtain ⟨a, c, rfl⟩ : ∃ a c, v = .slice a ls.length c := by obtain ⟨a, c, h, _⟩ := hv; exact ⟨a, c, h⟩
  obtain ⟨a2, c2, rfl⟩ : ∃ a c, u = .slice a ms.length c := by obtain ⟨a, c, h, _⟩ := hu; exact ⟨a, c, h⟩
  clear hv hu
  go_enter Tryz.func47, Tryz.ntmps47
  go_wp2_with fail
  refine HC.out.mono ?_
  rintro e w1 ⟨rfl, hg1⟩
  clear HC
  go_wp2
  go_ret
  exact ⟨ret_bool HB.out, hg1⟩

set_option maxRecDepth 8000 in
set_option maxHeartbeats 3200000 in
theorem refPos_any (w : World) (S : Nat → Prop) (gr last : Nat) (v u : Value) (rs : List IdR) (ls : List LbT) (h : RefI w S gr v rs last) (hu : RdL w u ls) :
    Calls Tryz.prog 32 #[.pointer (some ⟨gr, 0, none⟩), u] w fun e w' => e = .returned (.int .i64 (posI rs ls)) ∧ w.grownBy w' none := by
  have HW : Hid (RefI w S gr v rs last ∧ RdL w u ls) := ⟨h, hu⟩
  have hbox := h.boxes.1
  obtain ⟨a, c, rfl, hc1, hc2⟩ := h.shape
  obtain ⟨ua, uc, rfl⟩ : ∃ a c, u = .slice a ls.length c := by obtain ⟨a, c, h, _⟩ := hu; exact ⟨a, c, h⟩
  have hm := h.most
  clear h hu hc1 hc2
  generalize hL : rs.length = L at *
  have HL : Hid (rs.length = L) := hL
  clear hL
  go_enter Tryz.func32, Tryz.ntmps32
  go_wp2
  go_loopw [12] (fun i wr => ∃ k : Nat, k ≤ L ∧ i = .int .i64 (k : Int) ∧ Hid (w.grownBy wr none ∧ ∀ j, j < k → (rs.getD j idZ).lbs ≠ ls)) (fun i _ => L - (intOf i).toNat)
  case atStart => exact ⟨0, by omega, rfl, gb_refl _ _, fun j hj => by omega⟩
  case round =>
    obtain ⟨k, hk, rfl, HR⟩ := hrel
    by_cases hkl : k < L
    · have hkl2 : (k : Int) < (L : Int) := by omega
      have hk' : k < rs.length := by rw [HL.out]; exact hkl
      have hWr := HW.out.1.keep HR.out.1
      obtain ⟨g, cap, hv, hcp, hcm, hgl, hcells⟩ := hWr.cells (by intro e; rw [e] at hk'; simp at hk')
      have hv2 : a = some ⟨g, 0, none⟩ := by simp at hv; exact hv.1
      subst hv2
      obtain ⟨c0, c1⟩ := hcells k hk'
      have hrv := hWr.each _ (getI_mem hk')
      have hbl : ¬ g = wr.heap.size := by omega
      have hbl2 : ¬ wr.heap.size = g := by omega
      have HS : Hid (∀ W, wr.grownBy W none → Calls Tryz.prog 47 #[(rs.getD k idZ).val, .slice ua ls.length uc] W fun e w' => e = .returned (.bool (decide ((rs.getD k idZ).lbs = ls))) ∧ Hid (w.grownBy w' none)) := fun W hW => (refSame_any W _ _ _ _ (hrv.1.keep hW) (HW.out.2.keep (gb_none HR.out.1 hW))).mono fun e w' ⟨h1, h2⟩ => ⟨h1, gb_none (gb_none HR.out.1 hW) h2⟩
      obtain ⟨va, vc, hval⟩ : ∃ va vc, (rs.getD k idZ).val = .slice va (rs.getD k idZ).lbs.length vc := by obtain ⟨⟨a, c, e, _⟩, _⟩ := hrv; exact ⟨a, c, e⟩
      rw [hval] at HS c1
      by_cases he : (rs.getD k idZ).lbs = ls
      · have HP : Hid (posI rs ls = (k : Int)) := posI_some hk' HR.out.2 he
        rw [decide_eq_true he] at HS
        clear hcells he HR hv hrv hWr hval
        generalize (rs.getD k idZ).lbs.length = vl at *
        generalize ((rs.getD k idZ).num : Int) = vn at *
        go_wp2_with fail
        refine (HS.out _ (World.grownBy_alloc _ _ none)).mono ?_
        rintro e w1 ⟨rfl, H1⟩
        clear HS
        go_wp2
        go_ret
        exact ⟨by rw [HP.out]; rfl, H1.out⟩
      · have HR2 : Hid (∀ j, j < k + 1 → (rs.getD j idZ).lbs ≠ ls) := fun j hj => by
          by_cases e : j = k
          · rw [e]; exact he
          · exact HR.out.2 j (by omega)
        rw [decide_eq_false he] at HS
        clear hcells he HR hv hrv hWr hval
        generalize (rs.getD k idZ).lbs.length = vl at *
        generalize ((rs.getD k idZ).num : Int) = vn at *
        go_wp2_with fail
        refine (HS.out _ (World.grownBy_alloc _ _ none)).mono ?_
        rintro e w1 ⟨rfl, H1⟩
        clear HS
        go_wp2
        go_roundw
        case rel => exact ⟨k + 1, by omega, by go_num, H1.out, HR2.out⟩
        case measure => simp [intOf]; omega
    · have HP : Hid (posI rs ls = -1) := posI_none (fun j hj => HR.out.2 j (by rw [HL.out] at hj; omega))
      have HG : Hid (w.grownBy wr none) := HR.out.1
      clear HR
      go_wp2
      go_ret
      exact ⟨by rw [HP.out]; rfl, HG.out⟩

/-- the number of a set that is there -/
def numI (rs : List IdR) (ls : List LbT) : Int × Bool := match rs.find? (fun r => decide (r.lbs = ls)) with | some r => ((r.num : Int), true) | none => (0, false)
theorem numI_none {rs : List IdR} {ls : List LbT} (h : ∀ q ∈ rs, q.lbs ≠ ls) : numI rs ls = (0, false) := by
  have : rs.find? (fun r => decide (r.lbs = ls)) = none := by
    rw [List.find?_eq_none]
    intro q hq hq'
    exact h q hq (by simpa using hq')
  simp [numI, this]
theorem numI_some {rs : List IdR} {ls : List LbT} {k : Nat} (hk : k < rs.length) (he : (rs.getD k idZ).lbs = ls) (h : ∀ j, j < k → (rs.getD j idZ).lbs ≠ ls) : numI rs ls = (((rs.getD k idZ).num : Int), true) := by
  have hg : rs.getD k idZ = rs[k] := by simp [hk]
  have hf : rs.find? (fun r => decide (r.lbs = ls)) = some rs[k] := by
    rw [List.find?_eq_some_iff_getElem]
    refine ⟨by rw [← hg]; simpa using he, k, hk, rfl, fun j hj => ?_⟩
    have := h j hj
    have hj' : j < rs.length := by omega
    simpa [hj'] using this
  simp only [numI, hf, hg]

set_option maxRecDepth 8000 in
set_option maxHeartbeats 3200000 in
theorem refFind_any (w : World) (S : Nat → Prop) (gr last : Nat) (v u : Value) (rs : List IdR) (ls : List LbT) (h : RefI w S gr v rs last) (hu : RdL w u ls) :
    Calls Tryz.prog 20 #[.pointer (some ⟨gr, 0, none⟩), u] w fun e w' => e = .returned (.tuple #[.int .i64 (numI rs ls).1, .bool (numI rs ls).2]) ∧ w.grownBy w' none := by
  have HP := refPos_any w S gr last v u rs ls h hu
  have HW : Hid (RefI w S gr v rs last) := h
  have hm := h.most
  obtain ⟨ua, uc, rfl⟩ : ∃ a c, u = .slice a ls.length c := by obtain ⟨a, c, h, _⟩ := hu; exact ⟨a, c, h⟩
  clear hu
  rcases posI_cases rs ls with ⟨hp, hno⟩ | ⟨k, hp, hk, he, hno⟩
  · rw [hp] at HP
    rw [numI_none hno]
    have HP : Hid (Calls Tryz.prog 32 #[.pointer (some ⟨gr, 0, none⟩), .slice ua ls.length uc] w fun e w' => e = .returned (.int .i64 (-1)) ∧ w.grownBy w' none) := HP
    clear h hp hno
    go_enter Tryz.func20, Tryz.ntmps20
    go_wp2_with fail
    refine HP.out.mono ?_
    rintro e w1 ⟨rfl, hg1⟩
    go_wp2
    go_ret2
    exact ⟨rfl, hg1⟩
  · rw [hp] at HP
    rw [numI_some hk he hno]
    have HP : Hid (Calls Tryz.prog 32 #[.pointer (some ⟨gr, 0, none⟩), .slice ua ls.length uc] w fun e w' => e = .returned (.int .i64 (k : Int)) ∧ w.grownBy w' none) := HP
    have hki : ¬ (k : Int) < 0 := by omega
    obtain ⟨vn, hvn⟩ : ∃ vn : Int, vn = ((rs.getD k idZ).num : Int) := ⟨_, rfl⟩
    rw [← hvn]
    have HVN : Hid (vn = ((rs.getD k idZ).num : Int)) := hvn
    clear h hp hno he hvn
    go_enter Tryz.func20, Tryz.ntmps20
    go_wp2_with fail
    refine HP.out.mono ?_
    rintro e w1 ⟨rfl, hg1⟩
    have hW1 := HW.out.keep hg1
    have hbox := hW1.boxes.1
    obtain ⟨g, cap, rfl, hcp, hcm, hgl, hcells⟩ := hW1.cells (by intro e; rw [e] at hk; simp at hk)
    obtain ⟨c0, -⟩ := hcells k hk
    have hkl : (k : Int) < (rs.length : Int) := by omega
    have H1 : Hid (w.grownBy w1 none) := hg1
    rw [← HVN.out] at c0
    clear hW1 hcells hg1 hcp hcm
    go_wp2
    go_ret2
    exact ⟨rfl, H1.out⟩
end Go.Proofs.YtkipnkpnkhfjhabGreatDoor

/- LbJp -/
namespace Go.Proofs.YtkipnkpnkhfjhabGreatDoor
open Go.RowKit

/-- the set of a number -/
def labI (rs : List IdR) (n : Int) : List LbT × Int := match rs.find? (fun r => decide ((r.num : Int) = n)) with | some r => (r.lbs, 0) | none => ([], 5)
theorem labI_none {rs : List IdR} {n : Int} (h : ∀ j, j < rs.length → ((rs.getD j idZ).num : Int) ≠ n) : labI rs n = ([], 5) := by
  have : rs.find? (fun r => decide ((r.num : Int) = n)) = none := by
    rw [List.find?_eq_none]
    intro q hq hq'
    obtain ⟨j, hj, rfl⟩ := List.mem_iff_getElem.1 hq
    have := h j hj
    simp [hj] at this
    exact this (by simpa using hq')
  simp [labI, this]
theorem labI_some {rs : List IdR} {n : Int} {k : Nat} (hk : k < rs.length) (he : ((rs.getD k idZ).num : Int) = n) (h : ∀ j, j < k → ((rs.getD j idZ).num : Int) ≠ n) : labI rs n = ((rs.getD k idZ).lbs, 0) := by
  have hg : rs.getD k idZ = rs[k] := by simp [hk]
  have hf : rs.find? (fun r => decide ((r.num : Int) = n)) = some rs[k] := by
    rw [List.find?_eq_some_iff_getElem]
    refine ⟨by rw [← hg]; simpa using he, k, hk, rfl, fun j hj => ?_⟩
    have := h j hj
    have hj' : j < rs.length := by omega
    simpa [hj'] using this
  simp only [labI, hf, hg]

set_option maxRecDepth 8000 in
set_option maxHeartbeats 3200000 in
theorem refLabels_any (w : World) (S : Nat → Prop) (gr last : Nat) (v : Value) (rs : List IdR) (n : Int) (h : RefI w S gr v rs last) :
    Calls Tryz.prog 21 #[.pointer (some ⟨gr, 0, none⟩), .int .i64 n] w fun e w' => ∃ v', e = .returned (.tuple #[v', .int .i64 (labI rs n).2]) ∧ RdL w' v' (labI rs n).1 ∧ w.grownBy w' none := by
  have HW : Hid (RefI w S gr v rs last) := h
  have hbox := h.boxes.1
  obtain ⟨a, c, rfl, hc1, hc2⟩ := h.shape
  have hm := h.most
  clear h hc1 hc2
  have HLS : Hid (∀ k, k < rs.length → ((rs.getD k idZ).num : Int) = n → (∀ j, j < k → ((rs.getD j idZ).num : Int) ≠ n) → labI rs n = ((rs.getD k idZ).lbs, 0)) := fun k hk he hno => labI_some hk he hno
  have HLN : Hid ((∀ j, j < rs.length → ((rs.getD j idZ).num : Int) ≠ n) → labI rs n = ([], 5)) := fun h => labI_none h
  generalize labI rs n = R at *
  generalize hL : rs.length = L at *
  have HL : Hid (rs.length = L) := hL
  clear hL
  go_enter Tryz.func21, Tryz.ntmps21
  go_wp2
  go_loopw [13] (fun i wr => ∃ k : Nat, k ≤ L ∧ i = .int .i64 (k : Int) ∧ Hid (w.grownBy wr none ∧ ∀ j, j < k → ((rs.getD j idZ).num : Int) ≠ n)) (fun i _ => L - (intOf i).toNat)
  case atStart => exact ⟨0, by omega, rfl, gb_refl _ _, fun j hj => by omega⟩
  case round =>
    obtain ⟨k, hk, rfl, HR⟩ := hrel
    by_cases hkl : k < L
    · have hkl2 : (k : Int) < (L : Int) := by omega
      have hk' : k < rs.length := by rw [HL.out]; exact hkl
      have hWr := HW.out.keep HR.out.1
      obtain ⟨g, cap, hv, hcp, hcm, hgl, hcells⟩ := hWr.cells (by intro e; rw [e] at hk'; simp at hk')
      have hv2 : a = some ⟨g, 0, none⟩ := by simp at hv; exact hv.1
      subst hv2
      obtain ⟨c0, c1⟩ := hcells k hk'
      have hrv := hWr.each _ (getI_mem hk')
      have hbl : ¬ g = wr.heap.size := by omega
      have hbl2 : ¬ wr.heap.size = g := by omega
      obtain ⟨va, vc, hval⟩ : ∃ va vc, (rs.getD k idZ).val = .slice va (rs.getD k idZ).lbs.length vc := by obtain ⟨⟨a, c, e, _⟩, _⟩ := hrv; exact ⟨a, c, e⟩
      have HG : Hid (w.grownBy wr none) := HR.out.1
      have HRd : Hid (RdL wr (.slice va (rs.getD k idZ).lbs.length vc) (rs.getD k idZ).lbs) := by have := hrv.1; rw [hval] at this; exact this
      rw [hval] at c1
      by_cases he : ((rs.getD k idZ).num : Int) = n
      · have HP : Hid (R = ((rs.getD k idZ).lbs, 0)) := HLS.out k hkl he HR.out.2
        rw [he] at c0
        have heq : (n == n) = true := by simp
        clear hcells he HR hv hrv hWr hval HLS HLN
        generalize hlb : (rs.getD k idZ).lbs = lb at *
        generalize lb.length = vl at *
        go_wp2
        go_ret2
        exact ⟨_, by (rw [HP.out]; first | done | rfl), by rw [HP.out]; exact HRd.out.keep (World.grownBy_alloc _ _ none), gb_none HG.out (World.grownBy_alloc _ _ none)⟩
      · have HR2 : Hid (∀ j, j < k + 1 → ((rs.getD j idZ).num : Int) ≠ n) := fun j hj => by
          by_cases e : j = k
          · rw [e]; exact he
          · exact HR.out.2 j (by omega)
        have heq : (((rs.getD k idZ).num : Int) == n) = false := by rw [beq_eq_false_iff_ne]; exact he
        clear hcells HR hv hrv hWr hval HLS HLN HRd
        generalize (rs.getD k idZ).lbs.length = vl at *
        generalize ((rs.getD k idZ).num : Int) = vn at *
        go_wp2
        go_roundw
        case rel => exact ⟨k + 1, by omega, by go_num, gb_none HG.out (World.grownBy_alloc _ _ none), HR2.out⟩
        case measure => simp [intOf]; omega
    · have HP : Hid (R = ([], 5)) := HLN.out (fun j hj => HR.out.2 j (by omega))
      have HG : Hid (w.grownBy wr none) := HR.out.1
      clear HR HLS HLN
      go_wp2
      go_ret2
      exact ⟨_, by (rw [HP.out]; first | done | rfl), by rw [HP.out]; exact (OwnL.nil wr 0).rd, HG.out⟩
end Go.Proofs.YtkipnkpnkhfjhabGreatDoor
