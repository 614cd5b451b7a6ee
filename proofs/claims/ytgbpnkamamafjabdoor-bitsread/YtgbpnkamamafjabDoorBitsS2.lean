/-
  One call of both, a writer and the document's stream: the walk.
-/
import Derived.Test.YtgbpnkamamafjabDoorBitsS
import Derived.Deep.RegionHeld3
namespace Go.Proofs.YtgbpnkamamafjabDoor
open Go.RowKit

def opCode (k : Int) (x : BitVec 64) (n i : Int) (y : BitVec 64) (L : Nat) : Int := if k = 0 then oCode L else if k = 1 then bCode x n L else if k = 2 then iCode i y L else 0
def opNew (k : Int) (x : BitVec 64) (n i : Int) (y : BitVec 64) (bs : List Bool) : List Bool := if k = 0 then oNew (n.tmod 2 != 0) bs else if k = 1 then bNew x n bs else if k = 2 then iNew i y bs else bs
theorem opNew_le {k : Int} {x : BitVec 64} {n i : Int} {y : BitVec 64} {bs : List Bool} (h : bs.length ≤ 8388608) : (opNew k x n i y bs).length ≤ 8388608 := by
  unfold opNew
  split
  · exact oNew_le h
  · split
    · exact bNew_le h
    · split
      · exact iNew_le h
      · exact h
def opVal (k : Int) (x : BitVec 64) (n i : Int) : Array Value := #[.int .i64 k, .int .u64 (I64 x), .int .i64 n, .int .i64 i]
theorem KeepT.mono {ts ts' : List TypeId} {w w' : World} (h : KeepT ts w w') (hs : ∀ t ∈ ts, t ∈ ts') : KeepT ts' w w' := ⟨h.1, fun k A t fr hk ht => h.2 k A t fr hk (fun hh => ht (hs t hh))⟩
/-- a writer, a stream, and a call's own copy of what it is asked -/
structure Both (w w0 w' : World) (gw gs : Nat) (bs ss : List Bool) (b0 : Nat) (O : Array Value) : Prop where
  wr : WN w w' gw bs
  st : SN w w' gs ss 0
  box : w'.heap[b0]? = some (.cells O 31 (0, 0))
  kept : KeepT [59, 5, 28, 4] w0 w'
theorem Both.keep {w w0 w' w'' : World} {gw gs b0 : Nat} {bs ss : List Bool} {O : Array Value} (h : Both w w0 w' gw gs bs ss b0 O) (hg : w'.grownBy w'' none) : Both w w0 w'' gw gs bs ss b0 O :=
  ⟨h.wr.keep hg, h.st.keep hg, by rw [hg.block b0 (Array.getElem?_eq_some_iff.1 h.box).1 (by simp)]; exact h.box, h.kept.trans (KeepT.of_none hg)⟩
theorem Both.drew {w w0 w' : World} {gw gs b0 : Nat} {bs ss : List Bool} {O : Array Value} (h : Both w w0 w' gw gs bs ss b0 O) : Both w w0 w'.drew gw gs bs ss b0 O := h.keep (gb_drew _ _)
theorem Both.cell {w w0 w' : World} {gw gs b0 : Nat} {bs ss : List Bool} {k : Int} {x : BitVec 64} {n i : Int} (h : Both w w0 w' gw gs bs ss b0 (opVal k x n i)) :
    w'.cell? ⟨b0, 0, none⟩ = some (.int .i64 k) ∧ w'.cell? ⟨b0, 1, none⟩ = some (.int .u64 (I64 x)) ∧ w'.cell? ⟨b0, 2, none⟩ = some (.int .i64 n) ∧ w'.cell? ⟨b0, 3, none⟩ = some (.int .i64 i) := by
  have := h.box
  refine ⟨?_, ?_, ?_, ?_⟩ <;> simp [World.cell?, this, opVal]
theorem Both.wrote {w w0 w1 w2 : World} {gw gs b0 : Nat} {bs bs' ss : List Bool} {O : Array Value} (h : Both w w0 w1 gw gs bs ss b0 O) (h2 : WN w w2 gw bs') (hk : KeepT [59, 5] w1 w2) : Both w w0 w2 gw gs bs' ss b0 O :=
  ⟨h2, h.st.keptT hk h2.2.1, (hk.2 b0 _ _ _ h.box (by decide)).trans h.box, h.kept.trans (hk.mono (by decide))⟩
theorem Both.streamed {w w0 w1 w2 : World} {gw gs b0 : Nat} {bs ss ss' : List Bool} {O : Array Value} (h : Both w w0 w1 gw gs bs ss b0 O) (h2 : SN w w2 gs ss' 0) (hk : KeepT [28, 4] w1 w2) : Both w w0 w2 gw gs bs ss' b0 O :=
  ⟨h.wr.keptT hk h2.2.1, h2, (hk.2 b0 _ _ _ h.box (by decide)).trans h.box, h.kept.trans (hk.mono (by decide))⟩

set_option maxHeartbeats 6400000 in
theorem both_bit (w wr : World) (gw gs : Nat) (bs ss : List Bool) (x : BitVec 64) (n i : Int) (hw : WN w wr gw bs) (hs : SN w wr gs ss 0) (hb : bs.length ≤ 8388608) (hc : ss.length ≤ 8388608) :
    Calls Tryd.prog 9 #[.pointer (some ⟨gw, 0, none⟩), .pointer (some ⟨gs, 0, none⟩), .agg #[.int .i64 0, .int .u64 (I64 x), .int .i64 n, .int .i64 i]] wr fun e w' =>
      e = .returned (.bool (oCode bs.length == oCode ss.length)) ∧ WN w w' gw (oNew (n.tmod 2 != 0) bs) ∧ SN w w' gs (oNew (n.tmod 2 != 0) ss) 0 ∧ KeepT [59, 5, 28, 4] wr w' := by
  have HH : Hid (Both w wr (wr.alloc (.cells #[.int .i64 0, .int .u64 (I64 x), .int .i64 n, .int .i64 i] 31)) gw gs bs ss wr.heap.size (opVal 0 x n i)) :=
    ⟨hw.keep (alloc_gb _ _), hs.keep (alloc_gb _ _), Go.heap_alloc_new wr _, KeepT.of_none (alloc_gb _ _)⟩
  have HW : Hid (∀ b w1, Both w wr w1 gw gs bs ss wr.heap.size (opVal 0 x n i) → Calls Tryd.prog 26 #[.pointer (some ⟨gw, 0, none⟩), .bool b] w1 fun e w2 => e = .returned (.int .i64 (oCode bs.length)) ∧ Hid (Both w wr w2 gw gs (oNew b bs) ss wr.heap.size (opVal 0 x n i)) ∧ w2.cell? ⟨wr.heap.size, 2, none⟩ = some (.int .i64 n)) :=
    fun b w1 h => (wbitK w w1 gw bs b h.wr hb).mono fun e w2 ⟨he, h2, hk⟩ => ⟨he, h.wrote h2 hk, (h.wrote h2 hk).cell.2.2.1⟩
  have HS : Hid (∀ b w1, Both w wr w1 gw gs (oNew (n.tmod 2 != 0) bs) ss wr.heap.size (opVal 0 x n i) → Calls Tryd.prog 27 #[.pointer (some ⟨gs, 0, none⟩), .bool b] w1 fun e w2 => e = .returned (.int .i64 (oCode ss.length)) ∧ Hid (Both w wr w2 gw gs (oNew (n.tmod 2 != 0) bs) (oNew b ss) wr.heap.size (opVal 0 x n i)) ∧ w2.cell? ⟨wr.heap.size, 2, none⟩ = some (.int .i64 n)) :=
    fun b w1 h => (rbitK w w1 gs ss b h.st hc).mono fun e w2 ⟨he, h2, hk⟩ => ⟨he, h.streamed h2 hk, (h.streamed h2 hk).cell.2.2.1⟩
  clear hw hs hb hc
  generalize oCode bs.length = C1 at *
  generalize oCode ss.length = C2 at *
  go_enter Tryd.func9, Tryd.ntmps9
  go_wp2_with fail
  generalize hW1 : wr.alloc (.cells #[.int .i64 0, .int .u64 (I64 x), .int .i64 n, .int .i64 i] 31) = w1 at *
  clear hW1
  have c2 := HH.out.cell.2.2.1
  generalize wr.heap.size = b0 at *
  go_region_held3 (fun w' => w'.cell? ⟨b0, 2, none⟩ = some (.int .i64 n)) (go_keep)
    (first
      | (go_at_call 26; refine (HW.out _ _ ?_).mono ?_; (first | exact HH.out | exact HH.out.drew); rintro e w2 ⟨rfl, H2, c22⟩)
      | (go_at_call 27; refine (HS.out _ _ ?_).mono ?_; (first | exact H2.out | exact H2.out.drew); rintro e w3 ⟨rfl, H3, c33⟩))
  all_goals go_wp2
  all_goals go_ret
  all_goals exact ⟨rfl, H3.out.wr, H3.out.st, H3.out.kept⟩

set_option maxHeartbeats 6400000 in
theorem both_bits (w wr : World) (gw gs : Nat) (bs ss : List Bool) (x : BitVec 64) (n i : Int) (hw : WN w wr gw bs) (hs : SN w wr gs ss 0) (hb : bs.length ≤ 8388608) (hc : ss.length ≤ 8388608) :
    Calls Tryd.prog 9 #[.pointer (some ⟨gw, 0, none⟩), .pointer (some ⟨gs, 0, none⟩), .agg #[.int .i64 1, .int .u64 (I64 x), .int .i64 n, .int .i64 i]] wr fun e w' =>
      e = .returned (.bool (bCode x n bs.length == bCode x n ss.length)) ∧ WN w w' gw (bNew x n bs) ∧ SN w w' gs (bNew x n ss) 0 ∧ KeepT [59, 5, 28, 4] wr w' := by
  have HH : Hid (Both w wr (wr.alloc (.cells #[.int .i64 1, .int .u64 (I64 x), .int .i64 n, .int .i64 i] 31)) gw gs bs ss wr.heap.size (opVal 1 x n i)) :=
    ⟨hw.keep (alloc_gb _ _), hs.keep (alloc_gb _ _), Go.heap_alloc_new wr _, KeepT.of_none (alloc_gb _ _)⟩
  have HW : Hid (∀ w1, Both w wr w1 gw gs bs ss wr.heap.size (opVal 1 x n i) → Calls Tryd.prog 24 #[.pointer (some ⟨gw, 0, none⟩), .int .u64 (I64 x), .int .i64 n] w1 fun e w2 => e = .returned (.int .i64 (bCode x n bs.length)) ∧ Hid (Both w wr w2 gw gs (bNew x n bs) ss wr.heap.size (opVal 1 x n i)) ∧ w2.cell? ⟨wr.heap.size, 1, none⟩ = some (.int .u64 (I64 x)) ∧ w2.cell? ⟨wr.heap.size, 2, none⟩ = some (.int .i64 n)) :=
    fun w1 h => (wbitsK w w1 gw bs x n h.wr hb).mono fun e w2 ⟨he, h2, hk⟩ => ⟨he, h.wrote h2 hk, (h.wrote h2 hk).cell.2.1, (h.wrote h2 hk).cell.2.2.1⟩
  have HS : Hid (∀ w1, Both w wr w1 gw gs (bNew x n bs) ss wr.heap.size (opVal 1 x n i) → Calls Tryd.prog 28 #[.pointer (some ⟨gs, 0, none⟩), .int .u64 (I64 x), .int .i64 n] w1 fun e w2 => e = .returned (.int .i64 (bCode x n ss.length)) ∧ Hid (Both w wr w2 gw gs (bNew x n bs) (bNew x n ss) wr.heap.size (opVal 1 x n i)) ∧ w2.cell? ⟨wr.heap.size, 1, none⟩ = some (.int .u64 (I64 x)) ∧ w2.cell? ⟨wr.heap.size, 2, none⟩ = some (.int .i64 n)) :=
    fun w1 h => (rbitsK w w1 gs ss x n h.st hc).mono fun e w2 ⟨he, h2, hk⟩ => ⟨he, h.streamed h2 hk, (h.streamed h2 hk).cell.2.1, (h.streamed h2 hk).cell.2.2.1⟩
  clear hw hs hb hc
  generalize bCode x n bs.length = C1 at *
  generalize bCode x n ss.length = C2 at *
  go_enter Tryd.func9, Tryd.ntmps9
  go_wp2_with fail
  generalize hW1 : wr.alloc (.cells #[.int .i64 1, .int .u64 (I64 x), .int .i64 n, .int .i64 i] 31) = w1 at *
  clear hW1
  have c1 := HH.out.cell.2.1
  have c2 := HH.out.cell.2.2.1
  generalize wr.heap.size = b0 at *
  go_region_held3 (fun w' => w'.cell? ⟨b0, 1, none⟩ = some (.int .u64 (I64 x)) ∧ w'.cell? ⟨b0, 2, none⟩ = some (.int .i64 n)) (go_keep)
    (first
      | (go_at_call 24; refine (HW.out _ ?_).mono ?_; (first | exact HH.out | exact HH.out.drew); rintro e w2 ⟨rfl, H2, c21, c22⟩)
      | (go_at_call 28; refine (HS.out _ ?_).mono ?_; (first | exact H2.out | exact H2.out.drew); rintro e w3 ⟨rfl, H3, c31, c33⟩))
  all_goals go_wp2
  all_goals go_ret
  all_goals exact ⟨rfl, H3.out.wr, H3.out.st, H3.out.kept⟩

set_option maxHeartbeats 6400000 in
theorem both_int (w wr : World) (gw gs : Nat) (bs ss : List Bool) (x : BitVec 64) (n i : Int) (y : BitVec 64) (hw : WN w wr gw bs) (hs : SN w wr gs ss 0) (hT : TabW w) (hy : IntKind.u64.wrap i = I64 y) (hb : bs.length ≤ 8388608) (hc : ss.length ≤ 8388608) :
    Calls Tryd.prog 9 #[.pointer (some ⟨gw, 0, none⟩), .pointer (some ⟨gs, 0, none⟩), .agg #[.int .i64 2, .int .u64 (I64 x), .int .i64 n, .int .i64 i]] wr fun e w' =>
      e = .returned (.bool (iCode i y bs.length == iCode i y ss.length)) ∧ WN w w' gw (iNew i y bs) ∧ SN w w' gs (iNew i y ss) 0 ∧ KeepT [59, 5, 28, 4] wr w' := by
  have HH : Hid (Both w wr (wr.alloc (.cells #[.int .i64 2, .int .u64 (I64 x), .int .i64 n, .int .i64 i] 31)) gw gs bs ss wr.heap.size (opVal 2 x n i)) :=
    ⟨hw.keep (alloc_gb _ _), hs.keep (alloc_gb _ _), Go.heap_alloc_new wr _, KeepT.of_none (alloc_gb _ _)⟩
  have HW : Hid (∀ w1, Both w wr w1 gw gs bs ss wr.heap.size (opVal 2 x n i) → Calls Tryd.prog 23 #[.pointer (some ⟨gw, 0, none⟩), .int .i64 i] w1 fun e w2 => e = .returned (.int .i64 (iCode i y bs.length)) ∧ Hid (Both w wr w2 gw gs (iNew i y bs) ss wr.heap.size (opVal 2 x n i)) ∧ w2.cell? ⟨wr.heap.size, 3, none⟩ = some (.int .i64 i)) :=
    fun w1 h => (wintK w w1 gw bs i y h.wr hT hy hb).mono fun e w2 ⟨he, h2, hk⟩ => ⟨he, h.wrote h2 hk, (h.wrote h2 hk).cell.2.2.2⟩
  have HS : Hid (∀ w1, Both w wr w1 gw gs (iNew i y bs) ss wr.heap.size (opVal 2 x n i) → Calls Tryd.prog 29 #[.pointer (some ⟨gs, 0, none⟩), .int .i64 i] w1 fun e w2 => e = .returned (.int .i64 (iCode i y ss.length)) ∧ Hid (Both w wr w2 gw gs (iNew i y bs) (iNew i y ss) wr.heap.size (opVal 2 x n i)) ∧ w2.cell? ⟨wr.heap.size, 3, none⟩ = some (.int .i64 i)) :=
    fun w1 h => (rintK w w1 gs ss i y h.st hy hc).mono fun e w2 ⟨he, h2, hk⟩ => ⟨he, h.streamed h2 hk, (h.streamed h2 hk).cell.2.2.2⟩
  clear hw hs hb hc hT hy
  generalize iCode i y bs.length = C1 at *
  generalize iCode i y ss.length = C2 at *
  go_enter Tryd.func9, Tryd.ntmps9
  go_wp2_with fail
  generalize hW1 : wr.alloc (.cells #[.int .i64 2, .int .u64 (I64 x), .int .i64 n, .int .i64 i] 31) = w1 at *
  clear hW1
  have c3 := HH.out.cell.2.2.2
  generalize wr.heap.size = b0 at *
  go_region_held3 (fun w' => w'.cell? ⟨b0, 3, none⟩ = some (.int .i64 i)) (go_keep)
    (first
      | (go_at_call 23; refine (HW.out _ ?_).mono ?_; (first | exact HH.out | exact HH.out.drew); rintro e w2 ⟨rfl, H2, c22⟩)
      | (go_at_call 29; refine (HS.out _ ?_).mono ?_; (first | exact H2.out | exact H2.out.drew); rintro e w3 ⟨rfl, H3, c33⟩))
  all_goals go_wp2
  all_goals go_ret
  all_goals exact ⟨rfl, H3.out.wr, H3.out.st, H3.out.kept⟩

theorem both_none (w wr : World) (gw gs : Nat) (bs ss : List Bool) (k : Int) (x : BitVec 64) (n i : Int) (h0 : ¬ k = 0) (h1 : ¬ k = 1) (h2 : ¬ k = 2) (hw : WN w wr gw bs) (hs : SN w wr gs ss 0) :
    Calls Tryd.prog 9 #[.pointer (some ⟨gw, 0, none⟩), .pointer (some ⟨gs, 0, none⟩), .agg #[.int .i64 k, .int .u64 (I64 x), .int .i64 n, .int .i64 i]] wr fun e w' =>
      e = .returned (.bool true) ∧ WN w w' gw bs ∧ SN w w' gs ss 0 ∧ KeepT [59, 5, 28, 4] wr w' := by
  have b0 : (k == 0) = false := by simpa using h0
  have b1 : (k == 1) = false := by simpa using h1
  have b2 : (k == 2) = false := by simpa using h2
  have HH : Hid (WN w wr gw bs ∧ SN w wr gs ss 0) := ⟨hw, hs⟩
  clear hw hs
  go_enter Tryd.func9, Tryd.ntmps9
  go_wp2
  go_ret
  exact ⟨rfl, HH.out.1.keep (alloc_gb _ _), HH.out.2.keep (alloc_gb _ _), KeepT.of_none (alloc_gb _ _)⟩

theorem both_any (w wr : World) (gw gs : Nat) (bs ss : List Bool) (k : Int) (x : BitVec 64) (n i : Int) (y : BitVec 64) (hw : WN w wr gw bs) (hs : SN w wr gs ss 0) (hT : TabW w) (hy : IntKind.u64.wrap i = I64 y) (hb : bs.length ≤ 8388608) (hc : ss.length ≤ 8388608) :
    Calls Tryd.prog 9 #[.pointer (some ⟨gw, 0, none⟩), .pointer (some ⟨gs, 0, none⟩), .agg #[.int .i64 k, .int .u64 (I64 x), .int .i64 n, .int .i64 i]] wr fun e w' =>
      e = .returned (.bool (opCode k x n i y bs.length == opCode k x n i y ss.length)) ∧ WN w w' gw (opNew k x n i y bs) ∧ SN w w' gs (opNew k x n i y ss) 0 ∧ KeepT [59, 5, 28, 4] wr w' := by
  by_cases h0 : k = 0
  · subst h0
    exact both_bit w wr gw gs bs ss x n i hw hs hb hc
  · by_cases h1 : k = 1
    · subst h1
      exact both_bits w wr gw gs bs ss x n i hw hs hb hc
    · by_cases h2 : k = 2
      · subst h2
        exact both_int w wr gw gs bs ss x n i y hw hs hT hy hb hc
      · have e : ∀ L, opCode k x n i y L = 0 := fun L => by unfold opCode; rw [if_neg h0, if_neg h1, if_neg h2]
        have e2 : ∀ l, opNew k x n i y l = l := fun l => by unfold opNew; rw [if_neg h0, if_neg h1, if_neg h2]
        rw [e, e, e2, e2]
        exact both_none w wr gw gs bs ss k x n i h0 h1 h2 hw hs
end Go.Proofs.YtgbpnkamamafjabDoor
