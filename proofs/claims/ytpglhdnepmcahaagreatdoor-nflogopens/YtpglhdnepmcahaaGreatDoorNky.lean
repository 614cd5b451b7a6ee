/-
  The law's step of any kind; the law's script in memory; both logs, new. Plain facts.
-/
import Derived.Test.YtpglhdnepmcahaaGreatDoorNkJ
import Derived.Test.YtpglhdnepmcahaaGreatDoorNkK
namespace Go.Proofs.YtpglhdnepmcahaaGreatDoor
open Go.RowKit Go.Shelf Go.Sort

theorem step_any (w0 W : World) (gx gr : Nat) (kd nw nn : Int) (m : MkR) (f s : Value) (h : Stp w0 W gx gr) (hm : RdM w0 m f s) (lf : LLs m.fir) (ls : LLs m.res) (hT : U8S w0) :
    Calls Tryz.prog 7 #[.pointer (some ⟨gx, 0, none⟩), .pointer (some ⟨gr, 0, none⟩), .agg #[.int .i64 kd, .string (ByteArray.mk ⟨m.rcv⟩), .string (ByteArray.mk ⟨m.key⟩), .int .i64 m.tim, f, s, .int .i64 nw, .int .i64 nn]] W fun e w' => e = .returned (.bool true) ∧ Stp w0 w' gx gr := by
  obtain ⟨v1, v2, l1, l2, hp, hs⟩ := h
  by_cases h0 : kd = 0
  · subst h0
    exact step0_any w0 W gx gr v1 v2 l1 l2 nw nn m f s hp hs hm lf ls hT
  · by_cases h1 : kd = 1
    · subst h1
      exact step1_any w0 W gx gr v1 v2 l1 l2 nw nn m f s hp hs hm lf ls
    · by_cases h2 : kd = 2
      · subst h2
        exact step2_any w0 W gx gr v1 v2 l1 l2 nw nn m f s hp hs hm lf ls hT
      · by_cases h3 : kd = 3
        · subst h3
          exact step3_any w0 W gx gr v1 v2 l1 l2 nw nn m f s hp hs hm lf ls
        · exact stepN_any w0 W gx gr v1 v2 l1 l2 kd nw nn m f s hp hs hm lf ls (by simp [h0]) (by simp [h1]) (by simp [h2]) (by simp [h3])
/-- both logs, new -/
theorem stp_new {w0 W1 : World} (h0 : w0.grownBy W1 none) (h1 : LgN W1 w0.heap.size) :
    Stp w0 (W1.alloc (.cells #[.slice none 0 0] 48)) w0.heap.size W1.heap.size := by
  have k := World.grownBy_alloc W1 (.cells #[.slice none 0 0] 48) none
  have hlt : w0.heap.size < W1.heap.size := Boxed.lt h1
  have fp : ∀ {g k : Nat}, FpL g (.slice none 0 0) k → k = g := fun h => by
    rcases h with h | h
    · exact h
    · simp [Value.ownBlock] at h
  refine ⟨.slice none 0 0, .slice none 0 0, [], [], ⟨gb_none h0 k, ⟨h1.keep k, OwnE.nil _ _, List.Pairwise.nil, (fun x hx => by cases hx), by simp⟩, ⟨Boxed.new _ _ _, OwnK.nil _ _, List.Pairwise.nil, (fun x hx => by cases hx), by simp⟩, fun q hq => ?_, fun q hq => ?_, fun q hq hq2 => ?_⟩, rfl⟩
  · rw [fp hq]
    exact Nat.le_refl _
  · rw [fp hq]
    omega
  · have e1 := fp hq
    have e2 := fp hq2
    omega
/-- so many marks -/
def StpN (w0 W : World) (gx gr n : Nat) : Prop := ∃ v1 v2 l1 l2, PlD w0 W gx gr v1 v2 l1 l2 ∧ SamM l1 l2 ∧ l1.length = n
theorem Stp.n {w0 W : World} {gx gr : Nat} (h : Stp w0 W gx gr) : ∃ a n c, W.cell? ⟨gr, 0, none⟩ = some (.slice a n c) ∧ n ≤ c ∧ n ≤ 500 ∧ (1 ≤ n → ∃ g, a = some ⟨g, 0, none⟩) ∧ StpN w0 W gx gr n := by
  obtain ⟨v1, v2, l1, l2, hp, hs⟩ := h
  obtain ⟨a, c, e, hc⟩ := hp.b.row.shape
  have hb := hp.b.box.cell
  rw [e, ← hs.len] at hb
  refine ⟨a, _, c, hb, by rw [hs.len]; exact hc, hp.a.len, fun hn => ?_, v1, v2, l1, l2, hp, hs, rfl⟩
  obtain ⟨g, c', e', -⟩ := hp.b.row.cells (show 0 < l2.length by rw [← hs.len]; omega)
  rw [e] at e'
  simp only [Value.slice.injEq] at e'
  exact ⟨g, e'.1⟩
theorem StpN.s {w0 W : World} {gx gr n : Nat} (h : StpN w0 W gx gr n) : Stp w0 W gx gr := by
  obtain ⟨v1, v2, l1, l2, hp, hs, -⟩ := h
  exact ⟨v1, v2, l1, l2, hp, hs⟩
theorem Stp.keep {w0 W W' : World} {gx gr : Nat} (h : Stp w0 W gx gr) (hg : W.grownBy W' none) : Stp w0 W' gx gr := by
  obtain ⟨v1, v2, l1, l2, hp, hs⟩ := h
  exact ⟨v1, v2, l1, l2, hp.keep hg, hs⟩
theorem StpN.keep {w0 W W' : World} {gx gr n : Nat} (h : StpN w0 W gx gr n) (hg : W.grownBy W' none) : StpN w0 W' gx gr n := by
  obtain ⟨v1, v2, l1, l2, hp, hs, hn⟩ := h
  exact ⟨v1, v2, l1, l2, hp.keep hg, hs, hn⟩
theorem Stp.gb {w0 W : World} {gx gr : Nat} (h : Stp w0 W gx gr) : w0.grownBy W none := by
  obtain ⟨v1, v2, l1, l2, hp, -⟩ := h
  exact hp.gb
theorem Stp.whole {w0 W : World} {gx gr : Nat} (h : Stp w0 W gx gr) (hT : U8S w0) :
    Calls Tryz.prog 8 #[.pointer (some ⟨gx, 0, none⟩), .pointer (some ⟨gr, 0, none⟩)] W fun e w' => e = .returned (.bool true) ∧ W.grownBy w' none := by
  obtain ⟨v1, v2, l1, l2, hp, hs⟩ := h
  exact whole_any w0 W gx gr v1 v2 l1 l2 hp hs hT
theorem StpN.len {w0 W : World} {gx gr n : Nat} (h : StpN w0 W gx gr n) :
    Calls Tryz.prog 27 #[.pointer (some ⟨gx, 0, none⟩)] W fun e w' => e = .returned (.int .i64 (n : Int)) ∧ w' = W := by
  obtain ⟨v1, v2, l1, l2, hp, hs, rfl⟩ := h
  exact lenL_any W gx l1 hp.a.lg
/-- the first mark of many -/
def RdOne (w0 W : World) (gr : Nat) (v : Value) (n : Nat) : Prop := ∃ gx v1 v2 l1 l2 ys, PlD w0 W gx gr v1 v2 l1 l2 ∧ SamM l1 l2 ∧ l1.length = n ∧ OwnKL W 0 v ys ∧ ys.map (·.1) = (l1.take 1).map (·.1)
theorem StpN.every1 {w0 W : World} {gx gr n : Nat} (h : StpN w0 W gx gr n) (hn : 1 ≤ n) :
    Calls Tryz.prog 26 #[.pointer (some ⟨gx, 0, none⟩), .int .i64 1] W fun e w' => ∃ a c, e = .returned (.slice a 1 c) ∧ RdOne w0 w' gr (.slice a 1 c) n ∧ W.grownBy w' none := by
  obtain ⟨v1, v2, l1, l2, hp, hs, rfl⟩ := h
  refine (everyX_any W gx v1 l1 1 (by omega) hp.a).mono ?_
  rintro e w' ⟨v', ys, q1, q2, q3, q4⟩
  obtain ⟨a, c, ev, -⟩ := q2.1.shape
  have hyl : ys.length = 1 := by have := congrArg List.length q3; simp at this; omega
  rw [hyl] at ev
  subst ev
  exact ⟨a, c, q1, ⟨gx, v1, v2, l1, l2, ys, hp.keep q4, hs, rfl, ⟨OwnK.mono q2.1 (Nat.zero_le _), fun y hy => ⟨(q2.2 y hy).1.mono (Nat.zero_le _), (q2.2 y hy).2.mono (Nat.zero_le _)⟩⟩, q3⟩, q4⟩
theorem RdK.one {w : World} {a : Option Addr} {n c : Nat} {l : List MkX} (h : RdK w (.slice a n c) l) (hn : 1 ≤ n) : RdK w (.slice a 1 c) (l.take 1) := by
  obtain ⟨a', c', e, hc, hr⟩ := h
  simp only [Value.slice.injEq] at e
  obtain ⟨rfl, rfl, rfl⟩ := e
  have e1 : (l.take 1).length = 1 := by simp; omega
  refine ⟨a, c, by rw [e1], by omega, fun j hj => ?_⟩
  have hj0 : j = 0 := by omega
  subst hj0
  have e2 : (l.take 1).getD 0 xZ = l.getD 0 xZ := by simp [List.getD]
  rw [e2]
  exact hr 0 (by omega)
theorem RdOne.same {w0 W : World} {gr n c : Nat} {a : Option Addr} {v : Value} (h : RdOne w0 W gr v n) (hn : 1 ≤ n) (hc : W.cell? ⟨gr, 0, none⟩ = some (.slice a n c)) :
    Calls Tryz.prog 28 #[v, .slice a 1 c] W fun e w' => e = .returned (.bool true) ∧ W.grownBy w' none := by
  obtain ⟨gx, v1, v2, l1, l2, ys, hp, hs, rfl, q2, q3⟩ := h
  have hb := hp.b.box.cell
  rw [hc] at hb
  simp only [Option.some.injEq] at hb
  have r1 : RdK W v2 l2 := hp.b.row.rdk fun x hx => ⟨(hp.b.each x hx).1.fir.rd, (hp.b.each x hx).1.res.rd⟩
  rw [← hb] at r1
  have hyl : ys.length = 1 := by have := congrArg List.length q3; simp at this; omega
  refine sameAll_refl W v _ ys (l2.take 1) (q2.1.rdk fun x hx => ⟨(q2.2 x hx).1.rd, (q2.2 x hx).2.rd⟩) (r1.one hn) (by omega) ?_
  rw [q3, List.map_take, List.map_take, show l1.map (·.1) = l2.map (·.1) from hs]
/-- an operation of a script -/
structure OpN where
  kd : Int
  now : Int
  num : Int
  m : MkR
abbrev OpX := OpN × Value × Value
def oZ : OpX := (⟨0, 0, 0, ⟨[], [], 0, [], []⟩⟩, .slice none 0 0, .slice none 0 0)
/-- a script in memory -/
def RdN (W : World) (v : Value) (l : List OpX) : Prop := ∃ a c, v = .slice a l.length c ∧ l.length ≤ 9223372036854775807 ∧ ∀ j, j < l.length → ∃ b o, a = some ⟨b, o, none⟩ ∧ W.cell? ⟨b, o + j * 8, none⟩ = some (.int .i64 (l.getD j oZ).1.kd) ∧ W.cell? ⟨b, o + j * 8 + 1, none⟩ = some (.string (ByteArray.mk ⟨(l.getD j oZ).1.m.rcv⟩)) ∧ W.cell? ⟨b, o + j * 8 + 2, none⟩ = some (.string (ByteArray.mk ⟨(l.getD j oZ).1.m.key⟩)) ∧ W.cell? ⟨b, o + j * 8 + 3, none⟩ = some (.int .i64 (l.getD j oZ).1.m.tim) ∧ W.cell? ⟨b, o + j * 8 + 4, none⟩ = some (l.getD j oZ).2.1 ∧ W.cell? ⟨b, o + j * 8 + 5, none⟩ = some (l.getD j oZ).2.2 ∧ W.cell? ⟨b, o + j * 8 + 6, none⟩ = some (.int .i64 (l.getD j oZ).1.now) ∧ W.cell? ⟨b, o + j * 8 + 7, none⟩ = some (.int .i64 (l.getD j oZ).1.num) ∧ RdM W (l.getD j oZ).1.m (l.getD j oZ).2.1 (l.getD j oZ).2.2 ∧ LLs (l.getD j oZ).1.m.fir ∧ LLs (l.getD j oZ).1.m.res
theorem run_one26 (g n c : Nat) (hc : 1 ≤ c) (W : World) : (Instr.slice 46 (.slice (some ⟨g, 0, none⟩) n c) none (some (.int .i64 1)) none).run Tryz.prog W = .ok (.slice (some ⟨g, 0, none⟩) 1 c) W := by
  have ht' : Tryz.prog.underlying 46 = some (.slice (Tryz.prog.elem 46)) := by simp [Program.elem, Tryz.underlying46]
  have he : Tryz.prog.elem 46 = 34 := by simp [Program.elem, Tryz.underlying46]
  rw [run_slice_h W _ _ _ _ ht' .i64 _ (by omega) (by omega), he, Tryz.sizeOf34]
  simp [Result.andThen, sliced, Addr.add]
end Go.Proofs.YtpglhdnepmcahaaGreatDoor
