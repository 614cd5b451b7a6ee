/-
  Nky, LawNfPlays, in one text.
-/
import Derived.Test.YtfmgkpgflbidkaaGreatDoorRNkJ
import Derived.Test.YtfmgkpgflbidkaaGreatDoorRNkK
import Derived.Test.YtfmgkpgflbidkaaGreatDoorRNmH
/- Nky -/
namespace Go.Proofs.YtfmgkpgflbidkaaGreatDoorR
open Go.RowKit Go.Shelf Go.Sort

theorem step_any (w0 W : World) (gx gr : Nat) (kd nw nn : Int) (m : MkR) (f s : Value) (h : Stp w0 W gx gr) (hm : RdM w0 m f s) (lf : LLs m.fir) (ls : LLs m.res) (hT : U8S w0) :
    Calls Tryz.prog 6 #[.pointer (some ⟨gx, 0, none⟩), .pointer (some ⟨gr, 0, none⟩), .agg #[.int .i64 kd, .string (ByteArray.mk ⟨m.rcv⟩), .string (ByteArray.mk ⟨m.key⟩), .int .i64 m.tim, f, s, .int .i64 nw, .int .i64 nn]] W fun e w' => e = .returned (.bool true) ∧ Stp w0 w' gx gr := by
  obtain ⟨v1, v2, l1, l2, hp, hs⟩ := h
  by_cases h0 : kd = 0
  · subst h0
    exact step0_any w0 W gx gr v1 v2 l1 l2 nw nn m f s hp hs hm lf ls hT
  · by_cases h1 : kd = 1
    · subst h1
      exact step1_any w0 W gx gr v1 v2 l1 l2 nw nn m f s hp hs hm lf ls
    · by_cases h2 : kd = 2
      · subst h2
        exact step2_any w0 W gx gr v1 v2 l1 l2 nw nn m f s hp hs hm lf ls hT
      · by_cases h3 : kd = 3
        · subst h3
          exact step3_any w0 W gx gr v1 v2 l1 l2 nw nn m f s hp hs hm lf ls
        · exact stepN_any w0 W gx gr v1 v2 l1 l2 kd nw nn m f s hp hs hm lf ls (by simp [h0]) (by simp [h1]) (by simp [h2]) (by simp [h3])
/-- both logs, new -/
theorem stp_new {w0 W1 : World} (h0 : w0.grownBy W1 none) (h1 : LgN W1 w0.heap.size) :
    Stp w0 (W1.alloc (.cells #[.slice none 0 0] 28)) w0.heap.size W1.heap.size := by
  have k := World.grownBy_alloc W1 (.cells #[.slice none 0 0] 28) none
  have hlt : w0.heap.size < W1.heap.size := Boxed.lt h1
  have fp : ∀ {g k : Nat}, FpL g (.slice none 0 0) k → k = g := fun h => by
    rcases h with h | h
    · exact h
    · simp [Value.ownBlock] at h
  refine ⟨.slice none 0 0, .slice none 0 0, [], [], ⟨gb_none h0 k, ⟨h1.keep k, OwnE.nil _ _, List.Pairwise.nil, (fun x hx => by cases hx), by simp⟩, ⟨Boxed.new _ _ _, OwnK.nil _ _, List.Pairwise.nil, (fun x hx => by cases hx), by simp⟩, fun q hq => ?_, fun q hq => ?_, fun q hq hq2 => ?_⟩, rfl⟩
  · rw [fp hq]
    exact Nat.le_refl _
  · rw [fp hq]
    omega
  · have e1 := fp hq
    have e2 := fp hq2
    omega
/-- so many marks -/
def StpN (w0 W : World) (gx gr n : Nat) : Prop := ∃ v1 v2 l1 l2, PlD w0 W gx gr v1 v2 l1 l2 ∧ SamM l1 l2 ∧ l1.length = n
theorem Stp.n {w0 W : World} {gx gr : Nat} (h : Stp w0 W gx gr) : ∃ a n c, W.cell? ⟨gr, 0, none⟩ = some (.slice a n c) ∧ n ≤ c ∧ n ≤ 500 ∧ (1 ≤ n → ∃ g, a = some ⟨g, 0, none⟩) ∧ StpN w0 W gx gr n := by
  obtain ⟨v1, v2, l1, l2, hp, hs⟩ := h
  obtain ⟨a, c, e, hc⟩ := hp.b.row.shape
  have hb := hp.b.box.cell
  rw [e, ← hs.len] at hb
  refine ⟨a, _, c, hb, by rw [hs.len]; exact hc, hp.a.len, fun hn => ?_, v1, v2, l1, l2, hp, hs, rfl⟩
  obtain ⟨g, c', e', -⟩ := hp.b.row.cells (show 0 < l2.length by rw [← hs.len]; omega)
  rw [e] at e'
  simp only [Value.slice.injEq] at e'
  exact ⟨g, e'.1⟩
theorem StpN.s {w0 W : World} {gx gr n : Nat} (h : StpN w0 W gx gr n) : Stp w0 W gx gr := by
  obtain ⟨v1, v2, l1, l2, hp, hs, -⟩ := h
  exact ⟨v1, v2, l1, l2, hp, hs⟩
theorem Stp.keep {w0 W W' : World} {gx gr : Nat} (h : Stp w0 W gx gr) (hg : W.grownBy W' none) : Stp w0 W' gx gr := by
  obtain ⟨v1, v2, l1, l2, hp, hs⟩ := h
  exact ⟨v1, v2, l1, l2, hp.keep hg, hs⟩
theorem StpN.keep {w0 W W' : World} {gx gr n : Nat} (h : StpN w0 W gx gr n) (hg : W.grownBy W' none) : StpN w0 W' gx gr n := by
  obtain ⟨v1, v2, l1, l2, hp, hs, hn⟩ := h
  exact ⟨v1, v2, l1, l2, hp.keep hg, hs, hn⟩
theorem Stp.gb {w0 W : World} {gx gr : Nat} (h : Stp w0 W gx gr) : w0.grownBy W none := by
  obtain ⟨v1, v2, l1, l2, hp, -⟩ := h
  exact hp.gb
theorem Stp.whole {w0 W : World} {gx gr : Nat} (h : Stp w0 W gx gr) (hT : U8S w0) :
    Calls Tryz.prog 10 #[.pointer (some ⟨gx, 0, none⟩), .pointer (some ⟨gr, 0, none⟩)] W fun e w' => e = .returned (.bool true) ∧ W.grownBy w' none := by
  obtain ⟨v1, v2, l1, l2, hp, hs⟩ := h
  exact whole_any w0 W gx gr v1 v2 l1 l2 hp hs hT
theorem StpN.len {w0 W : World} {gx gr n : Nat} (h : StpN w0 W gx gr n) :
    Calls Tryz.prog 7 #[.pointer (some ⟨gx, 0, none⟩)] W fun e w' => e = .returned (.int .i64 (n : Int)) ∧ w' = W := by
  obtain ⟨v1, v2, l1, l2, hp, hs, rfl⟩ := h
  exact lenL_any W gx l1 hp.a.lg
/-- the first mark of many -/
def RdOne (w0 W : World) (gr : Nat) (v : Value) (n : Nat) : Prop := ∃ gx v1 v2 l1 l2 ys, PlD w0 W gx gr v1 v2 l1 l2 ∧ SamM l1 l2 ∧ l1.length = n ∧ OwnKL W 0 v ys ∧ ys.map (·.1) = (l1.take 1).map (·.1)
theorem StpN.every1 {w0 W : World} {gx gr n : Nat} (h : StpN w0 W gx gr n) (hn : 1 ≤ n) :
    Calls Tryz.prog 9 #[.pointer (some ⟨gx, 0, none⟩), .int .i64 1] W fun e w' => ∃ a c, e = .returned (.slice a 1 c) ∧ RdOne w0 w' gr (.slice a 1 c) n ∧ W.grownBy w' none := by
  obtain ⟨v1, v2, l1, l2, hp, hs, rfl⟩ := h
  refine (everyX_any W gx v1 l1 1 (by omega) hp.a).mono ?_
  rintro e w' ⟨v', ys, q1, q2, q3, q4⟩
  obtain ⟨a, c, ev, -⟩ := q2.1.shape
  have hyl : ys.length = 1 := by have := congrArg List.length q3; simp at this; omega
  rw [hyl] at ev
  subst ev
  exact ⟨a, c, q1, ⟨gx, v1, v2, l1, l2, ys, hp.keep q4, hs, rfl, ⟨OwnK.mono q2.1 (Nat.zero_le _), fun y hy => ⟨(q2.2 y hy).1.mono (Nat.zero_le _), (q2.2 y hy).2.mono (Nat.zero_le _)⟩⟩, q3⟩, q4⟩
theorem RdK.one {w : World} {a : Option Addr} {n c : Nat} {l : List MkX} (h : RdK w (.slice a n c) l) (hn : 1 ≤ n) : RdK w (.slice a 1 c) (l.take 1) := by
  obtain ⟨a', c', e, hc, hr⟩ := h
  simp only [Value.slice.injEq] at e
  obtain ⟨rfl, rfl, rfl⟩ := e
  have e1 : (l.take 1).length = 1 := by simp; omega
  refine ⟨a, c, by rw [e1], by omega, fun j hj => ?_⟩
  have hj0 : j = 0 := by omega
  subst hj0
  have e2 : (l.take 1).getD 0 xZ = l.getD 0 xZ := by simp [List.getD]
  rw [e2]
  exact hr 0 (by omega)
theorem RdOne.same {w0 W : World} {gr n c : Nat} {a : Option Addr} {v : Value} (h : RdOne w0 W gr v n) (hn : 1 ≤ n) (hc : W.cell? ⟨gr, 0, none⟩ = some (.slice a n c)) :
    Calls Tryz.prog 8 #[v, .slice a 1 c] W fun e w' => e = .returned (.bool true) ∧ W.grownBy w' none := by
  obtain ⟨gx, v1, v2, l1, l2, ys, hp, hs, rfl, q2, q3⟩ := h
  have hb := hp.b.box.cell
  rw [hc] at hb
  simp only [Option.some.injEq] at hb
  have r1 : RdK W v2 l2 := hp.b.row.rdk fun x hx => ⟨(hp.b.each x hx).1.fir.rd, (hp.b.each x hx).1.res.rd⟩
  rw [← hb] at r1
  have hyl : ys.length = 1 := by have := congrArg List.length q3; simp at this; omega
  refine sameAll_refl W v _ ys (l2.take 1) (q2.1.rdk fun x hx => ⟨(q2.2 x hx).1.rd, (q2.2 x hx).2.rd⟩) (r1.one hn) (by omega) ?_
  rw [q3, List.map_take, List.map_take, show l1.map (·.1) = l2.map (·.1) from hs]
/-- an operation of a script -/
structure OpN where
  kd : Int
  now : Int
  num : Int
  m : MkR
abbrev OpX := OpN × Value × Value
def oZ : OpX := (⟨0, 0, 0, ⟨[], [], 0, [], []⟩⟩, .slice none 0 0, .slice none 0 0)
/-- a script in memory -/
def RdN (W : World) (v : Value) (l : List OpX) : Prop := ∃ a c, v = .slice a l.length c ∧ l.length ≤ 9223372036854775807 ∧ ∀ j, j < l.length → ∃ b o, a = some ⟨b, o, none⟩ ∧ W.cell? ⟨b, o + j * 8, none⟩ = some (.int .i64 (l.getD j oZ).1.kd) ∧ W.cell? ⟨b, o + j * 8 + 1, none⟩ = some (.string (ByteArray.mk ⟨(l.getD j oZ).1.m.rcv⟩)) ∧ W.cell? ⟨b, o + j * 8 + 2, none⟩ = some (.string (ByteArray.mk ⟨(l.getD j oZ).1.m.key⟩)) ∧ W.cell? ⟨b, o + j * 8 + 3, none⟩ = some (.int .i64 (l.getD j oZ).1.m.tim) ∧ W.cell? ⟨b, o + j * 8 + 4, none⟩ = some (l.getD j oZ).2.1 ∧ W.cell? ⟨b, o + j * 8 + 5, none⟩ = some (l.getD j oZ).2.2 ∧ W.cell? ⟨b, o + j * 8 + 6, none⟩ = some (.int .i64 (l.getD j oZ).1.now) ∧ W.cell? ⟨b, o + j * 8 + 7, none⟩ = some (.int .i64 (l.getD j oZ).1.num) ∧ RdM W (l.getD j oZ).1.m (l.getD j oZ).2.1 (l.getD j oZ).2.2 ∧ LLs (l.getD j oZ).1.m.fir ∧ LLs (l.getD j oZ).1.m.res
theorem run_one26 (g n c : Nat) (hc : 1 ≤ c) (W : World) : (Instr.slice 26 (.slice (some ⟨g, 0, none⟩) n c) none (some (.int .i64 1)) none).run Tryz.prog W = .ok (.slice (some ⟨g, 0, none⟩) 1 c) W := by
  have ht' : Tryz.prog.underlying 26 = some (.slice (Tryz.prog.elem 26)) := by simp [Program.elem, Tryz.underlying26]
  have he : Tryz.prog.elem 26 = 31 := by simp [Program.elem, Tryz.underlying26]
  rw [run_slice_h W _ _ _ _ ht' .i64 _ (by omega) (by omega), he, Tryz.sizeOf31]
  simp [Result.andThen, sliced, Addr.add]
end Go.Proofs.YtfmgkpgflbidkaaGreatDoorR

/- LawNfPlays -/
namespace Go.Proofs.YtfmgkpgflbidkaaGreatDoorR
open Go.RowKit Go.Shelf Go.Sort

set_option maxRecDepth 8000 in
set_option maxHeartbeats 25600000 in
theorem nfPlays_walk (w : World) (v : Value) (l : List OpX) (h : RdN w v l) (hT : U8S w) :
    Calls Tryz.prog 3 #[v] w fun e w' => e = .returned (.bool true) ∧ Below w.heap.size w w' := by
  obtain ⟨va, vc, rfl, hmax, hrd⟩ := h
  have HT := hidJ hT
  have HR := hidJ hrd
  have HNw : Hid (∀ W, Calls Tryz.prog 5 #[] W fun e w' => e = .returned (.pointer (some ⟨W.heap.size, 0, none⟩)) ∧ LgN w' W.heap.size ∧ W.grownBy w' none) := newN_any
  have HAw : Hid (∀ W, w.grownBy W none → Calls Tryz.prog 11 #[] W fun e w' => e = .returned (.bool true) ∧ W.grownBy w' none) := fun W hW => awakeN_any W (HT.out.keep hW)
  clear hrd hT
  generalize l.length = n at *
  go_enter Tryz.func3, Tryz.ntmps3
  go_wp2_with fail
  refine (HNw.out w).mono ?_
  rintro e w1 ⟨rfl, q1, q2⟩
  have HS := hidJ (stp_new q2 q1)
  clear HNw q1 q2
  obtain ⟨gx, hgx⟩ : ∃ gx, w.heap.size = gx := ⟨_, rfl⟩
  have HGX := hidJ hgx
  rw [hgx] at HS
  rw [hgx]
  clear hgx
  go_wp2_with fail
  generalize w1.heap.size = gr at *
  generalize w1.alloc (.cells #[.slice none 0 0] 28) = W1 at *
  go_loopw [14] (fun i wr => ∃ z : Nat, z ≤ n ∧ i = .int .i64 z ∧ Hid (Stp w wr gx gr)) (fun i _ => n - (intOf i).toNat)
  case atStart => exact ⟨0, by omega, rfl, HS.out⟩
  case round =>
    obtain ⟨z, hzN, rfl, hr⟩ := hrel
    clear HS
    by_cases hzl : z < n
    · have hzi : (z : Int) < (n : Int) := by omega
      obtain ⟨b, o, rfl, d0, d1, d2, d3, d4, d5, d6, d7, hm, lf, ls⟩ := HR.out z hzl
      clear HR
      generalize l.getD z oZ = x at *
      obtain ⟨⟨kd, nw, nn, m⟩, f, s⟩ := x
      dsimp only at d0 d1 d2 d3 d4 d5 d6 d7 hm lf ls
      have HSt : Hid (∀ W, Stp w W gx gr → Calls Tryz.prog 6 #[.pointer (some ⟨gx, 0, none⟩), .pointer (some ⟨gr, 0, none⟩), .agg #[.int .i64 kd, .string (ByteArray.mk ⟨m.rcv⟩), .string (ByteArray.mk ⟨m.key⟩), .int .i64 m.tim, f, s, .int .i64 nw, .int .i64 nn]] W fun e w' => e = .returned (.bool true) ∧ ∃ ra rn rc, w'.cell? ⟨gr, 0, none⟩ = some (.slice ra rn rc) ∧ Hid (StpN w w' gx gr rn)) := fun W hW => (step_any w W gx gr kd nw nn m f s hW hm lf ls HT.out).mono fun e w' ⟨q1, q2⟩ => by
        obtain ⟨ra, rn, rc, r1, -, -, -, r2⟩ := q2.n
        exact ⟨q1, ra, rn, rc, r1, r2⟩
      obtain ⟨fa, fc, ef, -⟩ := hm.fir.shape
      obtain ⟨sa, sc, es, -⟩ := hm.res.shape
      subst ef es
      have kc : ∀ {i : Nat} {u : Value}, w.cell? ⟨b, i, none⟩ = some u → wr.cell? ⟨b, i, none⟩ = some u := fun h => (World.cell?_of_block (hr.out.gb.block _ (block_lt h) (by simp))).trans h
      replace d0 := kc d0
      replace d1 := kc d1
      replace d2 := kc d2
      replace d3 := kc d3
      replace d4 := kc d4
      replace d5 := kc d5
      replace d6 := kc d6
      replace d7 := kc d7
      clear hm lf ls kc
      generalize m.fir.length = nf at *
      generalize m.res.length = ns at *
      generalize ByteArray.mk ⟨m.rcv⟩ = br at *
      generalize ByteArray.mk ⟨m.key⟩ = bk at *
      generalize m.tim = tm at *
      have hal := World.grownBy_alloc wr (.cells #[.int .i64 kd, .string br, .string bk, .int .i64 tm, .slice fa nf fc, .slice sa ns sc, .int .i64 nw, .int .i64 nn] 33) none
      have hb8 : B8 (wr.alloc (.cells #[.int .i64 kd, .string br, .string bk, .int .i64 tm, .slice fa nf fc, .slice sa ns sc, .int .i64 nw, .int .i64 nn] 33)) wr.heap.size 33 (.int .i64 kd) (.string br) (.string bk) (.int .i64 tm) (.slice fa nf fc) (.slice sa ns sc) (.int .i64 nw) (.int .i64 nn) := Go.heap_alloc_new wr _
      replace hr := hidJ (hr.out.keep hal)
      have HB8 := hidJ hb8
      clear hal hb8
      by_cases h100 : (100 : Int) ≤ (z : Int)
      · clear HSt HB8
        go_wp2_with fail
        generalize wr.alloc (.cells #[.int .i64 kd, .string br, .string bk, .int .i64 tm, .slice fa nf fc, .slice sa ns sc, .int .i64 nw, .int .i64 nn] 33) = wr2 at *
        clear d0 d1 d2 d3 d4 d5 d6 d7
        as_aux_lemma =>
        obtain ⟨ra, rn, rc, b0, hrc, hr5, hg, HN⟩ := hr.out.n
        have HN := hidJ HN
        have HZ9 := hidJ (HN.out.keep (gb_drew _ none))
        clear hr
        have HCl : Hid (∀ W W' : World, W.cell? ⟨gr, 0, none⟩ = some (.slice ra rn rc) → W.grownBy W' none → W'.cell? ⟨gr, 0, none⟩ = some (.slice ra rn rc)) := fun W W' hc hg => (World.cell?_of_block (hg.block _ (block_lt hc) (by simp))).trans hc
        by_cases h1 : 1 < rn
        · obtain ⟨g, rfl⟩ := hg (by omega)
          have hn1 : 1 ≤ rn := by omega
          have hgd : decide ((1 : Int) < (rn : Int)) = true := by simp; omega
          have hgi : (1 : Int) < (rn : Int) := by omega
          have hsl : ∀ W, (Instr.slice 26 (.slice (some ⟨g, 0, none⟩) rn rc) none (some (.int .i64 1)) none).run Tryz.prog W = .ok (.slice (some ⟨g, 0, none⟩) 1 rc) W := run_one26 g rn rc (by omega)
          have HE1 : Hid (∀ W : World, W.cell? ⟨gr, 0, none⟩ = some (.slice (some ⟨g, 0, none⟩) rn rc) → StpN w W gx gr rn → Calls Tryz.prog 9 #[.pointer (some ⟨gx, 0, none⟩), .int .i64 1] W fun e w' => ∃ a c, e = .returned (.slice a 1 c) ∧ w'.cell? ⟨gr, 0, none⟩ = some (.slice (some ⟨g, 0, none⟩) rn rc) ∧ Hid (RdOne w w' gr (.slice a 1 c) rn ∧ StpN w w' gx gr rn)) := fun W hc hW => (hW.every1 hn1).mono fun e w' ⟨a, c, q1, q2, q3⟩ => ⟨a, c, q1, HCl.out _ _ hc q3, q2, hW.keep q3⟩
          have HSm : Hid (∀ (W : World) (v : Value), W.cell? ⟨gr, 0, none⟩ = some (.slice (some ⟨g, 0, none⟩) rn rc) → RdOne w W gr v rn ∧ StpN w W gx gr rn → Calls Tryz.prog 8 #[v, .slice (some ⟨g, 0, none⟩) 1 rc] W fun e w' => e = .returned (.bool true) ∧ w'.cell? ⟨gr, 0, none⟩ = some (.slice (some ⟨g, 0, none⟩) rn rc) ∧ Hid (Stp w w' gx gr)) := fun W v hc ⟨hv, hW⟩ => (hv.same hn1 hc).mono fun e w' ⟨q1, q3⟩ => ⟨q1, HCl.out _ _ hc q3, (hW.keep q3).s⟩
          have hcd := HCl.out _ _ b0 (gb_drew _ none)
          have HCd := hidJ hcd
          clear HCl
          go_region_held3 (fun w' => w'.cell? ⟨gr, 0, none⟩ = some (.slice (some ⟨g, 0, none⟩) rn rc)) (go_keep)
            (first
              | (go_at_call 9; with_reducible refine (HE1.out _ HCd.out HZ9.out).mono ?_; rintro e w10 ⟨a9, c10, rfl, d10, H10⟩; have HD10 := hidJ d10)
              | (go_at_call 8; with_reducible refine (HSm.out _ _ HD10.out H10.out).mono ?_; rintro e w11 ⟨rfl, d11, H11⟩))
          clear HE1 HSm HN HZ9 HCd
          go_wp2_with fail
          refine (H11.out.whole HT.out).mono ?_
          rintro e w12 ⟨rfl, g12⟩
          have H12 := hidJ (gb_none H11.out.gb g12)
          clear g12 H11
          go_wp2_with fail
          refine (HAw.out _ H12.out).mono ?_
          rintro e w13 ⟨rfl, g13⟩
          have H13 := hidJ (gb_below (gb_none H12.out g13))
          clear HAw H12 g13
          go_wp2
          go_ret
          rw [← HGX.out]
          exact ⟨rfl, H13.out⟩
        · have hgd : decide ((1 : Int) < (rn : Int)) = false := by simp; omega
          have hgi : ¬ (1 : Int) < (rn : Int) := by omega
          have H11 := hidJ HZ9.out.s
          have hcd := HCl.out _ _ b0 (gb_drew _ none)
          clear HCl HN HZ9
          go_region
          go_wp2_with fail
          refine (H11.out.whole HT.out).mono ?_
          rintro e w12 ⟨rfl, g12⟩
          have H12 := hidJ (gb_none H11.out.gb g12)
          clear g12 H11
          go_wp2_with fail
          refine (HAw.out _ H12.out).mono ?_
          rintro e w13 ⟨rfl, g13⟩
          have H13 := hidJ (gb_below (gb_none H12.out g13))
          clear HAw H12 g13
          go_wp2
          go_ret
          rw [← HGX.out]
          exact ⟨rfl, H13.out⟩
      · go_wp2_with fail
        generalize wr.heap.size = bo at *
        generalize wr.alloc (.cells #[.int .i64 kd, .string br, .string bk, .int .i64 tm, .slice fa nf fc, .slice sa ns sc, .int .i64 nw, .int .i64 nn] 33) = wr2 at *
        clear d0 d1 d2 d3 d4 d5 d6 d7
        obtain ⟨e0, e1, e2, e3, e4, e5, e6, e7⟩ := HB8.out.cells
        have HZ := hidJ (hr.out.keep (gb_drew wr2 none))
        have HLn : Hid (∀ W n, StpN w W gx gr n → Calls Tryz.prog 7 #[.pointer (some ⟨gx, 0, none⟩)] W fun e w' => e = .returned (.int .i64 (n : Int)) ∧ w' = W) := fun W n hW => hW.len
        clear hr HB8
        go_region_with (first
          | (go_at_call 6; with_reducible refine (HSt.out _ HZ.out).mono ?_; rintro e w2 ⟨rfl, ra, rn, rc, p0, H2⟩; have qn : ((rn : Int) == (rn : Int)) = true := by simp)
          | (go_at_call 7; with_reducible refine (HLn.out _ _ H2.out).mono ?_; rintro e w3 ⟨rfl, hw3⟩; have hw3 := hw3.symm; subst hw3))
        all_goals go_wp2
        all_goals go_roundw
        all_goals first
          | exact ⟨z + 1, by omega, by first | rfl | go_num, H2.out.s⟩
          | (simp [intOf]; omega)
    · have hzi : ¬ (z : Int) < (n : Int) := by omega
      clear HR
      go_wp2_with fail
      as_aux_lemma =>
      obtain ⟨ra, rn, rc, b0, hrc, hr5, hg, HN⟩ := hr.out.n
      have HN := hidJ HN
      have HZ9 := hidJ (HN.out.keep (gb_drew _ none))
      clear hr
      have HCl : Hid (∀ W W' : World, W.cell? ⟨gr, 0, none⟩ = some (.slice ra rn rc) → W.grownBy W' none → W'.cell? ⟨gr, 0, none⟩ = some (.slice ra rn rc)) := fun W W' hc hg => (World.cell?_of_block (hg.block _ (block_lt hc) (by simp))).trans hc
      by_cases h1 : 1 < rn
      · obtain ⟨g, rfl⟩ := hg (by omega)
        have hn1 : 1 ≤ rn := by omega
        have hgd : decide ((1 : Int) < (rn : Int)) = true := by simp; omega
        have hgi : (1 : Int) < (rn : Int) := by omega
        have hsl : ∀ W, (Instr.slice 26 (.slice (some ⟨g, 0, none⟩) rn rc) none (some (.int .i64 1)) none).run Tryz.prog W = .ok (.slice (some ⟨g, 0, none⟩) 1 rc) W := run_one26 g rn rc (by omega)
        have HE1 : Hid (∀ W : World, W.cell? ⟨gr, 0, none⟩ = some (.slice (some ⟨g, 0, none⟩) rn rc) → StpN w W gx gr rn → Calls Tryz.prog 9 #[.pointer (some ⟨gx, 0, none⟩), .int .i64 1] W fun e w' => ∃ a c, e = .returned (.slice a 1 c) ∧ w'.cell? ⟨gr, 0, none⟩ = some (.slice (some ⟨g, 0, none⟩) rn rc) ∧ Hid (RdOne w w' gr (.slice a 1 c) rn ∧ StpN w w' gx gr rn)) := fun W hc hW => (hW.every1 hn1).mono fun e w' ⟨a, c, q1, q2, q3⟩ => ⟨a, c, q1, HCl.out _ _ hc q3, q2, hW.keep q3⟩
        have HSm : Hid (∀ (W : World) (v : Value), W.cell? ⟨gr, 0, none⟩ = some (.slice (some ⟨g, 0, none⟩) rn rc) → RdOne w W gr v rn ∧ StpN w W gx gr rn → Calls Tryz.prog 8 #[v, .slice (some ⟨g, 0, none⟩) 1 rc] W fun e w' => e = .returned (.bool true) ∧ w'.cell? ⟨gr, 0, none⟩ = some (.slice (some ⟨g, 0, none⟩) rn rc) ∧ Hid (Stp w w' gx gr)) := fun W v hc ⟨hv, hW⟩ => (hv.same hn1 hc).mono fun e w' ⟨q1, q3⟩ => ⟨q1, HCl.out _ _ hc q3, (hW.keep q3).s⟩
        have hcd := HCl.out _ _ b0 (gb_drew _ none)
        have HCd := hidJ hcd
        clear HCl
        go_region_held3 (fun w' => w'.cell? ⟨gr, 0, none⟩ = some (.slice (some ⟨g, 0, none⟩) rn rc)) (go_keep)
          (first
            | (go_at_call 9; with_reducible refine (HE1.out _ HCd.out HZ9.out).mono ?_; rintro e w10 ⟨a9, c10, rfl, d10, H10⟩; have HD10 := hidJ d10)
            | (go_at_call 8; with_reducible refine (HSm.out _ _ HD10.out H10.out).mono ?_; rintro e w11 ⟨rfl, d11, H11⟩))
        clear HE1 HSm HN HZ9 HCd
        go_wp2_with fail
        refine (H11.out.whole HT.out).mono ?_
        rintro e w12 ⟨rfl, g12⟩
        have H12 := hidJ (gb_none H11.out.gb g12)
        clear g12 H11
        go_wp2_with fail
        refine (HAw.out _ H12.out).mono ?_
        rintro e w13 ⟨rfl, g13⟩
        have H13 := hidJ (gb_below (gb_none H12.out g13))
        clear HAw H12 g13
        go_wp2
        go_ret
        rw [← HGX.out]
        exact ⟨rfl, H13.out⟩
      · have hgd : decide ((1 : Int) < (rn : Int)) = false := by simp; omega
        have hgi : ¬ (1 : Int) < (rn : Int) := by omega
        have H11 := hidJ HZ9.out.s
        have hcd := HCl.out _ _ b0 (gb_drew _ none)
        clear HCl HN HZ9
        go_region
        go_wp2_with fail
        refine (H11.out.whole HT.out).mono ?_
        rintro e w12 ⟨rfl, g12⟩
        have H12 := hidJ (gb_none H11.out.gb g12)
        clear g12 H11
        go_wp2_with fail
        refine (HAw.out _ H12.out).mono ?_
        rintro e w13 ⟨rfl, g13⟩
        have H13 := hidJ (gb_below (gb_none H12.out g13))
        clear HAw H12 g13
        go_wp2
        go_ret
        rw [← HGX.out]
        exact ⟨rfl, H13.out⟩
end Go.Proofs.YtfmgkpgflbidkaaGreatDoorR
