/-
  A chunk's stream: what math.Float64bits, (*Chunk).putBytes, (*past).add come to: the walks.
-/
import Derived.Test.YtnaccmbnblokmaaDoorCkW2
import Derived.Laws.Externs
namespace Go.Proofs.YtnaccmbnblokmaaDoor
open Go.RowKit
variable {R : Rst}

theorem fbits_run (b : Nat) (w : World) : (callFunc 53 #[.float .f64 b]).run Tryd.prog w = .ok (.value (.int .u64 (b : Int))) w := by
  rw [run_callFunc_extern (e := Extern.MathFloatBits.float64bits) Tryd.func53 (by kernel_rfl) (by kernel_rfl) (by kernel_rfl) (by kernel_rfl)]
  rfl

/-- a float is one cell -/
theorem store_float (a : Addr) (f : Nat) (m : Mode) (w : World) : (store a (.float .f64 f) m).run Tryd.prog w = stored Tryd.prog w a (.float .f64 f) m := run_store _ w a _ m rfl

/-- the bits of bytes -/
def bytesBits (l : List UInt8) : List Bool := l.flatMap fun b => bitsOf b.toNat 8
theorem bytesBits_len (l : List UInt8) : (bytesBits l).length = 8 * l.length := by
  induction l with
  | nil => rfl
  | cons b l ih =>
    unfold bytesBits at ih ⊢
    rw [List.flatMap_cons, List.length_append, ih, bitsOf_len, List.length_cons]
    omega
theorem bytesBits_snoc (l : List UInt8) (b : UInt8) : bytesBits (l ++ [b]) = bytesBits l ++ bitsOf b.toNat 8 := by simp [bytesBits]

/-- bytes that lie apart from a writer stay -/
theorem Rd.fw {w w' : World} {g : Nat} {v v' u : Value} {l : List UInt8} (h : Rd w u l) (hf : Fw w w' g v v') (ha : ∀ x c, u = .slice (some x) l.length c → x.block ≠ g ∧ some x.block ≠ v.ownBlock) : Rd w' u l := by
  obtain ⟨a, c, rfl, h1, h2, h3, h4⟩ := h
  refine ⟨a, c, rfl, h1, h2, fun j hj => ?_, h4⟩
  obtain ⟨b, o, rfl, hc⟩ := h3 j hj
  refine ⟨b, o, rfl, ?_⟩
  rw [← hc]
  have := ha _ _ rfl
  exact World.cell?_of_block (hf.block b (block_lt hc) this.1 this.2)

set_option maxHeartbeats 1600000 in
theorem putBytes_any (g : Nat) (v u : Value) (bs : List Bool) (l : List UInt8) (w : World) (hw : Wr R w g v bs) (hu : Rd w u l) (ha : ∀ x c, u = .slice (some x) l.length c → x.block ≠ g ∧ some x.block ≠ v.ownBlock) (hsz : bs.length + 8 * l.length ≤ 8388608) :
    Calls Tryd.prog 50 #[.pointer (some ⟨g, 0, none⟩), u] w fun e w' => e = .returned (.tuple #[]) ∧ ∃ v', Wr R w' g v' (bs ++ bytesBits l) ∧ Fw w w' g v v' := by
  have HU : Hid (Rd w u l) := hu
  have HA : Hid (∀ x c, u = .slice (some x) l.length c → x.block ≠ g ∧ some x.block ≠ v.ownBlock) := ha
  obtain ⟨a, c, rfl⟩ : ∃ a c, u = .slice a l.length c := by obtain ⟨a, c, h, _⟩ := hu; exact ⟨a, c, h⟩
  have HW0 : Hid (Wr R w g v bs) := hw
  clear hu ha hw
  go_enter Tryd.func50, Tryd.ntmps50
  go_wp2
  go_loopw [8] (fun i wr => ∃ z : Nat, z ≤ l.length ∧ i = .int .i64 z ∧ Hid (∃ v', Wr R wr g v' (bs ++ bytesBits (l.take z)) ∧ Fw w wr g v v')) (fun i _ => l.length - (intOf i).toNat)
  case atStart => exact ⟨0, by omega, rfl, v, by simpa [bytesBits] using HW0.out, Fw.refl _ _ _⟩
  case round =>
    obtain ⟨z, hz, rfl, hr⟩ := hrel
    by_cases hlt : z < l.length
    · obtain ⟨v', hwr, hfw⟩ := hr.out
      obtain ⟨a', c', he, h1, h2, h3, h4⟩ := HU.out.fw hfw HA.out
      obtain ⟨b, o, rfl, hcell⟩ := h3 z hlt
      simp only [Value.slice.injEq] at he
      obtain ⟨rfl, -, rfl⟩ := he
      have HH : Hid (Wr R wr g v' (bs ++ bytesBits (l.take z)) ∧ Fw w wr g v v' ∧ (bs ++ bytesBits (l.take z)).length + 8 ≤ 8388608 ∧ bs ++ bytesBits (l.take (z + 1)) = bs ++ bytesBits (l.take z) ++ bitsOf (l.getD z 0).toNat 8) := by
        refine ⟨hwr, hfw, ?_, ?_⟩
        · rw [List.length_append, bytesBits_len, List.length_take]
          omega
        · have e : l.take (z + 1) = l.take z ++ [l.getD z 0] := by rw [List.take_succ_eq_append_getElem hlt]; simp [hlt]
          rw [e, bytesBits_snoc, List.append_assoc]
      have hb := (l.getD z 0).toNat_lt
      generalize l.getD z 0 = y at *
      have hyw : IntKind.u64.wrap (y.toNat : Int) = I64 (BitVec.ofNat 64 y.toNat) := by rw [I64_of (by omega)]; rw [IntKind.wrap_u64]; omega
      clear hwr hfw hr h1 h2 h3 h4
      go_wp2_with fail
      refine (wbits_eq g v' _ (BitVec.ofNat 64 y.toNat) 8 _ _ rfl rfl _ HH.out.1 (by omega) ?c1 HH.out.2.2.1).mono ?_
      case c1 => simp; omega
      rintro e w1 ⟨rfl, v1, hw1, hf1⟩
      have H1 : Hid (∃ v', Wr R w1 g v' (bs ++ bytesBits (l.take (z + 1))) ∧ Fw w w1 g v v') := by
        refine ⟨v1, ?_, HH.out.2.1.trans hf1⟩
        rw [HH.out.2.2.2]
        have e : (BitVec.ofNat 64 y.toNat).toNat = y.toNat := by rw [BitVec.toNat_ofNat]; omega
        rw [e] at hw1
        exact hw1
      clear hw1 hf1 HH
      go_wp2
      go_roundw
      case rel => exact ⟨z + 1, by omega, by go_num, H1⟩
      case measure => simp [intOf]; omega
    · have hzl : z = l.length := by omega
      have HE : Hid (∃ v', Wr R wr g v' (bs ++ bytesBits l) ∧ Fw w wr g v v') := by
        have := hr.out
        rw [hzl, List.take_length] at this
        exact this
      clear hr
      go_wp2
      go_end0
      exact ⟨rfl, HE.out⟩

/-- the cells behind the stream are written -/
theorem Wr.turned {w W : World} {R' : Rst} {g : Nat} {v : Value} {bs : List Bool} (h : Wr R w g v bs) (hW : W.heap[g]? = some (.cells #[v, .int .i64 (bs.length : Int), R'.a, R'.b, R'.c, R'.d, R'.e, R'.f, R'.h] 68 (0, 0))) (hg : w.grownBy W (some g)) : Wr R' W g v bs :=
  ⟨hW, h.2.kept hg (.inr h.apart)⟩
theorem Fw.turned {w W : World} {g : Nat} {v : Value} (hg : w.grownBy W (some g)) : Fw w W g v v :=
  ⟨hg.os, hg.tape, hg.output, hg.size, fun k hk h1 _ => hg.block k hk (by simpa using h1), fun _ hk => .inl hk.symm⟩
theorem gb_set (w : World) (g j : Nat) (x : Value) : w.grownBy (w.setCell ⟨g, j, none⟩ x) (some g) :=
  ⟨rfl, rfl, rfl, by simp, fun k _ hk => Below.heap_setCell _ _ _ _ (fun e => hk (by rw [e]))⟩
theorem Wr.cell {w : World} {g : Nat} {v : Value} {bs : List Bool} (h : Wr R w g v bs) : w.cell? ⟨g, 2, none⟩ = some R.a ∧ w.cell? ⟨g, 3, none⟩ = some R.b ∧ w.cell? ⟨g, 4, none⟩ = some R.c ∧ w.cell? ⟨g, 5, none⟩ = some R.d ∧ w.cell? ⟨g, 6, none⟩ = some R.e ∧ w.cell? ⟨g, 7, none⟩ = some R.f ∧ w.cell? ⟨g, 8, none⟩ = some R.h ∧ ∀ j, w.frozen? ⟨g, j, none⟩ = false := by
  refine ⟨?_, ?_, ?_, ?_, ?_, ?_, ?_, fun j => ?_⟩ <;> first | simp [World.cell?, h.1] | simp [World.frozen?, h.1]

/-- what the next sample hangs on -/
def past (n : Nat) (t : Int) (f : Nat) (gap : Int) (th : Bool) (ld tl : Int) : Rst := ⟨.int .i64 (n : Int), .int .i64 t, .float .f64 f, .int .i64 gap, .bool th, .int .i64 ld, .int .i64 tl⟩

set_option maxHeartbeats 1600000 in
theorem add_any (g : Nat) (v : Value) (bs : List Bool) (n f f' : Nat) (t t' gap : Int) (th : Bool) (ld tl : Int) (w : World) (hw : Wr (past n t f gap th ld tl) w g v bs) (hn : n ≤ 1000) (ht : 0 ≤ t ∧ t ≤ 1125899906842624) (ht' : 0 ≤ t' ∧ t' ≤ 1125899906842624) :
    Calls Tryd.prog 57 #[.pointer (some ⟨g, 2, none⟩), .agg #[.int .i64 t', .float .f64 f']] w fun e w' => e = .returned (.tuple #[]) ∧ Wr (past (n + 1) t' f' (t' - t) th ld tl) w' g v bs ∧ Fw w w' g v v := by
  have HW : Hid (Wr (past n t f gap th ld tl) w g v bs) := hw
  obtain ⟨c2, c3, c4, c5, -, -, -, fz⟩ := hw.cell
  have f2 := fz 2
  have f3 := fz 3
  have f4 := fz 4
  have f5 := fz 5
  have hlt : g < w.heap.size := hw.cells.2.2.2.2
  simp only [past] at c2 c3 c4 c5
  clear hw fz
  go_enter Tryd.func57, Tryd.ntmps57
  go_wp2
  obtain ⟨W1, hW1⟩ : ∃ W1, w.alloc (.cells #[.int .i64 t', .float .f64 f'] 27) = W1 := ⟨_, rfl⟩
  have hal : w.grownBy W1 none := by rw [← hW1]; exact alloc_gb _ _
  have hb0 : W1.heap[w.heap.size]? = some (.cells #[.int .i64 t', .float .f64 f'] 27 (0, 0)) := by rw [← hW1]; exact Go.heap_alloc_new w _
  have hgb := hal.block g hlt (by simp)
  have HB : Hid (W1.heap[g]? = w.heap[g]? ∧ w.grownBy W1 none) := ⟨hgb, hal⟩
  have e0 : W1.cell? ⟨w.heap.size, 0, none⟩ = some (.int .i64 t') := by simp [World.cell?, hb0]
  have e1 : W1.cell? ⟨w.heap.size, 1, none⟩ = some (.float .f64 f') := by simp [World.cell?, hb0]
  have d2 : W1.cell? ⟨g, 2, none⟩ = _ := (World.cell?_of_block hgb).trans c2
  have d3 : W1.cell? ⟨g, 3, none⟩ = _ := (World.cell?_of_block hgb).trans c3
  have d4 : W1.cell? ⟨g, 4, none⟩ = _ := (World.cell?_of_block hgb).trans c4
  have d5 : W1.cell? ⟨g, 5, none⟩ = _ := (World.cell?_of_block hgb).trans c5
  have g2 : W1.frozen? ⟨g, 2, none⟩ = _ := (World.frozen?_of_block hgb).trans f2
  have g3 : W1.frozen? ⟨g, 3, none⟩ = _ := (World.frozen?_of_block hgb).trans f3
  have g4 : W1.frozen? ⟨g, 4, none⟩ = _ := (World.frozen?_of_block hgb).trans f4
  have g5 : W1.frozen? ⟨g, 5, none⟩ = _ := (World.frozen?_of_block hgb).trans f5
  have hne : ¬ w.heap.size = g := by omega
  have hne2 : ¬ g = w.heap.size := by omega
  rw [hW1]
  clear hW1 hal hb0 hgb c2 c3 c4 c5 f2 f3 f4 f5 hlt
  generalize w.heap.size = b0 at *
  have hd : (-1125899906842624 : Int) ≤ t' - t ∧ t' - t ≤ 1125899906842624 := by omega
  have hsf := store_float
  go_region
  go_wp2
  go_end0
  have h0 := HB.out.1.trans HW.out.1
  have h1 := heap_setCell_same W1 g 5 _ _ (.int .i64 (t' - t)) h0
  have h2 := heap_setCell_same _ g 3 _ _ (.int .i64 t') h1
  have h3 := heap_setCell_same _ g 4 _ _ (.float .f64 f') h2
  have h4 := heap_setCell_same _ g 2 _ _ (.int .i64 ((n : Int) + 1)) h3
  have hs : ∀ (A B : World) (j : Nat) (x : Value), A.grownBy B (some g) → A.grownBy (B.setCell ⟨g, j, none⟩ x) (some g) := fun A B j x h => gb_trans h (gb_set B g j x) (fun _ h _ => h.symm)
  have hG : w.grownBy ((((W1.setCell ⟨g, 5, none⟩ (.int .i64 (t' - t))).setCell ⟨g, 3, none⟩ (.int .i64 t')).setCell ⟨g, 4, none⟩ (.float .f64 f')).setCell ⟨g, 2, none⟩ (.int .i64 ((n : Int) + 1))).drew (some g) :=
    gb_none (hs _ _ _ _ (hs _ _ _ _ (hs _ _ _ _ (hs _ _ _ _ (gb_any HB.out.2 _))))) (gb_drew _ _)
  refine ⟨rfl, HW.out.turned ?_ hG, Fw.turned hG⟩
  show ((((W1.setCell ⟨g, 5, none⟩ (.int .i64 (t' - t))).setCell ⟨g, 3, none⟩ (.int .i64 t')).setCell ⟨g, 4, none⟩ (.float .f64 f')).setCell ⟨g, 2, none⟩ (.int .i64 ((n : Int) + 1))).heap[g]? = _
  rw [h4]
  rfl
end Go.Proofs.YtnaccmbnblokmaaDoor
