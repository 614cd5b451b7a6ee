/-
  What NewWriter and (*Writer).hasRoom, Bits, Bit, Len, Bytes come to: the walks.
-/
import Derived.Test.YtnaccmbnblokmaaDoorCkW
namespace Go.Proofs.YtnaccmbnblokmaaDoor
open Go.RowKit
variable {R : Rst}

theorem ret_bool {a b : Bool} (h : a = b) : Ending.returned (.bool a) = .returned (.bool b) := by rw [h]

theorem hasRoom_any (g : Nat) (v : Value) (bs : List Bool) (n : Int) (w : World) (hw : Wr R w g v bs) (hsz : bs.length ≤ 8388608) :
    Calls Tryd.prog 74 #[.pointer (some ⟨g, 0, none⟩), .int .i64 n] w fun e w' => e = .returned (.bool (decide (n ≤ 8388608 - (bs.length : Int)))) ∧ w.grownBy w' none := by
  have hc := hw.cells
  have c1 := hc.2.1
  clear hc hw
  generalize bs.length = s at *
  go_enter Tryd.func74, Tryd.ntmps74
  go_wp2
  go_ret
  exact ⟨rfl, gb_refl _ _⟩

theorem Fw.gb {w w' : World} {g : Nat} {v v' : Value} (h : Fw w w' g v v') : Fw w w' g v v' := h
theorem Fw.pre {w w1 w2 : World} {g : Nat} {v v' : Value} (h1 : w.grownBy w1 none) (h2 : Fw w1 w2 g v v') : Fw w w2 g v v' := (Fw.of_none h1 g v).trans h2
theorem Wr.keep {w w' : World} {g : Nat} {v : Value} {bs : List Bool} (h : Wr R w g v bs) (hg : w.grownBy w' none) : Wr R w' g v bs :=
  ⟨by rw [hg.block g h.cells.2.2.2.2 (by simp)]; exact h.1, h.2.keep hg⟩

/-- a number of n bits -/
theorem shr_zero {x : BitVec 64} {n : Nat} (h : x.toNat < 2 ^ n) : I64 x / 2 ^ n = 0 := by
  have e : I64 x / 2 ^ n = ((x.toNat / 2 ^ n : Nat) : Int) := by
    unfold I64
    rw [Int.natCast_ediv, Int.natCast_pow]
    rfl
  rw [e, Nat.div_eq_of_lt h]
  rfl
set_option maxHeartbeats 1600000 in
theorem wbits_ok (g : Nat) (v : Value) (bs : List Bool) (x : BitVec 64) (n : Nat) (w : World) (hw : Wr R w g v bs) (hn : n ≤ 64) (hx : x.toNat < 2 ^ n) (hsz : bs.length + n ≤ 8388608) :
    Calls Tryd.prog 52 #[.pointer (some ⟨g, 0, none⟩), .int .u64 (I64 x), .int .i64 (n : Int)] w fun e w' => e = .returned (.int .i64 0) ∧ ∃ v', Wr R w' g v' (bs ++ bitsOf x.toNat n) ∧ Fw w w' g v v' := by
  have hw2 : Hid (Wr R w g v bs) := hw
  have hz := shr_zero hx
  have n1 : ¬ (n : Int) < 0 := by omega
  have n2 : ¬ (64 : Int) < (n : Int) := by omega
  have hle : Hid (decide ((n : Int) ≤ 8388608 - (bs.length : Int)) = true) := decide_eq_true (by omega)
  clear hw hx
  go_enter Tryd.func52, Tryd.ntmps52
  go_wp2_with fail
  refine (hasRoom_any g v bs n _ hw2.out (by omega)).mono ?_
  rintro e w1 ⟨he, hg1⟩
  rw [hle.out] at he
  subst he
  have HG : Hid (w.grownBy w1 none) := hg1
  clear hg1
  go_wp2_with fail
  refine (put_any g v bs x n _ (hw2.out.keep HG.out) hn (by omega)).mono ?_
  rintro e w2 ⟨rfl, v', hw3, hf3⟩
  have H3 : Hid (∃ v', Wr R w2 g v' (bs ++ bitsOf x.toNat n) ∧ Fw w w2 g v v') := ⟨v', hw3, Fw.pre HG.out hf3⟩
  clear hw3 hf3
  go_wp2
  go_ret
  exact ⟨rfl, H3.out⟩

theorem wbits_eq (g : Nat) (v : Value) (bs : List Bool) (x : BitVec 64) (n : Nat) (X N : Int) (hX : X = I64 x) (hN : N = (n : Int)) (w : World) (hw : Wr R w g v bs) (hn : n ≤ 64) (hx : x.toNat < 2 ^ n) (hsz : bs.length + n ≤ 8388608) :
    Calls Tryd.prog 52 #[.pointer (some ⟨g, 0, none⟩), .int .u64 X, .int .i64 N] w fun e w' => e = .returned (.int .i64 0) ∧ ∃ v', Wr R w' g v' (bs ++ bitsOf x.toNat n) ∧ Fw w w' g v v' := by
  subst hX
  subst hN
  exact wbits_ok g v bs x n w hw hn hx hsz

theorem wbit_ok (g : Nat) (v : Value) (bs : List Bool) (b : Bool) (w : World) (hw : Wr R w g v bs) (hsz : bs.length + 1 ≤ 8388608) :
    Calls Tryd.prog 78 #[.pointer (some ⟨g, 0, none⟩), .bool b] w fun e w' => e = .returned (.int .i64 0) ∧ ∃ v', Wr R w' g v' (bs ++ [b]) ∧ Fw w w' g v v' := by
  have hw2 : Hid (Wr R w g v bs) := hw
  clear hw
  cases b
  · go_enter Tryd.func78, Tryd.ntmps78
    go_wp2_with fail
    refine (wbits_eq g v bs 0#64 1 _ _ (by decide) (by decide) _ hw2.out (by omega) (by decide) hsz).mono ?_
    rintro e w1 ⟨rfl, h⟩
    have H : Hid (∃ v', Wr R w1 g v' (bs ++ [false]) ∧ Fw w w1 g v v') := h
    clear h
    go_wp2
    go_ret
    exact ⟨rfl, H.out⟩
  · go_enter Tryd.func78, Tryd.ntmps78
    go_wp2_with fail
    refine (wbits_eq g v bs 1#64 1 _ _ (by decide) (by decide) _ hw2.out (by omega) (by decide) hsz).mono ?_
    rintro e w1 ⟨rfl, h⟩
    have H : Hid (∃ v', Wr R w1 g v' (bs ++ [true]) ∧ Fw w w1 g v v') := h
    clear h
    go_wp2
    go_ret
    exact ⟨rfl, H.out⟩

set_option maxHeartbeats 1600000 in
theorem wbytes_any (g : Nat) (v : Value) (bs : List Bool) (w : World) (hw : Wr R w g v bs) (hsz : bs.length ≤ 8388608) :
    Calls Tryd.prog 35 #[.pointer (some ⟨g, 0, none⟩)] w fun e w' => ∃ v', e = .returned v' ∧ Own w' w.heap.size v' (pack bs) ∧ w.grownBy w' none := by
  have hc := hw.cells
  have c0 := hc.1
  have hlt := hc.2.2.2.2
  have hw2 : Hid (Wr R w g v bs) := hw
  obtain ⟨a, c, rfl⟩ := hw.2.shape
  have hl : (pack bs).length ≤ 1048576 := by rw [pack_len]; omega
  clear hw hc
  go_enter Tryd.func35, Tryd.ntmps35
  go_wp2_with (at_make; refine wp_make rfl _ _ rfl w.heap.size _ _ _ _ (pack bs).length (pack bs).length rfl rfl rfl rfl ?c2 ?c3 ?c4 ?_)
  case c2 => omega
  case c3 => omega
  case c4 => omega
  intro w1 ho1 hg1 _
  have H1 : Hid (Own w1 w.heap.size (.slice (some ⟨w.heap.size, 0, none⟩) (pack bs).length (pack bs).length) (List.replicate (pack bs).length 0) ∧ w.grownBy w1 none) := ⟨ho1, hg1⟩
  have d0 : w1.cell? ⟨g, 0, none⟩ = some (.slice a (pack bs).length c) := by rw [← c0]; exact World.cell?_of_block (hg1.block g hlt (by simp))
  clear ho1 hg1 c0
  go_wp2_with (refine wp_copy rfl _ _ rfl w.heap.size _ _ (List.replicate (pack bs).length 0) (pack bs) rfl rfl H1.out.1 (hw2.out.2.rd.keep H1.out.2) (by simp) ?_)
  intro w2 ho2 hg2
  have H2 : Hid (Own w2 w.heap.size (.slice (some ⟨w.heap.size, 0, none⟩) (pack bs).length (pack bs).length) (pack bs) ∧ w.grownBy w2 none) := ⟨ho2, gb_new H1.out.2 hg2 (fun k hk => by simp [Value.ownBlock] at hk; omega)⟩
  clear ho2 hg2 H1 hw2
  go_wp2
  go_ret
  exact ⟨_, rfl, H2.out.1, H2.out.2⟩
end Go.Proofs.YtnaccmbnblokmaaDoor
