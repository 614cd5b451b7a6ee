/-
  A copy of bytes; a file that is there, synced and read: the walks.
-/
import Derived.Test.YtgafmplmngbbfaaDiskA
namespace Go.Proofs.Ytgafmplmngbbfaa
open Go.RowKit Go.Maps Go.WideMaps

set_option maxHeartbeats 1600000 in
theorem copyOf_any (v : Value) (l : List UInt8) (w : World) (hv : Rd w v l) (hsz : l.length ≤ 175921860444160) :
    Calls Try.prog 48 #[v] w fun e w' => ∃ v', e = .returned v' ∧ Own w' w.heap.size v' l ∧ w.grownBy w' none ∧ v'.ownBlock = some w.heap.size := by
  obtain ⟨a, c, hv', hn, hm, hb, hz⟩ := hv
  have hv2 : Hid (Rd w v l) := ⟨a, c, hv', hn, hm, hb, hz⟩
  subst hv'
  unfold maxLen at hm
  clear hb hz
  go_enter Try.func48, Try.ntmps48
  go_wp2_with (at_make; refine wp_make rfl _ _ rfl w.heap.size _ _ _ _ l.length l.length rfl rfl rfl ?c1 ?c2 ?c3 ?c4 ?_)
  case c1 => omega
  case c2 => omega
  case c3 => omega
  case c4 => omega
  intro w1 ho1 hg1 _
  have H1 : Hid (Own w1 w.heap.size (.slice (some ⟨w.heap.size, 0, none⟩) l.length l.length) (List.replicate l.length 0) ∧ w.grownBy w1 none) := ⟨ho1, hg1⟩
  clear ho1 hg1
  go_wp2_with (refine wp_copy rfl _ _ rfl w.heap.size _ _ (List.replicate l.length 0) l rfl rfl H1.out.1 (hv2.out.keep H1.out.2) (by simp) ?_)
  intro w2 ho2 hg2
  have H2 : Hid (Own w2 w.heap.size (.slice (some ⟨w.heap.size, 0, none⟩) l.length l.length) l ∧ w.grownBy w2 none) := ⟨ho2, gb_new H1.out.2 hg2 (fun k hk => by simp [Value.ownBlock] at hk; omega)⟩
  clear ho2 hg2 H1 hv2
  go_wp2
  go_ret
  exact ⟨_, rfl, H2.out.1, H2.out.2, rfl⟩

set_option maxHeartbeats 1600000 in
theorem sync_there (gd gm n gf : Nat) (D : DataW Unit) (l : List UInt8) (a0 : Option Addr) (k0 c0 : Nat) (z : Value) (w : World) (hl : l.length ≤ 9223372036854775807) (hok : nameOk l = true) (hc : w.cell? ⟨gd, 0, none⟩ = some (.map (some gm)))
    (hown : w.ownsMap Try.prog 9 ptrElem gm n D) (hhas : Maps.has D (.string l) = true) (hat : D.atKey (.string l) (.lit (.int .i64 (-1))) = .lit (.int .i64 (gf : Int)))
    (h0 : w.cell? ⟨gf, 0, none⟩ = some (.slice a0 k0 c0)) (h1 : w.cell? ⟨gf, 1, none⟩ = some z) (hf : w.frozen? ⟨gf, 1, none⟩ = false) :
    Calls Try.prog 27 #[.pointer (some ⟨gd, 0, none⟩), .string (ByteArray.mk ⟨l⟩)] w fun e w' => e = .returned (.int .i64 0) ∧ w' = w.setCell ⟨gf, 1, none⟩ (.int .i64 (k0 : Int)) := by
  have HF : Hid (Calls Try.prog 44 #[.pointer (some ⟨gd, 0, none⟩), .string (ByteArray.mk ⟨l⟩)] w fun e w' => e = .returned (.tuple #[.pointer (some ⟨gf, 0, none⟩), .int .i64 0]) ∧ w' = w) := find_there gd gm n gf D l w hl hok hc hown hhas hat
  clear hown hhas hat hok hl
  generalize ByteArray.mk ⟨l⟩ = s at *
  go_enter Try.func27, Try.ntmps27
  go_wp2_with fail
  refine HF.out.mono ?_
  rintro e w1 ⟨rfl, hw1⟩
  rw [hw1]
  clear hw1 w1
  go_wp2
  go_ret
  exact ⟨rfl, rfl⟩

set_option maxHeartbeats 1600000 in
theorem read_there (gd gm n gf : Nat) (D : DataW Unit) (l b : List UInt8) (v : Value) (w : World) (hl : l.length ≤ 9223372036854775807) (hok : nameOk l = true) (hc : w.cell? ⟨gd, 0, none⟩ = some (.map (some gm)))
    (hown : w.ownsMap Try.prog 9 ptrElem gm n D) (hhas : Maps.has D (.string l) = true) (hat : D.atKey (.string l) (.lit (.int .i64 (-1))) = .lit (.int .i64 (gf : Int)))
    (h0 : w.cell? ⟨gf, 0, none⟩ = some v) (hv : Rd w v b) (hb : b.length ≤ 1048576) :
    Calls Try.prog 21 #[.pointer (some ⟨gd, 0, none⟩), .string (ByteArray.mk ⟨l⟩)] w fun e w' => ∃ v', e = .returned (.tuple #[v', .int .i64 0]) ∧ Own w' w.heap.size v' b ∧ w.grownBy w' none := by
  have HF : Hid (Calls Try.prog 44 #[.pointer (some ⟨gd, 0, none⟩), .string (ByteArray.mk ⟨l⟩)] w fun e w' => e = .returned (.tuple #[.pointer (some ⟨gf, 0, none⟩), .int .i64 0]) ∧ w' = w) := find_there gd gm n gf D l w hl hok hc hown hhas hat
  have HC : Hid (Calls Try.prog 48 #[v] w fun e w' => ∃ v', e = .returned v' ∧ Own w' w.heap.size v' b ∧ w.grownBy w' none ∧ v'.ownBlock = some w.heap.size) := copyOf_any v b w hv (by omega)
  obtain ⟨a, c, rfl, -, -, -, -⟩ := hv
  clear hown hhas hat hok hl
  generalize ByteArray.mk ⟨l⟩ = s at *
  go_enter Try.func21, Try.ntmps21
  go_wp2_with fail
  refine HF.out.mono ?_
  rintro e w1 ⟨rfl, hw1⟩
  rw [hw1]
  clear hw1 w1
  go_wp2_with fail
  refine HC.out.mono ?_
  rintro e w2 ⟨v2, rfl, ho2, hg2, -⟩
  have H2 : Hid (Own w2 w.heap.size v2 b ∧ w.grownBy w2 none) := ⟨ho2, hg2⟩
  clear ho2 hg2
  go_wp2
  go_ret2
  exact ⟨_, rfl, H2.out⟩
end Go.Proofs.Ytgafmplmngbbfaa
