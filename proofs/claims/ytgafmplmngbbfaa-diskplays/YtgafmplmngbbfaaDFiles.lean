/-
  A disk after some calls, and the document's: files: the walk.
-/
import Derived.Test.YtgafmplmngbbfaaDStep3
namespace Go.Proofs.Ytgafmplmngbbfaa
open Go.RowKit Go.Maps Go.WideMaps Go.Sort

def opmZ : Opm := ⟨0, [], [], [], 0, []⟩
/-- a list of calls -/
def OpsIn (w : World) (v : Value) (os : List Opm) : Prop := ∃ a c, v = .slice a os.length c ∧ os.length ≤ maxLen ∧ ∀ j, j < os.length → ∃ b o, a = some ⟨b, o, none⟩ ∧ ∃ x0 x1 x2 x3 x4 x5, OpIn w (.agg #[x0, x1, x2, x3, x4, x5]) (os.getD j opmZ) ∧
  w.cell? ⟨b, o + j * 6, none⟩ = some x0 ∧ w.cell? ⟨b, o + j * 6 + 1, none⟩ = some x1 ∧ w.cell? ⟨b, o + j * 6 + 2, none⟩ = some x2 ∧ w.cell? ⟨b, o + j * 6 + 3, none⟩ = some x3 ∧ w.cell? ⟨b, o + j * 6 + 4, none⟩ = some x4 ∧ w.cell? ⟨b, o + j * 6 + 5, none⟩ = some x5

set_option maxRecDepth 8000 in
set_option maxHeartbeats 3200000 in
theorem files_any (w : World) (v : Value) (os : List Opm) (hv : OpsIn w v os) :
    Calls Try.prog 19 #[v] w fun e w' => ∃ gd gr, e = .returned (.tuple #[.pointer (some ⟨gd, 0, none⟩), .pointer (some ⟨gr, 0, none⟩)]) ∧ Hid (∃ M N, Duo w w' gd gr M N) := by
  have HV : Hid (OpsIn w v os) := hv
  obtain ⟨a, c, rfl, hm, -⟩ := hv
  have hm2 : (os.length : Int) ≤ 9223372036854775807 := by unfold maxLen at hm; omega
  clear hm
  generalize hL : os.length = L at *
  have HL : Hid (os.length = L) := hL
  clear hL
  go_enter Try.func19, Try.ntmps19
  go_wp2_with fail
  refine (new_ok _).mono ?_
  rintro e w1 ⟨gd, rfl, hd1, hg1⟩
  have H1 : Hid (Duo w (w1.alloc (.cells #[.slice none 0 0] 28)) gd w1.heap.size (fun _ => none) 0) := Duo.new hg1 hd1
  clear hd1 hg1
  go_wp2
  go_loopw [6] (fun i wr => ∃ k : Nat, k ≤ L ∧ i = .int .i64 (k : Int) ∧ Hid (∃ M N, Duo w wr gd w1.heap.size M N)) (fun i _ => L - (intOf i).toNat)
  case atStart => exact ⟨0, by omega, rfl, _, _, H1.out⟩
  case round =>
    obtain ⟨k, hk, rfl, HK⟩ := hrel
    by_cases hkl : k < L
    · have hkl2 : (k : Int) < (L : Int) := by omega
      obtain ⟨a0, c0, hv0, -, h3⟩ := HV.out
      simp only [Value.slice.injEq] at hv0
      obtain ⟨rfl, -, -⟩ := hv0
      obtain ⟨b, o, rfl, x0, x1, x2, x3, x4, x5, ho, y0, y1, y2, y3, y4, y5⟩ := h3 k (by rw [HL.out]; exact hkl)
      obtain ⟨M, N, Sd, Sr, hD⟩ := HK.out
      have hg : w.grownBy wr none := hD.g
      have z0 := cell_keep y0 hg
      have z1 := cell_keep y1 hg
      have z2 := cell_keep y2 hg
      have z3 := cell_keep y3 hg
      have z4 := cell_keep y4 hg
      have z5 := cell_keep y5 hg
      have HS : Hid (Calls Try.prog 12 #[.pointer (some ⟨gd, 0, none⟩), .pointer (some ⟨w1.heap.size, 0, none⟩), .agg #[x0, x1, x2, x3, x4, x5]] wr fun e w' => e = .returned (.bool true) ∧ Hid (∃ M' N', Duo w w' gd w1.heap.size M' N')) := (step_any w wr gd w1.heap.size N M _ _ ho Sd Sr hD).mono (fun e w' h => ⟨h.1, _, _, h.2.duo⟩)
      clear h3 ho y0 y1 y2 y3 y4 y5 hD hg HK H1
      go_wp2_with fail
      refine HS.out.mono ?_
      rintro e w2 ⟨rfl, H2⟩
      clear z0 z1 z2 z3 z4 z5 HS
      go_wp2
      go_roundw
      case rel => exact ⟨k + 1, by omega, by go_num, H2⟩
      case measure => simp [intOf]; omega
    · have hkl2 : ¬ (k : Int) < (L : Int) := by omega
      go_wp2
      go_ret2
      exact ⟨_, _, rfl, HK⟩
end Go.Proofs.Ytgafmplmngbbfaa
