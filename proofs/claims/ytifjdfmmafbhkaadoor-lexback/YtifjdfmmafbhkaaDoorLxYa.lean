/-
  A token as it is written: lex.written's walk.
-/
import Derived.Test.YtifjdfmmafbhkaaDoorLxJn
namespace Go.Proofs.YtifjdfmmafbhkaaDoor
open Go.RowKit

/-- a token as it is written, and whether there is such a text -/
def wrtW (t : Tok) : LxS × Bool := if t.1 = 4 then ((quW t.2.1).1, decide ((quW t.2.1).2 = 0)) else (t.2.1, jusB t.1 t.2.1)
set_option maxRecDepth 8000 in
set_option maxHeartbeats 1600000 in
theorem written_any (w : World) (t : Tok) (hl : t.2.1.length ≤ 200000000) (hT : U8S w) (hU : UnT w) :
    Calls Tryd.prog 19 #[.agg #[.int .i64 t.1, .string (ByteArray.mk ⟨t.2.1⟩), .int .i64 t.2.2]] w fun e w' => e = .returned (.tuple #[.string (ByteArray.mk ⟨(wrtW t).1⟩), .bool (wrtW t).2]) ∧ w.grownBy w' none := by
  obtain ⟨K, tx, p⟩ := t
  dsimp only at hl ⊢
  have HR : Hid (wrtW (K, tx, p) = if K = 4 then ((quW tx).1, decide ((quW tx).2 = 0)) else (tx, jusB K tx)) := rfl
  generalize wrtW (K, tx, p) = R at *
  have q0 := alloc_at w (.cells #[.int .i64 K, .string (ByteArray.mk ⟨tx⟩), .int .i64 p] 28)
  obtain ⟨c0, c1, -⟩ := blk_cells q0
  have HG := hidJ (World.grownBy_alloc w (.cells #[.int .i64 K, .string (ByteArray.mk ⟨tx⟩), .int .i64 p] 28) none)
  have HT := hidJ (hT.keep HG.out)
  have HU := hidJ (hU.keep HG.out)
  clear q0 hT hU
  by_cases c : K = 4
  · subst c
    have hR := HR.out
    rw [if_pos rfl] at hR
    subst hR
    have HQ := hidJ (fun W h => quote_any W tx hl h)
    clear HR
    generalize quW tx = Q at *
    obtain ⟨qt, qe⟩ := Q
    dsimp only [quV] at *
    go_enter Tryd.func19, Tryd.ntmps19
    go_wp2_with fail
    refine (HQ.out _ HT.out).mono ?_
    rintro e w1 ⟨rfl, hg1⟩
    have H1 := hidJ (gb_none HG.out hg1)
    clear hg1 HG
    go_wp2
    go_ret2
    exact ⟨by first | rfl | (simp [beq_eq_decide]; done), H1.out⟩
  · have hR := HR.out
    rw [if_neg c] at hR
    subst hR
    have n1 : (K == 4) = false := by rw [beq_eq_false_iff_ne]; exact c
    generalize hb0 : w.heap.size = b0 at *
    have HJ : Hid (∀ W, (w.alloc (.cells #[.int .i64 K, .string (ByteArray.mk ⟨tx⟩), .int .i64 p] 28)).grownBy W none → Calls Tryd.prog 26 #[.int .i64 K, .string (ByteArray.mk ⟨tx⟩)] W fun e w' => e = .returned (.bool (jusB K tx)) ∧ Hid (w.grownBy w' none) ∧ w'.cell? ⟨b0, 0, none⟩ = some (.int .i64 K) ∧ w'.cell? ⟨b0, 1, none⟩ = some (.string (ByteArray.mk ⟨tx⟩))) := fun W hW => (isJust_any W K tx (by omega) (HT.out.keep hW) (HU.out.keep hW)).mono fun e w' ⟨h1, h2⟩ => ⟨h1, gb_none HG.out (gb_none hW h2), cell_keep (gb_none hW h2) c0, cell_keep (gb_none hW h2) c1⟩
    have HG0 := hidJ (gb_refl (w.alloc (.cells #[.int .i64 K, .string (ByteArray.mk ⟨tx⟩), .int .i64 p] 28)) none)
    clear HR HG HT HU
    generalize jusB K tx = J at *
    go_enter Tryd.func19, Tryd.ntmps19
    go_wp2_with fail
    try simp only [hb0]
    generalize w.alloc (.cells #[.int .i64 K, .string (ByteArray.mk ⟨tx⟩), .int .i64 p] 28) = W1 at *
    go_region_held3 (fun w' => w'.cell? ⟨b0, 0, none⟩ = some (.int .i64 K) ∧ w'.cell? ⟨b0, 1, none⟩ = some (.string (ByteArray.mk ⟨tx⟩))) (go_keep)
      (first | (go_at_call 26; refine (HJ.out _ ?_).mono ?_; (first | exact HG0.out | exact (gb_none HG0.out (gb_drew _ _))); rintro e w2 ⟨rfl, H2, c22⟩))
    go_wp2
    go_ret2
    exact ⟨rfl, H2.out⟩
end Go.Proofs.YtifjdfmmafbhkaaDoor
