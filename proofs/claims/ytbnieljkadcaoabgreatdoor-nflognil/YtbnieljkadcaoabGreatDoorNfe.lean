/-
  nflog's New, Len, addressOf, Log.Needs: the walks.
-/
import Derived.Test.YtbnieljkadcaoabGreatDoorNfd
namespace Go.Proofs.YtbnieljkadcaoabGreatDoor
open Go.RowKit Go.Shelf Go.Sort

set_option maxHeartbeats 1600000 in
theorem newL_any (w : World) : Calls Tryz.prog 5 #[] w fun e w' => e = .returned (.pointer (some ⟨w.heap.size, 0, none⟩)) ∧ LgM w' w.heap.size [] ∧ w.grownBy w' none := by
  have HF : Hid (LgM (w.alloc (.cells #[.slice none 0 0] 57)) w.heap.size [] ∧ w.grownBy (w.alloc (.cells #[.slice none 0 0] 57)) none) := ⟨⟨⟨_, Boxed.new w 57 (.slice none 0 0), OwnE.nil _ _⟩, List.Pairwise.nil, (fun x hx => by cases hx), by simp⟩, World.grownBy_alloc _ _ none⟩
  go_enter Tryz.func5, Tryz.ntmps5
  go_wp2
  go_ret
  exact ⟨rfl, HF.out⟩
set_option maxHeartbeats 1600000 in
theorem lenL_any (w : World) (gx : Nat) (l : List MkX) (h : LgM w gx l) : Calls Tryz.prog 9 #[.pointer (some ⟨gx, 0, none⟩)] w fun e w' => e = .returned (.int .i64 (l.length : Int)) ∧ w' = w := by
  obtain ⟨v, h1, h2⟩ := h.row
  obtain ⟨a, c, rfl⟩ := h2.shape
  have x0 := h1.cell
  clear h h1 h2
  go_enter Tryz.func9, Tryz.ntmps9
  go_wp2
  go_ret
  exact ⟨rfl, rfl⟩
set_option maxHeartbeats 1600000 in
theorem lenL_nil (w : World) : Calls Tryz.prog 9 #[.pointer none] w fun e w' => e = .returned (.int .i64 0) ∧ w' = w := by
  go_enter Tryz.func9, Tryz.ntmps9
  go_wp2
  go_ret
  exact ⟨rfl, rfl⟩
set_option maxRecDepth 8000 in
set_option maxHeartbeats 1600000 in
theorem addrOf_any (w : World) (m : MkR) (f s : Value) (hf : ∃ a n c, f = .slice a n c) (hs : ∃ a n c, s = .slice a n c) : Calls Tryz.prog 24 #[markV m f s] w fun e w' => e = .returned (addV (m.rcv, m.key)) ∧ w.grownBy w' none := by
  obtain ⟨fa, fn, fc, rfl⟩ := hf
  obtain ⟨sa, sn, sc, rfl⟩ := hs
  unfold markV addV
  dsimp only
  generalize ByteArray.mk ⟨m.rcv⟩ = br at *
  generalize ByteArray.mk ⟨m.key⟩ = bk at *
  generalize m.tim = tm at *
  have k1 := World.grownBy_alloc w (.cells #[.string br, .string bk, .int .i64 tm, .slice fa fn fc, .slice sa sn sc] 24) none
  have k2 := World.grownBy_alloc (w.alloc (.cells #[.string br, .string bk, .int .i64 tm, .slice fa fn fc, .slice sa sn sc] 24)) (.cells #[.string br, .string bk] 69) none
  have hn := Go.heap_alloc_new (w.alloc (.cells #[.string br, .string bk, .int .i64 tm, .slice fa fn fc, .slice sa sn sc] 24)) (.cells #[.string br, .string bk] 69)
  rw [World.size_alloc] at hn
  have HN := hidJ (And.intro hn (gb_none k1 k2))
  clear hn k1 k2
  go_enter Tryz.func24, Tryz.ntmps24
  go_wp2
  refine bodyPost_ret (results_cell_row rfl _ _ (w.heap.size + 1) _ _ _ _ rfl HN.out.1 Tryz.underlying69 rfl (by kernel_rfl)) rfl ?_
  exact ⟨rfl, HN.out.2⟩
set_option maxRecDepth 8000 in
set_option maxHeartbeats 3200000 in
theorem logNeeds_any (w : World) (gx : Nat) (l : List MkX) (rc ky : List UInt8) (u v : Value) (now rep : Int) (fi re : List (List LbT)) (h : LgM w gx l) (hu : RdLL w u fi) (hv : RdLL w v re) (hui : LLIn fi) (hvi : LLIn re) (hT : U8S w) :
    Calls Tryz.prog 12 #[.pointer (some ⟨gx, 0, none⟩), .string (ByteArray.mk ⟨rc⟩), .string (ByteArray.mk ⟨ky⟩), .int .i64 now, .int .i64 rep, u, v] w fun e w' => e = .returned (.tuple #[.bool (needsM (getM l (rc, ky)).1 (hasM l (rc, ky)) now rep fi re).1, .int .i64 (needsM (getM l (rc, ky)).1 (hasM l (rc, ky)) now rep fi re).2]) ∧ w.grownBy w' none := by
  have hc := getL_any w gx l (rc, ky) h
  have hg := h.got (rc, ky)
  obtain ⟨fa, fc, ef, -⟩ := hg.fir.shape
  obtain ⟨sa, sc, es, -⟩ := hg.res.shape
  unfold addV markX markV at hc
  rw [ef, es] at hc hg
  dsimp only at hc
  have HC := hidJ hc
  have HN : Hid (∀ W, w.grownBy W none → Calls Tryz.prog 33 #[markV (getM l (rc, ky)).1 (.slice fa (getM l (rc, ky)).1.fir.length fc) (.slice sa (getM l (rc, ky)).1.res.length sc), .bool (hasM l (rc, ky)), .int .i64 now, .int .i64 rep, u, v] W fun e w' => e = .returned (.tuple #[.bool (needsM (getM l (rc, ky)).1 (hasM l (rc, ky)) now rep fi re).1, .int .i64 (needsM (getM l (rc, ky)).1 (hasM l (rc, ky)) now rep fi re).2]) ∧ W.grownBy w' none) := fun W hW => needsN_any W _ _ _ u v _ now rep fi re (hg.keep hW) (hu.keep hW) (hv.keep hW) hui hvi (hT.keep hW)
  unfold markV at HN
  obtain ⟨ua, uc, eu, -⟩ := hu.shape
  obtain ⟨va, vc, ev, -⟩ := hv.shape
  subst eu ev
  clear hc hg h hu hv hui hvi hT ef es
  generalize (needsM (getM l (rc, ky)).1 (hasM l (rc, ky)) now rep fi re).1 = r1 at *
  generalize (needsM (getM l (rc, ky)).1 (hasM l (rc, ky)) now rep fi re).2 = r2 at *
  generalize hasM l (rc, ky) = hb at *
  generalize ByteArray.mk ⟨(getM l (rc, ky)).1.rcv⟩ = br at *
  generalize ByteArray.mk ⟨(getM l (rc, ky)).1.key⟩ = bk at *
  generalize (getM l (rc, ky)).1.tim = tm at *
  generalize (getM l (rc, ky)).1.fir.length = nf at *
  generalize (getM l (rc, ky)).1.res.length = ns at *
  generalize ByteArray.mk ⟨rc⟩ = ar at *
  generalize ByteArray.mk ⟨ky⟩ = ak at *
  go_enter Tryz.func12, Tryz.ntmps12
  go_wp2_with fail
  refine HC.out.mono ?_
  rintro e w1 ⟨rfl, H1⟩
  have H1 := hidJ H1
  clear HC
  have HX : Hid (∀ A, w.grownBy ((((((w1.alloc A).setCell ⟨w1.heap.size, 0, none⟩ (.string br)).setCell ⟨w1.heap.size, 1, none⟩ (.string bk)).setCell ⟨w1.heap.size, 2, none⟩ (.int .i64 tm)).setCell ⟨w1.heap.size, 3, none⟩ (.slice fa nf fc)).setCell ⟨w1.heap.size, 4, none⟩ (.slice sa ns sc)) none) := fun A => gb_ch (gb_none H1.out (World.grownBy_alloc w1 A none)) (set5_ch _ _ _ _ _ _ _) (fun k e => by have := H1.out.size; omega)
  go_wp2_with fail
  refine (HN.out _ ?_).mono ?_
  · first | exact HX.out _ | exact gb_none H1.out (World.grownBy_alloc _ _ none)
  rintro e w2 ⟨rfl, H2⟩
  have H2 := hidJ (gb_none (by first | exact HX.out _ | exact gb_none H1.out (World.grownBy_alloc _ _ none)) H2)
  clear HN
  go_wp2
  go_ret2
  exact ⟨rfl, H2.out⟩
end Go.Proofs.YtbnieljkadcaoabGreatDoor
